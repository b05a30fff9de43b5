/- Own text, joined of: Mt13. TermMatches, of arguments that lie in memory. -/
import Derived.Test.YthlegfegkopdkaaGreatMm37
import Derived.Test.YthlegfegkopdkaaGreatMm41

namespace Go.Proofs.YthlegfegkopdkaaGreat
open Go.RowKit Go.Shelf Go.Sort

theorem isVals_iff {ks : List Tm} : isVals ks = true ↔ ∀ t ∈ ks, isVal t = true := by
  induction ks with
  | nil => simp [isVals]
  | cons t ts ih => simp [isVals, ih]
theorem vt_of : ∀ t : Tm, OkV t → isVal t = true → t.size ≤ 1000 → vtB t = true := tm_ind fun t ih => by
  intro hO hv hs
  obtain ⟨o1, o2, o3, o4⟩ := hO.open
  rw [isVal_eq, Bool.and_eq_true, isVals_iff] at hv
  have hse := size_eq t
  have hlen := length_le_sizes t.kids
  rw [tm_eta t]
  refine vt_mk (fun e => ?_) (fun e => ⟨o2 e, o1 (.inl e)⟩) (by omega) fun k hk => ?_
  · have := hv.2
    rw [e] at this
    simp at this
  · exact ih k hk (okvs_iff.1 o4 k hk) (hv.1 k hk) (by have := sizes_mem hk; omega)
theorem vt_formed {s : Sg} {t : Tm} (h : formedB s t = true) (hv : isVal t = true) : vtB t = true :=
  vt_of t (OkV.formed h) hv (by have := formed_size h; omega)
theorem valB_check (s : Sg) (d x : DT) : valB s d x = checkV s [d, x] := by
  unfold valB formedDs checkV checkB
  simp only [List.all_cons, List.all_nil, Bool.and_true, ← isVal_allN]
  cases sigB s <;> cases formedB s d.tm <;> cases formedB s x.tm <;> cases isVal d.tm <;> cases isVal x.tm <;> rfl
theorem formed_smallm {s : Sg} {t : Tm} (h : formedB s t = true) : smallT t = true := by
  unfold formedB at h
  rw [Bool.and_eq_true] at h
  have h1 := (weigh_iff t 40 12 (by omega)).1.1 (by simpa using h.1)
  unfold smallT
  exact decide_eq_true ((weigh_iff t 50 14 (by omega)).1.2 ⟨by omega, deep_up _ _ _ (by omega) h1.2⟩)
theorem all_small {s : Sg} {M : List (Int × Tm)} (h : allFormed s M = true) (hl : M.length ≤ 20) : smallBs M = true := by
  unfold smallBs
  rw [Bool.and_eq_true, decide_eq_true_eq, List.all_eq_true]
  unfold allFormed at h
  rw [List.all_eq_true] at h
  exact ⟨by omega, fun x hx => formed_smallm (h x hx)⟩
theorem sameBs_refl : ∀ L : List (Int × Tm), sameBs L L = true
  | [] => rfl
  | x :: L => by rw [sameBs, sameB_refl, sameBs_refl L]; simp
theorem all_of_lf {s : Sg} {M : List (Int × Tm)} (h : lfB s (-1) M = true) : allFormed s M = true ∧ M.length ≤ 20 := by
  obtain ⟨h1, h2⟩ := lfB_all h (by omega) (by omega)
  exact ⟨by unfold allFormed; rw [List.all_eq_true]; exact fun x hx => (h2 x hx).2, by omega⟩

/-- What 'Match' answers, of the program and of the reference. -/
theorem match_final (s : Sg) (d x : DT) (hv : checkV s [d, x] = true) (hd : vtB d.tm = true) : ((matchA s d x).2 = 5 ∧ (matchA s d x).1 = [] ∧ (mtT [] d.tm x.tm).1 = false) ∨
    ((matchA s d x).2 = 0 ∧ (mtT [] d.tm x.tm).1 = true ∧ (mtT [] d.tm x.tm).2 = (matchA s d x).1 ∧ smallBs (matchA s d x).1 = true) := by
  obtain ⟨g1, g2⟩ := mt_md d.size d x noB [] (Nat.le_refl _) hd Has.none
  have hans := match_ans s d x hv
  unfold matchA at hans ⊢
  rw [if_pos hv] at hans ⊢
  by_cases hm : (matchD noB d x).1 = true
  · rw [if_pos hm] at hans ⊢
    rcases hans with h | ⟨-, h, -⟩
    · cases h
    · obtain ⟨a1, a2⟩ := all_of_lf h
      exact .inr ⟨rfl, by rw [g1]; exact hm, (g2 (by rw [g1]; exact hm)).listB, all_small a1 a2⟩
  · rw [if_neg hm]
    exact .inl ⟨rfl, rfl, by rw [g1]; simpa using hm⟩

set_option maxRecDepth 100000 in
set_option maxHeartbeats 16000000 in
theorem TermMatches_any (s : Sg) (d x : DT) (n₀ : Nat) (w : World) (ac : Option Addr) (lc cc : Nat) (af : Option Addr) (lf cf : Nat) (hs : IsSg n₀ w s ac lc cc af lf cf) (h1 : Lies n₀ w d) (h2 : Lies n₀ w x) (hn : n₀ ≤ w.heap.size) :
    Calls Tryz.prog 6 #[.agg #[.slice ac lc cc, .slice af lf cf], .agg #[.int .i64 d.op, .int .i64 d.n, .slice d.a d.l d.c], .agg #[.int .i64 x.op, .int .i64 x.n, .slice x.a x.l x.c]] w
      fun e w' => e = .returned (.bool true) ∧ Below w.heap.size w w' := by
  obtain ⟨wa, hwa⟩ : ∃ W, W = bs1 w ac lc cc af lf cf := ⟨_, rfl⟩
  obtain ⟨wb, hwb⟩ : ∃ W, W = bt1 wa d := ⟨_, rfl⟩
  obtain ⟨W0, hW0⟩ : ∃ W, W = bt1 wb x := ⟨_, rfl⟩
  have hza : wa.heap.size = w.heap.size + 1 := by rw [hwa]; simp
  have hzb : wb.heap.size = w.heap.size + 1 + 1 := by rw [hwb]; simp [hza]
  have hz0 : W0.heap.size = w.heap.size + 1 + 1 + 1 := by rw [hW0]; simp [hzb]
  have ba : Below w.heap.size w wa := by rw [hwa]; exact bal _ _
  have bb : Below wa.heap.size wa wb := by rw [hwb]; exact bal _ _
  have bd : Below wb.heap.size wb W0 := by rw [hW0]; exact bal _ _
  have hB0 : Below w.heap.size w W0 := Below.up ba (Below.up bb bd)
  have hcells : Hid (∀ W, Below W0.heap.size W0 W → (W.cell? ⟨w.heap.size, 0, none⟩ = some (.slice ac lc cc) ∧ W.cell? ⟨w.heap.size, 1, none⟩ = some (.slice af lf cf)) ∧ (W.cell? ⟨w.heap.size + 1, 0, none⟩ = some (.int .i64 d.op) ∧ W.cell? ⟨w.heap.size + 1, 1, none⟩ = some (.int .i64 d.n) ∧ W.cell? ⟨w.heap.size + 1, 2, none⟩ = some (.slice d.a d.l d.c)) ∧ (W.cell? ⟨w.heap.size + 1 + 1, 0, none⟩ = some (.int .i64 x.op) ∧ W.cell? ⟨w.heap.size + 1 + 1, 1, none⟩ = some (.int .i64 x.n) ∧ W.cell? ⟨w.heap.size + 1 + 1, 2, none⟩ = some (.slice x.a x.l x.c))) := Lib.hid (fun W h => by
    have e0 := box_s hwa (Nat.le_refl _) (Below.up bb (Below.up bd h))
    have e1 := box_t hwb (Nat.le_refl _) (Below.up bd h)
    have e2 := box_t hW0 (Nat.le_refl _) h
    rw [hza] at e1; rw [hzb] at e2
    exact ⟨e0, e1, e2⟩)
  have hlie : Hid (∀ W, Below W0.heap.size W0 W → n₀ ≤ W.heap.size ∧ IsSg n₀ W s ac lc cc af lf cf ∧ Lies n₀ W d ∧ Lies n₀ W x) := Lib.hid (fun W h => by
    have hb := (Below.up hB0 h).mono hn
    exact ⟨by have := h.size; omega, hs.below hb, h1.below hb, h2.below hb⟩)
  have hG : Calls Tryz.prog 11 #[.agg #[.slice ac lc cc, .slice af lf cf], .slice (some ⟨W0.heap.size, 0, none⟩) 2 2] (W0.alloc (.cells #[.int .i64 d.op, .int .i64 d.n, .slice d.a d.l d.c, .int .i64 x.op, .int .i64 x.n, .slice x.a x.l x.c] 28))
      fun e w' => e = .returned (.bool (smallDs [d, x] && smallB s)) ∧ Below W0.heap.size W0 w' := by
    obtain ⟨q0, q1, q2, q3⟩ := hlie.out W0 (Below.refl _ _)
    exact small2g s d x n₀ W0 ac lc cc af lf cf q1 q2 q3 q0
  have hb0 : Hid (∀ W, Below (w.heap.size + 1 + 1 + 1) (bt1 (bt1 (bs1 w ac lc cc af lf cf) d) x) W → Below W0.heap.size W0 W) := Lib.hid (fun W h => by rw [hz0, hW0, hwb, hwa]; exact h)
  rw [hz0, hW0, hwb, hwa] at hG
  have hKn := fun W => known_any W
  replace hKn := Lib.hid hKn
  -- what the calls answer
  have h40 : Hid (∀ W, Below W0.heap.size W0 W → Calls Tryz.prog 40 #[.agg #[.slice ac lc cc, .slice af lf cf], .agg #[.int .i64 d.op, .int .i64 d.n, .slice d.a d.l d.c], .agg #[.int .i64 x.op, .int .i64 x.n, .slice x.a x.l x.c]] W fun e w' => e = .returned (.bool (checkV s [d, x])) ∧ Below W.heap.size W w') := Lib.hid (fun W hW => by
    obtain ⟨q0, q1, q2, q3⟩ := hlie.out W hW
    rw [← valB_check]
    exact values_any s d x n₀ W ac lc cc af lf cf q1 q2 q3 q0)
  have hans : Hid (smallDs [d, x] = true → ∃ M2 E2, (∀ W, Below W0.heap.size W0 W → Calls Tryz.prog 38 #[.agg #[.slice ac lc cc, .slice af lf cf], dv d, dv x] W (MgEnd W M2 E2)) ∧
      (∀ W, Below W0.heap.size W0 W → Calls Tryz.prog 37 #[.agg #[.slice ac lc cc, .slice af lf cf], dv d, dv x] W fun e w' => ∃ va vl vc, e = .returned (.tuple #[.slice va vl vc, .int .i64 (matchA s d x).2]) ∧ IsBinds w'.heap.size w' (matchA s d x).1 va vl vc ∧ Below W.heap.size W w') ∧
      (∀ W, Below W0.heap.size W0 W → Calls Tryz.prog 39 #[.agg #[.slice ac lc cc, .slice af lf cf], dv d, dv x] W fun e w' => e = .returned (.tuple #[.int .i64 (cmpV s d x), .int .i64 (errOf (checkV s [d, x]))]) ∧ Below W.heap.size W w') ∧
      (checkV s [d, x] = false → M2 = [] ∧ E2 = 2) ∧
      (checkV s [d, x] = true → ((E2 = 5 ∧ M2 = [] ∧ ∀ σ : Int → Tm, sb σ d.tm ≠ sb σ x.tm) ∨ ((∃ σ : Int → Tm, sb σ d.tm = sb σ x.tm) ∧ ∀ L, Sol L → (∀ θ, Sat θ L ↔ sb θ d.tm = sb θ x.tm) → (E2 = 3 ∧ M2 = [] ∧ allFormed s L = false) ∨ (E2 = 0 ∧ L = M2 ∧ allFormed s L = true))))) := Lib.hid (fun hsm => by
    have hsm' : smallT d.tm = true ∧ smallT x.tm = true := by
      unfold smallDs at hsm
      simpa using hsm
    have z1 := small_size hsm'.1
    have z2 := small_size hsm'.2
    have hUall : ∃ M2 E2, (checkV s [d, x] = true → UniAll d x M2 E2) ∧ (checkV s [d, x] = false → M2 = [] ∧ E2 = 2) ∧
        (checkV s [d, x] = true → ((E2 = 5 ∧ M2 = [] ∧ ∀ σ : Int → Tm, sb σ d.tm ≠ sb σ x.tm) ∨ ((∃ σ : Int → Tm, sb σ d.tm = sb σ x.tm) ∧ ∀ L, Sol L → (∀ θ, Sat θ L ↔ sb θ d.tm = sb θ x.tm) → (E2 = 3 ∧ M2 = [] ∧ allFormed s L = false) ∨ (E2 = 0 ∧ L = M2 ∧ allFormed s L = true)))) := by
      cases hv : checkV s [d, x]
      · exact ⟨[], 2, fun h => (by cases h), fun _ => ⟨rfl, rfl⟩, fun h => (by cases h)⟩
      · rw [← valB_check] at hv
        unfold valB formedDs at hv
        simp only [List.all_cons, List.all_nil, Bool.and_true, Bool.and_eq_true] at hv
        obtain ⟨⟨⟨v0, v1⟩, v2⟩, v3⟩ := hv
        have n1 := v1.1
        have n2 := v1.2
        rw [formedB_eq, Bool.and_eq_true] at n1 n2
        obtain ⟨M, err, hU, hF⟩ := uni_final s d x ⟨n1.2, v2⟩ ⟨n2.2, v3⟩
        exact ⟨M, err, fun _ => hU, fun h => (by cases h), fun _ => hF⟩
    obtain ⟨M2, E2, hU, hno, hyes⟩ := hUall
    refine ⟨M2, E2, fun W hW => ?_, fun W hW => ?_, fun W hW => ?_, hno, hyes⟩
    · obtain ⟨q0, q1, q2, q3⟩ := hlie.out W hW
      exact Unify_all s d x n₀ W ac lc cc af lf cf M2 E2 z1 z2 q0 q1 q2 q3 hU hno
    · obtain ⟨q0, q1, q2, q3⟩ := hlie.out W hW
      exact Match_any s d x n₀ W ac lc cc af lf cf z1 z2 q0 q1 q2 q3
    · obtain ⟨q0, q1, q2, q3⟩ := hlie.out W hW
      exact Compare_any s d x n₀ W ac lc cc af lf cf z1 z2 q0 q1 q2 q3)
  have href : Hid (checkV s [d, x] = true → (∀ W, Below W0.heap.size W0 W → Calls Tryz.prog 41 #[dv d, dv x] W fun e w' => e = .returned (.int .i64 (cmpT d.tm x.tm)) ∧ Below W.heap.size W w') ∧
      (∀ W, Below W0.heap.size W0 W → Calls Tryz.prog 42 #[dv d, dv x] W (MatEnd [] d.tm x.tm W)) ∧ (∀ W, Below W0.heap.size W0 W → Calls Tryz.prog 44 #[dv d, dv x] W (RUni d.tm x.tm W)) ∧ cmpV s d x = cmpT d.tm x.tm ∧
      (((matchA s d x).2 = 5 ∧ (matchA s d x).1 = [] ∧ (mtT [] d.tm x.tm).1 = false) ∨ ((matchA s d x).2 = 0 ∧ (mtT [] d.tm x.tm).1 = true ∧ (mtT [] d.tm x.tm).2 = (matchA s d x).1 ∧ smallBs (matchA s d x).1 = true))) := Lib.hid (fun hv => by
    have hv0 := hv
    rw [← valB_check] at hv
    unfold valB formedDs at hv
    simp only [List.all_cons, List.all_nil, Bool.and_true, Bool.and_eq_true] at hv
    obtain ⟨⟨⟨v0, v1⟩, v2⟩, v3⟩ := hv
    have t1 := vt_formed v1.1 v2
    have t2 := vt_formed v1.2 v3
    have z1 := formed_size v1.1
    have z2 := formed_size v1.2
    refine ⟨fun W hW => ?_, fun W hW => ?_, fun W hW => ?_, by unfold cmpV; rw [if_pos hv0], match_final s d x hv0 t1⟩
    · obtain ⟨q0, q1, q2, q3⟩ := hlie.out W hW
      have := rCompare_any d.tm.size d.tm x.tm n₀ W d.a d.l d.c x.a x.l x.c (Nat.le_refl _) (by omega) (by omega) (Lies.isTm _ q2) (Lies.isTm _ q3) q0
      simp only [DT.tm_op, DT.tm_n] at this
      exact this
    · obtain ⟨q0, q1, q2, q3⟩ := hlie.out W hW
      have := rmatch_any d.tm x.tm n₀ W d.a d.l d.c x.a x.l x.c t1 (Lies.isTm _ q2) (Lies.isTm _ q3) q0
      simp only [DT.tm_op, DT.tm_n] at this
      exact this
    · obtain ⟨q0, q1, q2, q3⟩ := hlie.out W hW
      have := runify_any d.tm x.tm n₀ W d.a d.l d.c x.a x.l x.c t1 t2 (Lies.isTm _ q2) (Lies.isTm _ q3) q0
      simp only [DT.tm_op, DT.tm_n] at this
      exact this)
  have h45 : Hid (∀ W L a l c, Below W0.heap.size W0 W → IsBinds W.heap.size W L a l c → L.length ≤ 1000 → Calls Tryz.prog 45 #[.agg #[.slice ac lc cc, .slice af lf cf], .slice a l c] W fun e w' => e = .returned (.bool (allFormed s L)) ∧ Below W.heap.size W w') := Lib.hid (fun W L a l c hW hI hl => by
    obtain ⟨q0, q1, q2, q3⟩ := hlie.out W hW
    exact lformed_any s L W.heap.size W ac lc cc af lf cf a l c (q1.wider q0) hI hl (Nat.le_refl _))
  have hsplit : Hid ((smallDs [d, x] && smallB s) = true → smallDs [d, x] = true) := Lib.hid (fun h => by rw [Bool.and_eq_true] at h; exact h.1)
  obtain ⟨g, hg⟩ : ∃ g, g = (smallDs [d, x] && smallB s) := ⟨_, rfl⟩
  rw [← hg] at hG hsplit
  replace hG := Lib.hid hG
  replace hB0 := Lib.hid hB0
  replace hz0 := Lib.hid hz0
  clear hs h1 h2 ba bb bd hW0 hza hzb hwa hwb hg hlie
  go_enter Tryz.func6, Tryz.ntmps6
  go_upto_region 99 with fail
  refine (hG.out).mono ?_
  rintro e w1 ⟨rfl, hbe⟩
  replace hbe := Lib.hid (hb0.out _ hbe)
  clear hG
  cases g
  · go_wp2_with (go_at_call 12; refine (hKn.out _).mono ?_; rintro e w2 ⟨rfl, hbe2⟩)
    go_ret
    exact ⟨rfl, Below.up hB0.out (Below.up hbe.out hbe2)⟩
  clear hb0
  obtain ⟨M2, E2, h38, h37, h39, hno, hyes⟩ := hans.out (hsplit.out (by first | rfl | trivial))
  obtain ⟨M1, hM1⟩ : ∃ M, M = (matchA s d x).1 := ⟨_, rfl⟩
  obtain ⟨E1, hE1⟩ : ∃ E, E = (matchA s d x).2 := ⟨_, rfl⟩
  have hmno : Hid (checkV s [d, x] = false → M1 = [] ∧ E1 = 2) := Lib.hid (fun h => by rw [hM1, hE1]; unfold matchA; rw [if_neg (by rw [h]; simp)]; exact ⟨rfl, rfl⟩)
  rw [← hM1, ← hE1] at h37 href
  obtain ⟨cv, hcv⟩ : ∃ c, c = cmpV s d x := ⟨_, rfl⟩
  have hcno : Hid (checkV s [d, x] = false → cv = 0) := Lib.hid (fun h => by rw [hcv]; unfold cmpV; rw [if_neg (by rw [h]; simp)])
  rw [← hcv] at h39 href
  clear hM1 hE1 hcv hans hsplit
  replace h37 := Lib.hid h37
  replace h38 := Lib.hid h38
  replace h39 := Lib.hid h39
  replace hno := Lib.hid hno
  replace hyes := Lib.hid hyes
  obtain ⟨v40, hv40⟩ : ∃ T, T = checkV s [d, x] := ⟨_, rfl⟩
  rw [← hv40] at h40 href h39 hno hyes hmno hcno
  clear hv40
  obtain ⟨⟨s0, s1⟩, ⟨p0, p1, p2⟩, ⟨x0, x1, x2⟩⟩ := hcells.out _ hbe.out
  have hC := Lib.hid (h37.out _ hbe.out)
  go_upto_region 99 with fail
  refine (hC.out).mono ?_
  rintro e w2 ⟨va1, vl1, vc1, rfl, hI1, hb2⟩
  clear hC s0 s1 p0 p1 p2 x0 x1 x2
  have hq2 : Hid (Below W0.heap.size W0 w2) := Lib.hid (Below.up hbe.out hb2)
  replace hI1 := Lib.hid hI1
  clear hb2
  obtain ⟨⟨s0, s1⟩, ⟨p0, p1, p2⟩, ⟨x0, x1, x2⟩⟩ := hcells.out _ hq2.out
  have hC := h38.out _ hq2.out
  unfold MgEnd at hC
  replace hC := Lib.hid hC
  go_upto_region 99 with fail
  refine (hC.out).mono ?_
  rintro e w3 ⟨va2, vl2, vc2, rfl, hI2, hb3⟩
  clear hC s0 s1 p0 p1 p2 x0 x1 x2
  have hq3 : Hid (Below W0.heap.size W0 w3) := Lib.hid (Below.up hq2.out hb3)
  replace hI1 := Lib.hid (binds_up hI1.out hb3)
  replace hI2 := Lib.hid hI2
  clear hb3
  obtain ⟨⟨s0, s1⟩, ⟨p0, p1, p2⟩, ⟨x0, x1, x2⟩⟩ := hcells.out _ hq3.out
  have hC := Lib.hid (h39.out _ hq3.out)
  go_upto_region 99 with fail
  refine (hC.out).mono ?_
  rintro e w4 ⟨rfl, hb4⟩
  clear hC s0 s1 p0 p1 p2 x0 x1 x2
  have hq4 : Hid (Below W0.heap.size W0 w4) := Lib.hid (Below.up hq3.out hb4)
  replace hI1 := Lib.hid (binds_up hI1.out hb4)
  replace hI2 := Lib.hid (binds_up hI2.out hb4)
  clear hb4
  obtain ⟨⟨s0, s1⟩, ⟨p0, p1, p2⟩, ⟨x0, x1, x2⟩⟩ := hcells.out _ hq4.out
  have hC := Lib.hid (h40.out _ hq4.out)
  go_upto_region 99 with fail
  refine (hC.out).mono ?_
  rintro e w5 ⟨rfl, hb5⟩
  clear hC s0 s1 p0 p1 p2 x0 x1 x2
  have hq5 : Hid (Below W0.heap.size W0 w5) := Lib.hid (Below.up hq4.out hb5)
  replace hI1 := Lib.hid (binds_up hI1.out hb5)
  replace hI2 := Lib.hid (binds_up hI2.out hb5)
  clear hb5 h37 h38 h39 h40
  have hl1 : vl1 = M1.length := hI1.out.1
  have hl2 : vl2 = M2.length := hI2.out.1
  cases v40
  · -- not both are values
    obtain ⟨e1, e2⟩ := hmno.out (by first | rfl | trivial)
    obtain ⟨e3, e4⟩ := hno.out (by first | rfl | trivial)
    have e5 := hcno.out (by first | rfl | trivial)
    subst e1 e2 e3 e4 e5
    simp only [List.length_nil] at hl1 hl2
    subst hl1 hl2
    simp only [errOf, Bool.false_eq_true, if_false]
    clear hyes href hmno hno hcno
    go_wp2_with (go_at_call 12; refine (hKn.out _).mono ?_; rintro e wl ⟨rfl, hbe3⟩)
    go_ret
    exact ⟨rfl, Below.up hB0.out (Below.up hq5.out hbe3)⟩
  obtain ⟨h41, h42, h44, hceq, hmt⟩ := href.out (by first | rfl | trivial)
  have hyes' := hyes.out (by first | rfl | trivial)
  subst hceq
  simp only [errOf, if_true]
  replace h41 := Lib.hid h41
  replace h42 := Lib.hid h42
  replace h44 := Lib.hid h44
  replace hmt := Lib.hid hmt
  replace hyes' := Lib.hid hyes'
  replace hl1 := Lib.hid hl1
  replace hl2 := Lib.hid hl2
  clear hyes href hmno hno hcno
  obtain ⟨⟨s0, s1⟩, ⟨p0, p1, p2⟩, ⟨x0, x1, x2⟩⟩ := hcells.out _ hq5.out
  have hC := Lib.hid (h41.out _ hq5.out)
  go_upto_region 99 with fail
  refine (hC.out).mono ?_
  rintro e w6 ⟨rfl, hb6⟩
  clear hC s0 s1 p0 p1 p2 x0 x1 x2
  have hq6 : Hid (Below W0.heap.size W0 w6) := Lib.hid (Below.up hq5.out hb6)
  replace hI1 := Lib.hid (binds_up hI1.out hb6)
  replace hI2 := Lib.hid (binds_up hI2.out hb6)
  clear hb6 h41
  obtain ⟨cq, hcq⟩ : ∃ c, c = cmpT d.tm x.tm := ⟨_, rfl⟩
  rw [← hcq]
  have o1 : (cq != cq) = false := by simp
  clear hcq
  obtain ⟨⟨s0, s1⟩, ⟨p0, p1, p2⟩, ⟨x0, x1, x2⟩⟩ := hcells.out _ hq6.out
  have hC := h42.out _ hq6.out
  unfold MatEnd at hC
  obtain ⟨Lr, hLr⟩ : ∃ L, L = (mtT [] d.tm x.tm).2 := ⟨_, rfl⟩
  obtain ⟨ir, hir⟩ : ∃ i, i = (mtT [] d.tm x.tm).1 := ⟨_, rfl⟩
  rw [← hLr, ← hir] at hC hmt
  replace hC := Lib.hid hC
  clear hLr hir
  go_upto_region 99 with fail
  refine (hC.out).mono ?_
  rintro e w7 ⟨va3, vl3, vc3, rfl, hb7, hI3⟩
  clear hC s0 s1 p0 p1 p2 x0 x1 x2
  have hq7 : Hid (Below W0.heap.size W0 w7) := Lib.hid (Below.up hq6.out hb7)
  replace hI1 := Lib.hid (binds_up hI1.out hb7)
  replace hI2 := Lib.hid (binds_up hI2.out hb7)
  replace hI3 := Lib.hid hI3
  clear hb7 h42
  -- the program's match against the reference's
  go_upto_region 11 with fail
  go_cut [120] from 92 to 119 (fun p W => p = .bool false ∧ Below W0.heap.size W0 W ∧ IsBinds W.heap.size W M2 va2 vl2 vc2)
  case first =>
    rcases hmt.out with ⟨e1, e2, e3⟩ | ⟨e1, e2, e3, e4⟩
    · subst e1 e2 e3
      have hl1' := hl1.out
      simp only [List.length_nil] at hl1'
      subst hl1'
      go_wp2_with fail
      go_meet
      case rel => exact ⟨rfl, hq7.out, hI2.out⟩
    · subst e1 e2 e3
      have hIr := hI3.out rfl
      have hC := Lib.hid (SmallBinds_any Lr w7.heap.size w7 va1 vl1 vc1 hI1.out (Nat.le_refl _))
      rw [e4] at hC
      have hC2 : Hid (∀ W, Below w7.heap.size w7 W → Calls Tryz.prog 43 #[.slice va1 vl1 vc1, .slice va3 vl3 vc3] W fun e w' => e = .returned (.bool true) ∧ Below W.heap.size W w') := Lib.hid (fun W hW => by
        have := SameBinds_any Lr Lr W.heap.size W va1 vl1 vc1 va3 vl3 vc3 (binds_up hI1.out hW) (binds_up hIr hW) (Nat.le_refl _)
        rw [sameBs_refl] at this
        exact this)
      clear e4 hIr hI3
      go_upto_region 99 with fail
      refine (hC.out).mono ?_
      rintro e w8 ⟨rfl, hb8⟩
      have hq8 : Hid (Below w7.heap.size w7 w8) := Lib.hid hb8
      clear hC hb8
      go_upto_region 99 with fail
      refine (hC2.out w8 hq8.out).mono ?_
      rintro e w9 ⟨rfl, hb9⟩
      have hq9 : Hid (Below w7.heap.size w7 w9) := Lib.hid (Below.up hq8.out hb9)
      clear hC2 hb9
      go_wp2_with fail
      go_meet
      case rel => exact ⟨rfl, Below.up hq7.out hq9.out, binds_up hI2.out hq9.out⟩
  case rest =>
    obtain ⟨rfl, hbc, hIc⟩ := hcut
    obtain ⟨wy, rfl⟩ : ∃ wy : World, wy = wc := ⟨_, rfl⟩
    have hqy : Hid (Below W0.heap.size W0 wy) := Lib.hid hbc
    replace hI2 := Lib.hid hIc
    clear hbc hIc hI3 hI1 hmt
    try clear hl1
    obtain ⟨⟨s0, s1⟩, ⟨p0, p1, p2⟩, ⟨x0, x1, x2⟩⟩ := hcells.out _ hqy.out
    have hC := h44.out _ hqy.out
    unfold RUni at hC
    replace hC := Lib.hid hC
    go_upto_region 99 with fail
    refine (hC.out).mono ?_
    rintro e w8 ⟨va4, vl4, vc4, is, rfl, hb8, g1, g2⟩
    clear hC s0 s1 p0 p1 p2 x0 x1 x2
    have hq8 : Hid (Below W0.heap.size W0 w8) := Lib.hid (Below.up hqy.out hb8)
    replace hI2 := Lib.hid (binds_up hI2.out hb8)
    clear hb8 h44
    cases is
    · -- there is none
      have hnone := g2 rfl
      rcases hyes'.out with ⟨e1, e2, -⟩ | ⟨⟨σ, hσ⟩, -⟩
      rotate_left
      · exact absurd hσ (hnone σ)
      subst e1 e2
      have hl2' := hl2.out
      simp only [List.length_nil] at hl2'
      subst hl2'
      clear g1 g2 hnone
      go_wp2_with (go_at_call 12; refine (hKn.out _).mono ?_; rintro e wl ⟨rfl, hbe3⟩)
      go_ret
      exact ⟨rfl, Below.up hB0.out (Below.up hq8.out hbe3)⟩
    obtain ⟨Lu, hIu, hSu, hSat⟩ := g1 rfl
    have hfin : (E2 = 3 ∧ M2 = [] ∧ allFormed s Lu = false) ∨ (E2 = 0 ∧ Lu = M2 ∧ allFormed s Lu = true) := by
      rcases hyes'.out with ⟨-, -, hno'⟩ | ⟨-, hall⟩
      · exact absurd ((hSat _).1 hSu.self) (hno' _)
      · exact hall Lu hSu hSat
    have hul : vl4 = Lu.length := hIu.1
    have hlenu := hSu.len
    clear g1 g2 hyes'
    obtain ⟨⟨s0, s1⟩, ⟨p0, p1, p2⟩, ⟨x0, x1, x2⟩⟩ := hcells.out _ hq8.out
    have hC := Lib.hid (h45.out w8 Lu va4 vl4 vc4 hq8.out hIu (by omega))
    have hlu := Lib.hid hlenu
    clear hSu hSat hlenu
    rcases hfin with ⟨e1, e2, e3⟩ | ⟨e1, e2, e3⟩
    · subst e1 e2
      rw [e3] at hC
      have hl2' := hl2.out
      simp only [List.length_nil] at hl2'
      subst hl2'
      clear e3 hIu
      replace hul := Lib.hid hul
      go_upto_region 99 with fail
      refine (hC.out).mono ?_
      rintro e w9 ⟨rfl, hb9⟩
      have hq9 : Hid (Below W0.heap.size W0 w9) := Lib.hid (Below.up hq8.out hb9)
      clear hC hb9 s0 s1 p0 p1 p2 x0 x1 x2
      go_wp2_with (go_at_call 12; refine (hKn.out _).mono ?_; rintro e wl ⟨rfl, hbe3⟩)
      go_ret
      exact ⟨rfl, Below.up hB0.out (Below.up hq9.out hbe3)⟩
    · subst e1 e2
      have hsmall := Lib.hid (all_small e3 hlu.out)
      rw [e3] at hC
      replace hIu := Lib.hid hIu
      clear e3
      replace hul := Lib.hid hul
      go_upto_region 99 with fail
      refine (hC.out).mono ?_
      rintro e w9 ⟨rfl, hb9⟩
      have hq9 : Hid (Below W0.heap.size W0 w9) := Lib.hid (Below.up hq8.out hb9)
      replace hI2 := Lib.hid (binds_up hI2.out hb9)
      replace hIu := Lib.hid (binds_up hIu.out hb9)
      clear hC hb9 s0 s1 p0 p1 p2 x0 x1 x2
      have hC := SmallBinds_any Lu w9.heap.size w9 va2 vl2 vc2 hI2.out (Nat.le_refl _)
      rw [hsmall.out] at hC
      replace hC := Lib.hid hC
      have hC2 : Hid (∀ W, Below w9.heap.size w9 W → Calls Tryz.prog 43 #[.slice va2 vl2 vc2, .slice va4 vl4 vc4] W fun e w' => e = .returned (.bool true) ∧ Below W.heap.size W w') := Lib.hid (fun W hW => by
        have := SameBinds_any Lu Lu W.heap.size W va2 vl2 vc2 va4 vl4 vc4 (binds_up hI2.out hW) (binds_up hIu.out hW) (Nat.le_refl _)
        rw [sameBs_refl] at this
        exact this)
      go_upto_region 99 with fail
      refine (hC.out).mono ?_
      rintro e wA ⟨rfl, hbA⟩
      have hqA : Hid (Below w9.heap.size w9 wA) := Lib.hid hbA
      clear hC hbA
      go_upto_region 99 with fail
      refine (hC2.out wA hqA.out).mono ?_
      rintro e wB ⟨rfl, hbB⟩
      have hqB : Hid (Below W0.heap.size W0 wB) := Lib.hid (Below.up hq9.out (Below.up hqA.out hbB))
      clear hC2 hbB
      go_wp2_with (go_at_call 12; refine (hKn.out _).mono ?_; rintro e wl ⟨rfl, hbe3⟩)
      go_ret
      exact ⟨rfl, Below.up hB0.out (Below.up hqB.out hbe3)⟩

end Go.Proofs.YthlegfegkopdkaaGreat
