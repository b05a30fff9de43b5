/- Own text, joined of: Mt11 Mt12. The reference's 'Match' and 'Compare'; the law's 'formed'. · What the program answers and what the reference answers of a match and of a unifier are the same. -/
import Derived.Test.YthlegfegkopdkaaGreatMm28
import Derived.Test.YthlegfegkopdkaaGreatMm40

namespace Go.Proofs.YthlegfegkopdkaaGreat
open Go.RowKit Go.Shelf Go.Sort

set_option maxRecDepth 100000 in
set_option maxHeartbeats 1000000 in
theorem rmatch_any (a b : Tm) (n₀ : Nat) (w : World) (aa : Option Addr) (la ca : Nat) (ab : Option Addr) (lb cb : Nat) (h1 : vtB a = true) (h3 : IsTm n₀ w a aa la ca) (h4 : IsTm n₀ w b ab lb cb) (hn : n₀ ≤ w.heap.size) :
    Calls Tryz.prog 42 #[.agg #[.int .i64 a.op, .int .i64 a.n, .slice aa la ca], .agg #[.int .i64 b.op, .int .i64 b.n, .slice ab lb cb]] w (MatEnd [] a b w) := by
  obtain ⟨w0, hw0⟩ : ∃ W, W = (w.alloc (.cells #[.int .i64 a.op, .int .i64 a.n, .slice aa la ca] 28)).alloc (.cells #[.int .i64 b.op, .int .i64 b.n, .slice ab lb cb] 28) := ⟨_, rfl⟩
  have hB0 : Below w.heap.size w w0 := by rw [hw0]; go_grown
  have hC := rmatched_any a.size a b [] n₀ w0 aa la ca ab lb cb none 0 0 (Nat.le_refl _) h1 Inc.nil (IsTm.below (hB0.mono hn) _ h3) (IsTm.below (hB0.mono hn) _ h4) ⟨rfl, by omega, by omega, .inl rfl⟩ (by have := hB0.size; omega)
  rw [hw0] at hC
  replace hC := Lib.hid hC
  replace hB0 := Lib.hid hB0
  have hw0' := Lib.hid hw0
  clear hw0 h1 h3 h4
  go_enter Tryz.func42, Tryz.ntmps42
  go_upto_region 99 with fail
  refine (hC.out).mono ?_
  rintro e w' ⟨va, vl, vc, rfl, hb, g1⟩
  rw [← hw0'.out] at hb
  have hbw := Lib.hid (Below.up hB0.out hb)
  obtain ⟨is, his⟩ : ∃ is, is = (mtT [] a b).1 := ⟨_, rfl⟩
  have hend : Hid (∃ va' vl' vc', (Ending.returned (.tuple #[.slice va vl vc, .bool is]) = .returned (.tuple #[.slice va' vl' vc', .bool (mtT [] a b).1])) ∧ Below w.heap.size w w' ∧ ((mtT [] a b).1 = true → IsBinds w'.heap.size w' (mtT [] a b).2 va' vl' vc')) := Lib.hid ⟨va, vl, vc, by rw [his], hbw.out, g1⟩
  rw [← his]
  clear g1 hb hC his
  go_wp2_with fail
  exact bodyPost_ret (v := .tuple #[.slice va vl vc, .bool is]) (by simp [results, Tryz.f42, go_sem]) rfl hend.out

/-- All Terms of a list are formed. -/
def allFormed (s : Sg) (L : List (Int × Tm)) : Bool := L.all fun x => formedB s x.2

set_option maxRecDepth 100000 in
set_option maxHeartbeats 1000000 in
theorem lformed_any (s : Sg) (L : List (Int × Tm)) (n₀ : Nat) (w : World) (ac : Option Addr) (lc cc : Nat) (af : Option Addr) (lf cf : Nat) (al : Option Addr) (ll cl : Nat) (hs : IsSg n₀ w s ac lc cc af lf cf) (hL : IsBinds n₀ w L al ll cl) (hlen : L.length ≤ 1000) (hn : n₀ ≤ w.heap.size) :
    Calls Tryz.prog 45 #[.agg #[.slice ac lc cc, .slice af lf cf], .slice al ll cl] w fun e w' => e = .returned (.bool (allFormed s L)) ∧ Below w.heap.size w w' := by
  have hll : ll = L.length := hL.1
  subst hll
  obtain ⟨w0, hw0⟩ : ∃ W, W = w.alloc (.cells #[.slice ac lc cc, .slice af lf cf] 24) := ⟨_, rfl⟩
  have hB0 : Below w.heap.size w w0 := by rw [hw0]; exact bal _ _
  have hz0 : w0.heap.size = w.heap.size + 1 := by rw [hw0]; simp
  have hc0 : w0.cell? ⟨w.heap.size, 0, none⟩ = some (.slice ac lc cc) ∧ w0.cell? ⟨w.heap.size, 1, none⟩ = some (.slice af lf cf) := by rw [hw0]; exact ⟨by go_cell, by go_cell⟩
  have hbx : Hid (∀ W, Below w0.heap.size w0 W → W.cell? ⟨w.heap.size, 0, none⟩ = some (.slice ac lc cc) ∧ W.cell? ⟨w.heap.size, 1, none⟩ = some (.slice af lf cf)) := Lib.hid (fun W hW => ⟨(hW.cell (p := ⟨w.heap.size, 0, none⟩) (by simp; omega)).trans hc0.1, (hW.cell (p := ⟨w.heap.size, 1, none⟩) (by simp; omega)).trans hc0.2⟩)
  have hAt : Hid (∀ k (hk : k < L.length), ∃ b off a' l' c', al = some ⟨b, off, none⟩ ∧ ∀ W, Below w0.heap.size w0 W → Cells3 W b (off + k * 4 + 1) L[k].2.op L[k].2.n a' l' c' ∧
      Calls Tryz.prog 30 #[.agg #[.slice ac lc cc, .slice af lf cf], .agg #[.int .i64 L[k].2.op, .int .i64 L[k].2.n, .slice a' l' c']] W fun e w' => e = .returned (.bool (formedB s L[k].2)) ∧ Below W.heap.size W w') := Lib.hid (fun k hk => by
    obtain ⟨-, -, -, h3⟩ := hL
    rcases h3 with h3 | ⟨b, off, ha, hb, h3⟩
    · rw [h3] at hk; simp at hk
    · obtain ⟨-, a', l', c', g1, g2⟩ := h3 k hk
      refine ⟨b, off, a', l', c', ha, fun W hW => ?_⟩
      have hbw : Below n₀ w W := (hB0.mono hn).trans (hW.mono (by omega))
      exact ⟨g1.below hbw hb, Term_any s L[k].2 n₀ W ac lc cc af lf cf a' l' c' (hs.below hbw) (IsTm.below hbw _ g2) (by have := hW.size; omega)⟩)
  have hst : Hid (Below w0.heap.size w0 w0) := Lib.hid (Below.refl _ _)
  clear hs hL hc0 hz0
  go_enter Tryz.func45, Tryz.ntmps45
  go_upto_region 2 with fail
  rw [← hw0]
  replace hw0 := Lib.hid hw0
  replace hB0 := Lib.hid hB0
  go_loopw [5] (fun i W => ∃ k : Nat, k ≤ L.length ∧ i = .int .i64 (k : Nat) ∧ Hid (allFormed s L = allFormed s (L.drop k)) ∧ Hid (Below w0.heap.size w0 W)) (fun i _ => L.length - (intOf i).toNat)
  case atStart => exact ⟨0, by omega, rfl, Lib.hid rfl, hst⟩
  case round =>
    obtain ⟨k, hk, rfl, hv, hb⟩ := hrel
    by_cases hlt : k < L.length
    · have o1 : (k : Int) < (L.length : Int) := by omega
      obtain ⟨b, off, a', l', c', rfl, hW⟩ := hAt.out k hlt
      have hv2 : allFormed s L = (formedB s L[k].2 && allFormed s (L.drop (k + 1))) := by
        rw [hv.out, List.drop_eq_getElem_cons hlt]; rfl
      obtain ⟨T, hT⟩ : ∃ T, T = L[k].2 := ⟨_, rfl⟩
      rw [← hT] at hW hv2
      obtain ⟨fb, hfb⟩ : ∃ fb, fb = formedB s T := ⟨_, rfl⟩
      rw [← hfb] at hW hv2
      replace hv2 := Lib.hid hv2
      replace hW := Lib.hid hW
      clear hT hfb hv
      go_upto_region 4 with fail
      refine region_named (S := fun W' => Below w0.heap.size w0 W') (by kernel_rfl) (fun x hx => ?_)
      have hqx : Hid (Below w0.heap.size w0 x) := Lib.hid (by rw [hx]; exact Below.up hb.out ((Below.refl _ _).drew))
      clear hx
      refine takeH 0 12 (.agg #[.slice ac lc cc, .slice af lf cf]) rfl rfl (by kernel_rfl) (by kernel_rfl) (by kernel_rfl) (fun _ _ _ h => h) (by rfl) (by intro W hSw; obtain ⟨j0, j1⟩ := hbx.out W hSw; clear hSw; go_simp) hqx.out ?_
      try simp only [List.setIfInBounds_toArray, List.set_cons_zero, List.set_cons_succ]
      refine takeH 1 13 (.slice (some ⟨b, off, none⟩) L.length cl) rfl rfl (by kernel_rfl) (by kernel_rfl) (by kernel_rfl) (fun _ _ _ h => h) (by rfl) (by intro W hSw; clear hSw; go_simp) hqx.out ?_
      try simp only [List.setIfInBounds_toArray, List.set_cons_zero, List.set_cons_succ]
      refine takeH 2 14 (.int .i64 (k : Nat)) rfl rfl (by kernel_rfl) (by kernel_rfl) (by kernel_rfl) (fun _ _ _ h => h) (by rfl) (by intro W hSw; clear hSw; go_simp) hqx.out ?_
      try simp only [List.setIfInBounds_toArray, List.set_cons_zero, List.set_cons_succ]
      refine takeH 3 15 (.pointer (some ⟨b, off + k * 4, none⟩)) rfl rfl (by kernel_rfl) (by kernel_rfl) (by kernel_rfl) (fun _ _ _ h => h) (by rfl) (by intro W hSw; clear hSw; go_simp) hqx.out ?_
      try simp only [List.setIfInBounds_toArray, List.set_cons_zero, List.set_cons_succ]
      refine takeH 4 16 (.pointer (some ⟨b, off + k * 4 + 1, none⟩)) rfl rfl (by kernel_rfl) (by kernel_rfl) (by kernel_rfl) (fun _ _ _ h => h) (by rfl) (by intro W hSw; clear hSw; go_simp) hqx.out ?_
      try simp only [List.setIfInBounds_toArray, List.set_cons_zero, List.set_cons_succ]
      refine takeH 5 17 (.agg #[.int .i64 T.op, .int .i64 T.n, .slice a' l' c']) rfl rfl (by kernel_rfl) (by kernel_rfl) (by kernel_rfl) (fun _ _ _ h => h) (by rfl) (by intro W hSw; obtain ⟨j0, j1, j2⟩ := (hW.out W hSw).1; clear hSw; go_simp) hqx.out ?_
      try simp only [List.setIfInBounds_toArray, List.set_cons_zero, List.set_cons_succ]
      refine wpAnyH_ready (rs := [6]) (by kernel_rfl) (by simp) ?_
      refine AllReadyH.cons rfl (fun K5 hKc => ?_) AllReadyH.nil
      go_simp
      have hC := Lib.hid ((hW.out x hqx.out).2)
      go_at_call 30
      refine (hC.out).mono ?_
      rintro e w3 ⟨rfl, hb3⟩
      have hq3 : Hid (Below w0.heap.size w0 w3) := Lib.hid (Below.up hqx.out hb3)
      clear hb3 hC
      refine hKc _ _ hq3.out (fun _ => ?_)
      clear hKc K5
      try simp only [Act.put, List.setIfInBounds_toArray, List.set_cons_zero, List.set_cons_succ]
      refine takeH 7 19 (.bool (!fb)) rfl rfl (by kernel_rfl) (by kernel_rfl) (by kernel_rfl) (fun _ _ _ h => h) (by rfl) (by intro W hSw; clear hSw; go_simp) hq3.out ?_
      try simp only [List.setIfInBounds_toArray, List.set_cons_zero, List.set_cons_succ]
      refine wpAnyH_done (by kernel_rfl) ?_ _
      have hbW := Lib.hid (Below.up hB0.out hq3.out)
      cases fb
      · go_wp2_with fail
        go_ret
        exact ⟨by rw [hv2.out]; rfl, hbW.out⟩
      · go_wp2_with fail
        go_roundw
        case rel => exact ⟨k + 1, by omega, by go_num, Lib.hid (by rw [hv2.out]; rfl), hq3⟩
        case measure => simp [intOf]; omega
    · obtain rfl : k = L.length := by omega
      have o1 : ¬ (L.length : Int) < (L.length : Int) := by omega
      have hbW := Lib.hid (Below.up hB0.out hb.out)
      have hv2 : Hid (allFormed s L = true) := Lib.hid (by rw [hv.out, List.drop_length]; rfl)
      go_wp2_with fail
      go_ret
      exact ⟨by rw [hv2.out]; rfl, hbW.out⟩

theorem cmp_size {t u : Tm} (h : sgn t.size u.size ≠ 0) : cmpT t u = sgn t.size u.size := by rw [cmpT_eq]; unfold orElse0; rw [if_neg h]
theorem cmp_op {t u : Tm} (h : sgn t.size u.size = 0) (h2 : sgn t.op u.op ≠ 0) : cmpT t u = sgn t.op u.op := by rw [cmpT_eq, h]; unfold orElse0; rw [if_pos rfl, if_neg h2]
theorem cmp_n {t u : Tm} (h : sgn t.size u.size = 0) (h2 : sgn t.op u.op = 0) (h3 : sgn t.n u.n ≠ 0) : cmpT t u = sgn t.n u.n := by rw [cmpT_eq, h, h2]; unfold orElse0; rw [if_pos rfl, if_pos rfl, if_neg h3]
theorem cmp_kids {t u : Tm} (h : sgn t.size u.size = 0) (h2 : sgn t.op u.op = 0) (h3 : sgn t.n u.n = 0) : cmpT t u = cmpKs t.kids u.kids := by rw [cmpT_eq, h, h2, h3]; rfl
theorem cmp_end {t u : Tm} (h : sgn t.size u.size = 0) (h0 : cmpKs t.kids u.kids = 0) : sgn (t.kids.length : Nat) (u.kids.length : Nat) = 0 := by
  have e : sizes t.kids = sizes u.kids := by
    have := sgn_zero.1 h
    have := size_eq t
    have := size_eq u
    omega
  rw [cmpKs_zero _ _ e h0]
  exact sgn_zero.2 rfl

set_option maxRecDepth 100000 in
set_option maxHeartbeats 4000000 in
theorem rCompare_any (N : Nat) : ∀ (t u : Tm) (n₀ : Nat) (w : World) (aa : Option Addr) (la ca : Nat) (ab : Option Addr) (lb cb : Nat), t.size ≤ N → t.size ≤ 1000000 → u.size ≤ 1000000 → IsTm n₀ w t aa la ca → IsTm n₀ w u ab lb cb → n₀ ≤ w.heap.size →
    Calls Tryz.prog 41 #[.agg #[.int .i64 t.op, .int .i64 t.n, .slice aa la ca], .agg #[.int .i64 u.op, .int .i64 u.n, .slice ab lb cb]] w fun e w' => e = .returned (.int .i64 (cmpT t u)) ∧ Below w.heap.size w w' := by
  induction N with
  | zero => intro t _ _ _ _ _ _ _ _ _ h; have := size_pos t; omega
  | succ N ih =>
    intro t u n₀ w aa la ca ab lb cb hs hs1 hs2 ht hu hn
    replace ih := Lib.hid ih
    have hlt := ht.open.1
    have hlu := hu.open.1
    subst hlt hlu
    obtain ⟨w0, hw0⟩ : ∃ W, W = (w.alloc (.cells #[.int .i64 t.op, .int .i64 t.n, .slice aa t.kids.length ca] 28)).alloc (.cells #[.int .i64 u.op, .int .i64 u.n, .slice ab u.kids.length cb] 28) := ⟨_, rfl⟩
    have hz0 : w0.heap.size = w.heap.size + 1 + 1 := by rw [hw0]; simp
    have hB0 : Below w.heap.size w w0 := by rw [hw0]; go_grown
    have rA0 : w0.heap[w.heap.size]? = some (.cells #[.int .i64 t.op, .int .i64 t.n, .slice aa t.kids.length ca] 28 (0, 0)) := by rw [hw0]; exact heap_old (heap_new' _ rfl)
    have rB0 : w0.heap[w.heap.size + 1]? = some (.cells #[.int .i64 u.op, .int .i64 u.n, .slice ab u.kids.length cb] 28 (0, 0)) := by rw [hw0]; exact heap_new' _ (by simp)
    have hbx : Hid (∀ W, Below w0.heap.size w0 W → W.heap[w.heap.size]? = some (.cells #[.int .i64 t.op, .int .i64 t.n, .slice aa t.kids.length ca] 28 (0, 0)) ∧ W.heap[w.heap.size + 1]? = some (.cells #[.int .i64 u.op, .int .i64 u.n, .slice ab u.kids.length cb] 28 (0, 0)) ∧ IsTm W.heap.size W t aa t.kids.length ca ∧ IsTm W.heap.size W u ab u.kids.length cb ∧ Below w.heap.size w W) := Lib.hid (fun W hW => by
      have hb : Below n₀ w W := (hB0.mono hn).trans (hW.mono (by omega))
      have hzw := hW.size
      exact ⟨(hW.block _ (by omega)).trans rA0, (hW.block _ (by omega)).trans rB0, (IsTm.below hb _ ht).wider (by omega), (IsTm.below hb _ hu).wider (by omega), hB0.trans (hW.mono (by omega))⟩)
    have hK : Hid (∀ k (h : k < t.kids.length) (h' : k < u.kids.length), ∃ ba oa a1 l1 c1 bb ob a2 l2 c2, aa = some ⟨ba, oa, none⟩ ∧ ab = some ⟨bb, ob, none⟩ ∧ (∀ W, Below w0.heap.size w0 W → Cells3 W ba (oa + k * 3) t.kids[k].op t.kids[k].n a1 l1 c1 ∧ Cells3 W bb (ob + k * 3) u.kids[k].op u.kids[k].n a2 l2 c2 ∧
        Calls Tryz.prog 41 #[.agg #[.int .i64 t.kids[k].op, .int .i64 t.kids[k].n, .slice a1 l1 c1], .agg #[.int .i64 u.kids[k].op, .int .i64 u.kids[k].n, .slice a2 l2 c2]] W fun e w' => e = .returned (.int .i64 (cmpT t.kids[k] u.kids[k])) ∧ Below W.heap.size W w')) := Lib.hid (fun k h h' => by
      rcases ht.open.2.2.2 with e | ⟨ba, oa, rfl, hba, hksa⟩
      · rw [e] at h; simp at h
      rcases hu.open.2.2.2 with e | ⟨bb, ob, rfl, hbb, hksb⟩
      · rw [e] at h'; simp at h'
      obtain ⟨a1, l1, c1, g1, g2⟩ := IsKids.get _ hksa k h
      obtain ⟨a2, l2, c2, g3, g4⟩ := IsKids.get _ hksb k h'
      refine ⟨ba, oa, a1, l1, c1, bb, ob, a2, l2, c2, rfl, rfl, fun W hW => ?_⟩
      have hb : Below n₀ w W := (hB0.mono hn).trans (hW.mono (by omega))
      have hzw := hW.size
      have := sizes_mem (List.getElem_mem h)
      have := size_eq t
      have := sizes_mem (List.getElem_mem h')
      have := size_eq u
      exact ⟨g1.below hb hba, g3.below hb hbb, ih.out _ _ n₀ W a1 l1 c1 a2 l2 c2 (by omega) (by omega) (by omega) (IsTm.below hb _ g2) (IsTm.below hb _ g4) (by omega)⟩)
    have hst : Hid (Below w0.heap.size w0 w0) := Lib.hid (Below.refl _ _)
    have hdrop := Lib.hid (cmpKs_drop t.kids u.kids)
    have hendk := Lib.hid (cmpKs_end t.kids u.kids)
    have hkl : t.kids.length ≤ 1000000 ∧ u.kids.length ≤ 1000000 := by
      have h1 := length_le_sizes t.kids
      have h2 := length_le_sizes u.kids
      have := size_eq t
      have := size_eq u
      omega
    obtain ⟨hkl1, hkl2⟩ := hkl
    obtain ⟨R, hR⟩ : ∃ R, R = cmpT t u := ⟨_, rfl⟩
    rw [← hR]
    have e1 : Hid (sgn t.size u.size ≠ 0 → R = sgn t.size u.size) := Lib.hid (fun h => by rw [hR]; exact cmp_size h)
    have e2 : Hid (sgn t.size u.size = 0 → sgn t.op u.op ≠ 0 → R = sgn t.op u.op) := Lib.hid (fun h h2 => by rw [hR]; exact cmp_op h h2)
    have e3 : Hid (sgn t.size u.size = 0 → sgn t.op u.op = 0 → sgn t.n u.n ≠ 0 → R = sgn t.n u.n) := Lib.hid (fun h h2 h3 => by rw [hR]; exact cmp_n h h2 h3)
    have e4 : Hid (sgn t.size u.size = 0 → sgn t.op u.op = 0 → sgn t.n u.n = 0 → R = cmpKs t.kids u.kids ∧ (R = 0 → sgn (t.kids.length : Nat) (u.kids.length : Nat) = 0)) := Lib.hid (fun h h2 h3 => by
      have := cmp_kids h h2 h3
      rw [hR]
      exact ⟨this, fun h0 => cmp_end h (by rw [← this]; exact h0)⟩)
    clear hR ih rA0 rB0 hs ht hu
    have hzz := Lib.hid hz0
    clear hz0
    go_enter Tryz.func41, Tryz.ntmps41
    go_upto_region 1 with fail
    rw [← hw0]
    replace hw0 := Lib.hid hw0
    refine region_named (S := fun W' => Below w0.heap.size w0 W') (by kernel_rfl) (fun x hx => ?_)
    have hqx : Hid (Below w0.heap.size w0 x) := Lib.hid (by rw [hx]; exact (Below.refl _ _).drew)
    clear hx
    refine takeH 0 10 (.agg #[.int .i64 t.op, .int .i64 t.n, .slice aa t.kids.length ca]) rfl rfl (by kernel_rfl) (by kernel_rfl) (by kernel_rfl) (fun _ _ _ h => h) (by rfl) (by intro W hSw; obtain ⟨rA, rB, -⟩ := hbx.out W hSw; obtain ⟨⟨j0, j1, j2⟩, -⟩ := c3_cells rA; obtain ⟨⟨k0, k1, k2⟩, -⟩ := c3_cells rB; clear rA rB hSw; go_simp) hqx.out ?_
    try simp only [List.setIfInBounds_toArray, List.set_cons_zero, List.set_cons_succ]
    refine takeH 2 12 (.agg #[.int .i64 u.op, .int .i64 u.n, .slice ab u.kids.length cb]) rfl rfl (by kernel_rfl) (by kernel_rfl) (by kernel_rfl) (fun _ _ _ h => h) (by rfl) (by intro W hSw; obtain ⟨rA, rB, -⟩ := hbx.out W hSw; obtain ⟨⟨j0, j1, j2⟩, -⟩ := c3_cells rA; obtain ⟨⟨k0, k1, k2⟩, -⟩ := c3_cells rB; clear rA rB hSw; go_simp) hqx.out ?_
    try simp only [List.setIfInBounds_toArray, List.set_cons_zero, List.set_cons_succ]
    refine wpAnyH_ready (rs := [1]) (by kernel_rfl) (by simp) ?_
    refine AllReadyH.cons rfl (fun K5 hKc => ?_) AllReadyH.nil
    go_simp
    have hC := Lib.hid (Size_any 1000000 (Nat.le_refl _) t x.heap.size x aa t.kids.length ca hs1 (hbx.out x hqx.out).2.2.1 (Nat.le_refl _))
    go_at_call 79
    refine (hC.out).mono ?_
    rintro e w3 ⟨rfl, hb3⟩
    have hq3 : Hid (Below w0.heap.size w0 w3) := Lib.hid (Below.up hqx.out hb3)
    clear hb3 hC
    refine hKc _ _ hq3.out (fun _ => ?_)
    clear hKc K5
    try simp only [Act.put, List.setIfInBounds_toArray, List.set_cons_zero, List.set_cons_succ]
    refine wpAnyH_ready (rs := [3]) (by kernel_rfl) (by simp) ?_
    refine AllReadyH.cons rfl (fun K5 hKc => ?_) AllReadyH.nil
    go_simp
    have hC := Lib.hid (Size_any 1000000 (Nat.le_refl _) u w3.heap.size w3 ab u.kids.length cb hs2 (hbx.out w3 hq3.out).2.2.2.1 (Nat.le_refl _))
    go_at_call 79
    refine (hC.out).mono ?_
    rintro e w4 ⟨rfl, hb4⟩
    have hq4 : Hid (Below w0.heap.size w0 w4) := Lib.hid (Below.up hq3.out hb4)
    clear hb4 hC
    refine hKc _ _ hq4.out (fun _ => ?_)
    clear hKc K5
    try simp only [Act.put, List.setIfInBounds_toArray, List.set_cons_zero, List.set_cons_succ]
    refine wpAnyH_ready (rs := [4]) (by kernel_rfl) (by simp) ?_
    refine AllReadyH.cons rfl (fun K5 hKc => ?_) AllReadyH.nil
    go_simp
    have hC := Lib.hid (sign_any (t.size : Nat) (u.size : Nat) w4)
    go_at_call 78
    refine (hC.out).mono ?_
    rintro e w5 ⟨rfl, rfl⟩
    clear hC
    obtain ⟨g1, hg1⟩ : ∃ g, g = sgn (t.size : Nat) (u.size : Nat) := ⟨_, rfl⟩
    rw [← hg1] at e1 e2 e3 e4 ⊢
    clear hg1
    refine hKc _ _ hq4.out (fun _ => ?_)
    clear hKc K5
    try simp only [Act.put, List.setIfInBounds_toArray, List.set_cons_zero, List.set_cons_succ]
    refine takeH 5 5 (.int .i64 g1) rfl rfl (by kernel_rfl) (by kernel_rfl) (by kernel_rfl) (fun _ _ _ h => h) (by rfl) (by intro W hSw; clear hSw; go_simp) hq4.out ?_
    try simp only [List.setIfInBounds_toArray, List.set_cons_zero, List.set_cons_succ]
    refine wpAnyH_done (by kernel_rfl) ?_ _
    have hbW := Lib.hid ((hbx.out _ hq4.out).2.2.2.2)
    by_cases z1 : g1 = 0
    rotate_left
    · have z1' : (g1 != 0) = true := by simpa using z1
      have hr := Lib.hid (e1.out z1)
      clear z1
      go_wp2_with fail
      go_ret
      exact ⟨by rw [hr.out]; rfl, hbW.out⟩
    subst z1
    obtain ⟨rA, rB, -⟩ := hbx.out _ hq4.out
    obtain ⟨⟨p0, p1, p2⟩, -⟩ := c3_cells rA
    obtain ⟨⟨q0, q1, q2⟩, -⟩ := c3_cells rB
    clear rA rB
    have hC := Lib.hid (fun W => sign_any t.op u.op W)
    go_upto_region 99 with fail
    refine (hC.out _).mono ?_
    rintro e w5 ⟨rfl, rfl⟩
    clear hC
    obtain ⟨g2, hg2⟩ : ∃ g, g = sgn t.op u.op := ⟨_, rfl⟩
    rw [← hg2] at e2 e3 e4 ⊢
    clear hg2
    by_cases z2 : g2 = 0
    rotate_left
    · have z2' : (g2 != 0) = true := by simpa using z2
      have hr := Lib.hid (e2.out (by first | rfl | trivial) z2)
      clear z2
      go_wp2_with fail
      go_ret
      exact ⟨by rw [hr.out]; rfl, hbW.out⟩
    subst z2
    have hC := Lib.hid (fun W => sign_any t.n u.n W)
    go_upto_region 99 with fail
    refine (hC.out _).mono ?_
    rintro e w5 ⟨rfl, rfl⟩
    clear hC
    obtain ⟨g3, hg3⟩ : ∃ g, g = sgn t.n u.n := ⟨_, rfl⟩
    rw [← hg3] at e3 e4 ⊢
    clear hg3
    by_cases z3 : g3 = 0
    rotate_left
    · have z3' : (g3 != 0) = true := by simpa using z3
      have hr := Lib.hid (e3.out (by first | rfl | trivial) (by first | rfl | trivial) z3)
      clear z3
      go_wp2_with fail
      go_ret
      exact ⟨by rw [hr.out]; rfl, hbW.out⟩
    subst z3
    have h4 := Lib.hid (e4.out (by first | rfl | trivial) (by first | rfl | trivial) (by first | rfl | trivial))
    clear e1 e2 e3 e4
    go_wp2_with fail
    clear p0 p1 p2 q0 q1 q2
    go_loopw [8, 9] (fun i _ W => ∃ k : Nat, k ≤ t.kids.length ∧ k ≤ u.kids.length ∧ i = .int .i64 (k : Nat) ∧ Hid (R = cmpKs (t.kids.drop k) (u.kids.drop k)) ∧ Hid (Below w0.heap.size w0 W)) (fun i _ _ => t.kids.length - (intOf i).toNat)
    case atStart => exact ⟨0, by omega, by omega, rfl, Lib.hid h4.out.1, hq4⟩
    case round =>
      obtain ⟨k, hk1, hk2, rfl, hv, hb⟩ := hrel
      obtain ⟨rA, rB, -, -, hbW⟩ := hbx.out _ hb.out
      obtain ⟨⟨p0, p1, p2⟩, -⟩ := c3_cells rA
      obtain ⟨⟨q0, q1, q2⟩, -⟩ := c3_cells rB
      replace hbW := Lib.hid hbW
      clear rA rB
      by_cases hk : k < t.kids.length ∧ k < u.kids.length
      · obtain ⟨g1, g2⟩ := hk
        have o1 : (k : Int) < (t.kids.length : Int) := by omega
        have o2 : (k : Int) < (u.kids.length : Int) := by omega
        obtain ⟨ba, oa, a1, l1, c1, bb, ob, a2, l2, c2, rfl, rfl, hkW⟩ := hK.out k g1 g2
        have hv2 : Hid (R = orElse0 (cmpT t.kids[k] u.kids[k]) (cmpKs (t.kids.drop (k + 1)) (u.kids.drop (k + 1)))) := Lib.hid (by rw [hv.out]; exact hdrop.out k g1 g2)
        obtain ⟨ka, hka⟩ : ∃ t', t' = t.kids[k] := ⟨_, rfl⟩
        obtain ⟨kb, hkb⟩ : ∃ t', t' = u.kids[k] := ⟨_, rfl⟩
        rw [← hka, ← hkb] at hkW hv2
        obtain ⟨g, hg⟩ : ∃ g, g = cmpT ka kb := ⟨_, rfl⟩
        rw [← hg] at hkW hv2
        replace hkW := Lib.hid hkW
        clear hka hkb hg hv
        go_upto_region 13 with fail
        refine region_named (S := fun W' => Below w0.heap.size w0 W') (by kernel_rfl) (fun x hx => ?_)
        have hqx : Hid (Below w0.heap.size w0 x) := Lib.hid (by rw [hx]; exact Below.up hb.out ((Below.refl _ _).drew))
        clear hx p0 p1 p2 q0 q1 q2
        refine takeH 0 48 (.pointer (some ⟨w.heap.size, 2, none⟩)) rfl rfl (by kernel_rfl) (by kernel_rfl) (by kernel_rfl) (fun _ _ _ h => h) (by rfl) (by intro W hSw; clear hSw; go_simp) hqx.out ?_
        try simp only [List.setIfInBounds_toArray, List.set_cons_zero, List.set_cons_succ]
        refine takeH 1 49 (.slice (some ⟨ba, oa, none⟩) t.kids.length ca) rfl rfl (by kernel_rfl) (by kernel_rfl) (by kernel_rfl) (fun _ _ _ h => h) (by rfl) (by intro W hSw; obtain ⟨rA, rB, -⟩ := hbx.out W hSw; obtain ⟨⟨j0, j1, j2⟩, -⟩ := c3_cells rA; obtain ⟨⟨k0, k1, k2⟩, -⟩ := c3_cells rB; clear rA rB hSw; go_simp) hqx.out ?_
        try simp only [List.setIfInBounds_toArray, List.set_cons_zero, List.set_cons_succ]
        refine takeH 2 50 (.int .i64 (k : Nat)) rfl rfl (by kernel_rfl) (by kernel_rfl) (by kernel_rfl) (fun _ _ _ h => h) (by rfl) (by intro W hSw; clear hSw; go_simp) hqx.out ?_
        try simp only [List.setIfInBounds_toArray, List.set_cons_zero, List.set_cons_succ]
        refine takeH 3 51 (.pointer (some ⟨ba, oa + k * 3, none⟩)) rfl rfl (by kernel_rfl) (by kernel_rfl) (by kernel_rfl) (fun _ _ _ h => h) (by rfl) (by intro W hSw; clear hSw; go_simp) hqx.out ?_
        try simp only [List.setIfInBounds_toArray, List.set_cons_zero, List.set_cons_succ]
        refine takeH 4 52 (.agg #[.int .i64 ka.op, .int .i64 ka.n, .slice a1 l1 c1]) rfl rfl (by kernel_rfl) (by kernel_rfl) (by kernel_rfl) (fun _ _ _ h => h) (by rfl) (by intro W hSw; obtain ⟨j0, j1, j2⟩ := (hkW.out W hSw).1; clear hSw; go_simp) hqx.out ?_
        try simp only [List.setIfInBounds_toArray, List.set_cons_zero, List.set_cons_succ]
        refine takeH 5 53 (.pointer (some ⟨w.heap.size + 1, 2, none⟩)) rfl rfl (by kernel_rfl) (by kernel_rfl) (by kernel_rfl) (fun _ _ _ h => h) (by rfl) (by intro W hSw; clear hSw; go_simp) hqx.out ?_
        try simp only [List.setIfInBounds_toArray, List.set_cons_zero, List.set_cons_succ]
        refine takeH 6 54 (.slice (some ⟨bb, ob, none⟩) u.kids.length cb) rfl rfl (by kernel_rfl) (by kernel_rfl) (by kernel_rfl) (fun _ _ _ h => h) (by rfl) (by intro W hSw; obtain ⟨rA, rB, -⟩ := hbx.out W hSw; obtain ⟨⟨j0, j1, j2⟩, -⟩ := c3_cells rA; obtain ⟨⟨k0, k1, k2⟩, -⟩ := c3_cells rB; clear rA rB hSw; go_simp) hqx.out ?_
        try simp only [List.setIfInBounds_toArray, List.set_cons_zero, List.set_cons_succ]
        refine takeH 7 55 (.int .i64 (k : Nat)) rfl rfl (by kernel_rfl) (by kernel_rfl) (by kernel_rfl) (fun _ _ _ h => h) (by rfl) (by intro W hSw; clear hSw; go_simp) hqx.out ?_
        try simp only [List.setIfInBounds_toArray, List.set_cons_zero, List.set_cons_succ]
        refine takeH 8 56 (.pointer (some ⟨bb, ob + k * 3, none⟩)) rfl rfl (by kernel_rfl) (by kernel_rfl) (by kernel_rfl) (fun _ _ _ h => h) (by rfl) (by intro W hSw; clear hSw; go_simp) hqx.out ?_
        try simp only [List.setIfInBounds_toArray, List.set_cons_zero, List.set_cons_succ]
        refine takeH 9 57 (.agg #[.int .i64 kb.op, .int .i64 kb.n, .slice a2 l2 c2]) rfl rfl (by kernel_rfl) (by kernel_rfl) (by kernel_rfl) (fun _ _ _ h => h) (by rfl) (by intro W hSw; obtain ⟨j0, j1, j2⟩ := (hkW.out W hSw).2.1; clear hSw; go_simp) hqx.out ?_
        try simp only [List.setIfInBounds_toArray, List.set_cons_zero, List.set_cons_succ]
        refine wpAnyH_ready (rs := [10]) (by kernel_rfl) (by simp) ?_
        refine AllReadyH.cons rfl (fun K5 hKc => ?_) AllReadyH.nil
        go_simp
        have hC := Lib.hid ((hkW.out x hqx.out).2.2)
        go_at_call 41
        refine (hC.out).mono ?_
        rintro e w6 ⟨rfl, hb6⟩
        have hq6 : Hid (Below w0.heap.size w0 w6) := Lib.hid (Below.up hqx.out hb6)
        clear hb6 hC
        refine hKc _ _ hq6.out (fun _ => ?_)
        clear hKc K5
        try simp only [Act.put, List.setIfInBounds_toArray, List.set_cons_zero, List.set_cons_succ]
        refine takeH 11 9 (.int .i64 g) rfl rfl (by kernel_rfl) (by kernel_rfl) (by kernel_rfl) (fun _ _ _ h => h) (by rfl) (by intro W hSw; clear hSw; go_simp) hq6.out ?_
        try simp only [List.setIfInBounds_toArray, List.set_cons_zero, List.set_cons_succ]
        refine wpAnyH_done (by kernel_rfl) ?_ _
        have hbW6 := Lib.hid ((hbx.out _ hq6.out).2.2.2.2)
        by_cases z : g = 0
        · subst z
          have hv3 : Hid (R = cmpKs (t.kids.drop (k + 1)) (u.kids.drop (k + 1))) := hv2
          go_wp2_with fail
          go_roundw
          case rel => exact ⟨k + 1, by omega, by omega, by go_num, hv3, hq6⟩
          case measure => simp [intOf]; omega
        · have z' : (g != 0) = true := by simpa using z
          have hr : Hid (R = g) := Lib.hid (by rw [hv2.out]; unfold orElse0; rw [if_neg z])
          clear z
          go_wp2_with fail
          go_ret
          exact ⟨by rw [hr.out]; rfl, hbW6.out⟩
      · have hz : Hid (R = 0) := Lib.hid (by rw [hv.out]; exact hendk.out k (by omega))
        have hlen := Lib.hid (h4.out.2 hz.out)
        have hC := Lib.hid (fun W => sign_any (t.kids.length : Nat) (u.kids.length : Nat) W)
        have hor : (k : Int) < (t.kids.length : Int) ∧ ¬ (k : Int) < (u.kids.length : Int) ∨ ¬ (k : Int) < (t.kids.length : Int) := by omega
        rcases hor with ⟨o1, o2⟩ | o1
        · clear hk hv
          go_upto_region 99 with fail
          refine (hC.out _).mono ?_
          rintro e w5 ⟨rfl, rfl⟩
          rw [hlen.out]
          go_wp2_with fail
          go_ret
          exact ⟨by rw [hz.out]; rfl, hbW.out⟩
        · clear hk hv
          go_upto_region 99 with fail
          refine (hC.out _).mono ?_
          rintro e w5 ⟨rfl, rfl⟩
          rw [hlen.out]
          go_wp2_with fail
          go_ret
          exact ⟨by rw [hz.out]; rfl, hbW.out⟩

end Go.Proofs.YthlegfegkopdkaaGreat

namespace Go.Proofs.YthlegfegkopdkaaGreat
open Go.RowKit Go.Shelf Go.Sort

/-! Lists that increase are told by what they have -/
theorem sorted_ext : ∀ {L M : List (Int × Tm)}, L.Pairwise (fun x y => x.1 < y.1) → M.Pairwise (fun x y => x.1 < y.1) → (∀ x, x ∈ L ↔ x ∈ M) → L = M
  | [], [], _, _, _ => rfl
  | [], y :: M, _, _, h => by have := (h y).2 (by simp); cases this
  | x :: L, [], _, _, h => by have := (h x).1 (by simp); cases this
  | x :: L, y :: M, hL, hM, h => by
    obtain ⟨l1, l2⟩ := List.pairwise_cons.1 hL
    obtain ⟨m1, m2⟩ := List.pairwise_cons.1 hM
    have hxy : x = y := by
      rcases List.mem_cons.1 ((h x).1 (by simp)) with e | hx
      · exact e
      rcases List.mem_cons.1 ((h y).2 (by simp)) with e | hy
      · exact e.symm
      have := m1 x hx
      have := l1 y hy
      omega
    subst hxy
    rw [sorted_ext l2 m2 fun z => ?_]
    constructor
    · intro hz
      rcases List.mem_cons.1 ((h z).1 (List.mem_cons_of_mem _ hz)) with rfl | hz'
      · have := l1 z hz; omega
      · exact hz'
    · intro hz
      rcases List.mem_cons.1 ((h z).2 (List.mem_cons_of_mem _ hz)) with rfl | hz'
      · have := m1 z hz; omega
      · exact hz'
theorem inc_range {f : Nat → Option Tm} : ∀ k : Nat, ((List.range k).filterMap fun v : Nat => (f v).map fun t => ((v : Int), t)).Pairwise (fun x y => x.1 < y.1) ∧ ∀ x ∈ (List.range k).filterMap fun v : Nat => (f v).map fun t => ((v : Int), t), 0 ≤ x.1 ∧ x.1 < k
  | 0 => by simp
  | k + 1 => by
    obtain ⟨h1, h2⟩ := inc_range (f := f) k
    rw [List.range_succ, List.filterMap_append]
    cases hf : f k with
    | none =>
      simp only [List.filterMap_cons, List.filterMap_nil, hf, Option.map_none, List.append_nil]
      exact ⟨h1, fun x hx => by have := h2 x hx; omega⟩
    | some t =>
      simp only [List.filterMap_cons, List.filterMap_nil, hf, Option.map_some]
      refine ⟨List.pairwise_append.2 ⟨h1, by simp, fun x hx y hy => ?_⟩, fun x hx => ?_⟩
      · obtain rfl := List.mem_singleton.1 hy
        exact (h2 x hx).2
      · rcases List.mem_append.1 hx with hx | hx
        · have := h2 x hx; omega
        · obtain rfl := List.mem_singleton.1 hx
          simp only; omega
theorem mem_listB {F : Int → Option DT} {k : Nat} {v : Int} {t : Tm} : (v, t) ∈ listB F k ↔ ∃ u : Nat, u < k ∧ v = u ∧ ∃ b, F u = some b ∧ b.tm = t := by
  unfold listB
  rw [List.mem_filterMap]
  constructor
  · rintro ⟨u, hu, h⟩
    cases hF : F (u : Int) with
    | none => rw [hF] at h; cases h
    | some b =>
      rw [hF] at h
      simp only [Option.map_some, Option.some.injEq, Prod.mk.injEq] at h
      exact ⟨u, List.mem_range.1 hu, h.1.symm, b, hF, h.2⟩
  · rintro ⟨u, hu, rfl, b, hF, rfl⟩
    exact ⟨u, List.mem_range.2 hu, by rw [hF]; rfl⟩
theorem listB_inc (F : Int → Option DT) : (listB F 20).Pairwise (fun x y => x.1 < y.1) := by
  have e : listB F 20 = (List.range 20).filterMap fun v : Nat => ((F v).map DT.tm).map fun t => ((v : Int), t) := by
    unfold listB
    congr 1
    funext v
    cases F v <;> rfl
  rw [e]
  exact (inc_range (f := fun v => (F v).map DT.tm) 20).1
theorem listG_inc (F : Int → Option DT) (G : Nat → Tm) : (listG F G 20).Pairwise (fun x y => x.1 < y.1) := by
  have e : listG F G 20 = (List.range 20).filterMap fun v : Nat => ((F v).map fun _ => G v).map fun t => ((v : Int), t) := by
    unfold listG
    congr 1
    funext v
    cases F v <;> rfl
  rw [e]
  exact (inc_range (f := fun v => (F v).map fun _ => G v) 20).1

/-! The match -/
/-- A list has what a map has. -/
def Has (F : Int → Option DT) (L : List (Int × Tm)) : Prop := Inc L ∧ (∀ v b, F v = some b → 0 ≤ v ∧ v < 20) ∧ ∀ v t, (v, t) ∈ L ↔ ∃ b, F v = some b ∧ b.tm = t
theorem Has.listB {F : Int → Option DT} {L : List (Int × Tm)} (h : Has F L) : L = listB F 20 := by
  refine sorted_ext h.1.1 (listB_inc F) fun ⟨v, t⟩ => ?_
  rw [h.2.2, mem_listB]
  constructor
  · rintro ⟨b, hb, ht⟩
    have hv := h.2.1 v b hb
    have e : ((v.toNat : Nat) : Int) = v := Int.toNat_of_nonneg hv.1
    exact ⟨v.toNat, by omega, e.symm, b, by rw [e]; exact hb, ht⟩
  · rintro ⟨u, hu, rfl, b, hb, ht⟩; exact ⟨b, hb, ht⟩
theorem Inc.pair {L : List (Int × Tm)} (h : Inc L) {x y : Int × Tm} (hx : x ∈ L) (hy : y ∈ L) (e : x.1 = y.1) : x = y := by
  obtain ⟨i, hi, rfl⟩ := List.getElem_of_mem hx
  obtain ⟨j, hj, rfl⟩ := List.getElem_of_mem hy
  have hp := List.pairwise_iff_getElem.1 h.1
  rcases Nat.lt_trichotomy i j with hlt | rfl | hlt
  · have := hp i j hi hj hlt; omega
  · rfl
  · have := hp j i hj hi hlt; omega
theorem Has.none : Has noB [] := ⟨Inc.nil, fun _ _ h => (by cases h), fun v t => ⟨fun h => (by cases h), fun ⟨_, h, _⟩ => (by cases h)⟩⟩
theorem Has.upd {F : Int → Option DT} {L : List (Int × Tm)} (h : Has F L) {n : Int} {d : DT} (hn : 0 ≤ n ∧ n < 20) (hF : F n = .none) : Has (updI F n d) (bindL L n d.tm) := by
  have hd : ∀ x ∈ L, x.1 ≠ n := fun x hx e => by
    obtain ⟨b, hb, -⟩ := (h.2.2 x.1 x.2).1 hx
    rw [e, hF] at hb; cases hb
  refine ⟨h.1.bind hn hd, fun v b hb => ?_, fun v t => ?_⟩
  · unfold updI at hb
    split at hb
    · rename_i e; rw [e]; exact hn
    · exact h.2.1 v b hb
  · rw [mem_bind, h.2.2]
    unfold updI
    constructor
    · rintro (e | ⟨b, hb, ht⟩)
      · cases e; exact ⟨d, by rw [if_pos rfl], rfl⟩
      · have : v ≠ n := fun e => by rw [e, hF] at hb; cases hb
        exact ⟨b, by rw [if_neg this]; exact hb, ht⟩
    · rintro ⟨b, hb, ht⟩
      split at hb
      · rename_i e
        cases hb
        exact .inl (by rw [e, ht])
      · exact .inr ⟨b, hb, ht⟩
theorem mt_md (N : Nat) : ∀ (d x : DT) (F : Int → Option DT) (L : List (Int × Tm)), d.size ≤ N → vtB d.tm = true → Has F L →
    (mtT L d.tm x.tm).1 = (matchD F d x).1 ∧ ((mtT L d.tm x.tm).1 = true → Has (matchD F d x).2 (mtT L d.tm x.tm).2) := by
  induction N with
  | zero => intro d _ _ _ h; have := dsize_pos d; omega
  | succ N ih =>
    intro d x F L hs hv hH
    obtain ⟨v1, v2, v3, v4⟩ := vt_open hv
    rw [mtT_eq, matchD_eq, DT.tm_op, DT.tm_n, DT.tm_op, DT.tm_n]
    rw [DT.tm_op, DT.tm_n] at v2
    by_cases h1 : d.op = 1
    · rw [if_pos h1, if_pos h1]
      cases hF : F d.n with
      | none =>
        have hd : ¬ fnd L d.n < L.length := fun h => by
          obtain ⟨b, hb, -⟩ := (hH.2.2 L[fnd L d.n].1 L[fnd L d.n].2).1 (List.getElem_mem h)
          rw [fnd_at h, hF] at hb; cases hb
        rw [dif_neg hd]
        exact ⟨rfl, fun _ => hH.upd (v2 h1).2 hF⟩
      | some b =>
        have hm := (hH.2.2 d.n b.tm).2 ⟨b, hF, rfl⟩
        have hlt : fnd L d.n < L.length := Classical.byContradiction fun h => fnd_none h _ hm rfl
        rw [dif_pos hlt]
        have e : L[fnd L d.n] = (d.n, b.tm) := hH.1.pair (List.getElem_mem hlt) hm (fnd_at hlt)
        refine ⟨by rw [e], fun _ => hH⟩
    · rw [if_neg h1, if_neg h1]
      by_cases hc : d.op = x.op ∧ d.n = x.n
      rotate_left
      · rw [if_neg hc, if_neg (fun h => hc ⟨h.1, h.2.1⟩)]
        exact ⟨rfl, fun h => by cases h⟩
      rw [if_pos hc]
      by_cases hl : d.kids.length = x.kids.length
      rotate_left
      · rw [if_neg (fun h => hl (by have := h.2.2; rw [DT.tm_kids, DT.tm_kids, List.length_map, List.length_map] at this; exact this)), matchDs_len _ _ _ hl]
        exact ⟨rfl, fun h => by cases h⟩
      rw [if_pos ⟨hc.1, hc.2, by rw [DT.tm_kids, DT.tm_kids, List.length_map, List.length_map]; exact hl⟩, DT.tm_kids, DT.tm_kids]
      have hsz := dsize_eq d
      rw [DT.tm_kids] at v4
      have key : ∀ (ps vs : List DT) (F : Int → Option DT) (L : List (Int × Tm)), ps.length = vs.length → dsizes ps ≤ N → (∀ k ∈ ps, vtB k.tm = true) → Has F L →
          (mtTs L (ps.map DT.tm) (vs.map DT.tm)).1 = (matchDs F ps vs).1 ∧ ((mtTs L (ps.map DT.tm) (vs.map DT.tm)).1 = true → Has (matchDs F ps vs).2 (mtTs L (ps.map DT.tm) (vs.map DT.tm)).2) := by
        intro ps
        induction ps with
        | nil =>
          intro vs F L hl _ _ hH
          cases vs with
          | nil => simp only [List.map_nil, mtTs, matchDs]; exact ⟨trivial, fun _ => hH⟩
          | cons v vs => simp at hl
        | cons p ps ihp =>
          intro vs F L hl hz hvt hH
          cases vs with
          | nil => simp at hl
          | cons v vs =>
            rw [dsizes] at hz
            obtain ⟨g1, g2⟩ := ih p v F L (by have := dsize_pos p; omega) (hvt p (by simp)) hH
            have e1 : mtTs L ((p :: ps).map DT.tm) ((v :: vs).map DT.tm) = if (mtT L p.tm v.tm).1 = true then mtTs (mtT L p.tm v.tm).2 (ps.map DT.tm) (vs.map DT.tm) else (false, (mtT L p.tm v.tm).2) := by rw [List.map_cons, List.map_cons, mtTs]
            have e2 : matchDs F (p :: ps) (v :: vs) = if (matchD F p v).1 = true then matchDs (matchD F p v).2 ps vs else (false, F) := by rw [matchDs]
            rw [e1, e2]
            by_cases hq : (mtT L p.tm v.tm).1 = true
            · rw [if_pos hq, if_pos (by rw [← g1]; exact hq)]
              exact ihp vs _ _ (by simpa using hl) (by omega) (fun k hk => hvt k (by simp [hk])) (g2 hq)
            · rw [if_neg hq, if_neg (by rw [← g1]; exact hq)]
              exact ⟨rfl, fun h => by cases h⟩
      exact key d.kids x.kids F L hl (by omega) (fun k hk => v4 k.tm (List.mem_map.2 ⟨k, hk, rfl⟩)) hH

/-! The most general unifier -/
theorem is_node {t : Tm} (h : t.op ≠ 1) (θ : Int → Tm) : (sb θ t).op = t.op := by rw [sb_node1 θ h]; rfl
theorem theta_var {F : Int → Option DT} {θ : Int → Tm} (hg : Good F θ) : ∀ (m : Nat) (v : Int), v.toNat ≤ m → 0 ≤ v → (θ v).op = 1 → ∃ u, θ v = .mk 1 u [] := by
  intro m
  induction m with
  | zero =>
    intro v hm h0 h
    cases hF : F v with
    | none => exact ⟨v, hg.free v hF⟩
    | some b =>
      have hs := hg.sol v b hF
      by_cases h1 : b.op = 1
      · have := hg.chain v b hF h1
        have := ((hg.vr v b hF).1.open.1 h1).2
        omega
      · rw [sb_node h1] at hs
        rw [hs] at h
        exact absurd h h1
  | succ m ih =>
    intro v hm h0 h
    cases hF : F v with
    | none => exact ⟨v, hg.free v hF⟩
    | some b =>
      have hs := hg.sol v b hF
      by_cases h1 : b.op = 1
      · have h2 := hg.chain v b hF h1
        have h3 := ((hg.vr v b hF).1.open.1 h1).2
        rw [sb_var h1] at hs
        rw [hs] at h ⊢
        exact ih b.n (by omega) h3.1 h
      · rw [sb_node h1] at hs
        rw [hs] at h
        exact absurd h h1
/-- Two solved forms of the same are the same. -/
theorem uni_same {F : Int → Option DT} {θ : Int → Tm} (hg : Good F θ) {L : List (Int × Tm)} (hL : Sol L) : ∀ U : Tm, vtB U = true → sb (subL L) (sb θ U) = U → sb θ U = U := tm_ind fun U ih => by
  intro hv he
  obtain ⟨v1, v2, v3, v4⟩ := vt_open hv
  by_cases hU : U.op = 1
  · obtain ⟨w, hw⟩ : ∃ w, w = U.n := ⟨_, rfl⟩
    have eU : U = .mk 1 w [] := by
      have := tm_eta U
      rw [hU, (v2 hU).1, ← hw] at this
      exact this
    rw [eU] at he ⊢
    have hvar : sb θ (.mk 1 w []) = θ w := by rw [sb, if_pos rfl]
    rw [hvar] at he ⊢
    have hwr : 0 ≤ w ∧ w < 20 := by rw [hw]; exact (v2 hU).2
    have hop : (θ w).op = 1 := Classical.byContradiction fun hne => by
      have := is_node hne (subL L)
      rw [he] at this
      exact hne this.symm
    obtain ⟨x, hx⟩ := theta_var hg w.toNat w (Nat.le_refl _) hwr.1 hop
    have hle := (bound_moves hg w.toNat w x (Nat.le_refl _) hwr.1 hx).1
    rw [hx, sb, if_pos rfl] at he
    rw [hx]
    rcases subL_mem (L := L) (v := x) with ⟨y, hy, e1, e2⟩ | ⟨-, e2⟩
    · rw [he] at e2
      have := hL.ori y hy (by rw [← e2]; rfl)
      rw [← e2] at this
      have h9 : w < y.1 := this
      omega
    · rw [he] at e2
      injection e2 with _ e3
      rw [e3]
  · rw [sb_node1 θ hU] at he ⊢
    have he' : Tm.mk U.op U.n ((U.kids.map (sb θ)).map (sb (subL L))) = U := by
      rw [sb_node1 (subL L) (by exact hU)] at he
      exact he
    have hk : (U.kids.map (sb θ)).map (sb (subL L)) = U.kids := by
      have := congrArg Tm.kids he'
      exact this
    have hall : U.kids.map (sb θ) = U.kids := by
      have h2 : ∀ k ∈ U.kids, sb θ k = k := fun k hk' => by
        refine ih k hk' (v4 k hk') ?_
        obtain ⟨i, hi, rfl⟩ := List.getElem_of_mem hk'
        have := congrArg (fun l => l[i]?) hk
        simp only [List.getElem?_map, List.getElem?_eq_getElem hi, Option.map_some, Option.some.injEq] at this
        exact this
      have : U.kids.map (sb θ) = U.kids.map id := List.map_congr_left fun k hk => h2 k hk
      rw [this, List.map_id]
    rw [hall]; exact (tm_eta U).symm
theorem uni_theta {F : Int → Option DT} {θ : Int → Tm} (hg : Good F θ) {L : List (Int × Tm)} (hL : Sol L) (h1 : Sat θ L) (h2 : Solves (subL L) F) {v : Int} (hv : 0 ≤ v ∧ v < 20) : subL L v = θ v := by
  have e1 : sb θ (subL L v) = θ v := by
    have := h1.put (.mk 1 v [])
    rw [sb, if_pos rfl, sb, if_pos rfl] at this
    exact this
  have e2 : sb (subL L) (θ v) = subL L v := by
    have := special hg h2 (.mk 1 v [])
    rw [sb, if_pos rfl, sb, if_pos rfl] at this
    exact this
  have := uni_same hg hL (subL L v) (hL.sub hv) (by rw [e1, e2])
  rw [e1] at this
  exact this.symm
theorem uni_list {F : Int → Option DT} {θ : Int → Tm} (hg : Good F θ) {L : List (Int × Tm)} (hL : Sol L) (h1 : Sat θ L) (h2 : Solves (subL L) F) (v : Int) (t : Tm) : (v, t) ∈ L ↔ (0 ≤ v ∧ v < 20) ∧ F v ≠ none ∧ t = θ v := by
  constructor
  · intro h
    have hv := hL.rng _ h
    have e := uni_theta hg hL h1 h2 hv
    have ea := hL.at h
    simp only at ea e
    refine ⟨hv, fun hF => ?_, by rw [← e, ea]⟩
    rw [hg.free v hF, ea] at e
    have := hL.free _ h _ h
    simp only [e] at this
    rw [show occ v (.mk 1 v []) = true from occ_var.2 rfl] at this
    cases this
  · rintro ⟨hv, hF, rfl⟩
    have e := uni_theta hg hL h1 h2 hv
    rcases subL_mem (L := L) (v := v) with ⟨x, hx, e1, e2⟩ | ⟨-, e2⟩
    · rw [← e, e2, ← e1]; exact hx
    · rw [e2] at e
      exact absurd ((bound_moves hg v.toNat v v (Nat.le_refl _) hv.1 e.symm).2 rfl) hF

/-! What is small is made -/
theorem deep_open {t : Tm} {r : Int} : deepOk t r = true ↔ 1 ≤ r ∧ ∀ k ∈ t.kids, deepOk k (r - 1) = true := by
  cases t with
  | mk op n ks =>
    rw [deepOk, Bool.and_eq_true, decide_eq_true_eq]
    have : ∀ ks : List Tm, deepOks ks (r - 1) = true ↔ ∀ k ∈ ks, deepOk k (r - 1) = true := fun ks => by
      induction ks with
      | nil => simp [deepOks]
      | cons t ts ih => simp [deepOks, ih]
    rw [this]; rfl
theorem grow_small {F : Int → Option DT} {θ : Int → Tm} (hg : Good F θ) : ∀ (T : Tm) (N dep c : Nat) (d : DT), VR d → sb θ d.tm = T → c + T.size ≤ 40 → deepOk T (13 - (dep : Int)) = true → 34 ≤ N + dep → ∃ q, growF F N dep c d = some q ∧ q.2 = c + T.size := tm_ind fun T ih => by
  intro N dep c d hd hT hc hdeep hN
  obtain ⟨hd1, hd2⟩ := deep_open.1 hdeep
  have hsz := size_pos T
  obtain ⟨N', rfl⟩ : ∃ N', N = N' + 1 := ⟨N - 1, by omega⟩
  rw [growF, if_neg (by omega)]
  obtain ⟨r, hr, hvr⟩ := opF_any hg d hd N' (by omega)
  rw [hr]
  simp only
  have hTr : sb θ r.tm = T := by rw [← opF_solves hg.sol N' d r hr]; exact hT
  by_cases h1 : r.op = 1
  · have hk := (hvr.open.1 h1).1
    rw [hk]
    simp only [growK]
    refine ⟨_, rfl, ?_⟩
    have hfree : F r.n = none := by
      have : ∀ (M : Nat) (d r : DT), opF F M d = some r → r.op = 1 → F r.n = none := by
        intro M
        induction M with
        | zero => intro d r h; cases h
        | succ M ihM =>
          intro d r h h1
          rw [opF] at h
          split at h
          · cases hq : F d.n with
            | none => rw [hq] at h; cases h; exact hq
            | some b => rw [hq] at h; exact ihM b r h h1
          · rename_i hne; cases h; exact absurd h1 hne
      exact this N' d r hr h1
    rw [sb_var h1, hg.free _ hfree] at hTr
    rw [← hTr]; simp [Tm.size, sizes]
  · rw [sb_node h1] at hTr
    have key : ∀ (ks : List DT) (c : Nat), (∀ k ∈ ks, VR k ∧ sb θ k.tm ∈ T.kids) → c + sizes (ks.map fun k => sb θ k.tm) ≤ 40 → ∃ q, growK (growF F N' (dep + 1)) c ks = some q ∧ q.2 = c + sizes (ks.map fun k => sb θ k.tm) := by
      intro ks
      induction ks with
      | nil => intro c _ _; exact ⟨_, rfl, by simp [sizes]⟩
      | cons k ks ihk =>
        intro c hm hc
        simp only [List.map_cons, sizes] at hc ⊢
        obtain ⟨g1, g2⟩ := hm k (by simp)
        obtain ⟨q, hq, hq2⟩ := ih _ g2 N' (dep + 1) c k g1 rfl (by omega) (by have := hd2 _ g2; rw [show (13 : Int) - ((dep + 1 : Nat) : Int) = 13 - (dep : Int) - 1 by omega]; exact this) (by omega)
        obtain ⟨q', hq', hq2'⟩ := ihk q.2 (fun k hk => hm k (by simp [hk])) (by omega)
        rw [growK, hq]
        simp only
        rw [hq']
        exact ⟨_, rfl, by simp only; omega⟩
    have hks : T.kids = r.kids.map fun k => sb θ k.tm := by rw [← hTr]; rfl
    have hse := size_eq T
    rw [hks] at hse
    obtain ⟨q, hq, hq2⟩ := key r.kids (c + 1) (fun k hk => ⟨hvr.kid k hk, by rw [hks]; exact List.mem_map.2 ⟨k, hk, rfl⟩⟩) (by omega)
    rw [hq]
    exact ⟨_, rfl, by simp only; omega⟩

/-- The program's answer, and what the reference's list must be. -/
theorem uni_final (s : Sg) (a b : DT) (ha : nodesOk s a.tm = true ∧ isVal a.tm = true) (hb : nodesOk s b.tm = true ∧ isVal b.tm = true) :
    ∃ M err, UniAll a b M err ∧ ((err = 5 ∧ M = [] ∧ ∀ σ : Int → Tm, sb σ a.tm ≠ sb σ b.tm) ∨ ((∃ σ : Int → Tm, sb σ a.tm = sb σ b.tm) ∧ ∀ L, Sol L → (∀ θ, Sat θ L ↔ sb θ a.tm = sb θ b.tm) →
      (err = 3 ∧ M = [] ∧ allFormed s L = false) ∨ (err = 0 ∧ L = M ∧ allFormed s L = true))) := by
  have oa := okV_of _ ha.1
  have ob := okV_of _ hb.1
  have va := vr_ok a oa
  have vb := vr_ok b ob
  obtain ⟨N0, R, hR0⟩ := uni_ends (unb noB) _ noB (fun u => .mk 1 u []) a b good_none va vb (Nat.le_refl _) (Nat.le_refl _)
  obtain ⟨N, hN⟩ : ∃ N, N = N0 + 36 := ⟨_, rfl⟩
  have hR : uniF N noB a b = some R := uniF_mono N0 noB a b R hR0 N (by omega)
  cases R with
  | none => exact ⟨[], 5, ⟨N, .inl ⟨hR, rfl, rfl⟩⟩, .inl ⟨rfl, rfl, uni_never hR va vb⟩⟩
  | some F =>
    obtain ⟨hmeet, θ, hg, hθ⟩ := uni_meets hR va vb
    have hEn := uni_nodal (nodal_ok s) (fun n hn => by rw [nodesOk, nodeOk_1]; simp [nodesOks, inB]; omega) hR ⟨oa, ha.1⟩ ⟨ob, hb.1⟩
    have hboth : ∀ L, Sol L → (∀ θ, Sat θ L ↔ sb θ a.tm = sb θ b.tm) → Sat θ L ∧ Solves (subL L) F := fun L hL h => ⟨(h θ).2 hθ, (hmeet _).1 ((h _).1 hL.self)⟩
    by_cases hx : ∃ k : Nat, k < 20 ∧ F k ≠ none ∧ growF F N 1 0 (vD k) = none
    · refine ⟨[], 3, ⟨N, .inr (.inr ⟨by omega, rfl, rfl, F, hR, fun d hd M hM => by obtain ⟨r, hr, -⟩ := opF_any hg d (vr_ok d hd) M hM; exact ⟨r, hr⟩, hx⟩)⟩, .inr ⟨⟨θ, hθ⟩, fun L hL h => .inl ⟨rfl, rfl, ?_⟩⟩⟩
      obtain ⟨k, hk, hF, hgr⟩ := hx
      obtain ⟨s1, s2⟩ := hboth L hL h
      have hm := (uni_list hg hL s1 s2 k (θ k)).2 ⟨by omega, hF, rfl⟩
      cases hall : allFormed s L
      · rfl
      · unfold allFormed at hall
        rw [List.all_eq_true] at hall
        have hf := hall _ hm
        rw [formedB_eq, Bool.and_eq_true, decide_eq_true_eq] at hf
        obtain ⟨w1, w2⟩ := (weigh_iff (θ k) 40 12 (by omega)).1.1 hf.1
        have hvr : VR (vD (k : Int)) := vr_ok _ (by rw [vD_tm, OkV]; exact ⟨fun _ => by omega, fun _ => rfl, fun e => by simp at e, by simp [OkVs]⟩)
        obtain ⟨q, hq, -⟩ := grow_small hg (θ k) N 1 0 (vD k) hvr (sb_vD θ k) (by omega) w2 (by omega)
        rw [hgr] at hq; cases hq
    · obtain ⟨G, hGd⟩ : ∃ G : Nat → Tm, G = gOf F N := ⟨_, rfl⟩
      have hG : ∀ v : Nat, v < 20 → F v ≠ none → ∃ c, growF F N 1 0 (vD v) = some (G v, c) := fun v hv hF => by
        rw [hGd]
        unfold gOf
        cases hq : growF F N 1 0 (vD v) with
        | none => exact absurd ⟨v, hv, hF, hq⟩ hx
        | some q => exact ⟨q.2, by simp only⟩
      have hGθ := listG_sb hg hG
      have hform : ∀ v : Nat, v < 20 → F v ≠ none → formedB s (G v) = true := fun v hv hF => by
        obtain ⟨c, hc⟩ := hG v hv hF
        exact full_formed s (fun i d hd => (hEn i d hd).2) hv hc
      refine ⟨listG F G 20, 0, ⟨N, .inr (.inl ⟨F, G, hR, hG, rfl, rfl⟩)⟩, .inr ⟨⟨θ, hθ⟩, fun L hL h => .inr ⟨rfl, ?_, ?_⟩⟩⟩
      · obtain ⟨s1, s2⟩ := hboth L hL h
        refine sorted_ext hL.inc (listG_inc F G) fun ⟨v, t⟩ => ?_
        rw [uni_list hg hL s1 s2, listG_mem]
        constructor
        · rintro ⟨hv, hF, rfl⟩
          have e : ((v.toNat : Nat) : Int) = v := Int.toNat_of_nonneg hv.1
          exact ⟨v.toNat, by omega, by rw [e]; exact hF, e.symm, by rw [hGθ _ (by omega) (by rw [e]; exact hF), e]⟩
        · rintro ⟨u, hu, hF, rfl, rfl⟩
          exact ⟨by omega, hF, hGθ u hu hF⟩
      · obtain ⟨s1, s2⟩ := hboth L hL h
        unfold allFormed
        rw [List.all_eq_true]
        rintro ⟨v, t⟩ hm
        obtain ⟨hv, hF, rfl⟩ := (uni_list hg hL s1 s2 v t).1 hm
        have e : ((v.toNat : Nat) : Int) = v := Int.toNat_of_nonneg hv.1
        have := hform v.toNat (by omega) (by rw [e]; exact hF)
        rw [hGθ _ (by omega) (by rw [e]; exact hF), e] at this
        exact this

end Go.Proofs.YthlegfegkopdkaaGreat
