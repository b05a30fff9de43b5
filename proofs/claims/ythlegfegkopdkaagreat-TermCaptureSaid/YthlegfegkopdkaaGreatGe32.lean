/- Own text, joined of: X7 X10. TermCapture, of arguments that lie in memory. · TermGeneral, of arguments that lie in memory: the walk. -/
import Derived.Deep.CutRange
import Derived.Laws.MakeOwn
import Derived.Test.YthlegfegkopdkaaGreatGe30
import Derived.Test.YthlegfegkopdkaaGreatGe31

namespace Go.Proofs.YthlegfegkopdkaaGreat
open Go.RowKit Go.Shelf Go.Sort

theorem small1c (s : Sg) (d : DT) (n₀ : Nat) (w : World) (ac : Option Addr) (lc cc : Nat) (af : Option Addr) (lf cf : Nat) (hs : IsSg n₀ w s ac lc cc af lf cf) (h1 : Lies n₀ w d) (hn : n₀ ≤ w.heap.size) :
    Calls Tryz.prog 11 #[.agg #[.slice ac lc cc, .slice af lf cf], .slice (some ⟨w.heap.size, 0, none⟩) 1 1] (w.alloc (.cells #[.int .i64 d.op, .int .i64 d.n, .slice d.a d.l d.c] 28))
      fun e w' => e = .returned (.bool (smallDs [d] && smallB s)) ∧ Below w.heap.size w w' := by
  have hb := bal w (.cells #[.int .i64 d.op, .int .i64 d.n, .slice d.a d.l d.c] 28)
  refine (small_any s [d] (w.heap.size + 1) _ ac lc cc af lf cf w.heap.size 0 1 ((hs.below (hb.mono hn)).wider (by omega)) (one_lies' h1 hn) (by omega) ⟨by simp, by omega⟩ (by simp)).mono ?_
  rintro e w' ⟨he, h⟩
  exact ⟨he, hb.trans (h.mono (by simp))⟩
theorem given1c (s : Sg) (d : DT) (n₀ : Nat) (w : World) (ac : Option Addr) (lc cc : Nat) (af : Option Addr) (lf cf : Nat) (hs : IsSg n₀ w s ac lc cc af lf cf) (h1 : Lies n₀ w d) (hn : n₀ ≤ w.heap.size) :
    Calls Tryz.prog 19 #[.agg #[.slice ac lc cc, .slice af lf cf], .slice (some ⟨w.heap.size, 0, none⟩) 1 1] (w.alloc (.cells #[.int .i64 d.op, .int .i64 d.n, .slice d.a d.l d.c] 28))
      fun e w' => e = .returned (.bool (checkB s [d])) ∧ Below w.heap.size w w' := by
  have hb := bal w (.cells #[.int .i64 d.op, .int .i64 d.n, .slice d.a d.l d.c] 28)
  refine (given_any s [d] (w.heap.size + 1) _ ac lc cc af lf cf w.heap.size 0 1 ((hs.below (hb.mono hn)).wider (by omega)) (one_lies' h1 hn) (by omega) ⟨by simp, by omega⟩ (by simp)).mono ?_
  rintro e w' ⟨he, h⟩
  exact ⟨by rw [he]; rfl, hb.trans (h.mono (by simp))⟩
theorem check_pairc (s : Sg) (d x : DT) : checkB s [d, x] = (checkB s [d] && checkB s [x]) := by
  unfold checkB
  simp only [List.all_cons, List.all_nil, Bool.and_true]
  cases sigB s <;> cases formedB s d.tm <;> cases formedB s x.tm <;> rfl
theorem Fresh.none_c {w w' : World} {op n : Int} {a : Option Addr} {l c : Nat} (h : Fresh w w' (.mk op n []) a l c) : l = 0 := by
  obtain ⟨h1, -⟩ := h.is.open
  exact h1
theorem Fresh.leafc (w w' : World) (op n : Int) : Fresh w w' (.mk op n []) none 0 0 := by
  simp only [Fresh, TmP]; exact ⟨rfl, by omega, by omega, .inl trivial⟩
mutual
theorem deepOk_mono : ∀ (t : Tm) (r r' : Int), r ≤ r' → deepOk t r = true → deepOk t r' = true
  | .mk _ _ ks, r, r', h, hd => by
    rw [deepOk] at hd ⊢
    simp only [Bool.and_eq_true, decide_eq_true_eq] at hd ⊢
    exact ⟨by omega, deepOks_mono ks (r - 1) (r' - 1) (by omega) hd.2⟩
theorem deepOks_mono : ∀ (ks : List Tm) (r r' : Int), r ≤ r' → deepOks ks r = true → deepOks ks r' = true
  | [], _, _, _, _ => by rw [deepOks]
  | t :: ts, r, r', h, hd => by
    rw [deepOks] at hd ⊢
    simp only [Bool.and_eq_true] at hd ⊢
    exact ⟨deepOk_mono t r r' h hd.1, deepOks_mono ts r r' h hd.2⟩
end
theorem owns_intsC {w : World} {base : Nat} {v : Value} {l : List Nat} (h : w.ownsRow base 3 1 v l.length (natVals l)) :
    ∃ av cv, v = .slice av l.length cv ∧ l.length ≤ cv ∧ cv ≤ maxLen ∧ Hid ((l = [] ∧ av = none ∧ cv = 0) ∨ ∃ g, av = some ⟨g, 0, none⟩ ∧ base ≤ g ∧ g < w.heap.size ∧ ∀ j (hj : j < l.length), w.cell? ⟨g, j, none⟩ = some (.int .i64 l[j])) := by
  rcases h.2 with ⟨h1, h2⟩ | ⟨g, cap, cur, h1, h2, h3, h4, h5, h6, h7⟩
  · obtain rfl := List.length_eq_zero_iff.1 h2
    exact ⟨none, 0, h1, by simp, by simp, Lib.hid (.inl ⟨rfl, rfl, rfl⟩)⟩
  · subst h1
    refine ⟨_, cap, rfl, h4, h5, Lib.hid (.inr ⟨g, rfl, h2, (h.lt g rfl).2, fun j hj => ?_⟩)⟩
    rw [h.cellAt j (by omega)]
    simp [natVals, hj]
def intsC (l : List Nat) : List Int := l.map fun (x : Nat) => (x : Int)
theorem row_intsC {w : World} {base : Nat} {v : Value} {l : List Nat} (h : w.ownsRow base 3 1 v l.length (natVals l)) : ∃ av cv, v = .slice av l.length cv ∧ IsInts w.heap.size w (intsC l) av l.length cv ∧ ∀ p, av = some p → base ≤ p.block := by
  obtain ⟨av, cv, h1, h2, h3, h4⟩ := owns_intsC h
  refine ⟨av, cv, h1, ⟨by simp [intsC], h2, by unfold maxLen at h3; omega, ?_⟩, fun p hp => ?_⟩
  rotate_left
  · rcases h4.out with ⟨_, h5, _⟩ | ⟨g, h5, h6, _⟩
    · rw [h5] at hp; cases hp
    · rw [h5] at hp; cases hp; exact h6
  rcases h4.out with ⟨h5, _⟩ | ⟨g, h5, h6, h7, h8⟩
  · left; rw [h5]; rfl
  · refine .inr ⟨g, 0, h5, h7, fun k hk => ?_⟩
    rw [Nat.zero_add, h8 k (by simpa [intsC] using hk)]
    simp [intsC]
/-- The cells of a row of numbers. -/
theorem intsC_at {n : Nat} {w : World} {l : List Nat} {a : Option Addr} {len c : Nat} (h : IsInts n w (intsC l) a len c) {k : Nat} (hk : k < l.length) : ∃ b off, a = some ⟨b, off, none⟩ ∧ b < n ∧ w.cell? ⟨b, off + k, none⟩ = some (.int .i64 (l[k] : Nat)) := by
  obtain ⟨-, -, -, h4⟩ := h
  rcases h4 with h4 | ⟨b, off, ha, hb, hc⟩
  · have := congrArg List.length h4; simp [intsC] at this; subst this; simp at hk
  · have := hc k (by simpa [intsC] using hk)
    exact ⟨b, off, ha, hb, by simpa [intsC] using this⟩
theorem formed_small {s : Sg} {t : Tm} (h : formedB s t = true) : decide (0 ≤ weigh t 50 14) = true := by
  unfold formedB at h
  rw [Bool.and_eq_true] at h
  have h1 := (weigh_iff t 40 12 (by omega)).1.1 (by simpa using h.1)
  exact decide_eq_true ((weigh_iff t 50 14 (by omega)).1.2 ⟨by omega, deepOk_mono _ _ _ (by omega) h1.2⟩)

theorem inf4C : (Tryz.prog.info? 4).map (fun i => (i.zero, i.size, i.bytes)) = some (some (.bool false), 1, 1) := by kernel_rfl
theorem und67C : Tryz.prog.underlying 67 = some (.slice 4) := by kernel_rfl
theorem BRow.stays {base : Nat} {w w' : World} {L : List (Int × Tm)} {va : Option Addr} {vl vc : Nat} (h : BRow base w L va vl vc) (hs : ∀ g, base ≤ g → g < w.heap.size → w'.heap[g]? = w.heap[g]?) : BRow base w' L va vl vc := by
  obtain ⟨K, h1, h2, h3⟩ := h
  exact ⟨K, h1, own_stays h2 hs, fun x hx => TmP.move (fun b hb hlt => ⟨hb, hs b hb.1 hlt⟩) _ (h3 x hx)⟩
/-- Which variables are wanted, as a row in memory. -/
def WantAt (w : World) (q : Nat) (f : Nat → Bool) : Prop := w.heap[q]? = some (.cells (vs f) 4 (0, 0))
/-- What the law's calls answer, in every world behind the boxes. -/
structure CapAt (s : Sg) (d : DT) (L : List (Int × Tm)) (al : Option Addr) (ll cl : Nat) (ac : Option Addr) (lc cc : Nat) (af : Option Addr) (lf cf : Nat) (G : List Nat) (W0 : World) : Prop where
  k26 : ∀ W, Below W0.heap.size W0 W → ∃ Z E, ((E = 3 ∧ Z = .mk 0 0 []) ∨ (E = 0 ∧ formedB s Z = true ∧ ∀ u, u < 20 → fvT Z u = wantF L G u)) ∧ Calls Tryz.prog 26 #[.agg #[.slice ac lc cc, .slice af lf cf], .agg #[.int .i64 d.op, .int .i64 d.n, .slice d.a d.l d.c], .slice al ll cl] W (SubstEnd W (Z, E))
  k26o : ∀ W a l c, Below W0.heap.size W0 W → IsBinds W.heap.size W (G.map ownV) a l c → Calls Tryz.prog 26 #[.agg #[.slice ac lc cc, .slice af lf cf], .agg #[.int .i64 d.op, .int .i64 d.n, .slice d.a d.l d.c], .slice a l c] W (SubstEnd W (d.tm, 0))
  k17 : ∀ W, Below W0.heap.size W0 W → Calls Tryz.prog 17 #[.agg #[.slice ac lc cc, .slice af lf cf], .agg #[.int .i64 d.op, .int .i64 d.n, .slice d.a d.l d.c]] W fun e w' => ∃ v, e = .returned (.tuple #[v, .int .i64 0]) ∧ Hid (w'.ownsRow W.heap.size 3 1 v G.length (natVals G)) ∧ Below W.heap.size W w'
  k17z : ∀ Z, formedB s Z = true → ∀ W a l c, Below W0.heap.size W0 W → IsTm W.heap.size W Z a l c → Calls Tryz.prog 17 #[.agg #[.slice ac lc cc, .slice af lf cf], .agg #[.int .i64 Z.op, .int .i64 Z.n, .slice a l c]] W fun e w' => ∃ v, e = .returned (.tuple #[v, .int .i64 0]) ∧ Hid (w'.ownsRow W.heap.size 3 1 v (listTo (fvT Z) 20).length (natVals (listTo (fvT Z) 20))) ∧ Below W.heap.size W w'
  k30 : ∀ Z, formedB s Z = true → ∀ W a l c, Below W0.heap.size W0 W → IsTm W.heap.size W Z a l c → Calls Tryz.prog 30 #[.agg #[.slice ac lc cc, .slice af lf cf], .agg #[.int .i64 Z.op, .int .i64 Z.n, .slice a l c]] W fun e w' => e = .returned (.bool true) ∧ Below W.heap.size W w'
  k34 : ∀ W a l c, Below W0.heap.size W0 W → IsTm W.heap.size W d.tm a l c → Calls Tryz.prog 34 #[.agg #[.slice ac lc cc, .slice af lf cf], .agg #[.int .i64 d.tm.op, .int .i64 d.tm.n, .slice a l c], .agg #[.int .i64 d.op, .int .i64 d.n, .slice d.a d.l d.c]] W fun e w' => e = .returned (.tuple #[.bool true, .int .i64 0]) ∧ Below W.heap.size W w'

theorem cap_at {s : Sg} {d : DT} {L : List (Int × Tm)} {n₀ : Nat} {W0 : World} {al : Option Addr} {ll cl : Nat} {ac : Option Addr} {lc cc : Nat} {af : Option Addr} {lf cf : Nat} (hs : IsSg n₀ W0 s ac lc cc af lf cf) (h1 : Lies n₀ W0 d) (hB : IsBinds n₀ W0 L al ll cl) (hn : n₀ ≤ W0.heap.size) (hsm : smallT d.tm = true) (hc : checkB s [d] = true) (hlf : lfB s (-1) L = true) :
    CapAt s d L al ll cl ac lc cc af lf cf (listTo (fvT d.tm) 20) W0 := by
  have hlie : ∀ W, Below W0.heap.size W0 W → n₀ ≤ W.heap.size ∧ IsSg W.heap.size W s ac lc cc af lf cf ∧ Lies W.heap.size W d ∧ IsBinds n₀ W L al ll cl := fun W h => by
    have hb := h.mono hn
    have hz : n₀ ≤ W.heap.size := by have := h.size; omega
    exact ⟨hz, (hs.below hb).wider hz, (h1.below hb).wider hz, hB.below hb⟩
  have hO := OkV.checked hc (List.mem_singleton.2 rfl)
  have hsz := small_size hsm
  have hsg : sigB s = true ∧ formedB s d.tm = true := by
    have := hc
    unfold checkB at this
    simpa using this
  have hck : ∀ D : DT, formedB s D.tm = true → checkB s [D] = true ∧ 1 + D.size ≤ 1000000 := fun D h => by
    refine ⟨by unfold checkB; simp [hsg.1, h], ?_⟩
    have := formed_size h; rw [size_tm] at this; omega
  have hbz : ∀ bs : List PB, lfB s (-1) (pbs bs) = true → ∀ y ∈ bs, 1 + y.d.size ≤ 1000000 := fun bs hlf y hy => by
    obtain ⟨-, hall⟩ := lfB_all hlf (by omega) (by omega)
    have := formed_size (hall (y.v, y.d.tm) (List.mem_map.2 ⟨y, hy, rfl⟩)).2
    rw [size_tm] at this
    omega
  have hV : ∀ (D : DT) W, Below W0.heap.size W0 W → Lies W.heap.size W D → formedB s D.tm = true → Calls Tryz.prog 17 #[.agg #[.slice ac lc cc, .slice af lf cf], dv D] W fun e w' => ∃ v, e = .returned (.tuple #[v, .int .i64 0]) ∧ Hid (w'.ownsRow W.heap.size 3 1 v (listTo (fvT D.tm) 20).length (natVals (listTo (fvT D.tm) 20))) ∧ Below W.heap.size W w' := fun D W hW hD hf => by
    obtain ⟨q0, q1, q2, q3⟩ := hlie W hW
    obtain ⟨c1, c2⟩ := hck D hf
    refine (Vars_any s D W.heap.size W ac lc cc af lf cf c2 (Nat.le_refl _) q1 hD).mono ?_
    unfold varsL
    rw [c1, if_pos rfl]
    rintro e w' ⟨v, he, hr, -, hb⟩
    exact ⟨v, he, Lib.hid hr, hb⟩
  have hdv : ∀ (D : DT) (Z : Tm) (a : Option Addr) (l c : Nat), D.op = Z.op → D.n = Z.n → D.a = a → D.l = l → D.c = c → dv D = .agg #[.int .i64 Z.op, .int .i64 Z.n, .slice a l c] := fun D Z a l c e1 e2 e3 e4 e5 => by
    show Value.agg #[.int .i64 D.op, .int .i64 D.n, .slice D.a D.l D.c] = _
    rw [e1, e2, e3, e4, e5]
  refine ⟨fun W hW => ?_, fun W a l c hW hI => ?_, fun W hW => ?_, fun Z hZ W a l c hW hI => ?_, fun Z hZ W a l c hW hI => ?_, fun W a l c hW hI => ?_⟩
  · obtain ⟨q0, q1, q2, q3⟩ := hlie W hW
    obtain ⟨bs, hL, hp⟩ := q3.placed
    have hlf' : lfB s (-1) (pbs bs) = true := by rw [hp]; exact hlf
    cases hT : putF (bindK bs bs.length) (stK bs bs.length) d.size (fun _ => false) d.tm with
    | none => exact ⟨.mk 0 0 [], 3, .inl ⟨rfl, rfl⟩, Subst_gone s d bs d.size W.heap.size W ac lc cc af lf cf al ll cl hsz (hbz bs hlf') (Nat.le_refl _) q1 q2 (hL.wider q0) hc hlf' hT (Nat.le_refl _)⟩
    | some T =>
      have hS := Subst_any s d bs T W.heap.size W ac lc cc af lf cf al ll cl hsz (hbz bs hlf') (Nat.le_refl _) q1 q2 (hL.wider q0) (fun _ _ => ⟨_, hT⟩)
      unfold substA at hS
      rw [if_pos hc, if_pos hlf'] at hS
      cases hf : formedB s T with
      | true => rw [hf, if_pos rfl] at hS; exact ⟨T, 0, .inr ⟨rfl, hf, capture hp hlf hO hT⟩, hS⟩
      | false => rw [hf, if_neg (by simp)] at hS; exact ⟨.mk 0 0 [], 3, .inl ⟨rfl, rfl⟩, hS⟩
  · obtain ⟨q0, q1, q2, q3⟩ := hlie W hW
    obtain ⟨bs, hL, hp⟩ := hI.placed
    have hlf' : lfB s (-1) (pbs bs) = true := by
      rw [hp]
      exact own_lf s _ _ (fun v _ => by omega) (listTo_pair _ _) (fun v hv => (listTo_mem hv).1)
    have hS := Subst_any s d bs d.tm W.heap.size W ac lc cc af lf cf a l c hsz (hbz bs hlf') (Nat.le_refl _) q1 q2 hL (fun _ _ => ⟨d.size, own_all hp hO (by rw [size_tm]; exact Nat.le_refl _)⟩)
    unfold substA at hS
    rw [if_pos hc, if_pos hlf', if_pos hsg.2] at hS
    exact hS
  · obtain ⟨q0, q1, q2, q3⟩ := hlie W hW
    exact hV d W hW q2 hsg.2
  · obtain ⟨D, D1, D2, D3, D4, D5, D6, D7⟩ := hI.placed
    have := hV D W hW D1 (by rw [D2]; exact hZ)
    rw [D2, hdv D Z a l c D3 D4 D5 D6 D7] at this
    exact this
  · obtain ⟨q0, q1, q2, q3⟩ := hlie W hW
    have := Term_any s Z W.heap.size W ac lc cc af lf cf a l c q1 hI (Nat.le_refl _)
    rw [hZ] at this
    exact this
  · obtain ⟨q0, q1, q2, q3⟩ := hlie W hW
    obtain ⟨D, D1, D2, D3, D4, D5, D6, D7⟩ := hI.placed
    have hfD : formedB s D.tm = true := by rw [D2]; exact hsg.2
    have := Variant_any s D d W.heap.size W ac lc cc af lf cf (hck D hfD).2 hsz (Nat.le_refl _) q1 D1 q2
    unfold variantA at this
    rw [check_pairc, (hck D hfD).1, hc, D2, sameB_refl, hdv D d.tm a l c D3 D4 D5 D6 D7] at this
    exact this

set_option maxRecDepth 100000 in
set_option maxHeartbeats 16000000 in
theorem TermCapture_any (s : Sg) (d : DT) (L : List (Int × Tm)) (n₀ : Nat) (w : World) (ac : Option Addr) (lc cc : Nat) (af : Option Addr) (lf cf : Nat) (al : Option Addr) (ll cl : Nat) (hs : IsSg n₀ w s ac lc cc af lf cf) (h1 : Lies n₀ w d) (hBi : IsBinds n₀ w L al ll cl) (hn : n₀ ≤ w.heap.size) :
    Calls Tryz.prog 7 #[.agg #[.slice ac lc cc, .slice af lf cf], .agg #[.int .i64 d.op, .int .i64 d.n, .slice d.a d.l d.c], .slice al ll cl] w
      fun e w' => e = .returned (.bool true) ∧ Below w.heap.size w w' := by
  obtain ⟨wa, hwa⟩ : ∃ W, W = bs1 w ac lc cc af lf cf := ⟨_, rfl⟩
  obtain ⟨W0, hW0⟩ : ∃ W, W = bt1 wa d := ⟨_, rfl⟩
  have hza : wa.heap.size = w.heap.size + 1 := by rw [hwa]; simp
  have hz0 : W0.heap.size = w.heap.size + 1 + 1 := by rw [hW0]; simp [hza]
  have ba : Below w.heap.size w wa := by rw [hwa]; exact bal _ _
  have bd : Below wa.heap.size wa W0 := by rw [hW0]; exact bal _ _
  have hB0 : Below w.heap.size w W0 := Below.up ba bd
  have hcells : Hid (∀ W, Below W0.heap.size W0 W → (W.cell? ⟨w.heap.size, 0, none⟩ = some (.slice ac lc cc) ∧ W.cell? ⟨w.heap.size, 1, none⟩ = some (.slice af lf cf)) ∧ (W.cell? ⟨w.heap.size + 1, 0, none⟩ = some (.int .i64 d.op) ∧ W.cell? ⟨w.heap.size + 1, 1, none⟩ = some (.int .i64 d.n) ∧ W.cell? ⟨w.heap.size + 1, 2, none⟩ = some (.slice d.a d.l d.c))) := Lib.hid (fun W h => by
    have e0 := box_s hwa (Nat.le_refl _) (Below.up bd h)
    have e1 := box_t hW0 (Nat.le_refl _) h
    rw [hza] at e1
    exact ⟨e0, e1⟩)
  have hlie : Hid (∀ W, Below W0.heap.size W0 W → n₀ ≤ W.heap.size ∧ IsSg n₀ W s ac lc cc af lf cf ∧ Lies n₀ W d ∧ IsBinds n₀ W L al ll cl) := Lib.hid (fun W h => by
    have hb := (Below.up hB0 h).mono hn
    exact ⟨by have := h.size; omega, hs.below hb, h1.below hb, hBi.below hb⟩)
  have hG : Calls Tryz.prog 11 #[.agg #[.slice ac lc cc, .slice af lf cf], .slice (some ⟨W0.heap.size, 0, none⟩) 1 1] (W0.alloc (.cells #[.int .i64 d.op, .int .i64 d.n, .slice d.a d.l d.c] 28))
      fun e w' => e = .returned (.bool (smallDs [d] && smallB s)) ∧ Below W0.heap.size W0 w' := by
    obtain ⟨q0, q1, q2, q3⟩ := hlie.out W0 (Below.refl _ _)
    exact small1c s d n₀ W0 ac lc cc af lf cf q1 q2 q0
  have hb0 : Hid (∀ W, Below (w.heap.size + 1 + 1) (bt1 (bs1 w ac lc cc af lf cf) d) W → Below W0.heap.size W0 W) := Lib.hid (fun W h => by rw [hz0, hW0, hwa]; exact h)
  rw [hz0, hW0, hwa] at hG
  have hKn := fun W => known_any W
  replace hKn := Lib.hid hKn
  have hsm : Hid ((smallDs [d] && smallB s) = true → smallT d.tm = true) := Lib.hid (fun h => by
    simp only [smallDs, List.all_cons, List.all_nil, Bool.and_true, Bool.and_eq_true] at h
    exact h.1)
  obtain ⟨g, hg⟩ : ∃ g, g = (smallDs [d] && smallB s) := ⟨_, rfl⟩
  rw [← hg] at hG hsm
  have h19 : Hid (∀ W, Below W0.heap.size W0 W → Calls Tryz.prog 19 #[.agg #[.slice ac lc cc, .slice af lf cf], .slice (some ⟨W.heap.size, 0, none⟩) 1 1] (W.alloc (.cells #[.int .i64 d.op, .int .i64 d.n, .slice d.a d.l d.c] 28)) fun e w' => e = .returned (.bool (checkB s [d])) ∧ Below W.heap.size W w') := Lib.hid (fun W hW => by
    obtain ⟨q0, q1, q2, q3⟩ := hlie.out W hW
    exact given1c s d n₀ W ac lc cc af lf cf q1 q2 q0)
  have h25 : Hid (∀ W, Below W0.heap.size W0 W → Calls Tryz.prog 25 #[.slice al ll cl] W fun e w' => e = .returned (.bool (smallBs L)) ∧ Below W.heap.size W w') := Lib.hid (fun W hW => by
    obtain ⟨q0, q1, q2, q3⟩ := hlie.out W hW
    exact SmallBinds_any L n₀ W al ll cl q3 q0)
  have h27 : Hid (∀ W, Below W0.heap.size W0 W → Calls Tryz.prog 27 #[.agg #[.slice ac lc cc, .slice af lf cf], .slice al ll cl] W fun e w' => ∃ b, e = .returned (.bool b) ∧ (b = true → lfB s (-1) L = true) ∧ Below W.heap.size W w') := Lib.hid (fun W hW => by
    obtain ⟨q0, q1, q2, q3⟩ := hlie.out W hW
    exact Binds_any s L n₀ W ac lc cc af lf cf al ll cl q1 q3 q0)
  have hAt : Hid (smallT d.tm = true → checkB s [d] = true → lfB s (-1) L = true → CapAt s d L al ll cl ac lc cc af lf cf (listTo (fvT d.tm) 20) W0 ∧ ∀ k (h : k < L.length), formedB s L[k].2 = true) := Lib.hid (fun e1 hc hlf => by
    obtain ⟨q0, q1, q2, q3⟩ := hlie.out W0 (Below.refl _ _)
    obtain ⟨-, hall⟩ := lfB_all hlf (by omega) (by omega)
    exact ⟨cap_at q1 q2 q3 q0 e1 hc hlf, fun k h => (hall _ (List.getElem_mem h)).2⟩)
  obtain ⟨G, hGe⟩ : ∃ T, T = listTo (fvT d.tm) 20 := ⟨_, rfl⟩
  obtain ⟨c, hc⟩ : ∃ T, T = checkB s [d] := ⟨_, rfl⟩
  obtain ⟨b25, hb25⟩ : ∃ T, T = smallBs L := ⟨_, rfl⟩
  rw [← hc] at h19
  rw [← hb25] at h25
  rw [← hc, ← hGe] at hAt
  have hG20 : Hid (G.length ≤ 20 ∧ ∀ v ∈ G, v < 20) := Lib.hid (by rw [hGe]; exact ⟨listTo_len _ _, fun v hv => (listTo_mem hv).1⟩)
  obtain ⟨rfl, hl1, hl2, hka⟩ := hBi
  clear hc hb25 hGe
  replace hG := Lib.hid hG
  replace hB0 := Lib.hid hB0
  replace hz0 := Lib.hid hz0
  clear hs h1 ba bd hW0 hza hwa hg
  obtain ⟨i0, hi, hi0, hi1, hi2⟩ := info_parts inf70
  go_enter Tryz.func7, Tryz.ntmps7
  go_upto_region 99 with fail
  refine (hG.out).mono ?_
  rintro e w1 ⟨rfl, hbe⟩
  replace hbe := Lib.hid (hb0.out _ hbe)
  clear hG
  cases g
  · go_wp2_with (go_at_call 12; refine (hKn.out _).mono ?_; rintro e w2 ⟨rfl, hbe2⟩)
    go_ret
    exact ⟨rfl, Below.up hB0.out (Below.up hbe.out hbe2)⟩
  have sm1 := hsm.out rfl
  replace hAt := Lib.hid (hAt.out sm1)
  clear hsm sm1 hb0

  obtain ⟨⟨s0, s1⟩, ⟨p0, p1, p2⟩⟩ := hcells.out _ hbe.out
  have hC := h25.out _ hbe.out
  replace hC := Lib.hid hC
  go_upto_region 99 with fail
  refine (hC.out).mono ?_
  rintro e wm ⟨rfl, hbe2⟩
  clear hC s0 s1 p0 p1 p2
  replace hbe := Lib.hid (Below.up hbe.out hbe2)
  clear hbe2
  obtain ⟨wn, hwn⟩ : ∃ W, W = wm := ⟨_, rfl⟩
  rw [← hwn] at hbe ⊢
  clear hwn
  cases b25
  · go_wp2_with (go_at_call 12; refine (hKn.out _).mono ?_; rintro e wl ⟨rfl, hbe2⟩)
    go_ret
    exact ⟨rfl, Below.up hB0.out (Below.up hbe.out hbe2)⟩
  clear h25
  cases c
  · obtain ⟨⟨s0, s1⟩, ⟨p0, p1, p2⟩⟩ := hcells.out _ hbe.out
    have hC := h19.out _ hbe.out
    replace hC := Lib.hid hC
    go_upto_region 99 with fail
    refine (hC.out).mono ?_
    rintro e wm ⟨rfl, hbe2⟩
    clear hC s0 s1 p0 p1 p2
    replace hbe := Lib.hid (Below.up hbe.out hbe2)
    clear hbe2
    obtain ⟨wn, hwn⟩ : ∃ W, W = wm := ⟨_, rfl⟩
    rw [← hwn] at hbe ⊢
    clear hwn
    go_wp2_with (go_at_call 12; refine (hKn.out _).mono ?_; rintro e wl ⟨rfl, hbe2⟩)
    go_ret
    exact ⟨rfl, Below.up hB0.out (Below.up hbe.out hbe2)⟩
  replace hAt := Lib.hid (hAt.out rfl)
  obtain ⟨⟨s0, s1⟩, ⟨p0, p1, p2⟩⟩ := hcells.out _ hbe.out
  have hC := h19.out _ hbe.out
  replace hC := Lib.hid hC
  go_upto_region 99 with fail
  refine (hC.out).mono ?_
  rintro e wm ⟨rfl, hbe2⟩
  clear hC s0 s1 p0 p1 p2
  replace hbe := Lib.hid (Below.up hbe.out hbe2)
  clear hbe2
  obtain ⟨wn, hwn⟩ : ∃ W, W = wm := ⟨_, rfl⟩
  rw [← hwn] at hbe ⊢
  clear hwn
  clear h19
  obtain ⟨⟨s0, s1⟩, ⟨p0, p1, p2⟩⟩ := hcells.out _ hbe.out
  have hC := h27.out _ hbe.out
  replace hC := Lib.hid hC
  go_upto_region 99 with fail
  refine (hC.out).mono ?_
  rintro e wm ⟨b27, rfl, hbt, hbe2⟩
  clear hC s0 s1 p0 p1 p2
  replace hbe := Lib.hid (Below.up hbe.out hbe2)
  clear hbe2
  obtain ⟨wn, hwn⟩ : ∃ W, W = wm := ⟨_, rfl⟩
  rw [← hwn] at hbe ⊢
  clear hwn
  clear h27
  cases b27
  · go_wp2_with (go_at_call 12; refine (hKn.out _).mono ?_; rintro e wl ⟨rfl, hbe2⟩)
    go_ret
    exact ⟨rfl, Below.up hB0.out (Below.up hbe.out hbe2)⟩
  obtain ⟨hV, hLf⟩ := hAt.out (hbt rfl)
  replace hV := Lib.hid hV
  replace hLf := Lib.hid hLf
  clear hAt hbt
  obtain ⟨Z, E, hE, hS⟩ := hV.out.k26 _ hbe.out
  unfold SubstEnd at hS
  simp only at hS
  replace hS := Lib.hid hS
  obtain ⟨rfl, rfl⟩ | ⟨rfl, hZf, hZv⟩ := hE
  · simp only [Tm.op, Tm.n] at hS
    obtain ⟨⟨s0, s1⟩, ⟨p0, p1, p2⟩⟩ := hcells.out _ hbe.out
    have hC := hS.out
    replace hC := Lib.hid hC
    go_upto_region 99 with fail
    refine (hC.out).mono ?_
    rintro e wm ⟨a3, l3, k3, rfl, -, hbe2⟩
    clear hC s0 s1 p0 p1 p2
    replace hbe := Lib.hid (Below.up hbe.out hbe2)
    clear hbe2
    go_wp2_with (go_at_call 12; refine (hKn.out _).mono ?_; rintro e wl ⟨rfl, hbe2⟩)
    go_ret
    exact ⟨rfl, Below.up hB0.out (Below.up hbe.out (Below.up (bal _ _) hbe2))⟩
  replace hZf := Lib.hid hZf
  replace hZv := Lib.hid hZv
  have hZs := Lib.hid (formed_small hZf.out)
  obtain ⟨⟨s0, s1⟩, ⟨p0, p1, p2⟩⟩ := hcells.out _ hbe.out
  have hC := hS.out
  replace hC := Lib.hid hC
  go_upto_region 99 with fail
  refine (hC.out).mono ?_
  rintro e wm ⟨a3, l3, k3, rfl, hF3, hbe2⟩
  clear hC s0 s1 p0 p1 p2
  have t3 := hF3.is
  clear hF3
  replace hbe := Lib.hid (Below.up hbe.out hbe2)
  clear hbe2
  clear hS
  obtain ⟨w7, hwz⟩ : ∃ W, W = wm.alloc (.cells #[.int .i64 Z.op, .int .i64 Z.n, .slice a3 l3 k3] 28) := ⟨_, rfl⟩
  have st : Below wm.heap.size wm w7 := by rw [hwz]; exact bal _ _
  obtain ⟨Bz, hBz⟩ : ∃ n, n = wm.heap.size := ⟨_, rfl⟩
  have cz : Hid (w7.heap[Bz]? = some (.cells #[.int .i64 Z.op, .int .i64 Z.n, .slice a3 l3 k3] 28 (0, 0))) := Lib.hid (by rw [hwz, hBz]; exact heap_new'' _ _)
  replace t3 := Lib.hid (IsTm.wider st.size _ (IsTm.below st _ t3))
  replace hbe := Lib.hid (Below.up hbe.out st)
  clear st
  replace hwz := Lib.hid hwz
  replace hBz := Lib.hid hBz
  obtain ⟨⟨s0, s1⟩, ⟨p0, p1, p2⟩⟩ := hcells.out _ hbe.out
  obtain ⟨⟨zz0, zz1, zz2⟩, -⟩ := c3_cells cz.out
  have hC := Small_any Z w7.heap.size w7 a3 l3 k3 t3.out (Nat.le_refl _)
  rw [hZs.out] at hC
  rw [hwz.out] at hC s0 s1 p0 p1 p2 zz0 zz1 zz2
  replace hC := Lib.hid hC
  go_upto_region 99 with fail
  refine (hC.out).mono ?_
  rintro e wk ⟨rfl, hbe2⟩
  clear hC s0 s1 p0 p1 p2 zz0 zz1 zz2
  rw [← hwz.out] at hbe2
  rw [← hBz.out]
  replace cz := Lib.hid ((hbe2.block _ (Array.getElem?_eq_some_iff.1 cz.out).1).trans cz.out)
  replace t3 := Lib.hid (IsTm.wider hbe2.size _ (IsTm.below hbe2 _ t3.out))
  replace hbe := Lib.hid (Below.up hbe.out hbe2)
  clear hbe2 hwz hBz
  obtain ⟨wm, hnm⟩ : ∃ W, W = wk := ⟨_, rfl⟩
  rw [← hnm] at hbe cz t3 ⊢
  clear hnm
  obtain ⟨⟨s0, s1⟩, ⟨p0, p1, p2⟩⟩ := hcells.out _ hbe.out
  obtain ⟨⟨zz0, zz1, zz2⟩, -⟩ := c3_cells cz.out
  have hC := hV.out.k30 Z hZf.out wm a3 l3 k3 hbe.out t3.out
  replace hC := Lib.hid hC
  go_upto_region 99 with fail
  refine (hC.out).mono ?_
  rintro e wm ⟨rfl, hbe2⟩
  clear hC s0 s1 p0 p1 p2 zz0 zz1 zz2
  replace cz := Lib.hid ((hbe2.block _ (Array.getElem?_eq_some_iff.1 cz.out).1).trans cz.out)
  replace t3 := Lib.hid (IsTm.wider hbe2.size _ (IsTm.below hbe2 _ t3.out))
  replace hbe := Lib.hid (Below.up hbe.out hbe2)
  clear hbe2
  obtain ⟨⟨s0, s1⟩, ⟨p0, p1, p2⟩⟩ := hcells.out _ hbe.out
  obtain ⟨⟨zz0, zz1, zz2⟩, -⟩ := c3_cells cz.out
  have hC := hV.out.k17 wm hbe.out
  replace hC := Lib.hid hC
  go_upto_region 99 with fail
  refine (hC.out).mono ?_
  rintro e wm ⟨v1, rfl, hr1, hbe2⟩
  clear hC s0 s1 p0 p1 p2 zz0 zz1 zz2
  have hr1' := Lib.hid (row_intsC hr1.out)
  clear hr1
  replace cz := Lib.hid ((hbe2.block _ (Array.getElem?_eq_some_iff.1 cz.out).1).trans cz.out)
  replace t3 := Lib.hid (IsTm.wider hbe2.size _ (IsTm.below hbe2 _ t3.out))
  replace hbe := Lib.hid (Below.up hbe.out hbe2)
  clear hbe2
  obtain ⟨av, cv, rfl, hI1, -⟩ := hr1'.out
  clear hr1'
  obtain ⟨wa1, hwa1⟩ : ∃ W, W = wm := ⟨_, rfl⟩
  have hsa : Hid (Below wa1.heap.size wa1 wm) := Lib.hid (by rw [hwa1]; exact Below.refl _ _)
  rw [← hwa1] at hI1
  replace hI1 := Lib.hid hI1
  clear hwa1
  obtain ⟨⟨s0, s1⟩, ⟨p0, p1, p2⟩⟩ := hcells.out _ hbe.out
  obtain ⟨⟨zz0, zz1, zz2⟩, -⟩ := c3_cells cz.out
  have hC := hV.out.k17z Z hZf.out wm a3 l3 k3 hbe.out t3.out
  replace hC := Lib.hid hC
  go_upto_region 99 with fail
  refine (hC.out).mono ?_
  rintro e wm ⟨v2, rfl, hr2, hbe2⟩
  clear hC s0 s1 p0 p1 p2 zz0 zz1 zz2
  have hr2' := Lib.hid (row_intsC hr2.out)
  clear hr2
  replace hsa := Lib.hid (Below.up hsa.out hbe2)
  replace cz := Lib.hid ((hbe2.block _ (Array.getElem?_eq_some_iff.1 cz.out).1).trans cz.out)
  replace t3 := Lib.hid (IsTm.wider hbe2.size _ (IsTm.below hbe2 _ t3.out))
  replace hbe := Lib.hid (Below.up hbe.out hbe2)
  clear hbe2
  obtain ⟨av2, cv2, rfl, hI2, -⟩ := hr2'.out
  clear hr2' cz t3
  obtain ⟨w9, hw9⟩ : ∃ W, W = wm := ⟨_, rfl⟩
  rw [← hw9] at hbe hsa hI2 ⊢
  clear hw9
  replace hI1 := Lib.hid (IsInts.below hsa.out hI1.out)
  have hz1 := hsa.out.size
  replace hI2 := Lib.hid hI2
  clear hsa
  obtain ⟨H, hH⟩ : ∃ H, H = listTo (fvT Z) 20 := ⟨_, rfl⟩
  rw [← hH] at hI2 ⊢
  replace hH := Lib.hid hH
  have hlG := hG20.out.1
  have hlG' : (G.length : Int) ≤ 20 := by omega
  have o1 : ¬ (20 : Int) < (G.length : Int) := by omega
  obtain ⟨q, hq⟩ : ∃ q, q = w9.heap.size := ⟨_, rfl⟩
  have hmk : ∀ W, (Instr.makeSlice 67 (.int .i64 20) (.int .i64 20)).run Tryz.prog W = .ok (.slice (some ⟨W.heap.size, 0, none⟩) 20 20) (W.alloc (.cells (vs (fun _ => false)) 4)) := fun W => by
    obtain ⟨i4, h4, z0, z1, z2⟩ := info_parts inf4C
    have := run_makeSlice (P := Tryz.prog) W 67 4 i4 (.bool false) und67C h4 z0 .i64 .i64 20 20 (by omega) (by omega) (by rw [z1]; decide) (by rw [z2]; decide) (by omega)
    rw [z1] at this
    have e : madeCells (Value.bool false).cells (Int.toNat 20 * 1) = vs (fun _ => false) := by rw [vs_none]; kernel_rfl
    have e2 : Int.toNat 20 = 20 := by decide
    rw [e, e2] at this
    exact this
  replace hq := Lib.hid hq
  go_wp2_with fail
  clear hmk
  have hBA := Lib.hid (bal w9 (.cells (vs (fun _ => false)) 4))
  have hWA : Hid (WantAt (w9.alloc (.cells (vs (fun _ => false)) 4)) q (wantF L (G.take 0))) := Lib.hid (by
    unfold WantAt
    rw [hq.out, heap_new'' _ _, show wantF L (G.take 0) = fun _ => false from funext (fun u => by simp [wantF])])
  rw [← hq.out]
  go_loopw [14, 15] (fun v i wr => ∃ k va vl vc, k ≤ G.length ∧ i = .int .i64 (k : Nat) ∧ v = .slice va vl vc ∧ Hid (BRow (q + 1) wr ((G.take k).map ownV) va vl vc) ∧ Hid (WantAt wr q (wantF L (G.take k))) ∧ Hid (Below w9.heap.size w9 wr)) (fun _ i _ => G.length - (intOf i).toNat)
  case atStart => exact ⟨0, none, 0, 0, by omega, rfl, rfl, Lib.hid (by simpa using BRow.nil (q + 1) _), hWA, hBA⟩
  case round =>
    obtain ⟨k, va, vl, vc, hk, rfl, rfl, hBR, hWa, hb⟩ := hrel
    clear hWA hBA
    have hz := hb.out.size
    have hqw : q < wr.heap.size := (Array.getElem?_eq_some_iff.1 hWa.out).1
    by_cases hlt : k < G.length
    · obtain ⟨n, hnG⟩ : ∃ n, n = G[k] := ⟨_, rfl⟩
      have hn20 : n < 20 := by rw [hnG]; exact hG20.out.2 _ (List.getElem_mem hlt)
      have hT1 : Hid (G.take (k + 1) = G.take k ++ [n]) := Lib.hid (by rw [hnG, List.take_succ_eq_append_getElem hlt])
      obtain ⟨bb, oo, rfl, hbb, hcc⟩ := intsC_at hI1.out hlt
      rw [← hnG] at hcc
      replace hcc := (hb.out.cell (p := ⟨bb, oo + k, none⟩) (show bb < w9.heap.size by omega)).trans hcc
      replace hnG := Lib.hid hnG
      have o2 : (k : Int) < (G.length : Int) := by omega
      have o3 : ¬ (n : Int) < 0 := by omega
      have o4 : ¬ (20 : Int) ≤ (n : Int) := by omega
      have hC := Lib.hid (v_mk (n : Int) wr)
      have hlen : Hid (((G.take k).map ownV).length = k) := Lib.hid (by simp; omega)
      have hle : ((G.take k).map ownV).length ≤ k := by rw [hlen.out]; exact Nat.le_refl _
      obtain ⟨K, g1, g2, g3⟩ := hBR.out
      clear hBR
      replace g1 := Lib.hid g1
      replace g2 := Lib.hid g2
      replace g3 := Lib.hid g3
      go_upto_region 99 with fail
      refine (hC.out).mono ?_
      rintro e w2 ⟨rfl, hT⟩
      have hzT := hT.size
      have hA : Hid (∀ j, j < wr.heap.size → w2.heap[j]? = wr.heap[j]?) := Lib.hid (fun j hj => hT.block j hj)
      have g2' := Lib.hid (own_stays (w' := w2) g2.out (fun g _ hg => hA.out g hg))
      have hb2 := Lib.hid (Below.up hb.out hT)
      have hWa2 := Lib.hid ((hT.block q hqw).trans hWa.out)
      replace hT := Lib.hid hT
      clear hC hcc hWa
      go_upto_region 21 with (first
        | (at_builtin; refine wpList_append_lies _ rfl _ _ 46 rfl (q + 1) 70 i0 _ 4 48 und46 hi hi0 hi1 hi2 rfl (by omega) (.slice va vl vc) ((G.take k).map ownV).length (flatB K) rfl (g2'.out.alloc _)
            ⟨w2.heap.size, 0, none⟩ 1 1 [.int .i64 (n : Int), .int .i64 1, .int .i64 (n : Int), .slice none 0 0] rfl rfl (World.news_of_block (cs := #[.int .i64 (n : Int), .int .i64 1, .int .i64 (n : Int), .slice none 0 0]) (t := 70) (fr := (0, 0)) (heap_new' _ rfl)) (by simp [Value.oneCell'])
            (by omega) (by unfold maxLen; omega) (by omega) (by simp; omega) (w2.heap.size + 1) (by simp) ?_; intro gg cap2 w3 hown1 hgrow hat hlt2))
      have hst := BRow.step (v := (n : Int)) (t := .mk 1 (n : Int) []) (W := w2) (W1 := w2.alloc (.cells #[.int .i64 (n : Int), .int .i64 1, .int .i64 (n : Int), .slice none 0 0] 70)) g1.out g2.out g3.out (fun j _ hj => (Below.heap_alloc _ _ j (by omega)).trans (hA.out j hj)) hzT (by omega) (by simp)
        (Fresh.leafc _ _ 1 (n : Int)) hgrow hown1 (by simpa using hat)
      have hnb : ∀ j, (Value.slice va vl vc).ownBlock = some j → q + 1 ≤ j := fun j e => (own_base g2.out e).1
      have hb3 : Below w9.heap.size w9 w3 := (hb2.out.alloc (by omega) _).grown hgrow (by simp; omega) (fun j hj => by have := hnb j hj; have := hq.out; omega)
      have hWa3 : WantAt w3 q (wantF L (G.take k)) := (hgrow.block q (by simp; omega) (fun e => by have := hnb q e.symm; omega)).trans ((Below.heap_alloc _ _ q (by omega)).trans hWa2.out)
      have hz3 := hb3.size
      have hqw3 : q < w3.heap.size := (Array.getElem?_eq_some_iff.1 hWa3).1
      have hst' : Hid (BRow (q + 1) w3 ((G.take (k + 1)).map ownV) (some ⟨gg, 0, none⟩) (k + 1) cap2) := Lib.hid (by rw [hT1.out, List.map_append]; have h9 := hst; rw [hlen.out] at h9; exact h9)
      replace hb3 := Lib.hid hb3
      replace hWa3 := Lib.hid hWa3
      clear hst hnb hgrow hown1 hat hlt2 hWa2 hb2 g2' hA hT g1 g2 g3 K hle
      go_wp2_with fail
      have hst3 := hst'
      clear hst'
      have hbW := Lib.hid (Below.up hbe.out hb3.out)
      have hbw := Lib.hid (Below.up hB0.out hbW.out)
      have e1 : w3.cell? ⟨q, n, none⟩ = some (.bool (wantF L (G.take k) n)) := by rw [cell_of_row w3 q n _ 4 (0, 0) hWa3.out]; exact vs_get _ hn20
      have e2 : w3.frozen? ⟨q, n, none⟩ = false := frozen_of_row w3 q n _ 4 hWa3.out
      have hfl := findL_le L n
      go_loop [17] (fun kk => ∃ j : Nat, j ≤ findL L n ∧ kk = .int .i64 (j : Nat)) (fun kk => L.length - (intOf kk).toNat)
      case atStart => exact ⟨0, by omega, rfl⟩
      case round =>
        obtain ⟨j, hj, rfl⟩ := hrel
        by_cases hjl : j < L.length
        · have o5 : (j : Int) < (L.length : Int) := by omega
          rcases hka with hka | ⟨bL, oL, rfl, hbL, hcL⟩
          · rw [hka] at hjl; simp at hjl
          obtain ⟨c0, a', l', c', c1, c2⟩ := hcL j hjl
          replace c0 := (hbw.out.cell (p := ⟨bL, oL + j * 4, none⟩) (by simp; omega)).trans c0
          by_cases hjf : j < findL L n
          · have hne := findL_ne L n j hjf
            have o6 : (L[j].1 != (n : Int)) = true := by simpa using hne
            clear hcL c1 c2 hne
            go_wp2_with fail
            go_round
            case rel => exact ⟨j + 1, by omega, by go_num⟩
            case measure => simp [intOf]; omega
          have hje : findL L n = j := by omega
          have hat := findL_at L n (by omega)
          have hLj : Hid (L[j].1 = (n : Int)) := Lib.hid (by simp only [hje] at hat; exact hat)
          have himg : Hid (∀ u, imgB L n u = fvT L[j].2 u) := Lib.hid (fun u => by unfold imgB; rw [hje, List.getElem?_eq_getElem hjl])
          have o6 : (L[j].1 != (n : Int)) = false := by simpa using hLj.out
          have o7 : ((j : Int) == (L.length : Int)) = false := by simp; omega
          clear hje hat hcL
          replace hLj := hLj
          have hVc := Lib.hid (fun W (hW : Below w3.heap.size w3 W) => hV.out.k17z L[j].2 (hLf.out j hjl) W a' l' c' (Below.up hbW.out hW) (IsTm.wider (by have := hW.size; have := hbw.out.size; omega) _ (IsTm.below ((Below.up hbw.out hW).mono hn) _ c2)))
          have hcS := Lib.hid (fun W (hW : Below w3.heap.size w3 W) => (hcells.out W (Below.up hbW.out hW)).1)
          have hcJ := Lib.hid (fun W (hW : Below w3.heap.size w3 W) => c1.below ((Below.up hbw.out hW).mono hn) hbL)
          clear c1 c2
          have o8 : j < L.length := hjl
          go_upto_region 26 with fail
          refine region_named (S := fun W' => Below w3.heap.size w3 W') (by kernel_rfl) (fun x hx => ?_)
          have hqS : Hid (Below w3.heap.size w3 x) := Lib.hid (by rw [hx]; exact (Below.refl _ _).drew)
          clear hx e1 e2 c0
          refine takeH 0 144 (.agg #[.slice ac lc cc, .slice af lf cf]) rfl rfl (by kernel_rfl) (by kernel_rfl) (by kernel_rfl) (fun _ _ _ h => h) (by rfl) (by intro W hSw; obtain ⟨j0, j1⟩ := hcS.out W hSw; clear hSw; go_simp) hqS.out ?_
          try simp only [List.setIfInBounds_toArray, List.set_cons_zero, List.set_cons_succ]
          refine takeH 1 145 (.slice (some ⟨bL, oL, none⟩) L.length cl) rfl rfl (by kernel_rfl) (by kernel_rfl) (by kernel_rfl) (fun _ _ _ h => h) (by rfl) (by intro W hSw; clear hSw; go_simp) hqS.out ?_
          try simp only [List.setIfInBounds_toArray, List.set_cons_zero, List.set_cons_succ]
          refine takeH 2 146 (.int .i64 (j : Nat)) rfl rfl (by kernel_rfl) (by kernel_rfl) (by kernel_rfl) (fun _ _ _ h => h) (by rfl) (by intro W hSw; clear hSw; go_simp) hqS.out ?_
          try simp only [List.setIfInBounds_toArray, List.set_cons_zero, List.set_cons_succ]
          refine takeH 3 147 (.pointer (some ⟨bL, oL + j * 4, none⟩)) rfl rfl (by kernel_rfl) (by kernel_rfl) (by kernel_rfl) (fun _ _ _ h => h) (by rfl) (by intro W hSw; clear hSw; go_simp) hqS.out ?_
          try simp only [List.setIfInBounds_toArray, List.set_cons_zero, List.set_cons_succ]
          refine takeH 4 148 (.pointer (some ⟨bL, oL + j * 4 + 1, none⟩)) rfl rfl (by kernel_rfl) (by kernel_rfl) (by kernel_rfl) (fun _ _ _ h => h) (by rfl) (by intro W hSw; clear hSw; go_simp) hqS.out ?_
          try simp only [List.setIfInBounds_toArray, List.set_cons_zero, List.set_cons_succ]
          refine takeH 5 149 (.agg #[.int .i64 L[j].2.op, .int .i64 L[j].2.n, .slice a' l' c']) rfl rfl (by kernel_rfl) (by kernel_rfl) (by kernel_rfl) (fun _ _ _ h => h) (by rfl) (by intro W hSw; obtain ⟨j0, j1, j2⟩ := hcJ.out W hSw; clear hSw; go_simp) hqS.out ?_
          try simp only [List.setIfInBounds_toArray, List.set_cons_zero, List.set_cons_succ]
          refine wpAnyH_ready (rs := [6]) (by kernel_rfl) (by simp) ?_
          refine AllReadyH.cons rfl (fun K hKc => ?_) AllReadyH.nil
          go_simp
          go_at_call 17
          refine (hVc.out x hqS.out).mono ?_
          rintro e x1 ⟨v3, rfl, hr3, hb1⟩
          obtain ⟨av3, cv3, rfl, hI3, hba3⟩ := row_intsC hr3.out
          have hsz3 := hqS.out.size
          have hsz1 := hb1.size
          replace hqS := Lib.hid (Below.up hqS.out hb1)
          obtain ⟨G2, hG2⟩ : ∃ l, l = listTo (fvT L[j].2) 20 := ⟨_, rfl⟩
          rw [← hG2] at hI3 ⊢
          have hG2l : G2.length ≤ 20 := by rw [hG2]; exact listTo_len _ _
          have hG2v : Hid (∀ v ∈ G2, v < 20) := Lib.hid (fun v hv => by rw [hG2] at hv; exact (listTo_mem hv).1)
          have hmem : Hid (∀ u, u < 20 → (decide (u ∈ G2) = imgB L n u)) := Lib.hid (fun u hu => by
            rw [himg.out u, hG2, Bool.eq_iff_iff, decide_eq_true_eq]
            constructor
            · intro h; exact (listTo_mem h).2
            · intro h; exact List.mem_filter.2 ⟨List.mem_range.2 hu, h⟩)
          have hba : Hid (∀ p, av3 = some p → w3.heap.size ≤ p.block) := Lib.hid (fun p hp => Nat.le_trans hsz3 (hba3 p hp))
          replace hI3 := Lib.hid hI3
          clear hr3 hG2 hba3 hb1 hVc hcS hcJ himg
          refine hKc _ _ hqS.out (fun _ => ?_)
          clear hKc K
          try simp only [List.setIfInBounds_toArray, List.set_cons_zero, List.set_cons_succ]
          refine takeH 7 143 (.tuple #[.slice av3 G2.length cv3, .int .i64 0]) rfl rfl (by kernel_rfl) (by kernel_rfl) (by kernel_rfl) (fun _ _ _ h => h) (by rfl) (by intro W hSw; clear hSw; go_simp) hqS.out ?_
          try simp only [List.setIfInBounds_toArray, List.set_cons_zero, List.set_cons_succ]
          refine takeH 8 151 (.slice av3 G2.length cv3) rfl rfl (by kernel_rfl) (by kernel_rfl) (by kernel_rfl) (fun _ _ _ h => h) (by rfl) (by intro W hSw; clear hSw; go_simp) hqS.out ?_
          try simp only [List.setIfInBounds_toArray, List.set_cons_zero, List.set_cons_succ]
          refine takeH 9 152 (.int .i64 0) rfl rfl (by kernel_rfl) (by kernel_rfl) (by kernel_rfl) (fun _ _ _ h => h) (by rfl) (by intro W hSw; clear hSw; go_simp) hqS.out ?_
          try simp only [List.setIfInBounds_toArray, List.set_cons_zero, List.set_cons_succ]
          refine takeH 10 18 (.slice av3 G2.length cv3) rfl rfl (by kernel_rfl) (by kernel_rfl) (by kernel_rfl) (fun _ _ _ h => h) (by rfl) (by intro W hSw; clear hSw; go_simp) hqS.out ?_
          try simp only [List.setIfInBounds_toArray, List.set_cons_zero, List.set_cons_succ]
          refine takeH 11 19 (.int .i64 0) rfl rfl (by kernel_rfl) (by kernel_rfl) (by kernel_rfl) (fun _ _ _ h => h) (by rfl) (by intro W hSw; clear hSw; go_simp) hqS.out ?_
          try simp only [List.setIfInBounds_toArray, List.set_cons_zero, List.set_cons_succ]
          refine wpAnyH_done (by kernel_rfl) ?_ _
          have hW1 : Hid (WantAt x1 q (orSet (wantF L (G.take k)) (fun u => decide (u ∈ G2.take 0)))) := Lib.hid (by
            unfold WantAt
            rw [hqS.out.block q hqw3, hWa3.out]
            congr 4
            refine funext (fun u => ?_)
            unfold orSet; simp)
          have hB1 := Lib.hid (Below.up hb3.out hqS.out)
          have hR1 := Lib.hid (BRow.stays hst3.out (fun g _ hg => hqS.out.block g hg))
          have hqx : q < x1.heap.size := by have := hqS.out.size; omega
          clear hqS hst3 hWa3 hb3
          go_wp2_with fail
          go_loopw [20] (fun jj W => ∃ i : Nat, i ≤ G2.length ∧ jj = .int .i64 (i : Nat) ∧ Hid (WantAt W q (orSet (wantF L (G.take k)) (fun u => decide (u ∈ G2.take i)))) ∧ Hid (∀ b, b ≠ q → W.heap[b]? = x1.heap[b]?) ∧ Hid (Below w9.heap.size w9 W)) (fun jj _ => G2.length - (intOf jj).toNat)
          case atStart => exact ⟨0, by omega, rfl, hW1, Lib.hid (fun _ _ => rfl), hB1⟩
          case round =>
            obtain ⟨i, hi3, rfl, hWi, hsi, hbi⟩ := hrel
            clear hW1 hB1
            by_cases hil : i < G2.length
            · obtain ⟨m, hm⟩ : ∃ m, m = G2[i] := ⟨_, rfl⟩
              have hm20 : m < 20 := by rw [hm]; exact hG2v.out _ (List.getElem_mem hil)
              have hT2 : Hid (G2.take (i + 1) = G2.take i ++ [m]) := Lib.hid (by rw [hm, List.take_succ_eq_append_getElem hil])
              obtain ⟨b3, o3', rfl, hb3', hc3⟩ := intsC_at hI3.out hil
              rw [← hm] at hc3
              have hnq : b3 ≠ q := by have := hba.out _ rfl; simp only at this; omega
              have hc3' : wr.cell? ⟨b3, o3' + i, none⟩ = some (.int .i64 (m : Nat)) := (World.cell?_of_block (hsi.out b3 hnq)).trans hc3
              replace hm := Lib.hid hm
              have o9 : (i : Int) < (G2.length : Int) := by omega
              have o10 : ¬ (m : Int) < 0 := by omega
              have o11 : ¬ (20 : Int) ≤ (m : Int) := by omega
              have f1 : wr.cell? ⟨q, m, none⟩ = some (.bool (orSet (wantF L (G.take k)) (fun u => decide (u ∈ G2.take i)) m)) := by rw [cell_of_row wr q m _ 4 (0, 0) hWi.out]; exact vs_get _ hm20
              have f2 : wr.frozen? ⟨q, m, none⟩ = false := frozen_of_row wr q m _ 4 hWi.out
              have hWn : Hid (WantAt (wr.setCell ⟨q, m, none⟩ (.bool true)) q (orSet (wantF L (G.take k)) (fun u => decide (u ∈ G2.take (i + 1))))) := Lib.hid (by
                unfold WantAt
                rw [heap_setCell_same wr q m _ 4 (.bool true) hWi.out, vs_set _ _ hm20, hT2.out]
                congr 4
                refine funext (fun u => ?_)
                unfold setB orSet
                by_cases e : u = m <;> simp [e])
              clear hc3 hnq
              go_wp2_with fail
              go_roundw
              case rel => exact ⟨i + 1, by omega, by go_num, hWn, Lib.hid (fun b hb => (heap_setCell_other wr ⟨q, m, none⟩ _ _ hb).trans (hsi.out b hb)), Lib.hid (hbi.out.setCell (p := ⟨q, m, none⟩) (by have := hq.out; simp; omega) _)⟩
              case measure => simp [intOf]; omega
            obtain rfl : i = G2.length := by omega
            have o9 : ¬ (G2.length : Int) < (G2.length : Int) := by omega
            have hWn : Hid (WantAt wr q (wantF L (G.take (k + 1)))) := Lib.hid (by
              unfold WantAt
              rw [hWi.out, hT1.out, wantF_snoc, List.take_length]
              have := vs_congr (f := orSet (wantF L (G.take k)) (fun u => decide (u ∈ G2))) (g := orSet (wantF L (G.take k)) (imgB L n)) (fun u hu => by
                show (wantF L (G.take k) u || decide (u ∈ G2)) = (wantF L (G.take k) u || imgB L n u)
                rw [hmem.out u hu])
              rw [this])
            have hRn := Lib.hid (BRow.stays hR1.out (fun g hg _ => hsi.out g (by omega)))
            clear hWi hsi hR1 hI3 hmem hG2v
            go_wp2_with fail
            go_roundw
            case rel => exact ⟨k + 1, _, _, _, by omega, by go_num, rfl, hRn, hWn, hbi⟩
            case measure => simp [intOf]; omega
        have hje : findL L n = L.length := by omega
        obtain rfl : j = L.length := by omega
        have o5 : ¬ (L.length : Int) < (L.length : Int) := by omega
        have o7 : ((L.length : Int) == (L.length : Int)) = true := by simp
        have himg : Hid (∀ u, imgB L n u = (u == n)) := Lib.hid (fun u => by unfold imgB; rw [hje, List.getElem?_eq_none (Nat.le_refl _)])
        have hWn : Hid (WantAt (w3.setCell ⟨q, n, none⟩ (.bool true)) q (wantF L (G.take (k + 1)))) := Lib.hid (by
          unfold WantAt
          rw [heap_setCell_same w3 q n _ 4 (.bool true) hWa3.out, vs_set _ _ hn20, hT1.out, wantF_snoc]
          congr 4
          refine funext (fun u => ?_)
          unfold setB orSet
          rw [himg.out u]
          by_cases e : u = n <;> simp [e])
        clear hje hj hjl
        go_wp2_with fail
        go_roundw
        case rel =>
          exact ⟨k + 1, _, _, _, by omega, by go_num, rfl, Lib.hid (BRow.stays hst3.out (fun g hg _ => heap_setCell_other w3 ⟨q, n, none⟩ _ _ (by simp; omega))), hWn, Lib.hid (hb3.out.setCell (p := ⟨q, n, none⟩) (by have := hq.out; simp; omega) _)⟩
        case measure => simp [intOf]; omega
    have hke : k = G.length := by omega
    subst hke
    obtain ⟨F, hF⟩ : ∃ F, F = wantF L G := ⟨_, rfl⟩
    have hWF : Hid (WantAt wr q F) := Lib.hid (by rw [hF]; have h9 := hWa.out; rw [List.take_length] at h9; exact h9)
    have hHF : Hid (H = listTo F 20) := Lib.hid (by rw [hH.out, hF]; exact listTo_congr hZv.out)
    have hIB : Hid (IsBinds wr.heap.size wr (G.map ownV) va vl vc) := Lib.hid (by have h9 := hBR.out; rw [List.take_length] at h9; exact h9.is)
    have hI2' := Lib.hid (IsInts.below hb.out hI2.out)
    have hbW := Lib.hid (Below.up hbe.out hb.out)
    clear hF hWa hBR hI2 hI1 hb hbe hka hlt hi hi0 hi1 hi2 i0 hlG hlG' o1 hLf hZf hZs
    go_wp2_with fail
    go_loop [21, 22] (fun nn ii => ∃ i m : Nat, i ≤ 20 ∧ m ≤ 20 ∧ ii = .int .i64 (i : Nat) ∧ nn = .int .i64 (m : Nat) ∧ Hid (m = (listTo F i).length)) (fun _ ii => 20 - (intOf ii).toNat)
    case atStart => exact ⟨0, 0, by omega, by omega, rfl, rfl, Lib.hid (by simp [listTo])⟩
    case round =>
      obtain ⟨i, m, hi20, hm20, rfl, rfl, hm⟩ := hrel
      by_cases hil : i < 20
      · have o2 : (i : Int) < 20 := by omega
        have e1 : wr.cell? ⟨q, i, none⟩ = some (.bool (F i)) := by rw [cell_of_row wr q i _ 4 (0, 0) hWF.out]; exact vs_get _ hil
        cases hFi : F i
        · rw [hFi] at e1
          have hm' : Hid (m = (listTo F (i + 1)).length) := Lib.hid (by rw [listTo_no hFi]; exact hm.out)
          replace hFi := Lib.hid hFi
          go_wp2_with fail
          go_round
          case rel => exact ⟨i + 1, m, by omega, by omega, by go_num, rfl, hm'⟩
          case measure => simp [intOf]; omega
        rw [hFi] at e1
        have hat := listTo_at (n := 20) hil hFi
        rw [← hHF.out, ← hm.out] at hat
        obtain ⟨hml, hmi⟩ := List.getElem?_eq_some_iff.1 hat
        obtain ⟨b2, o2', rfl, hb2, hc2⟩ := intsC_at hI2'.out hml
        rw [hmi] at hc2
        have o3 : ¬ (H.length : Int) ≤ (m : Int) := by omega
        have o4 : (m : Int) < (H.length : Int) := by omega
        have hm' : Hid (m + 1 = (listTo F (i + 1)).length) := Lib.hid (by rw [listTo_yes hFi, hm.out]; simp)
        have hm20' : m + 1 ≤ 20 := by rw [hm'.out]; exact Nat.le_trans (listTo_len _ _) (by omega)
        replace hFi := Lib.hid hFi
        clear hat hmi
        go_wp2_with fail
        go_round
        case rel => exact ⟨i + 1, m + 1, by omega, by omega, by go_num, by go_num, hm'⟩
        case measure => simp [intOf]; omega
      obtain rfl : i = 20 := by omega
      have hmH : m = H.length := by rw [hHF.out]; exact hm.out
      subst hmH
      have o3 : ((H.length : Int) != (H.length : Int)) = false := by simp
      have hbe := hbW
      clear hm hHF hI2' hWF
      have hS2 := Lib.hid (hV.out.k26o wr va vl vc hbe.out hIB.out)
      obtain ⟨⟨s0, s1⟩, ⟨p0, p1, p2⟩⟩ := hcells.out _ hbe.out
      have hC := hS2.out
      replace hC := Lib.hid hC
      go_upto_region 99 with fail
      refine (hC.out).mono ?_
      rintro e wm ⟨a4, l4, k4, rfl, hF4, hbe2⟩
      clear hC s0 s1 p0 p1 p2
      have t4 := hF4.is
      clear hF4
      replace hbe := Lib.hid (Below.up hbe.out hbe2)
      clear hbe2
      obtain ⟨wS, hws⟩ : ∃ W, W = wm.alloc (.cells #[.int .i64 d.tm.op, .int .i64 d.tm.n, .slice a4 l4 k4] 28) := ⟨_, rfl⟩
      have st : Below wm.heap.size wm wS := by rw [hws]; exact bal _ _
      obtain ⟨Bs, hBs⟩ : ∃ n, n = wm.heap.size := ⟨_, rfl⟩
      have cs : Hid (wS.heap[Bs]? = some (.cells #[.int .i64 d.tm.op, .int .i64 d.tm.n, .slice a4 l4 k4] 28 (0, 0))) := Lib.hid (by rw [hws, hBs]; exact heap_new'' _ _)
      replace t4 := Lib.hid (IsTm.wider st.size _ (IsTm.below st _ t4))
      replace hbe := Lib.hid (Below.up hbe.out st)
      clear st
      replace hws := Lib.hid hws
      replace hBs := Lib.hid hBs
      obtain ⟨⟨s0, s1⟩, ⟨p0, p1, p2⟩⟩ := hcells.out _ hbe.out
      obtain ⟨⟨zs0, zs1, zs2⟩, -⟩ := c3_cells cs.out
      have hC := hV.out.k34 wS a4 l4 k4 hbe.out t4.out
      rw [hws.out] at hC s0 s1 p0 p1 p2 zs0 zs1 zs2
      replace hC := Lib.hid hC
      go_upto_region 99 with fail
      refine (hC.out).mono ?_
      rintro e wk ⟨rfl, hbe2⟩
      clear hC s0 s1 p0 p1 p2 zs0 zs1 zs2
      rw [← hws.out] at hbe2
      rw [← hBs.out]
      replace cs := Lib.hid ((hbe2.block _ (Array.getElem?_eq_some_iff.1 cs.out).1).trans cs.out)
      replace t4 := Lib.hid (IsTm.wider hbe2.size _ (IsTm.below hbe2 _ t4.out))
      replace hbe := Lib.hid (Below.up hbe.out hbe2)
      clear hbe2 hws hBs
      obtain ⟨wm, hnm⟩ : ∃ W, W = wk := ⟨_, rfl⟩
      rw [← hnm] at hbe cs t4 ⊢
      clear hnm
      go_wp2_with (go_at_call 12; refine (hKn.out _).mono ?_; rintro e wl ⟨rfl, hbe2⟩)
      go_ret
      exact ⟨rfl, Below.up hB0.out (Below.up hbe.out hbe2)⟩

end Go.Proofs.YthlegfegkopdkaaGreat

namespace Go.Proofs.YthlegfegkopdkaaGreat
open Go.RowKit Go.Shelf Go.Sort

theorem subV_ok {s : Sg} {L : List (Int × Tm)} {t u : Tm} (h : subV s L t = (u, 0)) : formedB s u = true := by
  unfold subV at h
  split at h
  · rename_i hf
    rw [Prod.mk.injEq] at h
    rw [← h.1]; exact hf
  · rw [Prod.mk.injEq] at h
    exact absurd h.2 (by decide)
theorem subV_cases {s : Sg} {L : List (Int × Tm)} {t u : Tm} {e : Int} (h : subV s L t = (u, e)) : (e = 0 ∧ u = sb (subL L) t ∧ formedB s u = true) ∨ e = 3 := by
  unfold subV at h
  split at h
  · rename_i hf
    rw [Prod.mk.injEq] at h
    exact .inl ⟨h.2.symm, h.1.symm, by rw [← h.1]; exact hf⟩
  · rw [Prod.mk.injEq] at h
    exact .inr h.2.symm
theorem binds_wider {W : World} {n m : Nat} {M : List (Int × Tm)} {a : Option Addr} {l c : Nat} (hnm : n ≤ m) (h : IsBinds n W M a l c) : IsBinds m W M a l c := by
  obtain ⟨g1, g2, g3, g4⟩ := h
  refine ⟨g1, g2, g3, ?_⟩
  rcases g4 with g4 | ⟨b, off, ga, gb, gk⟩
  · exact .inl g4
  · refine .inr ⟨b, off, ga, by omega, fun k hk => ?_⟩
    obtain ⟨q0, a', l', c', q1, q2⟩ := gk k hk
    exact ⟨q0, a', l', c', q1, q2.wider hnm⟩
theorem formed_smallg {s : Sg} {t : Tm} (h : formedB s t = true) : decide (0 ≤ weigh t 50 14) = true := by
  unfold formedB at h
  rw [Bool.and_eq_true] at h
  have h1 := (weigh_iff t 40 12 (by omega)).1.1 (by simpa using h.1)
  exact decide_eq_true ((weigh_iff t 50 14 (by omega)).1.2 ⟨by omega, deep_up _ _ _ (by omega) h1.2⟩)

theorem lf_small {s : Sg} {M : List (Int × Tm)} (h : lfB s (-1) M = true) : smallBs M = true := by
  obtain ⟨h1, h2⟩ := lfB_all h (by omega) (by omega)
  unfold smallBs
  rw [Bool.and_eq_true, decide_eq_true_eq, List.all_eq_true]
  exact ⟨by omega, fun x hx => formed_smallg (h2 x hx).2⟩

set_option maxRecDepth 100000 in
set_option maxHeartbeats 16000000 in
theorem TermGeneral_any (s : Sg) (d x : DT) (L : List (Int × Tm)) (n₀ : Nat) (w : World) (ac : Option Addr) (lc cc : Nat) (af : Option Addr) (lf cf : Nat) (al : Option Addr) (ll cl : Nat) (hs : IsSg n₀ w s ac lc cc af lf cf) (h1 : Lies n₀ w d) (h2 : Lies n₀ w x) (hBi : IsBinds n₀ w L al ll cl) (hn : n₀ ≤ w.heap.size) :
    Calls Tryz.prog 9 #[.agg #[.slice ac lc cc, .slice af lf cf], .agg #[.int .i64 d.op, .int .i64 d.n, .slice d.a d.l d.c], .agg #[.int .i64 x.op, .int .i64 x.n, .slice x.a x.l x.c], .slice al ll cl] w
      fun e w' => e = .returned (.bool true) ∧ Below w.heap.size w w' := by
  obtain ⟨wa, hwa⟩ : ∃ W, W = bs1 w ac lc cc af lf cf := ⟨_, rfl⟩
  obtain ⟨wb, hwb⟩ : ∃ W, W = bt1 wa d := ⟨_, rfl⟩
  obtain ⟨W0, hW0⟩ : ∃ W, W = bt1 wb x := ⟨_, rfl⟩
  have hza : wa.heap.size = w.heap.size + 1 := by rw [hwa]; simp
  have hzb : wb.heap.size = w.heap.size + 1 + 1 := by rw [hwb]; simp [hza]
  have hz0 : W0.heap.size = w.heap.size + 1 + 1 + 1 := by rw [hW0]; simp [hzb]
  have ba : Below w.heap.size w wa := by rw [hwa]; exact bal _ _
  have bb : Below wa.heap.size wa wb := by rw [hwb]; exact bal _ _
  have bd : Below wb.heap.size wb W0 := by rw [hW0]; exact bal _ _
  have hB0 : Below w.heap.size w W0 := Below.up ba (Below.up bb bd)
  have hcells : Hid (∀ W, Below W0.heap.size W0 W → (W.cell? ⟨w.heap.size, 0, none⟩ = some (.slice ac lc cc) ∧ W.cell? ⟨w.heap.size, 1, none⟩ = some (.slice af lf cf)) ∧ (W.cell? ⟨w.heap.size + 1, 0, none⟩ = some (.int .i64 d.op) ∧ W.cell? ⟨w.heap.size + 1, 1, none⟩ = some (.int .i64 d.n) ∧ W.cell? ⟨w.heap.size + 1, 2, none⟩ = some (.slice d.a d.l d.c)) ∧ (W.cell? ⟨w.heap.size + 1 + 1, 0, none⟩ = some (.int .i64 x.op) ∧ W.cell? ⟨w.heap.size + 1 + 1, 1, none⟩ = some (.int .i64 x.n) ∧ W.cell? ⟨w.heap.size + 1 + 1, 2, none⟩ = some (.slice x.a x.l x.c))) := Lib.hid (fun W h => by
    have e0 := box_s hwa (Nat.le_refl _) (Below.up bb (Below.up bd h))
    have e1 := box_t hwb (Nat.le_refl _) (Below.up bd h)
    have e2 := box_t hW0 (Nat.le_refl _) h
    rw [hza] at e1; rw [hzb] at e2
    exact ⟨e0, e1, e2⟩)
  have hlie : Hid (∀ W, Below W0.heap.size W0 W → n₀ ≤ W.heap.size ∧ IsSg n₀ W s ac lc cc af lf cf ∧ Lies n₀ W d ∧ Lies n₀ W x ∧ IsBinds n₀ W L al ll cl) := Lib.hid (fun W h => by
    have hb := (Below.up hB0 h).mono hn
    exact ⟨by have := h.size; omega, hs.below hb, h1.below hb, h2.below hb, hBi.below hb⟩)
  have hG : Calls Tryz.prog 11 #[.agg #[.slice ac lc cc, .slice af lf cf], .slice (some ⟨W0.heap.size, 0, none⟩) 2 2] (W0.alloc (.cells #[.int .i64 d.op, .int .i64 d.n, .slice d.a d.l d.c, .int .i64 x.op, .int .i64 x.n, .slice x.a x.l x.c] 28))
      fun e w' => e = .returned (.bool (smallDs [d, x] && smallB s)) ∧ Below W0.heap.size W0 w' := by
    obtain ⟨q0, q1, q2, q3, q4⟩ := hlie.out W0 (Below.refl _ _)
    exact small2g s d x n₀ W0 ac lc cc af lf cf q1 q2 q3 q0
  have hb0 : Hid (∀ W, Below (w.heap.size + 1 + 1 + 1) (bt1 (bt1 (bs1 w ac lc cc af lf cf) d) x) W → Below W0.heap.size W0 W) := Lib.hid (fun W h => by rw [hz0, hW0, hwb, hwa]; exact h)
  rw [hz0, hW0, hwb, hwa] at hG
  have hKn := fun W => known_any W
  replace hKn := Lib.hid hKn
  have h25 : Hid (∀ W, Below W0.heap.size W0 W → Calls Tryz.prog 25 #[.slice al ll cl] W fun e w' => e = .returned (.bool (smallBs L)) ∧ Below W.heap.size W w') := Lib.hid (fun W hW => by
    obtain ⟨q0, q1, q2, q3, q4⟩ := hlie.out W hW
    exact SmallBinds_any L n₀ W al ll cl q4 q0)
  have h40 : Hid (∀ W, Below W0.heap.size W0 W → Calls Tryz.prog 40 #[.agg #[.slice ac lc cc, .slice af lf cf], .agg #[.int .i64 d.op, .int .i64 d.n, .slice d.a d.l d.c], .agg #[.int .i64 x.op, .int .i64 x.n, .slice x.a x.l x.c]] W fun e w' => e = .returned (.bool (valB s d x)) ∧ Below W.heap.size W w') := Lib.hid (fun W hW => by
    obtain ⟨q0, q1, q2, q3, q4⟩ := hlie.out W hW
    exact values_any s d x n₀ W ac lc cc af lf cf q1 q2 q3 q0)
  have h27 : Hid (∀ W, Below W0.heap.size W0 W → Calls Tryz.prog 27 #[.agg #[.slice ac lc cc, .slice af lf cf], .slice al ll cl] W fun e w' => ∃ b, e = .returned (.bool b) ∧ (b = true ↔ lfB s (-1) L = true) ∧ Below W.heap.size W w') := Lib.hid (fun W hW => by
    obtain ⟨q0, q1, q2, q3, q4⟩ := hlie.out W hW
    exact Binds_iff s L n₀ W ac lc cc af lf cf al ll cl q1 q4 q0)
  have hAt : Hid (valB s d x = true → lfB s (-1) L = true → ∃ M2 E2, GenAt s d x L al ll cl ac lc cc af lf cf (matchA s d x).1 M2 (matchA s d x).2 E2 W0 ∧ ((matchA s d x).2 = 5 ∨ ((matchA s d x).2 = 0 ∧ lfB s (-1) (matchA s d x).1 = true ∧ subV s (matchA s d x).1 d.tm = (x.tm, 0))) ∧
      ((E2 = 5 ∧ M2 = [] ∧ ∀ L, sb (subL L) d.tm ≠ sb (subL L) x.tm) ∨ (E2 = 3 ∧ M2 = []) ∨
       (E2 = 0 ∧ lfB s (-1) M2 = true ∧ (∀ y ∈ M2, isVal y.2 = true) ∧ subV s M2 d.tm = subV s M2 x.tm ∧ (∀ y ∈ M2, ∀ z ∈ M2, ∀ i : Nat, fvT y.2 i = true → z.1 ≠ (i : Int)) ∧
        ∀ L, lfB s (-1) L = true → sb (subL L) d.tm = sb (subL L) x.tm → ∀ y ∈ M2, subV s L (.mk 1 y.1 []) = (subL L y.1, 0) ∧ subV s L y.2 = (subL L y.1, 0)))) := Lib.hid (fun hv hlf => by
    obtain ⟨q0, q1, q2, q3, q4⟩ := hlie.out W0 (Below.refl _ _)
    have hv' : (((sigB s && formedDs s [d, x]) && isVal d.tm) && isVal x.tm) = true := hv
    simp only [Bool.and_eq_true] at hv'
    obtain ⟨⟨⟨v0, v1⟩, v2⟩, v3⟩ := hv'
    have hc : checkB s [d, x] = true := by unfold checkB; rw [v0]; exact v1
    obtain ⟨c1, c2⟩ : checkB s [d] = true ∧ checkB s [x] = true := by rw [check_pairg, Bool.and_eq_true] at hc; exact hc
    have n1 := (check_formed c1).2
    have n2 := (check_formed c2).2
    rw [formedB_eq, Bool.and_eq_true] at n1 n2
    obtain ⟨M2, E2, hU, hF⟩ := unify_ans s d x ⟨n1.2, v2⟩ ⟨n2.2, v3⟩
    have hkv : checkV s [d, x] = true := by
      unfold checkV
      rw [hc]
      simp only [List.all_cons, List.all_nil, Bool.true_and, Bool.and_true]
      rw [← isVal_allN, ← isVal_allN, v2, v3]
      rfl
    exact ⟨M2, E2, gen_at q1 q2 q3 q4 q0 hc v2 v3 hlf hU, match_ans s d x hkv, hF⟩)
  obtain ⟨g, hg⟩ : ∃ g, g = (smallDs [d, x] && smallB s) := ⟨_, rfl⟩
  rw [← hg] at hG
  obtain ⟨v40, hv40⟩ : ∃ T, T = valB s d x := ⟨_, rfl⟩
  obtain ⟨b25, hb25⟩ : ∃ T, T = smallBs L := ⟨_, rfl⟩
  rw [← hv40] at h40 hAt
  rw [← hb25] at h25
  obtain ⟨rfl, hl1, hl2, hka⟩ := hBi
  clear hv40 hb25
  replace hG := Lib.hid hG
  replace hB0 := Lib.hid hB0
  replace hz0 := Lib.hid hz0
  clear hs h1 h2 ba bb bd hW0 hza hzb hwa hwb hg
  obtain ⟨i0, hi, hi0, hi1, hi2⟩ := info_parts inf70
  go_enter Tryz.func9, Tryz.ntmps9
  go_upto_region 99 with fail
  refine (hG.out).mono ?_
  rintro e w1 ⟨rfl, hbe⟩
  replace hbe := Lib.hid (hb0.out _ hbe)
  clear hG
  cases g
  · go_wp2_with (go_at_call 12; refine (hKn.out _).mono ?_; rintro e w2 ⟨rfl, hbe2⟩)
    go_ret
    exact ⟨rfl, Below.up hB0.out (Below.up hbe.out hbe2)⟩
  clear hb0
  obtain ⟨⟨s0, s1⟩, ⟨p0, p1, p2⟩, ⟨x0, x1, x2⟩⟩ := hcells.out _ hbe.out
  have hC := h25.out _ hbe.out
  replace hC := Lib.hid hC
  go_upto_region 99 with fail
  refine (hC.out).mono ?_
  rintro e wm ⟨rfl, hbe2⟩
  clear hC s0 s1 p0 p1 p2 x0 x1 x2
  replace hbe := Lib.hid (Below.up hbe.out hbe2)
  clear hbe2
  obtain ⟨wn, hwn⟩ : ∃ W, W = wm := ⟨_, rfl⟩
  rw [← hwn] at hbe ⊢
  clear hwn
  cases b25
  · go_wp2_with (go_at_call 12; refine (hKn.out _).mono ?_; rintro e wl ⟨rfl, hbe2⟩)
    go_ret
    exact ⟨rfl, Below.up hB0.out (Below.up hbe.out hbe2)⟩
  clear h25
  obtain ⟨⟨s0, s1⟩, ⟨p0, p1, p2⟩, ⟨x0, x1, x2⟩⟩ := hcells.out _ hbe.out
  have hC := h40.out _ hbe.out
  replace hC := Lib.hid hC
  go_upto_region 99 with fail
  refine (hC.out).mono ?_
  rintro e wm ⟨rfl, hbe2⟩
  clear hC s0 s1 p0 p1 p2 x0 x1 x2
  replace hbe := Lib.hid (Below.up hbe.out hbe2)
  clear hbe2
  obtain ⟨wn, hwn⟩ : ∃ W, W = wm := ⟨_, rfl⟩
  rw [← hwn] at hbe ⊢
  clear hwn
  cases v40
  · go_wp2_with (go_at_call 12; refine (hKn.out _).mono ?_; rintro e wl ⟨rfl, hbe2⟩)
    go_ret
    exact ⟨rfl, Below.up hB0.out (Below.up hbe.out hbe2)⟩
  clear h40
  obtain ⟨⟨s0, s1⟩, ⟨p0, p1, p2⟩, ⟨x0, x1, x2⟩⟩ := hcells.out _ hbe.out
  have hC := h27.out _ hbe.out
  replace hC := Lib.hid hC
  go_upto_region 99 with fail
  refine (hC.out).mono ?_
  rintro e wm ⟨b27, rfl, hbt, hbe2⟩
  clear hC s0 s1 p0 p1 p2 x0 x1 x2
  replace hbe := Lib.hid (Below.up hbe.out hbe2)
  clear hbe2
  obtain ⟨wn, hwn⟩ : ∃ W, W = wm := ⟨_, rfl⟩
  rw [← hwn] at hbe ⊢
  clear hwn
  cases b27
  · go_wp2_with (go_at_call 12; refine (hKn.out _).mono ?_; rintro e wl ⟨rfl, hbe2⟩)
    go_ret
    exact ⟨rfl, Below.up hB0.out (Below.up hbe.out hbe2)⟩
  clear h27
  obtain ⟨M2, E2, hA, hM, hF⟩ := hAt.out (by first | rfl | trivial) (hbt.1 (by first | rfl | trivial))
  have hlf : Hid (lfB s (-1) L = true) := Lib.hid (hbt.1 (by first | rfl | trivial))
  clear hAt hbt
  obtain ⟨M1, hM1⟩ : ∃ M, M = (matchA s d x).1 := ⟨_, rfl⟩
  obtain ⟨E1, hE1⟩ : ∃ E, E = (matchA s d x).2 := ⟨_, rfl⟩
  rw [← hM1, ← hE1] at hA hM
  clear hM1 hE1
  replace hA := Lib.hid hA
  replace hM := Lib.hid hM
  replace hF := Lib.hid hF
  -- Match
  obtain ⟨⟨s0, s1⟩, ⟨p0, p1, p2⟩, ⟨x0, x1, x2⟩⟩ := hcells.out _ hbe.out
  have hC := hA.out.k37 _ hbe.out
  replace hC := Lib.hid hC
  go_upto_region 99 with fail
  refine (hC.out).mono ?_
  rintro e wm ⟨va, vl, vc, rfl, hI1, hbe2⟩
  clear hC s0 s1 p0 p1 p2 x0 x1 x2
  replace hbe := Lib.hid (Below.up hbe.out hbe2)
  clear hbe2
  replace hI1 := Lib.hid hI1
  obtain ⟨wn, hwn⟩ : ∃ W, W = wm := ⟨_, rfl⟩
  rw [← hwn] at hbe hI1 ⊢
  clear hwn
  go_upto_if 66 with fail
  go_cut [11, 12] from 67 to 88 (fun _ _ W => Below W0.heap.size W0 W)
  case first =>
    rcases hM.out with hE | ⟨hE, hl, hsub⟩
    · subst hE
      go_wp2_with fail
      go_meet
      exact hbe.out
    · subst hE
      have hfx : formedB s x.tm = true := subV_ok hsub
      obtain ⟨⟨s0, s1⟩, ⟨p0, p1, p2⟩, ⟨x0, x1, x2⟩⟩ := hcells.out _ hbe.out
      have hC := (hA.out.k26 wn va vl vc M1 hbe.out hI1.out hl).1
      rw [hsub] at hC
      unfold SubstEnd at hC
      simp only [DT.tm_op, DT.tm_n] at hC
      replace hC := Lib.hid hC
      replace hfx := Lib.hid hfx
      clear hsub hl
      go_upto_region 99 with fail
      refine (hC.out).mono ?_
      rintro e wm2 ⟨a, l, c, rfl, hF1, hbe2⟩
      clear hC s0 s1 p0 p1 p2 x0 x1 x2
      have hbm : Below W0.heap.size W0 wm2 := Below.up hbe.out hbe2
      obtain ⟨wp, hwp⟩ : ∃ W, W = wm2.alloc (.cells #[.int .i64 x.op, .int .i64 x.n, .slice a l c] 28) := ⟨_, rfl⟩
      have hbp : Below wm2.heap.size wm2 wp := by rw [hwp]; exact bal _ _
      have hrow : wp.heap[wm2.heap.size]? = some (.cells #[.int .i64 x.op, .int .i64 x.n, .slice a l c] 28 (0, 0)) := by rw [hwp]; exact heap_new'' _ _
      have hzp : wp.heap.size = wm2.heap.size + 1 := by rw [hwp]; simp
      have hIx := hF1.is
      have hC := Small_any x.tm wm2.heap.size wp a l c (IsTm.below hbp _ hIx) hbp.size
      rw [formed_smallg hfx.out] at hC
      simp only [DT.tm_op, DT.tm_n] at hC
      have h32 : Hid (∀ W, Below wp.heap.size wp W → Calls Tryz.prog 32 #[.agg #[.int .i64 x.op, .int .i64 x.n, .slice a l c], .agg #[.int .i64 x.op, .int .i64 x.n, .slice x.a x.l x.c]] W fun e w' => e = .returned (.bool true) ∧ Below W.heap.size W w') := Lib.hid (fun W hW => by
        have hbw := Below.up hbm (Below.up hbp hW)
        obtain ⟨q0, q1, q2, q3, q4⟩ := hlie.out W hbw
        have hzw := hW.size
        have := Same_any x.tm.size x.tm x.tm W.heap.size W a l c x.a x.l x.c (Nat.le_refl _) ((IsTm.below (Below.up hbp (hW.mono (by omega)) |>.mono (Nat.le_refl _)) _ hIx).wider (by omega)) ((Lies.isTm _ q3).wider q0) (Nat.le_refl _)
        rw [sameB_refl] at this
        simp only [DT.tm_op, DT.tm_n] at this
        exact this)
      have hbox : Hid (∀ W, Below wp.heap.size wp W → Below W0.heap.size W0 W ∧ W.heap[wm2.heap.size]? = some (.cells #[.int .i64 x.op, .int .i64 x.n, .slice a l c] 28 (0, 0))) := Lib.hid (fun W hW => ⟨Below.up hbm (Below.up hbp hW), (hW.block _ (by omega)).trans hrow⟩)
      have hto : Hid (∀ W, Below wp.heap.size (wm2.alloc (.cells #[.int .i64 x.op, .int .i64 x.n, .slice a l c] 28)) W → Below wp.heap.size wp W) := Lib.hid (fun W h => by rw [hwp] at h ⊢; exact h)
      rw [hwp] at hC
      replace hC := Lib.hid hC
      replace hwp := Lib.hid hwp
      clear hF1 hIx hbe2 hbm hbp hrow hzp
      go_upto_region 99 with fail
      refine (hC.out).mono ?_
      rintro e w3 ⟨rfl, hb3⟩
      have hb3' := hto.out w3 (by rw [hwp.out]; exact hb3)
      obtain ⟨hbw3, hr3⟩ := hbox.out w3 hb3'
      obtain ⟨⟨y0, y1, y2⟩, -⟩ := c3_cells hr3
      obtain ⟨⟨s0, s1⟩, ⟨p0, p1, p2⟩, ⟨x0, x1, x2⟩⟩ := hcells.out _ hbw3
      have hC2 := h32.out w3 hb3'
      replace hC2 := Lib.hid hC2
      clear hC hb3 hr3
      replace hbw3 := Lib.hid hbw3
      go_upto_region 99 with fail
      refine (hC2.out).mono ?_
      rintro e w4 ⟨rfl, hb4⟩
      clear hC2 y0 y1 y2 s0 s1 p0 p1 p2 x0 x1 x2
      replace hb4 := Lib.hid (Below.up hbw3.out hb4)
      go_wp2_with fail
      go_meet
      exact hb4.out
  case rest =>
    obtain ⟨wx, hwx⟩ : ∃ W, W = wc := ⟨_, rfl⟩
    rw [← hwx] at hcut ⊢
    have hbx := Lib.hid hcut
    clear hwx hI1 hM hbe hcut hka
    -- the proposal's Terms: all values, or the law says no more
    go_wp2_with fail
    go_loopw [13] (fun i W => ∃ k : Nat, k ≤ L.length ∧ i = .int .i64 (k : Nat) ∧ Hid (Below W0.heap.size W0 W)) (fun i _ => L.length - (intOf i).toNat)
    case atStart => exact ⟨0, by omega, rfl, hbx⟩
    case round =>
      obtain ⟨k, hk, rfl, hb⟩ := hrel
      by_cases hlt : k < L.length
      · have o1 : (k : Int) < (L.length : Int) := by omega
        obtain ⟨q0, q1, q2, q3, q4⟩ := hlie.out wr hb.out
        obtain ⟨-, -, -, g4⟩ := q4
        rcases g4 with g4 | ⟨b, off, ha, hbn, gk⟩
        · rw [g4] at hlt; simp at hlt
        obtain ⟨c0, a', l', c', c1, c2⟩ := gk k hlt
        obtain ⟨x0, x1, x2⟩ := c1
        have hC := Value_any L[k].2.size L[k].2 n₀ wr a' l' c' (Nat.le_refl _) c2 q0
        obtain ⟨t, ht⟩ : ∃ t, t = L[k].2 := ⟨_, rfl⟩
        rw [← ht] at hC x0 x1 c2
        obtain ⟨v20, hv20⟩ : ∃ v, v = isVal t := ⟨_, rfl⟩
        rw [← hv20] at hC
        replace hC := Lib.hid hC
        clear q1 q2 q3 gk c0 c2 ht hv20
        rw [ha]
        go_upto_region 99 with fail
        refine (hC.out).mono ?_
        rintro e wm ⟨rfl, hbe2⟩
        clear hC x0 x1 x2
        replace hbe2 := Lib.hid (Below.up hb.out hbe2)
        cases v20
        · go_wp2_with (go_at_call 12; refine (hKn.out _).mono ?_; rintro e wl ⟨rfl, hbe3⟩)
          go_ret
          exact ⟨rfl, Below.up hB0.out (Below.up hbe2.out hbe3)⟩
        · go_wp2_with fail
          go_roundw
          case rel => exact ⟨k + 1, by omega, by go_num, hbe2⟩
          case measure => simp [intOf]; omega
      · have hke : k = L.length := by omega
        have o1 : ¬ (k : Int) < (L.length : Int) := by omega
        -- what the proposal makes of both
        obtain ⟨T1, e1, hR1⟩ : ∃ T e, subV s L d.tm = (T, e) := ⟨_, _, rfl⟩
        obtain ⟨T2, e2, hR2⟩ : ∃ T e, subV s L x.tm = (T, e) := ⟨_, _, rfl⟩
        have hc1 := Lib.hid (subV_cases hR1)
        have hc2 := Lib.hid (subV_cases hR2)
        have hS1 : Hid (∀ W, Below W0.heap.size W0 W → Calls Tryz.prog 26 #[.agg #[.slice ac lc cc, .slice af lf cf], dv d, .slice al L.length cl] W (SubstEnd W (T1, e1))) := Lib.hid (fun W hW => by
          rw [← hR1]; exact (hA.out.k26 W al L.length cl L hW (hA.out.own W hW) hlf.out).1)
        have hS2 : Hid (∀ W, Below W0.heap.size W0 W → Calls Tryz.prog 26 #[.agg #[.slice ac lc cc, .slice af lf cf], dv x, .slice al L.length cl] W (SubstEnd W (T2, e2))) := Lib.hid (fun W hW => by
          rw [← hR2]; exact (hA.out.k26 W al L.length cl L hW (hA.out.own W hW) hlf.out).2)
        clear hR1 hR2 hke hk hlt
        obtain ⟨⟨s0, s1⟩, ⟨p0, p1, p2⟩, ⟨x0, x1, x2⟩⟩ := hcells.out _ hb.out
        have hC := hS1.out _ hb.out
        replace hC := Lib.hid hC
        go_upto_region 99 with fail
        refine (hC.out).mono ?_
        rintro e wm ⟨a1, l1, c1, rfl, hF1, hbe2⟩
        clear hC s0 s1 p0 p1 p2 x0 x1 x2
        go_upto_region 16 with fail
        obtain ⟨wp, hwp⟩ : ∃ W, W = wm.alloc (.cells #[.int .i64 T1.op, .int .i64 T1.n, .slice a1 l1 c1] 28) := ⟨_, rfl⟩
        rw [← hwp]
        have hbm : Below W0.heap.size W0 wm := Below.up hb.out hbe2
        have hbp : Below wm.heap.size wm wp := by rw [hwp]; exact bal _ _
        have hr1 : Hid (wp.heap[wm.heap.size]? = some (.cells #[.int .i64 T1.op, .int .i64 T1.n, .slice a1 l1 c1] 28 (0, 0))) := Lib.hid (by rw [hwp]; exact heap_new'' _ _)
        have hzp : wp.heap.size = wm.heap.size + 1 := by rw [hwp]; simp
        have hI1 : Hid (IsTm wm.heap.size wm T1 a1 l1 c1) := Lib.hid hF1.is
        have hbwp := Lib.hid (Below.up hbm hbp)
        replace hbp := Lib.hid hbp
        replace hzp := Lib.hid hzp
        clear hwp hF1 hbe2 hbm
        obtain ⟨⟨s0, s1⟩, ⟨p0, p1, p2⟩, ⟨x0, x1, x2⟩⟩ := hcells.out _ hbwp.out
        have hC := hS2.out _ hbwp.out
        replace hC := Lib.hid hC
        go_upto_region 99 with fail
        refine (hC.out).mono ?_
        rintro e wm2 ⟨a2, l2, c2, rfl, hF2, hbe2⟩
        clear hC s0 s1 p0 p1 p2 x0 x1 x2
        go_upto_region 17 with fail
        obtain ⟨wq, hwq⟩ : ∃ W, W = wm2.alloc (.cells #[.int .i64 T2.op, .int .i64 T2.n, .slice a2 l2 c2] 28) := ⟨_, rfl⟩
        rw [← hwq]
        have hbq : Below wm2.heap.size wm2 wq := by rw [hwq]; exact bal _ _
        have hr2 : wq.heap[wm2.heap.size]? = some (.cells #[.int .i64 T2.op, .int .i64 T2.n, .slice a2 l2 c2] 28 (0, 0)) := by rw [hwq]; exact heap_new'' _ _
        have hzq : wq.heap.size = wm2.heap.size + 1 := by rw [hwq]; simp
        have hI2 := hF2.is
        have hz2 := hbe2.size
        have hbwq : Below W0.heap.size W0 wq := Below.up hbwp.out (Below.up hbe2 hbq)
        have hpq : Below wp.heap.size wp wq := Below.up hbe2 hbq
        have hat : Hid (∀ W, Below wq.heap.size wq W → Below W0.heap.size W0 W ∧ W.heap[wm.heap.size]? = some (.cells #[.int .i64 T1.op, .int .i64 T1.n, .slice a1 l1 c1] 28 (0, 0)) ∧ W.heap[wm2.heap.size]? = some (.cells #[.int .i64 T2.op, .int .i64 T2.n, .slice a2 l2 c2] 28 (0, 0)) ∧ IsTm W.heap.size W T1 a1 l1 c1 ∧ IsTm W.heap.size W T2 a2 l2 c2) := Lib.hid (fun W hW => by
          have hzW := hW.size
          have hz := hzp.out
          have hpW : Below wp.heap.size wp W := Below.up hpq hW
          have hmW : Below wm.heap.size wm W := Below.up hbp.out hpW
          have h2W : Below wm2.heap.size wm2 W := Below.up hbq hW
          exact ⟨Below.up hbwq hW, (hpW.block _ (by omega)).trans hr1.out, (hW.block _ (by omega)).trans hr2, (IsTm.below hmW _ hI1.out).wider (by have := hmW.size; omega), (IsTm.below h2W _ hI2).wider (by have := h2W.size; omega)⟩)
        have hbwq' := Lib.hid hbwq
        replace hr2 := Lib.hid hr2
        replace hz2 := Lib.hid hz2
        clear hwq hbq hzq hI1 hI2 hF2 hbe2 hbwq hpq hr1 hr2 hbp hzp hS1 hS2 hbwp hb hbx
        go_cut [18] from 118 to 135 (fun p W => ∃ b, p = .bool b ∧ (b = true → sb (subL L) d.tm = sb (subL L) x.tm) ∧ Below W0.heap.size W0 W)
        case first =>
          rcases hc1.out with ⟨he1, hT1, hf1⟩ | he1
          · rcases hc2.out with ⟨he2, hT2, hf2⟩ | he2
            · subst he1 he2
              replace hT1 := Lib.hid hT1
              replace hT2 := Lib.hid hT2
              have h31 : Hid (∀ W, Below wq.heap.size wq W → Calls Tryz.prog 31 #[.agg #[.int .i64 T1.op, .int .i64 T1.n, .slice a1 l1 c1]] W (fun e w' => e = .returned (.bool true) ∧ Below W.heap.size W w') ∧ Calls Tryz.prog 31 #[.agg #[.int .i64 T2.op, .int .i64 T2.n, .slice a2 l2 c2]] W (fun e w' => e = .returned (.bool true) ∧ Below W.heap.size W w')) := Lib.hid (fun W hW => by
                obtain ⟨-, -, -, i1, i2⟩ := hat.out W hW
                have k1 := Small_any T1 W.heap.size W a1 l1 c1 i1 (Nat.le_refl _)
                have k2 := Small_any T2 W.heap.size W a2 l2 c2 i2 (Nat.le_refl _)
                rw [formed_smallg hf1] at k1
                rw [formed_smallg hf2] at k2
                exact ⟨k1, k2⟩)
              obtain ⟨b, hbS⟩ : ∃ b, b = sameB T1 T2 := ⟨_, rfl⟩
              have h32 : Hid (∀ W, Below wq.heap.size wq W → Calls Tryz.prog 32 #[.agg #[.int .i64 T1.op, .int .i64 T1.n, .slice a1 l1 c1], .agg #[.int .i64 T2.op, .int .i64 T2.n, .slice a2 l2 c2]] W fun e w' => e = .returned (.bool b) ∧ Below W.heap.size W w') := Lib.hid (fun W hW => by
                obtain ⟨-, -, -, i1, i2⟩ := hat.out W hW
                rw [hbS]
                exact Same_any T1.size T1 T2 W.heap.size W a1 l1 c1 a2 l2 c2 (Nat.le_refl _) i1 i2 (Nat.le_refl _))
              have hfin : Hid (b = true → sb (subL L) d.tm = sb (subL L) x.tm) := Lib.hid (fun h => by rw [← hT1.out, ← hT2.out]; exact sameB_of _ _ (by rw [← hbS]; exact h))
              clear hbS hf1 hf2 hT1 hT2 hc1 hc2
              have hq0 : Hid (Below wq.heap.size wq wq) := Lib.hid (Below.refl _ _)
              obtain ⟨-, r1, r2, -, -⟩ := hat.out wq hq0.out
              obtain ⟨⟨y0, y1, y2⟩, -⟩ := c3_cells r1
              obtain ⟨⟨z0, z1, z2⟩, -⟩ := c3_cells r2
              have hC := Lib.hid ((h31.out wq hq0.out).1)
              clear r1 r2
              go_upto_region 99 with fail
              refine (hC.out).mono ?_
              rintro e w5 ⟨rfl, hbe2⟩
              have hq1 : Hid (Below wq.heap.size wq w5) := Lib.hid (Below.up hq0.out hbe2)
              clear hC y0 y1 y2 z0 z1 z2 hbe2
              obtain ⟨-, r1, r2, -, -⟩ := hat.out w5 hq1.out
              obtain ⟨⟨y0, y1, y2⟩, -⟩ := c3_cells r1
              obtain ⟨⟨z0, z1, z2⟩, -⟩ := c3_cells r2
              have hC := Lib.hid ((h31.out w5 hq1.out).2)
              clear r1 r2
              go_upto_region 99 with fail
              refine (hC.out).mono ?_
              rintro e w6 ⟨rfl, hbe2⟩
              have hq2 : Hid (Below wq.heap.size wq w6) := Lib.hid (Below.up hq1.out hbe2)
              clear hC y0 y1 y2 z0 z1 z2 hbe2
              obtain ⟨-, r1, r2, -, -⟩ := hat.out w6 hq2.out
              obtain ⟨⟨y0, y1, y2⟩, -⟩ := c3_cells r1
              obtain ⟨⟨z0, z1, z2⟩, -⟩ := c3_cells r2
              have hC := Lib.hid (h32.out w6 hq2.out)
              clear r1 r2
              go_upto_region 99 with fail
              refine (hC.out).mono ?_
              rintro e w7 ⟨rfl, hbe2⟩
              have hq3 : Hid (Below wq.heap.size wq w7) := Lib.hid (Below.up hq2.out hbe2)
              clear hC y0 y1 y2 z0 z1 z2 hbe2
              go_wp2_with fail
              go_meet
              exact ⟨b, rfl, hfin.out, (hat.out w7 hq3.out).1⟩
            · subst he1 he2
              clear hc1 hc2
              go_wp2_with fail
              go_meet
              exact ⟨false, rfl, (fun h => (by cases h)), hbwq'.out⟩
          · subst he1
            clear hc1 hc2
            go_wp2_with fail
            go_meet
            exact ⟨false, rfl, (fun h => (by cases h)), hbwq'.out⟩
        case rest =>
          obtain ⟨b, rfl, hp, hbc⟩ := hcut
          obtain ⟨wy, hwy⟩ : ∃ W, W = wc := ⟨_, rfl⟩
          rw [← hwy] at hbc ⊢
          replace hbc := Lib.hid hbc
          replace hp := Lib.hid hp
          clear hwy
          try clear hat
          try clear hc1
          try clear hc2
          try clear hbwq'
          try clear hr2
          try clear hz2
          -- Unify
          obtain ⟨⟨s0, s1⟩, ⟨p0, p1, p2⟩, ⟨x0, x1, x2⟩⟩ := hcells.out _ hbc.out
          have hC := hA.out.k38 _ hbc.out
          unfold MgEnd at hC
          replace hC := Lib.hid hC
          go_upto_region 99 with fail
          refine (hC.out).mono ?_
          rintro e wm3 ⟨va2, vl2, vc2, rfl, hI2, hbe2⟩
          clear hC s0 s1 p0 p1 p2 x0 x1 x2
          have hbz := Lib.hid (Below.up hbc.out hbe2)
          replace hI2 := Lib.hid hI2
          clear hbe2
          rcases hF.out with ⟨hE, hM0, hno⟩ | ⟨hE, hM0⟩ | ⟨hE, hl2, hv2, hs2, hf2, hσ⟩
          · cases b
            · subst hE
              clear hno hM0
              go_wp2_with (go_at_call 12; refine (hKn.out _).mono ?_; rintro e wl ⟨rfl, hbe3⟩)
              go_ret
              exact ⟨rfl, Below.up hB0.out (Below.up hbz.out hbe3)⟩
            · exact absurd (hp.out rfl) (hno L)
          · subst hE
            clear hM0
            go_wp2_with (go_at_call 12; refine (hKn.out _).mono ?_; rintro e wl ⟨rfl, hbe3⟩)
            go_ret
            exact ⟨rfl, Below.up hB0.out (Below.up hbz.out hbe3)⟩
          · subst hE
            replace hl2 := Lib.hid hl2
            replace hv2 := Lib.hid hv2
            replace hs2 := Lib.hid hs2
            replace hf2 := Lib.hid hf2
            replace hσ := Lib.hid hσ
            clear hF
            -- the list that Unify answers is small, and well formed
            obtain ⟨rfl, u1, u2, u3⟩ := id hI2.out
            have hbN : Hid (Below wm3.heap.size wm3 wm3) := Lib.hid (Below.refl _ _)
            have hC := SmallBinds_any M2 wm3.heap.size wm3 va2 M2.length vc2 hI2.out (Nat.le_refl _)
            rw [lf_small hl2.out] at hC
            replace hC := Lib.hid hC
            clear u1 u2 u3
            go_upto_region 99 with fail
            refine (hC.out).mono ?_
            rintro e w8 ⟨rfl, hb8⟩
            clear hC
            have hI8 : Hid (IsBinds wm3.heap.size w8 M2 va2 M2.length vc2) := Lib.hid (hI2.out.below hb8)
            have hz8 := hb8.size
            replace hb8 := Lib.hid (Below.up hbz.out hb8)
            obtain ⟨⟨s0, s1⟩, ⟨p0, p1, p2⟩, ⟨x0, x1, x2⟩⟩ := hcells.out _ hb8.out
            have hC := Lib.hid (hA.out.k27 w8 va2 M2.length vc2 M2 hb8.out (binds_wider hz8 hI8.out) hl2.out)
            clear p0 p1 p2 x0 x1 x2
            go_upto_region 99 with fail
            refine (hC.out).mono ?_
            rintro e w9 ⟨rfl, hb9⟩
            clear hC s0 s1
            have hI9 : Hid (IsBinds w8.heap.size w9 M2 va2 M2.length vc2) := Lib.hid ((binds_wider hz8 hI8.out).below hb9)
            have hz9 := hb9.size
            replace hb9 := Lib.hid (Below.up hb8.out hb9)
            clear hI8 hI2 hbz hb8 hz8
            have hfz : Hid (∀ j (h : j < M2.length), formedB s M2[j].2 = true) := Lib.hid (fun j h => ((lfB_all hl2.out (by omega) (by omega)).2 _ (List.getElem_mem h)).2)
            have hn9 : Hid (w8.heap.size ≤ w9.heap.size) := Lib.hid hz9
            have hM20 : M2.length ≤ 20 := by have := (lfB_all hl2.out (by omega) (by omega)).1; omega
            have hst9 : Hid (Below w9.heap.size w9 w9) := Lib.hid (Below.refl _ _)
            clear hz9
            go_wp2_with fail
            -- the bindings of Unify's list, one after another
            go_loopw [21] (fun i W => ∃ j : Nat, j ≤ M2.length ∧ i = .int .i64 (j : Nat) ∧ Hid (Below w9.heap.size w9 W)) (fun i _ => M2.length - (intOf i).toNat)
            case atStart => exact ⟨0, by omega, rfl, hst9⟩
            case round =>
              obtain ⟨j, hj, rfl, hbj⟩ := hrel
              obtain ⟨wu, rfl⟩ : ∃ wu : World, wu = wr := ⟨_, rfl⟩
              clear hst9
              by_cases hjl : j < M2.length
              · have o8 : (j : Int) < (M2.length : Int) := by omega
                have hIj := hI9.out.below (hbj.out.mono hn9.out)
                obtain ⟨-, g2, -, g4⟩ := hIj
                rcases g4 with g4 | ⟨bL, oL, ha2, hbL, gk⟩
                · rw [g4] at hjl; simp at hjl
                obtain ⟨c0, a', l', c', c1, c2⟩ := gk j hjl
                have hbW := Lib.hid (Below.up hb9.out hbj.out)
                have hzj := hbj.out.size
                have hVc := Lib.hid (fun W (hW : Below wu.heap.size wu W) => hA.out.k17 M2[j].2 (hfz.out j hjl) W a' l' c' (Below.up hbW.out hW) (IsTm.wider (by have := hW.size; have := hn9.out; omega) _ (IsTm.below (hW.mono (by have := hn9.out; omega)) _ c2)))
                have hcS := Lib.hid (fun W (hW : Below wu.heap.size wu W) => (hcells.out W (Below.up hbW.out hW)).1)
                have hcJ := Lib.hid (fun W (hW : Below wu.heap.size wu W) => c1.below (hW.mono (by have := hn9.out; omega)) hbL)
                have hIt : Hid (∀ W, Below wu.heap.size wu W → IsTm W.heap.size W M2[j].2 a' l' c') := Lib.hid (fun W hW => IsTm.wider (by have := hW.size; have := hn9.out; omega) _ (IsTm.below (hW.mono (by have := hn9.out; omega)) _ c2))
                have hcV : Hid (∀ W, Below wu.heap.size wu W → ∀ z (h : z < M2.length), W.cell? ⟨bL, oL + z * 4, none⟩ = some (.int .i64 M2[z].1)) := Lib.hid (fun W hW z h => (hW.cell (p := ⟨bL, oL + z * 4, none⟩) (by simp; have := hn9.out; omega)).trans (gk z h).1)
                have hcT : Hid (∀ W, Below wu.heap.size wu W → Cells3 W bL (oL + j * 4 + 1) M2[j].2.op M2[j].2.n a' l' c') := Lib.hid (fun W hW => c1.below (hW.mono (by have := hn9.out; omega)) hbL)
                clear c0 c1 c2 gk g2
                rw [ha2]
                go_upto_region 26 with fail
                refine region_named (S := fun W' => Below wu.heap.size wu W') (by kernel_rfl) (fun x hx => ?_)
                have hqS : Hid (Below wu.heap.size wu x) := Lib.hid (by rw [hx]; exact (Below.refl _ _).drew)
                clear hx
                refine takeH 0 174 (.agg #[.slice ac lc cc, .slice af lf cf]) rfl rfl (by kernel_rfl) (by kernel_rfl) (by kernel_rfl) (fun _ _ _ h => h) (by rfl) (by intro W hSw; obtain ⟨j0, j1⟩ := hcS.out W hSw; clear hSw; go_simp) hqS.out ?_
                try simp only [List.setIfInBounds_toArray, List.set_cons_zero, List.set_cons_succ]
                refine takeH 1 175 (.slice (some ⟨bL, oL, none⟩) M2.length vc2) rfl rfl (by kernel_rfl) (by kernel_rfl) (by kernel_rfl) (fun _ _ _ h => h) (by rfl) (by intro W hSw; clear hSw; go_simp) hqS.out ?_
                try simp only [List.setIfInBounds_toArray, List.set_cons_zero, List.set_cons_succ]
                refine takeH 2 176 (.int .i64 (j : Nat)) rfl rfl (by kernel_rfl) (by kernel_rfl) (by kernel_rfl) (fun _ _ _ h => h) (by rfl) (by intro W hSw; clear hSw; go_simp) hqS.out ?_
                try simp only [List.setIfInBounds_toArray, List.set_cons_zero, List.set_cons_succ]
                refine takeH 3 177 (.pointer (some ⟨bL, oL + j * 4, none⟩)) rfl rfl (by kernel_rfl) (by kernel_rfl) (by kernel_rfl) (fun _ _ _ h => h) (by rfl) (by intro W hSw; clear hSw; go_simp) hqS.out ?_
                try simp only [List.setIfInBounds_toArray, List.set_cons_zero, List.set_cons_succ]
                refine takeH 4 178 (.pointer (some ⟨bL, oL + j * 4 + 1, none⟩)) rfl rfl (by kernel_rfl) (by kernel_rfl) (by kernel_rfl) (fun _ _ _ h => h) (by rfl) (by intro W hSw; clear hSw; go_simp) hqS.out ?_
                try simp only [List.setIfInBounds_toArray, List.set_cons_zero, List.set_cons_succ]
                refine takeH 5 179 (.agg #[.int .i64 M2[j].2.op, .int .i64 M2[j].2.n, .slice a' l' c']) rfl rfl (by kernel_rfl) (by kernel_rfl) (by kernel_rfl) (fun _ _ _ h => h) (by rfl) (by intro W hSw; obtain ⟨j0, j1, j2⟩ := hcJ.out W hSw; clear hSw; go_simp) hqS.out ?_
                try simp only [List.setIfInBounds_toArray, List.set_cons_zero, List.set_cons_succ]
                refine wpAnyH_ready (rs := [6]) (by kernel_rfl) (by simp) ?_
                refine AllReadyH.cons rfl (fun K hKc => ?_) AllReadyH.nil
                go_simp
                go_at_call 17
                refine (hVc.out x hqS.out).mono ?_
                rintro e x1 ⟨v3, rfl, hr3, hb1⟩
                obtain ⟨av3, cv3, rfl, hI3, hba3⟩ := row_intsC hr3.out
                have hB1 : Hid (Below wu.heap.size wu x1) := Lib.hid (Below.up hqS.out hb1)
                obtain ⟨G2, hG2⟩ : ∃ l, l = listTo (fvT M2[j].2) 20 := ⟨_, rfl⟩
                rw [← hG2] at hI3 ⊢
                have hG2l : G2.length ≤ 20 := by rw [hG2]; exact listTo_len _ _
                have hfree : Hid (∀ i (h : i < G2.length), ∀ z (h2 : z < M2.length), M2[z].1 ≠ ((G2[i] : Nat) : Int)) := Lib.hid (fun i h z h2 => by
                  have hm : G2[i] ∈ listTo (fvT M2[j].2) 20 := by rw [← hG2]; exact List.getElem_mem h
                  exact hf2.out _ (List.getElem_mem hjl) _ (List.getElem_mem h2) _ (listTo_mem hm).2)
                replace hI3 := Lib.hid hI3
                clear hr3 hG2 hba3 hb1 hVc hcS hcJ
                refine hKc _ _ hB1.out (fun _ => ?_)
                clear hKc K
                try simp only [List.setIfInBounds_toArray, List.set_cons_zero, List.set_cons_succ]
                refine takeH 7 173 (.tuple #[.slice av3 G2.length cv3, .int .i64 0]) rfl rfl (by kernel_rfl) (by kernel_rfl) (by kernel_rfl) (fun _ _ _ h => h) (by rfl) (by intro W hSw; clear hSw; go_simp) hB1.out ?_
                try simp only [List.setIfInBounds_toArray, List.set_cons_zero, List.set_cons_succ]
                refine takeH 8 181 (.slice av3 G2.length cv3) rfl rfl (by kernel_rfl) (by kernel_rfl) (by kernel_rfl) (fun _ _ _ h => h) (by rfl) (by intro W hSw; clear hSw; go_simp) hB1.out ?_
                try simp only [List.setIfInBounds_toArray, List.set_cons_zero, List.set_cons_succ]
                refine takeH 9 182 (.int .i64 0) rfl rfl (by kernel_rfl) (by kernel_rfl) (by kernel_rfl) (fun _ _ _ h => h) (by rfl) (by intro W hSw; clear hSw; go_simp) hB1.out ?_
                try simp only [List.setIfInBounds_toArray, List.set_cons_zero, List.set_cons_succ]
                refine takeH 10 22 (.slice av3 G2.length cv3) rfl rfl (by kernel_rfl) (by kernel_rfl) (by kernel_rfl) (fun _ _ _ h => h) (by rfl) (by intro W hSw; clear hSw; go_simp) hB1.out ?_
                try simp only [List.setIfInBounds_toArray, List.set_cons_zero, List.set_cons_succ]
                refine takeH 11 23 (.int .i64 0) rfl rfl (by kernel_rfl) (by kernel_rfl) (by kernel_rfl) (fun _ _ _ h => h) (by rfl) (by intro W hSw; clear hSw; go_simp) hB1.out ?_
                try simp only [List.setIfInBounds_toArray, List.set_cons_zero, List.set_cons_succ]
                refine wpAnyH_done (by kernel_rfl) ?_ _
                have hst1 : Hid (Below x1.heap.size x1 x1) := Lib.hid (Below.refl _ _)
                replace hzj := Lib.hid hzj
                clear hqS
                go_wp2_with fail
                -- none of its variables is bound
                go_loopw [24] (fun kk W => ∃ k : Nat, k ≤ G2.length ∧ kk = .int .i64 (k : Nat) ∧ Hid (Below x1.heap.size x1 W)) (fun kk _ => G2.length - (intOf kk).toNat)
                case atStart => exact ⟨0, by omega, rfl, hst1⟩
                case round =>
                  obtain ⟨k, hk, rfl, hbk⟩ := hrel
                  obtain ⟨wv, rfl⟩ : ∃ wv : World, wv = wr := ⟨_, rfl⟩
                  clear hst1
                  by_cases hkl : k < G2.length
                  · have o9 : (k : Int) < (G2.length : Int) := by omega
                    obtain ⟨b3, o3', ha3, hb3', hc3⟩ := intsC_at hI3.out hkl
                    obtain ⟨m, hm⟩ : ∃ m, m = G2[k] := ⟨_, rfl⟩
                    rw [← hm] at hc3
                    have hmf : Hid (∀ z (h2 : z < M2.length), M2[z].1 ≠ ((m : Nat) : Int)) := Lib.hid (fun z h2 => by rw [hm]; exact hfree.out k hkl z h2)
                    have hc3' : Hid (∀ W, Below x1.heap.size x1 W → W.cell? ⟨b3, o3' + k, none⟩ = some (.int .i64 (m : Nat))) := Lib.hid (fun W hW => (hW.cell (p := ⟨b3, o3' + k, none⟩) (by simpa using hb3')).trans hc3)
                    have o11 : k < G2.length := hkl
                    clear hc3 hm hb3'
                    rw [ha3]
                    go_wp2_with fail
                    go_loopw [25] (fun zz W => ∃ z : Nat, z ≤ M2.length ∧ zz = .int .i64 (z : Nat) ∧ Hid (Below x1.heap.size x1 W)) (fun zz _ => M2.length - (intOf zz).toNat)
                    case atStart => exact ⟨0, by omega, rfl, hbk⟩
                    case round =>
                      obtain ⟨z, hz, rfl, hbz2⟩ := hrel
                      by_cases hzl : z < M2.length
                      · have o10 : (z : Int) < (M2.length : Int) := by omega
                        have e1 := hcV.out wr (Below.up hB1.out hbz2.out) z hzl
                        have e2 := hc3'.out wr hbz2.out
                        have hne := hmf.out z hzl
                        have o12 : (M2[z].1 == ((m : Nat) : Int)) = false := by simpa using hne
                        clear hne
                        obtain ⟨yz, hyz⟩ : ∃ y, y = M2[z].1 := ⟨_, rfl⟩
                        rw [← hyz] at e1 o12
                        clear hyz
                        go_wp2_with fail
                        go_quiet (fail)
                        go_wp2_with fail
                        go_roundw
                        case rel => exact ⟨z + 1, by omega, by go_num, Lib.hid (Below.up hbz2.out (below_drewN _ _ _))⟩
                        case measure => simp [intOf]; omega
                      · have o10 : ¬ (z : Int) < (M2.length : Int) := by omega
                        go_wp2_with fail
                        go_roundw
                        case rel => exact ⟨k + 1, by omega, by go_num, hbz2⟩
                        case measure => simp [intOf]; omega
                  · have o9 : ¬ (k : Int) < (G2.length : Int) := by omega
                    have hbv : Hid (Below wu.heap.size wu wv) := Lib.hid (Below.up hB1.out hbk.out)
                    clear hfree hI3 hbk hB1
                    cases b
                    · go_wp2_with fail
                      go_roundw
                      case rel => exact ⟨j + 1, by omega, by go_num, Lib.hid (Below.up hbj.out hbv.out)⟩
                      case measure => simp [intOf]; omega
                    · obtain ⟨hσ1, hσ2⟩ := hσ.out L hlf.out (hp.out rfl) M2[j] (List.getElem_mem hjl)
                      obtain ⟨T, hT⟩ : ∃ T, T = subL L M2[j].1 := ⟨_, rfl⟩
                      rw [← hT] at hσ1 hσ2
                      have hfT : formedB s T = true := subV_ok hσ2
                      have hv01 := ((lfB_all hl2.out (by omega) (by omega)).2 _ (List.getElem_mem hjl)).1
                      have hS38 : Hid (∀ W, Below wu.heap.size wu W → Calls Tryz.prog 26 #[.agg #[.slice ac lc cc, .slice af lf cf], .agg #[.int .i64 1, .int .i64 M2[j].1, .slice none 0 0], .slice al L.length cl] W (SubstEnd W (T, 0))) := Lib.hid (fun W hW => by
                        have := hA.out.k26z (.mk 1 M2[j].1 []) (by have h9 := var_formed s M2[j].1.toNat (by omega); rw [Int.toNat_of_nonneg hv01.1] at h9; exact h9) rfl W none 0 0 (Below.up (Below.up hb9.out hbj.out) hW) (by simp [IsTm])
                        rw [hσ1] at this
                        exact this)
                      have hS39 : Hid (∀ W, Below wu.heap.size wu W → Calls Tryz.prog 26 #[.agg #[.slice ac lc cc, .slice af lf cf], .agg #[.int .i64 M2[j].2.op, .int .i64 M2[j].2.n, .slice a' l' c'], .slice al L.length cl] W (SubstEnd W (T, 0))) := Lib.hid (fun W hW => by
                        have := hA.out.k26z M2[j].2 (hfz.out j hjl) (hv2.out _ (List.getElem_mem hjl)) W a' l' c' (Below.up (Below.up hb9.out hbj.out) hW) (hIt.out W hW)
                        rw [hσ2] at this
                        exact this)
                      have hcS := Lib.hid (fun W (hW : Below wu.heap.size wu W) => (hcells.out W (Below.up hbW.out hW)).1)
                      have hcJ := Lib.hid (fun W (hW : Below wu.heap.size wu W) => hcV.out W hW j hjl)
                      have hcK : Hid (∀ W, Below wu.heap.size wu W → Cells3 W bL (oL + j * 4 + 1) M2[j].2.op M2[j].2.n a' l' c') := Lib.hid (fun W hW => hcT.out W hW)
                      clear hσ1 hσ2 hT hv01 hcV hIt
                      replace hfT := Lib.hid hfT
                      obtain ⟨yv, hyv⟩ : ∃ y, y = M2[j].1 := ⟨_, rfl⟩
                      rw [← hyv] at hS38 hcJ
                      clear hyv
                      obtain ⟨yt, hyt⟩ : ∃ y, y = M2[j].2 := ⟨_, rfl⟩
                      rw [← hyt] at hS39 hcK
                      clear hyt
                      go_upto_region 38 with fail
                      go_cut [23, 26] from 209 to 220 (fun s23 s26 W => Slot3 wv.heap.size T s26 W ∧ s23 = .int .i64 0 ∧ Below wv.heap.size wv W)
                      case first =>
                        refine region_named (S := fun W' => Below wv.heap.size wv W') (by kernel_rfl) (fun x hx => ?_)
                        have hSx : Hid (Below wv.heap.size wv x) := Lib.hid (by rw [hx]; exact (Below.refl _ _).drew)
                        clear hx
                        refine takeH 0 210 (.agg #[.slice ac lc cc, .slice af lf cf]) rfl rfl (by kernel_rfl) (by kernel_rfl) (by kernel_rfl) (fun _ _ _ h => h) (by rfl) (by intro W hSw; obtain ⟨j0, j1⟩ := hcS.out W (Below.up hbv.out hSw); clear hSw; go_simp) hSx.out ?_
                        try simp only [List.setIfInBounds_toArray, List.set_cons_zero, List.set_cons_succ]
                        refine takeH 1 211 (.slice (some ⟨bL, oL, none⟩) M2.length vc2) rfl rfl (by kernel_rfl) (by kernel_rfl) (by kernel_rfl) (fun _ _ _ h => h) (by rfl) (by intro W hSw; clear hSw; go_simp) hSx.out ?_
                        try simp only [List.setIfInBounds_toArray, List.set_cons_zero, List.set_cons_succ]
                        refine takeH 2 212 (.int .i64 (j : Nat)) rfl rfl (by kernel_rfl) (by kernel_rfl) (by kernel_rfl) (fun _ _ _ h => h) (by rfl) (by intro W hSw; clear hSw; go_simp) hSx.out ?_
                        try simp only [List.setIfInBounds_toArray, List.set_cons_zero, List.set_cons_succ]
                        refine takeH 3 213 (.pointer (some ⟨bL, oL + j * 4, none⟩)) rfl rfl (by kernel_rfl) (by kernel_rfl) (by kernel_rfl) (fun _ _ _ h => h) (by rfl) (by intro W hSw; clear hSw; go_simp) hSx.out ?_
                        try simp only [List.setIfInBounds_toArray, List.set_cons_zero, List.set_cons_succ]
                        refine takeH 4 214 (.pointer (some ⟨bL, oL + j * 4, none⟩)) rfl rfl (by kernel_rfl) (by kernel_rfl) (by kernel_rfl) (fun _ _ _ h => h) (by rfl) (by intro W hSw; clear hSw; go_simp) hSx.out ?_
                        try simp only [List.setIfInBounds_toArray, List.set_cons_zero, List.set_cons_succ]
                        refine takeH 5 215 (.int .i64 yv) rfl rfl (by kernel_rfl) (by kernel_rfl) (by kernel_rfl) (fun _ _ _ h => h) (by rfl) (by intro W hSw; have j0 := hcJ.out W (Below.up hbv.out hSw); clear hSw; go_simp) hSx.out ?_
                        try simp only [List.setIfInBounds_toArray, List.set_cons_zero, List.set_cons_succ]
                        refine takeH 7 217 (.slice al L.length cl) rfl rfl (by kernel_rfl) (by kernel_rfl) (by kernel_rfl) (fun _ _ _ h => h) (by rfl) (by intro W hSw; clear hSw; go_simp) hSx.out ?_
                        try simp only [List.setIfInBounds_toArray, List.set_cons_zero, List.set_cons_succ]
                        refine wpAnyH_ready (rs := [6, 12]) (by kernel_rfl) (by simp) ?_
                        refine AllReadyH.cons rfl (fun K hKc => ?_) (AllReadyH.cons rfl (fun K hKc => ?_) AllReadyH.nil)
                        · go_simp
                          go_at_call 46
                          refine (v_mk _ _).mono ?_
                          rintro e x2 ⟨rfl, hb1⟩
                          have hSx2 : Hid (Below wv.heap.size wv x2) := Lib.hid (Below.up hSx.out hb1)
                          clear hb1
                          refine hKc _ _ hSx2.out (fun _ => ?_)
                          clear hKc K
                          try simp only [Act.put, List.setIfInBounds_toArray, List.set_cons_zero, List.set_cons_succ]
                          refine wpAnyH_ready (rs := [8, 12]) (by kernel_rfl) (by simp) ?_
                          refine AllReadyH.cons rfl (fun K hKc => ?_) (AllReadyH.cons rfl (fun K hKc => ?_) AllReadyH.nil)
                          · go_simp
                            go_at_call 26
                            refine (hS38.out _ (Below.up hbv.out hSx2.out)).mono ?_
                            rintro e x3 ⟨a1, l1, k1, rfl, hF1, hb1⟩
                            have hSx3 : Hid (Below wv.heap.size wv x3) := Lib.hid (Below.up hSx2.out hb1)
                            replace hF1 := Lib.hid hF1
                            replace hb1 := Lib.hid hb1
                            refine hKc _ _ hSx3.out (fun _ => ?_)
                            clear hKc K
                            try simp only
                            refine takeH 9 209 (.tuple #[.agg #[.int .i64 T.op, .int .i64 T.n, .slice a1 l1 k1], .int .i64 0]) rfl rfl (by kernel_rfl) (by kernel_rfl) (by kernel_rfl) (fun _ _ _ h => h) (by rfl) (by intro W hSw; clear hSw; go_simp) hSx3.out ?_
                            try simp only [List.setIfInBounds_toArray, List.set_cons_zero, List.set_cons_succ]
                            refine takeH 10 219 (.agg #[.int .i64 T.op, .int .i64 T.n, .slice a1 l1 k1]) rfl rfl (by kernel_rfl) (by kernel_rfl) (by kernel_rfl) (fun _ _ _ h => h) (by rfl) (by intro W hSw; clear hSw; go_simp) hSx3.out ?_
                            try simp only [List.setIfInBounds_toArray, List.set_cons_zero, List.set_cons_succ]
                            refine takeH 11 220 (.int .i64 0) rfl rfl (by kernel_rfl) (by kernel_rfl) (by kernel_rfl) (fun _ _ _ h => h) (by rfl) (by intro W hSw; clear hSw; go_simp) hSx3.out ?_
                            try simp only [List.setIfInBounds_toArray, List.set_cons_zero, List.set_cons_succ]
                            refine wpAnyH_ready (rs := [12]) (by kernel_rfl) (by simp) ?_
                            refine AllReadyH.cons rfl (fun K hKc => ?_) AllReadyH.nil
                            go_simp
                            have hSl : Hid (Below wv.heap.size wv (x3.alloc zer3)) := Lib.hid (Below.up hSx3.out (bal _ _))
                            refine hKc _ _ hSl.out (fun _ => ?_)
                            clear hKc K
                            try simp only [Act.put, List.setIfInBounds_toArray, List.set_cons_zero, List.set_cons_succ]
                            refine wpAnyH_ready (rs := [13]) (by kernel_rfl) (by simp) ?_
                            refine AllReadyH.cons rfl (fun K hKc => ?_) AllReadyH.nil
                            go_simp
                            have hSm : Hid (Below wv.heap.size wv (x3.alloc (.cells #[.int .i64 T.op, .int .i64 T.n, .slice a1 l1 k1] 28))) := Lib.hid (Below.up hSx3.out (bal _ _))
                            refine hKc _ _ hSm.out (fun _ => ?_)
                            clear hKc K
                            try simp only [Act.put, List.setIfInBounds_toArray, List.set_cons_zero, List.set_cons_succ]
                            refine takeH 14 23 (.int .i64 0) rfl rfl (by kernel_rfl) (by kernel_rfl) (by kernel_rfl) (fun _ _ _ h => h) (by rfl) (by intro W hSw; clear hSw; go_simp) hSm.out ?_
                            try simp only [List.setIfInBounds_toArray, List.set_cons_zero, List.set_cons_succ]
                            refine wpAnyH_done (by kernel_rfl) ?_ _
                            have hs3 := Lib.hid (Slot3.behind (lo := wv.heap.size) (B := x3.heap.size) (W := x2) rfl hSx2.out.size hb1.out.size hF1.out)
                            go_wp2_with fail
                            go_meet
                            case rel => exact ⟨hs3.out, rfl, hSm.out⟩
                          · go_simp
                            obtain ⟨x3, hx3⟩ : ∃ W, W = x2.alloc zer3 := ⟨_, rfl⟩
                            rw [← hx3]
                            have hzx3 : Hid (x3.heap[x2.heap.size]? = some zer3) := Lib.hid (by rw [hx3]; exact heap_new'' _ _)
                            have hsx3 : Hid (x3.heap.size = x2.heap.size + 1) := Lib.hid (by rw [hx3]; simp)
                            have hSx3 : Hid (Below wv.heap.size wv x3) := Lib.hid (by rw [hx3]; exact Below.up hSx2.out (bal _ _))
                            clear hx3
                            refine hKc _ _ hSx3.out (fun _ => ?_)
                            clear hKc K
                            try simp only [Act.put, List.setIfInBounds_toArray, List.set_cons_zero, List.set_cons_succ]
                            have hz := hzx3
                            refine wpAnyH_ready (rs := [8]) (by kernel_rfl) (by simp) ?_
                            refine AllReadyH.cons rfl (fun K hKc => ?_) AllReadyH.nil
                            go_simp
                            go_at_call 26
                            refine (hS38.out _ (Below.up hbv.out hSx3.out)).mono ?_
                            rintro e x4 ⟨a1, l1, k1, rfl, hF1, hb1⟩
                            have hSx4 : Hid (Below wv.heap.size wv x4) := Lib.hid (Below.up hSx3.out hb1)
                            have zz := Lib.hid (zer_keep hb1 hz.out)
                            replace hF1 := Lib.hid hF1
                            replace hb1 := Lib.hid hb1
                            refine hKc _ _ hSx4.out (fun _ => ?_)
                            clear hKc K
                            try simp only
                            refine takeH 9 209 (.tuple #[.agg #[.int .i64 T.op, .int .i64 T.n, .slice a1 l1 k1], .int .i64 0]) rfl rfl (by kernel_rfl) (by kernel_rfl) (by kernel_rfl) (fun _ _ _ h => h) (by rfl) (by intro W hSw; clear hSw; go_simp) hSx4.out ?_
                            try simp only [List.setIfInBounds_toArray, List.set_cons_zero, List.set_cons_succ]
                            refine takeH 10 219 (.agg #[.int .i64 T.op, .int .i64 T.n, .slice a1 l1 k1]) rfl rfl (by kernel_rfl) (by kernel_rfl) (by kernel_rfl) (fun _ _ _ h => h) (by rfl) (by intro W hSw; clear hSw; go_simp) hSx4.out ?_
                            try simp only [List.setIfInBounds_toArray, List.set_cons_zero, List.set_cons_succ]
                            refine takeH 11 220 (.int .i64 0) rfl rfl (by kernel_rfl) (by kernel_rfl) (by kernel_rfl) (fun _ _ _ h => h) (by rfl) (by intro W hSw; clear hSw; go_simp) hSx4.out ?_
                            try simp only [List.setIfInBounds_toArray, List.set_cons_zero, List.set_cons_succ]
                            refine wpAnyH_ready (rs := [13]) (by kernel_rfl) (by simp) ?_
                            refine AllReadyH.cons rfl (fun K hKc => ?_) AllReadyH.nil
                            obtain ⟨⟨z0, z1, z2⟩, z3, z4, z5⟩ := c3_cells zz.out
                            go_simp
                            clear z0 z1 z2 z3 z4 z5
                            have hSm : Hid (Below wv.heap.size wv (((x4.setCell ⟨x2.heap.size, 0, none⟩ (.int .i64 T.op)).setCell ⟨x2.heap.size, 1, none⟩ (.int .i64 T.n)).setCell ⟨x2.heap.size, 2, none⟩ (.slice a1 l1 k1))) := Lib.hid (hSx4.out.trans (set3_below _ _ _ hSx2.out.size))
                            refine hKc _ _ hSm.out (fun _ => ?_)
                            clear hKc K
                            try simp only [Act.put, List.setIfInBounds_toArray, List.set_cons_zero, List.set_cons_succ]
                            refine takeH 14 23 (.int .i64 0) rfl rfl (by kernel_rfl) (by kernel_rfl) (by kernel_rfl) (fun _ _ _ h => h) (by rfl) (by intro W hSw; clear hSw; go_simp) hSm.out ?_
                            try simp only [List.setIfInBounds_toArray, List.set_cons_zero, List.set_cons_succ]
                            refine wpAnyH_done (by kernel_rfl) ?_ _
                            have hs3 := Lib.hid (Slot3.before (lo := wv.heap.size) (B := x2.heap.size) (W := x3) zz.out hSx2.out.size (Array.getElem?_eq_some_iff.1 hz.out).1 hF1.out)
                            go_wp2_with fail
                            go_meet
                            case rel => exact ⟨hs3.out, rfl, hSm.out⟩
                        · go_simp
                          obtain ⟨x2, hx2⟩ : ∃ W, W = x.alloc zer3 := ⟨_, rfl⟩
                          rw [← hx2]
                          have hzx2 : Hid (x2.heap[x.heap.size]? = some zer3) := Lib.hid (by rw [hx2]; exact heap_new'' _ _)
                          have hsx2 : Hid (x2.heap.size = x.heap.size + 1) := Lib.hid (by rw [hx2]; simp)
                          have hSx2 : Hid (Below wv.heap.size wv x2) := Lib.hid (by rw [hx2]; exact Below.up hSx.out (bal _ _))
                          clear hx2
                          refine hKc _ _ hSx2.out (fun _ => ?_)
                          clear hKc K
                          try simp only [Act.put, List.setIfInBounds_toArray, List.set_cons_zero, List.set_cons_succ]
                          refine wpAnyH_ready (rs := [6]) (by kernel_rfl) (by simp) ?_
                          refine AllReadyH.cons rfl (fun K hKc => ?_) AllReadyH.nil
                          go_simp
                          go_at_call 46
                          refine (v_mk _ _).mono ?_
                          rintro e x3 ⟨rfl, hb1⟩
                          have hz := Lib.hid (zer_keep hb1 hzx2.out)
                          have hSx3 : Hid (Below wv.heap.size wv x3) := Lib.hid (Below.up hSx2.out hb1)
                          clear hb1
                          refine hKc _ _ hSx3.out (fun _ => ?_)
                          clear hKc K
                          try simp only [Act.put, List.setIfInBounds_toArray, List.set_cons_zero, List.set_cons_succ]
                          refine wpAnyH_ready (rs := [8]) (by kernel_rfl) (by simp) ?_
                          refine AllReadyH.cons rfl (fun K hKc => ?_) AllReadyH.nil
                          go_simp
                          go_at_call 26
                          refine (hS38.out _ (Below.up hbv.out hSx3.out)).mono ?_
                          rintro e x4 ⟨a1, l1, k1, rfl, hF1, hb1⟩
                          have hSx4 : Hid (Below wv.heap.size wv x4) := Lib.hid (Below.up hSx3.out hb1)
                          have zz := Lib.hid (zer_keep hb1 hz.out)
                          replace hF1 := Lib.hid hF1
                          replace hb1 := Lib.hid hb1
                          refine hKc _ _ hSx4.out (fun _ => ?_)
                          clear hKc K
                          try simp only
                          refine takeH 9 209 (.tuple #[.agg #[.int .i64 T.op, .int .i64 T.n, .slice a1 l1 k1], .int .i64 0]) rfl rfl (by kernel_rfl) (by kernel_rfl) (by kernel_rfl) (fun _ _ _ h => h) (by rfl) (by intro W hSw; clear hSw; go_simp) hSx4.out ?_
                          try simp only [List.setIfInBounds_toArray, List.set_cons_zero, List.set_cons_succ]
                          refine takeH 10 219 (.agg #[.int .i64 T.op, .int .i64 T.n, .slice a1 l1 k1]) rfl rfl (by kernel_rfl) (by kernel_rfl) (by kernel_rfl) (fun _ _ _ h => h) (by rfl) (by intro W hSw; clear hSw; go_simp) hSx4.out ?_
                          try simp only [List.setIfInBounds_toArray, List.set_cons_zero, List.set_cons_succ]
                          refine takeH 11 220 (.int .i64 0) rfl rfl (by kernel_rfl) (by kernel_rfl) (by kernel_rfl) (fun _ _ _ h => h) (by rfl) (by intro W hSw; clear hSw; go_simp) hSx4.out ?_
                          try simp only [List.setIfInBounds_toArray, List.set_cons_zero, List.set_cons_succ]
                          refine wpAnyH_ready (rs := [13]) (by kernel_rfl) (by simp) ?_
                          refine AllReadyH.cons rfl (fun K hKc => ?_) AllReadyH.nil
                          obtain ⟨⟨z0, z1, z2⟩, z3, z4, z5⟩ := c3_cells zz.out
                          go_simp
                          clear z0 z1 z2 z3 z4 z5
                          have hSm : Hid (Below wv.heap.size wv (((x4.setCell ⟨x.heap.size, 0, none⟩ (.int .i64 T.op)).setCell ⟨x.heap.size, 1, none⟩ (.int .i64 T.n)).setCell ⟨x.heap.size, 2, none⟩ (.slice a1 l1 k1))) := Lib.hid (hSx4.out.trans (set3_below _ _ _ hSx.out.size))
                          refine hKc _ _ hSm.out (fun _ => ?_)
                          clear hKc K
                          try simp only [Act.put, List.setIfInBounds_toArray, List.set_cons_zero, List.set_cons_succ]
                          refine takeH 14 23 (.int .i64 0) rfl rfl (by kernel_rfl) (by kernel_rfl) (by kernel_rfl) (fun _ _ _ h => h) (by rfl) (by intro W hSw; clear hSw; go_simp) hSm.out ?_
                          try simp only [List.setIfInBounds_toArray, List.set_cons_zero, List.set_cons_succ]
                          refine wpAnyH_done (by kernel_rfl) ?_ _
                          have hs3 := Lib.hid (Slot3.before (lo := wv.heap.size) (B := x.heap.size) (W := x3) zz.out hSx.out.size (Array.getElem?_eq_some_iff.1 hz.out).1 hF1.out)
                          go_wp2_with fail
                          go_meet
                          case rel => exact ⟨hs3.out, rfl, hSm.out⟩
                      case rest =>
                        obtain ⟨hs3, rfl, hcb⟩ := hcut
                        obtain ⟨wq2, rfl⟩ : ∃ wq2 : World, wq2 = wc := ⟨_, rfl⟩
                        obtain ⟨B1, a5, l5, k5, rfl, hB1r, hlo1, hT1⟩ := hs3
                        have hbq2 : Hid (Below wu.heap.size wu wq2) := Lib.hid (Below.up hbv.out hcb)
                        have hat1 : Hid (∀ W, Below wq2.heap.size wq2 W → W.heap[B1]? = some (.cells #[.int .i64 T.op, .int .i64 T.n, .slice a5 l5 k5] 28 (0, 0)) ∧ IsTm W.heap.size W T a5 l5 k5) := Lib.hid (fun W hW => ⟨(hW.block _ (Array.getElem?_eq_some_iff.1 hB1r).1).trans hB1r, IsTm.wider hW.size _ (IsTm.below hW _ (TmP.is (fun _ h => h.2.1) _ hT1))⟩)
                        clear hB1r hlo1 hT1 hcb hbv hS38 hcJ
                        obtain ⟨wv2, hwv2⟩ : ∃ W, W = wv := ⟨_, rfl⟩
                        clear hwv2
                        go_upto_region 39 with fail
                        go_cut [27, 28] from 221 to 231 (fun s27 s28 W => Slot3 wq2.heap.size T s27 W ∧ s28 = .int .i64 0 ∧ Below wq2.heap.size wq2 W)
                        case first =>
                          refine region_named (S := fun W' => Below wq2.heap.size wq2 W') (by kernel_rfl) (fun x hx => ?_)
                          have hSx : Hid (Below wq2.heap.size wq2 x) := Lib.hid (by rw [hx]; exact (Below.refl _ _).drew)
                          clear hx
                          refine takeH 0 222 (.agg #[.slice ac lc cc, .slice af lf cf]) rfl rfl (by kernel_rfl) (by kernel_rfl) (by kernel_rfl) (fun _ _ _ h => h) (by rfl) (by intro W hSw; obtain ⟨j0, j1⟩ := hcS.out W (Below.up hbq2.out hSw); clear hSw; go_simp) hSx.out ?_
                          try simp only [List.setIfInBounds_toArray, List.set_cons_zero, List.set_cons_succ]
                          refine takeH 1 223 (.slice (some ⟨bL, oL, none⟩) M2.length vc2) rfl rfl (by kernel_rfl) (by kernel_rfl) (by kernel_rfl) (fun _ _ _ h => h) (by rfl) (by intro W hSw; clear hSw; go_simp) hSx.out ?_
                          try simp only [List.setIfInBounds_toArray, List.set_cons_zero, List.set_cons_succ]
                          refine takeH 2 224 (.int .i64 (j : Nat)) rfl rfl (by kernel_rfl) (by kernel_rfl) (by kernel_rfl) (fun _ _ _ h => h) (by rfl) (by intro W hSw; clear hSw; go_simp) hSx.out ?_
                          try simp only [List.setIfInBounds_toArray, List.set_cons_zero, List.set_cons_succ]
                          refine takeH 3 225 (.pointer (some ⟨bL, oL + j * 4, none⟩)) rfl rfl (by kernel_rfl) (by kernel_rfl) (by kernel_rfl) (fun _ _ _ h => h) (by rfl) (by intro W hSw; clear hSw; go_simp) hSx.out ?_
                          try simp only [List.setIfInBounds_toArray, List.set_cons_zero, List.set_cons_succ]
                          refine takeH 4 226 (.pointer (some ⟨bL, oL + j * 4 + 1, none⟩)) rfl rfl (by kernel_rfl) (by kernel_rfl) (by kernel_rfl) (fun _ _ _ h => h) (by rfl) (by intro W hSw; clear hSw; go_simp) hSx.out ?_
                          try simp only [List.setIfInBounds_toArray, List.set_cons_zero, List.set_cons_succ]
                          refine takeH 5 227 (.agg #[.int .i64 yt.op, .int .i64 yt.n, .slice a' l' c']) rfl rfl (by kernel_rfl) (by kernel_rfl) (by kernel_rfl) (fun _ _ _ h => h) (by rfl) (by intro W hSw; obtain ⟨j0, j1, j2⟩ := hcK.out W (Below.up hbq2.out hSw); clear hSw; go_simp) hSx.out ?_
                          try simp only [List.setIfInBounds_toArray, List.set_cons_zero, List.set_cons_succ]
                          refine takeH 6 228 (.slice al L.length cl) rfl rfl (by kernel_rfl) (by kernel_rfl) (by kernel_rfl) (fun _ _ _ h => h) (by rfl) (by intro W hSw; clear hSw; go_simp) hSx.out ?_
                          try simp only [List.setIfInBounds_toArray, List.set_cons_zero, List.set_cons_succ]
                          refine wpAnyH_ready (rs := [7, 11]) (by kernel_rfl) (by simp) ?_
                          refine AllReadyH.cons rfl (fun K hKc => ?_) (AllReadyH.cons rfl (fun K hKc => ?_) AllReadyH.nil)
                          · go_simp
                            go_at_call 26
                            refine (hS39.out _ (Below.up hbq2.out hSx.out)).mono ?_
                            rintro e x3 ⟨a1, l1, k1, rfl, hF1, hb1⟩
                            have hSx3 : Hid (Below wq2.heap.size wq2 x3) := Lib.hid (Below.up hSx.out hb1)
                            replace hF1 := Lib.hid hF1
                            replace hb1 := Lib.hid hb1
                            refine hKc _ _ hSx3.out (fun _ => ?_)
                            clear hKc K
                            try simp only
                            refine takeH 8 221 (.tuple #[.agg #[.int .i64 T.op, .int .i64 T.n, .slice a1 l1 k1], .int .i64 0]) rfl rfl (by kernel_rfl) (by kernel_rfl) (by kernel_rfl) (fun _ _ _ h => h) (by rfl) (by intro W hSw; clear hSw; go_simp) hSx3.out ?_
                            try simp only [List.setIfInBounds_toArray, List.set_cons_zero, List.set_cons_succ]
                            refine takeH 9 230 (.agg #[.int .i64 T.op, .int .i64 T.n, .slice a1 l1 k1]) rfl rfl (by kernel_rfl) (by kernel_rfl) (by kernel_rfl) (fun _ _ _ h => h) (by rfl) (by intro W hSw; clear hSw; go_simp) hSx3.out ?_
                            try simp only [List.setIfInBounds_toArray, List.set_cons_zero, List.set_cons_succ]
                            refine takeH 10 231 (.int .i64 0) rfl rfl (by kernel_rfl) (by kernel_rfl) (by kernel_rfl) (fun _ _ _ h => h) (by rfl) (by intro W hSw; clear hSw; go_simp) hSx3.out ?_
                            try simp only [List.setIfInBounds_toArray, List.set_cons_zero, List.set_cons_succ]
                            refine wpAnyH_ready (rs := [11]) (by kernel_rfl) (by simp) ?_
                            refine AllReadyH.cons rfl (fun K hKc => ?_) AllReadyH.nil
                            go_simp
                            have hSl : Hid (Below wq2.heap.size wq2 (x3.alloc zer3)) := Lib.hid (Below.up hSx3.out (bal _ _))
                            refine hKc _ _ hSl.out (fun _ => ?_)
                            clear hKc K
                            try simp only [Act.put, List.setIfInBounds_toArray, List.set_cons_zero, List.set_cons_succ]
                            refine wpAnyH_ready (rs := [12]) (by kernel_rfl) (by simp) ?_
                            refine AllReadyH.cons rfl (fun K hKc => ?_) AllReadyH.nil
                            go_simp
                            have hSm : Hid (Below wq2.heap.size wq2 (x3.alloc (.cells #[.int .i64 T.op, .int .i64 T.n, .slice a1 l1 k1] 28))) := Lib.hid (Below.up hSx3.out (bal _ _))
                            refine hKc _ _ hSm.out (fun _ => ?_)
                            clear hKc K
                            try simp only [Act.put, List.setIfInBounds_toArray, List.set_cons_zero, List.set_cons_succ]
                            refine takeH 13 28 (.int .i64 0) rfl rfl (by kernel_rfl) (by kernel_rfl) (by kernel_rfl) (fun _ _ _ h => h) (by rfl) (by intro W hSw; clear hSw; go_simp) hSm.out ?_
                            try simp only [List.setIfInBounds_toArray, List.set_cons_zero, List.set_cons_succ]
                            refine wpAnyH_done (by kernel_rfl) ?_ _
                            have hs3 := Lib.hid (Slot3.behind (lo := wq2.heap.size) (B := x3.heap.size) (W := x) rfl hSx.out.size hb1.out.size hF1.out)
                            go_wp2_with fail
                            go_meet
                            case rel => exact ⟨hs3.out, rfl, hSm.out⟩
                          · go_simp
                            obtain ⟨x2, hx2⟩ : ∃ W, W = x.alloc zer3 := ⟨_, rfl⟩
                            rw [← hx2]
                            have hzx2 : Hid (x2.heap[x.heap.size]? = some zer3) := Lib.hid (by rw [hx2]; exact heap_new'' _ _)
                            have hsx2 : Hid (x2.heap.size = x.heap.size + 1) := Lib.hid (by rw [hx2]; simp)
                            have hSx2 : Hid (Below wq2.heap.size wq2 x2) := Lib.hid (by rw [hx2]; exact Below.up hSx.out (bal _ _))
                            clear hx2
                            refine hKc _ _ hSx2.out (fun _ => ?_)
                            clear hKc K
                            try simp only [Act.put, List.setIfInBounds_toArray, List.set_cons_zero, List.set_cons_succ]
                            have hz := hzx2
                            refine wpAnyH_ready (rs := [7]) (by kernel_rfl) (by simp) ?_
                            refine AllReadyH.cons rfl (fun K hKc => ?_) AllReadyH.nil
                            go_simp
                            go_at_call 26
                            refine (hS39.out _ (Below.up hbq2.out hSx2.out)).mono ?_
                            rintro e x4 ⟨a1, l1, k1, rfl, hF1, hb1⟩
                            have hSx4 : Hid (Below wq2.heap.size wq2 x4) := Lib.hid (Below.up hSx2.out hb1)
                            have zz := Lib.hid (zer_keep hb1 hz.out)
                            replace hF1 := Lib.hid hF1
                            replace hb1 := Lib.hid hb1
                            refine hKc _ _ hSx4.out (fun _ => ?_)
                            clear hKc K
                            try simp only
                            refine takeH 8 221 (.tuple #[.agg #[.int .i64 T.op, .int .i64 T.n, .slice a1 l1 k1], .int .i64 0]) rfl rfl (by kernel_rfl) (by kernel_rfl) (by kernel_rfl) (fun _ _ _ h => h) (by rfl) (by intro W hSw; clear hSw; go_simp) hSx4.out ?_
                            try simp only [List.setIfInBounds_toArray, List.set_cons_zero, List.set_cons_succ]
                            refine takeH 9 230 (.agg #[.int .i64 T.op, .int .i64 T.n, .slice a1 l1 k1]) rfl rfl (by kernel_rfl) (by kernel_rfl) (by kernel_rfl) (fun _ _ _ h => h) (by rfl) (by intro W hSw; clear hSw; go_simp) hSx4.out ?_
                            try simp only [List.setIfInBounds_toArray, List.set_cons_zero, List.set_cons_succ]
                            refine takeH 10 231 (.int .i64 0) rfl rfl (by kernel_rfl) (by kernel_rfl) (by kernel_rfl) (fun _ _ _ h => h) (by rfl) (by intro W hSw; clear hSw; go_simp) hSx4.out ?_
                            try simp only [List.setIfInBounds_toArray, List.set_cons_zero, List.set_cons_succ]
                            refine wpAnyH_ready (rs := [12]) (by kernel_rfl) (by simp) ?_
                            refine AllReadyH.cons rfl (fun K hKc => ?_) AllReadyH.nil
                            obtain ⟨⟨z0, z1, z2⟩, z3, z4, z5⟩ := c3_cells zz.out
                            go_simp
                            clear z0 z1 z2 z3 z4 z5
                            have hSm : Hid (Below wq2.heap.size wq2 (((x4.setCell ⟨x.heap.size, 0, none⟩ (.int .i64 T.op)).setCell ⟨x.heap.size, 1, none⟩ (.int .i64 T.n)).setCell ⟨x.heap.size, 2, none⟩ (.slice a1 l1 k1))) := Lib.hid (hSx4.out.trans (set3_below _ _ _ hSx.out.size))
                            refine hKc _ _ hSm.out (fun _ => ?_)
                            clear hKc K
                            try simp only [Act.put, List.setIfInBounds_toArray, List.set_cons_zero, List.set_cons_succ]
                            refine takeH 13 28 (.int .i64 0) rfl rfl (by kernel_rfl) (by kernel_rfl) (by kernel_rfl) (fun _ _ _ h => h) (by rfl) (by intro W hSw; clear hSw; go_simp) hSm.out ?_
                            try simp only [List.setIfInBounds_toArray, List.set_cons_zero, List.set_cons_succ]
                            refine wpAnyH_done (by kernel_rfl) ?_ _
                            have hs3 := Lib.hid (Slot3.before (lo := wq2.heap.size) (B := x.heap.size) (W := x2) zz.out hSx.out.size (Array.getElem?_eq_some_iff.1 hz.out).1 hF1.out)
                            go_wp2_with fail
                            go_meet
                            case rel => exact ⟨hs3.out, rfl, hSm.out⟩
                        case rest =>
                          obtain ⟨hs3, rfl, hcb⟩ := hcut
                          obtain ⟨wq3, rfl⟩ : ∃ wq3 : World, wq3 = wc := ⟨_, rfl⟩
                          obtain ⟨B2, a6, l6, k6, rfl, hB2r, hlo2, hT2⟩ := hs3
                          have hbq3 : Hid (Below wu.heap.size wu wq3) := Lib.hid (Below.up hbq2.out hcb)
                          have hat : Hid (∀ W, Below wq3.heap.size wq3 W → W.heap[B1]? = some (.cells #[.int .i64 T.op, .int .i64 T.n, .slice a5 l5 k5] 28 (0, 0)) ∧ W.heap[B2]? = some (.cells #[.int .i64 T.op, .int .i64 T.n, .slice a6 l6 k6] 28 (0, 0)) ∧
                              Calls Tryz.prog 31 #[.agg #[.int .i64 T.op, .int .i64 T.n, .slice a5 l5 k5]] W (fun e w' => e = .returned (.bool true) ∧ Below W.heap.size W w') ∧ Calls Tryz.prog 31 #[.agg #[.int .i64 T.op, .int .i64 T.n, .slice a6 l6 k6]] W (fun e w' => e = .returned (.bool true) ∧ Below W.heap.size W w') ∧
                              Calls Tryz.prog 32 #[.agg #[.int .i64 T.op, .int .i64 T.n, .slice a5 l5 k5], .agg #[.int .i64 T.op, .int .i64 T.n, .slice a6 l6 k6]] W (fun e w' => e = .returned (.bool true) ∧ Below W.heap.size W w')) := Lib.hid (fun W hW => by
                            obtain ⟨i1, i2⟩ := hat1.out W (Below.up hcb hW)
                            have i4 : IsTm W.heap.size W T a6 l6 k6 := IsTm.wider hW.size _ (IsTm.below hW _ (TmP.is (fun _ h => h.2.1) _ hT2))
                            have k1 := Small_any T W.heap.size W a5 l5 k5 i2 (Nat.le_refl _)
                            have k2 := Small_any T W.heap.size W a6 l6 k6 i4 (Nat.le_refl _)
                            have k3 := Same_any T.size T T W.heap.size W a5 l5 k5 a6 l6 k6 (Nat.le_refl _) i2 i4 (Nat.le_refl _)
                            rw [formed_smallg hfT.out] at k1 k2
                            rw [sameB_refl] at k3
                            exact ⟨i1, (hW.block _ (Array.getElem?_eq_some_iff.1 hB2r).1).trans hB2r, k1, k2, k3⟩)
                          clear hB2r hlo2 hT2 hcb hbq2 hat1 hS39 hcK hcS
                          have hq0 : Hid (Below wq3.heap.size wq3 wq3) := Lib.hid (Below.refl _ _)
                          obtain ⟨r1, r2, -⟩ := hat.out wq3 hq0.out
                          obtain ⟨⟨y0, y1, y2⟩, -⟩ := c3_cells r1
                          obtain ⟨⟨z0, z1, z2⟩, -⟩ := c3_cells r2
                          have hC := Lib.hid ((hat.out wq3 hq0.out).2.2.1)
                          clear r1 r2
                          go_upto_region 99 with fail
                          refine (hC.out).mono ?_
                          rintro e w5 ⟨rfl, hbe2⟩
                          have hq1 : Hid (Below wq3.heap.size wq3 w5) := Lib.hid (Below.up hq0.out hbe2)
                          clear hC y0 y1 y2 z0 z1 z2 hbe2
                          obtain ⟨r1, r2, -⟩ := hat.out w5 hq1.out
                          obtain ⟨⟨y0, y1, y2⟩, -⟩ := c3_cells r1
                          obtain ⟨⟨z0, z1, z2⟩, -⟩ := c3_cells r2
                          have hC := Lib.hid ((hat.out w5 hq1.out).2.2.2.1)
                          clear r1 r2
                          go_upto_region 99 with fail
                          refine (hC.out).mono ?_
                          rintro e w6 ⟨rfl, hbe2⟩
                          have hq2 : Hid (Below wq3.heap.size wq3 w6) := Lib.hid (Below.up hq1.out hbe2)
                          clear hC y0 y1 y2 z0 z1 z2 hbe2
                          obtain ⟨r1, r2, -⟩ := hat.out w6 hq2.out
                          obtain ⟨⟨y0, y1, y2⟩, -⟩ := c3_cells r1
                          obtain ⟨⟨z0, z1, z2⟩, -⟩ := c3_cells r2
                          have hC := Lib.hid ((hat.out w6 hq2.out).2.2.2.2)
                          clear r1 r2
                          go_upto_region 99 with fail
                          refine (hC.out).mono ?_
                          rintro e w7 ⟨rfl, hbe2⟩
                          have hq3 : Hid (Below wq3.heap.size wq3 w7) := Lib.hid (Below.up hq2.out hbe2)
                          clear hC y0 y1 y2 z0 z1 z2 hbe2
                          go_wp2_with fail
                          go_roundw
                          case rel => exact ⟨j + 1, by omega, by go_num, Lib.hid (Below.up hbj.out (Below.up hbq3.out hq3.out))⟩
                          case measure => simp [intOf]; omega
              · -- behind the bindings: both with Unify's list put in
                have o8 : ¬ (j : Int) < (M2.length : Int) := by omega
                have hbu := Lib.hid (Below.up hb9.out hbj.out)
                have hIu : Hid (∀ W, Below W0.heap.size W0 W → Below wu.heap.size wu W → IsBinds W.heap.size W M2 va2 M2.length vc2) := Lib.hid (fun W h1 h2 => binds_wider (by have := h2.size; have := hbj.out.size; have := hn9.out; omega) (hI9.out.below ((Below.up hbj.out h2).mono hn9.out)))
                obtain ⟨T1, e1, hR1⟩ : ∃ T e, subV s M2 d.tm = (T, e) := ⟨_, _, rfl⟩
                have hR2 : subV s M2 x.tm = (T1, e1) := by rw [← hs2.out]; exact hR1
                have hc1 := Lib.hid (subV_cases hR1)
                have hS1 : Hid (∀ W, Below wu.heap.size wu W → Calls Tryz.prog 26 #[.agg #[.slice ac lc cc, .slice af lf cf], dv d, .slice va2 M2.length vc2] W (SubstEnd W (T1, e1))) := Lib.hid (fun W hW => by
                  rw [← hR1]; exact (hA.out.k26 W va2 M2.length vc2 M2 (Below.up hbu.out hW) (hIu.out W (Below.up hbu.out hW) hW) hl2.out).1)
                have hS2 : Hid (∀ W, Below wu.heap.size wu W → Calls Tryz.prog 26 #[.agg #[.slice ac lc cc, .slice af lf cf], dv x, .slice va2 M2.length vc2] W (SubstEnd W (T1, e1))) := Lib.hid (fun W hW => by
                  rw [← hR2]; exact (hA.out.k26 W va2 M2.length vc2 M2 (Below.up hbu.out hW) (hIu.out W (Below.up hbu.out hW) hW) hl2.out).2)
                clear hR1 hR2 hIu hσ hs2 hf2 hp
                obtain ⟨⟨s0, s1⟩, ⟨p0, p1, p2⟩, ⟨x0, x1, x2⟩⟩ := hcells.out _ hbu.out
                have hC := Lib.hid (hS1.out wu (Below.refl _ _))
                go_upto_region 99 with fail
                refine (hC.out).mono ?_
                rintro e wm ⟨a1, l1, c1, rfl, hF1, hbe2⟩
                clear hC s0 s1 p0 p1 p2 x0 x1 x2
                go_upto_region 43 with fail
                obtain ⟨wp, hwp⟩ : ∃ W, W = wm.alloc (.cells #[.int .i64 T1.op, .int .i64 T1.n, .slice a1 l1 c1] 28) := ⟨_, rfl⟩
                rw [← hwp]
                have hbp : Below wm.heap.size wm wp := by rw [hwp]; exact bal _ _
                have hr1 : Hid (wp.heap[wm.heap.size]? = some (.cells #[.int .i64 T1.op, .int .i64 T1.n, .slice a1 l1 c1] 28 (0, 0))) := Lib.hid (by rw [hwp]; exact heap_new'' _ _)
                have hzp : wp.heap.size = wm.heap.size + 1 := by rw [hwp]; simp
                have hI1 : Hid (IsTm wm.heap.size wm T1 a1 l1 c1) := Lib.hid hF1.is
                have hbwp := Lib.hid (Below.up hbe2 hbp)
                replace hbp := Lib.hid hbp
                replace hzp := Lib.hid hzp
                clear hwp hF1 hbe2
                obtain ⟨⟨s0, s1⟩, ⟨p0, p1, p2⟩, ⟨x0, x1, x2⟩⟩ := hcells.out _ (Below.up hbu.out hbwp.out)
                have hC := Lib.hid (hS2.out _ hbwp.out)
                go_upto_region 99 with fail
                refine (hC.out).mono ?_
                rintro e wm2 ⟨a2, l2, c2, rfl, hF2, hbe2⟩
                clear hC s0 s1 p0 p1 p2 x0 x1 x2
                go_upto_region 44 with fail
                obtain ⟨wq2, hwq⟩ : ∃ W, W = wm2.alloc (.cells #[.int .i64 T1.op, .int .i64 T1.n, .slice a2 l2 c2] 28) := ⟨_, rfl⟩
                rw [← hwq]
                have hbq : Below wm2.heap.size wm2 wq2 := by rw [hwq]; exact bal _ _
                have hr2 : wq2.heap[wm2.heap.size]? = some (.cells #[.int .i64 T1.op, .int .i64 T1.n, .slice a2 l2 c2] 28 (0, 0)) := by rw [hwq]; exact heap_new'' _ _
                have hzq : wq2.heap.size = wm2.heap.size + 1 := by rw [hwq]; simp
                have hI2 := hF2.is
                have hpq : Below wp.heap.size wp wq2 := Below.up hbe2 hbq
                have hbwq : Below W0.heap.size W0 wq2 := Below.up hbu.out (Below.up hbwp.out hpq)
                have hat : Hid (∀ W, Below wq2.heap.size wq2 W → Below W0.heap.size W0 W ∧ W.heap[wm.heap.size]? = some (.cells #[.int .i64 T1.op, .int .i64 T1.n, .slice a1 l1 c1] 28 (0, 0)) ∧ W.heap[wm2.heap.size]? = some (.cells #[.int .i64 T1.op, .int .i64 T1.n, .slice a2 l2 c2] 28 (0, 0)) ∧ IsTm W.heap.size W T1 a1 l1 c1 ∧ IsTm W.heap.size W T1 a2 l2 c2) := Lib.hid (fun W hW => by
                  have hzW := hW.size
                  have hz := hzp.out
                  have hpW : Below wp.heap.size wp W := Below.up hpq hW
                  have hmW : Below wm.heap.size wm W := Below.up hbp.out hpW
                  have h2W : Below wm2.heap.size wm2 W := Below.up hbq hW
                  exact ⟨Below.up hbwq hW, (hpW.block _ (by omega)).trans hr1.out, (hW.block _ (by omega)).trans hr2, (IsTm.below hmW _ hI1.out).wider (by have := hmW.size; omega), (IsTm.below h2W _ hI2).wider (by have := h2W.size; omega)⟩)
                have hbwq' := Lib.hid hbwq
                clear hwq hbq hzq hI1 hI2 hF2 hbe2 hbwq hpq hr1 hr2 hbp hzp hS1 hS2 hbwp hbu
                rcases hc1.out with ⟨he1, hT1, hf1⟩ | he1
                · subst he1
                  have h31 : Hid (∀ W, Below wq2.heap.size wq2 W → Calls Tryz.prog 31 #[.agg #[.int .i64 T1.op, .int .i64 T1.n, .slice a1 l1 c1]] W (fun e w' => e = .returned (.bool true) ∧ Below W.heap.size W w') ∧ Calls Tryz.prog 31 #[.agg #[.int .i64 T1.op, .int .i64 T1.n, .slice a2 l2 c2]] W (fun e w' => e = .returned (.bool true) ∧ Below W.heap.size W w') ∧
                      Calls Tryz.prog 32 #[.agg #[.int .i64 T1.op, .int .i64 T1.n, .slice a1 l1 c1], .agg #[.int .i64 T1.op, .int .i64 T1.n, .slice a2 l2 c2]] W (fun e w' => e = .returned (.bool true) ∧ Below W.heap.size W w')) := Lib.hid (fun W hW => by
                    obtain ⟨-, -, -, i1, i2⟩ := hat.out W hW
                    have k1 := Small_any T1 W.heap.size W a1 l1 c1 i1 (Nat.le_refl _)
                    have k2 := Small_any T1 W.heap.size W a2 l2 c2 i2 (Nat.le_refl _)
                    have k3 := Same_any T1.size T1 T1 W.heap.size W a1 l1 c1 a2 l2 c2 (Nat.le_refl _) i1 i2 (Nat.le_refl _)
                    rw [formed_smallg hf1] at k1 k2
                    rw [sameB_refl] at k3
                    exact ⟨k1, k2, k3⟩)
                  clear hT1 hf1 hc1
                  have hq0 : Hid (Below wq2.heap.size wq2 wq2) := Lib.hid (Below.refl _ _)
                  obtain ⟨-, r1, r2, -, -⟩ := hat.out wq2 hq0.out
                  obtain ⟨⟨y0, y1, y2⟩, -⟩ := c3_cells r1
                  obtain ⟨⟨z0, z1, z2⟩, -⟩ := c3_cells r2
                  have hC := Lib.hid ((h31.out wq2 hq0.out).1)
                  clear r1 r2
                  go_upto_region 99 with fail
                  refine (hC.out).mono ?_
                  rintro e w5 ⟨rfl, hbe2⟩
                  have hq1 : Hid (Below wq2.heap.size wq2 w5) := Lib.hid (Below.up hq0.out hbe2)
                  clear hC y0 y1 y2 z0 z1 z2 hbe2
                  obtain ⟨-, r1, r2, -, -⟩ := hat.out w5 hq1.out
                  obtain ⟨⟨y0, y1, y2⟩, -⟩ := c3_cells r1
                  obtain ⟨⟨z0, z1, z2⟩, -⟩ := c3_cells r2
                  have hC := Lib.hid ((h31.out w5 hq1.out).2.1)
                  clear r1 r2
                  go_upto_region 99 with fail
                  refine (hC.out).mono ?_
                  rintro e w6 ⟨rfl, hbe2⟩
                  have hq2 : Hid (Below wq2.heap.size wq2 w6) := Lib.hid (Below.up hq1.out hbe2)
                  clear hC y0 y1 y2 z0 z1 z2 hbe2
                  obtain ⟨-, r1, r2, -, -⟩ := hat.out w6 hq2.out
                  obtain ⟨⟨y0, y1, y2⟩, -⟩ := c3_cells r1
                  obtain ⟨⟨z0, z1, z2⟩, -⟩ := c3_cells r2
                  have hC := Lib.hid ((h31.out w6 hq2.out).2.2)
                  clear r1 r2
                  go_upto_region 99 with fail
                  refine (hC.out).mono ?_
                  rintro e w7 ⟨rfl, hbe2⟩
                  have hq3 : Hid (Below wq2.heap.size wq2 w7) := Lib.hid (Below.up hq2.out hbe2)
                  clear hC y0 y1 y2 z0 z1 z2 hbe2
                  go_wp2_with (go_at_call 12; refine (hKn.out _).mono ?_; rintro e wl ⟨rfl, hbe3⟩)
                  go_ret
                  exact ⟨rfl, Below.up hB0.out (Below.up (hat.out w7 hq3.out).1 hbe3)⟩
                · subst he1
                  clear hc1 hat
                  go_wp2_with (go_at_call 12; refine (hKn.out _).mono ?_; rintro e wl ⟨rfl, hbe3⟩)
                  go_ret
                  exact ⟨rfl, Below.up hB0.out (Below.up hbwq'.out hbe3)⟩

end Go.Proofs.YthlegfegkopdkaaGreat
