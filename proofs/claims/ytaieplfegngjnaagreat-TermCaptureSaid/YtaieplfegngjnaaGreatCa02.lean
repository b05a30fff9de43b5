/- Own text, joined of: X7. TermCapture, of arguments that lie in memory. -/
import Derived.Deep.CutRange
import Derived.Laws.MakeOwn
import Derived.Test.YtaieplfegngjnaaGreatOr29
import Derived.Test.YtaieplfegngjnaaGreatVa01
import Derived.Test.YtaieplfegngjnaaGreatVa03
import Derived.Test.YtaieplfegngjnaaGreatCa00
import Derived.Test.YtaieplfegngjnaaGreatCa01

namespace Go.Proofs.YtaieplfegngjnaaGreat
open Go.RowKit Go.Shelf Go.Sort

theorem small1c (s : Sg) (d : DT) (n₀ : Nat) (w : World) (ac : Option Addr) (lc cc : Nat) (af : Option Addr) (lf cf : Nat) (hs : IsSg n₀ w s ac lc cc af lf cf) (h1 : Lies n₀ w d) (hn : n₀ ≤ w.heap.size) :
    Calls Tryz.prog 11 #[.agg #[.slice ac lc cc, .slice af lf cf], .slice (some ⟨w.heap.size, 0, none⟩) 1 1] (w.alloc (.cells #[.int .i64 d.op, .int .i64 d.n, .slice d.a d.l d.c] 28))
      fun e w' => e = .returned (.bool (smallDs [d] && smallB s)) ∧ Below w.heap.size w w' := by
  have hb := bal w (.cells #[.int .i64 d.op, .int .i64 d.n, .slice d.a d.l d.c] 28)
  refine (small_any s [d] (w.heap.size + 1) _ ac lc cc af lf cf w.heap.size 0 1 ((hs.below (hb.mono hn)).wider (by omega)) (one_lies' h1 hn) (by omega) ⟨by simp, by omega⟩ (by simp)).mono ?_
  rintro e w' ⟨he, h⟩
  exact ⟨he, hb.trans (h.mono (by simp))⟩
theorem given1c (s : Sg) (d : DT) (n₀ : Nat) (w : World) (ac : Option Addr) (lc cc : Nat) (af : Option Addr) (lf cf : Nat) (hs : IsSg n₀ w s ac lc cc af lf cf) (h1 : Lies n₀ w d) (hn : n₀ ≤ w.heap.size) :
    Calls Tryz.prog 19 #[.agg #[.slice ac lc cc, .slice af lf cf], .slice (some ⟨w.heap.size, 0, none⟩) 1 1] (w.alloc (.cells #[.int .i64 d.op, .int .i64 d.n, .slice d.a d.l d.c] 28))
      fun e w' => e = .returned (.bool (checkB s [d])) ∧ Below w.heap.size w w' := by
  have hb := bal w (.cells #[.int .i64 d.op, .int .i64 d.n, .slice d.a d.l d.c] 28)
  refine (given_any s [d] (w.heap.size + 1) _ ac lc cc af lf cf w.heap.size 0 1 ((hs.below (hb.mono hn)).wider (by omega)) (one_lies' h1 hn) (by omega) ⟨by simp, by omega⟩ (by simp)).mono ?_
  rintro e w' ⟨he, h⟩
  exact ⟨by rw [he]; rfl, hb.trans (h.mono (by simp))⟩
theorem check_pairc (s : Sg) (d x : DT) : checkB s [d, x] = (checkB s [d] && checkB s [x]) := by
  unfold checkB
  simp only [List.all_cons, List.all_nil, Bool.and_true]
  cases sigB s <;> cases formedB s d.tm <;> cases formedB s x.tm <;> rfl
theorem Fresh.none_c {w w' : World} {op n : Int} {a : Option Addr} {l c : Nat} (h : Fresh w w' (.mk op n []) a l c) : l = 0 := by
  obtain ⟨h1, -⟩ := h.is.open
  exact h1
theorem Fresh.leafc (w w' : World) (op n : Int) : Fresh w w' (.mk op n []) none 0 0 := by
  simp only [Fresh, TmP]; exact ⟨rfl, by omega, by omega, .inl trivial⟩
mutual
theorem deepOk_mono : ∀ (t : Tm) (r r' : Int), r ≤ r' → deepOk t r = true → deepOk t r' = true
  | .mk _ _ ks, r, r', h, hd => by
    rw [deepOk] at hd ⊢
    simp only [Bool.and_eq_true, decide_eq_true_eq] at hd ⊢
    exact ⟨by omega, deepOks_mono ks (r - 1) (r' - 1) (by omega) hd.2⟩
theorem deepOks_mono : ∀ (ks : List Tm) (r r' : Int), r ≤ r' → deepOks ks r = true → deepOks ks r' = true
  | [], _, _, _, _ => by rw [deepOks]
  | t :: ts, r, r', h, hd => by
    rw [deepOks] at hd ⊢
    simp only [Bool.and_eq_true] at hd ⊢
    exact ⟨deepOk_mono t r r' h hd.1, deepOks_mono ts r r' h hd.2⟩
end
theorem owns_intsC {w : World} {base : Nat} {v : Value} {l : List Nat} (h : w.ownsRow base 3 1 v l.length (natVals l)) :
    ∃ av cv, v = .slice av l.length cv ∧ l.length ≤ cv ∧ cv ≤ maxLen ∧ Hid ((l = [] ∧ av = none ∧ cv = 0) ∨ ∃ g, av = some ⟨g, 0, none⟩ ∧ base ≤ g ∧ g < w.heap.size ∧ ∀ j (hj : j < l.length), w.cell? ⟨g, j, none⟩ = some (.int .i64 l[j])) := by
  rcases h.2 with ⟨h1, h2⟩ | ⟨g, cap, cur, h1, h2, h3, h4, h5, h6, h7⟩
  · obtain rfl := List.length_eq_zero_iff.1 h2
    exact ⟨none, 0, h1, by simp, by simp, Lib.hid (.inl ⟨rfl, rfl, rfl⟩)⟩
  · subst h1
    refine ⟨_, cap, rfl, h4, h5, Lib.hid (.inr ⟨g, rfl, h2, (h.lt g rfl).2, fun j hj => ?_⟩)⟩
    rw [h.cellAt j (by omega)]
    simp [natVals, hj]
def intsC (l : List Nat) : List Int := l.map fun (x : Nat) => (x : Int)
theorem row_intsC {w : World} {base : Nat} {v : Value} {l : List Nat} (h : w.ownsRow base 3 1 v l.length (natVals l)) : ∃ av cv, v = .slice av l.length cv ∧ IsInts w.heap.size w (intsC l) av l.length cv ∧ ∀ p, av = some p → base ≤ p.block := by
  obtain ⟨av, cv, h1, h2, h3, h4⟩ := owns_intsC h
  refine ⟨av, cv, h1, ⟨by simp [intsC], h2, by unfold maxLen at h3; omega, ?_⟩, fun p hp => ?_⟩
  rotate_left
  · rcases h4.out with ⟨_, h5, _⟩ | ⟨g, h5, h6, _⟩
    · rw [h5] at hp; cases hp
    · rw [h5] at hp; cases hp; exact h6
  rcases h4.out with ⟨h5, _⟩ | ⟨g, h5, h6, h7, h8⟩
  · left; rw [h5]; rfl
  · refine .inr ⟨g, 0, h5, h7, fun k hk => ?_⟩
    rw [Nat.zero_add, h8 k (by simpa [intsC] using hk)]
    simp [intsC]
/-- The cells of a row of numbers. -/
theorem intsC_at {n : Nat} {w : World} {l : List Nat} {a : Option Addr} {len c : Nat} (h : IsInts n w (intsC l) a len c) {k : Nat} (hk : k < l.length) : ∃ b off, a = some ⟨b, off, none⟩ ∧ b < n ∧ w.cell? ⟨b, off + k, none⟩ = some (.int .i64 (l[k] : Nat)) := by
  obtain ⟨-, -, -, h4⟩ := h
  rcases h4 with h4 | ⟨b, off, ha, hb, hc⟩
  · have := congrArg List.length h4; simp [intsC] at this; subst this; simp at hk
  · have := hc k (by simpa [intsC] using hk)
    exact ⟨b, off, ha, hb, by simpa [intsC] using this⟩
theorem formed_small {s : Sg} {t : Tm} (h : formedB s t = true) : decide (0 ≤ weigh t 50 14) = true := by
  unfold formedB at h
  rw [Bool.and_eq_true] at h
  have h1 := (weigh_iff t 40 12 (by omega)).1.1 (by simpa using h.1)
  exact decide_eq_true ((weigh_iff t 50 14 (by omega)).1.2 ⟨by omega, deepOk_mono _ _ _ (by omega) h1.2⟩)

theorem inf4C : (Tryz.prog.info? 4).map (fun i => (i.zero, i.size, i.bytes)) = some (some (.bool false), 1, 1) := by kernel_rfl
theorem und67C : Tryz.prog.underlying 67 = some (.slice 4) := by kernel_rfl
theorem BRow.stays {base : Nat} {w w' : World} {L : List (Int × Tm)} {va : Option Addr} {vl vc : Nat} (h : BRow base w L va vl vc) (hs : ∀ g, base ≤ g → g < w.heap.size → w'.heap[g]? = w.heap[g]?) : BRow base w' L va vl vc := by
  obtain ⟨K, h1, h2, h3⟩ := h
  exact ⟨K, h1, own_stays h2 hs, fun x hx => TmP.move (fun b hb hlt => ⟨hb, hs b hb.1 hlt⟩) _ (h3 x hx)⟩
/-- Which variables are wanted, as a row in memory. -/
def WantAt (w : World) (q : Nat) (f : Nat → Bool) : Prop := w.heap[q]? = some (.cells (vs f) 4 (0, 0))
/-- What the law's calls answer, in every world behind the boxes. -/
structure CapAt (s : Sg) (d : DT) (L : List (Int × Tm)) (al : Option Addr) (ll cl : Nat) (ac : Option Addr) (lc cc : Nat) (af : Option Addr) (lf cf : Nat) (G : List Nat) (W0 : World) : Prop where
  k26 : ∀ W, Below W0.heap.size W0 W → ∃ Z E, ((E = 3 ∧ Z = .mk 0 0 []) ∨ (E = 0 ∧ formedB s Z = true ∧ ∀ u, u < 20 → fvT Z u = wantF L G u)) ∧ Calls Tryz.prog 26 #[.agg #[.slice ac lc cc, .slice af lf cf], .agg #[.int .i64 d.op, .int .i64 d.n, .slice d.a d.l d.c], .slice al ll cl] W (SubstEnd W (Z, E))
  k26o : ∀ W a l c, Below W0.heap.size W0 W → IsBinds W.heap.size W (G.map ownV) a l c → Calls Tryz.prog 26 #[.agg #[.slice ac lc cc, .slice af lf cf], .agg #[.int .i64 d.op, .int .i64 d.n, .slice d.a d.l d.c], .slice a l c] W (SubstEnd W (d.tm, 0))
  k17 : ∀ W, Below W0.heap.size W0 W → Calls Tryz.prog 17 #[.agg #[.slice ac lc cc, .slice af lf cf], .agg #[.int .i64 d.op, .int .i64 d.n, .slice d.a d.l d.c]] W fun e w' => ∃ v, e = .returned (.tuple #[v, .int .i64 0]) ∧ Hid (w'.ownsRow W.heap.size 3 1 v G.length (natVals G)) ∧ Below W.heap.size W w'
  k17z : ∀ Z, formedB s Z = true → ∀ W a l c, Below W0.heap.size W0 W → IsTm W.heap.size W Z a l c → Calls Tryz.prog 17 #[.agg #[.slice ac lc cc, .slice af lf cf], .agg #[.int .i64 Z.op, .int .i64 Z.n, .slice a l c]] W fun e w' => ∃ v, e = .returned (.tuple #[v, .int .i64 0]) ∧ Hid (w'.ownsRow W.heap.size 3 1 v (listTo (fvT Z) 20).length (natVals (listTo (fvT Z) 20))) ∧ Below W.heap.size W w'
  k30 : ∀ Z, formedB s Z = true → ∀ W a l c, Below W0.heap.size W0 W → IsTm W.heap.size W Z a l c → Calls Tryz.prog 30 #[.agg #[.slice ac lc cc, .slice af lf cf], .agg #[.int .i64 Z.op, .int .i64 Z.n, .slice a l c]] W fun e w' => e = .returned (.bool true) ∧ Below W.heap.size W w'
  k34 : ∀ W a l c, Below W0.heap.size W0 W → IsTm W.heap.size W d.tm a l c → Calls Tryz.prog 34 #[.agg #[.slice ac lc cc, .slice af lf cf], .agg #[.int .i64 d.tm.op, .int .i64 d.tm.n, .slice a l c], .agg #[.int .i64 d.op, .int .i64 d.n, .slice d.a d.l d.c]] W fun e w' => e = .returned (.tuple #[.bool true, .int .i64 0]) ∧ Below W.heap.size W w'

theorem cap_at {s : Sg} {d : DT} {L : List (Int × Tm)} {n₀ : Nat} {W0 : World} {al : Option Addr} {ll cl : Nat} {ac : Option Addr} {lc cc : Nat} {af : Option Addr} {lf cf : Nat} (hs : IsSg n₀ W0 s ac lc cc af lf cf) (h1 : Lies n₀ W0 d) (hB : IsBinds n₀ W0 L al ll cl) (hn : n₀ ≤ W0.heap.size) (hsm : smallT d.tm = true) (hc : checkB s [d] = true) (hlf : lfB s (-1) L = true) :
    CapAt s d L al ll cl ac lc cc af lf cf (listTo (fvT d.tm) 20) W0 := by
  have hlie : ∀ W, Below W0.heap.size W0 W → n₀ ≤ W.heap.size ∧ IsSg W.heap.size W s ac lc cc af lf cf ∧ Lies W.heap.size W d ∧ IsBinds n₀ W L al ll cl := fun W h => by
    have hb := h.mono hn
    have hz : n₀ ≤ W.heap.size := by have := h.size; omega
    exact ⟨hz, (hs.below hb).wider hz, (h1.below hb).wider hz, hB.below hb⟩
  have hO := OkV.checked hc (List.mem_singleton.2 rfl)
  have hsz := small_size hsm
  have hsg : sigB s = true ∧ formedB s d.tm = true := by
    have := hc
    unfold checkB at this
    simpa using this
  have hck : ∀ D : DT, formedB s D.tm = true → checkB s [D] = true ∧ 1 + D.size ≤ 1000000 := fun D h => by
    refine ⟨by unfold checkB; simp [hsg.1, h], ?_⟩
    have := formed_size h; rw [size_tm] at this; omega
  have hbz : ∀ bs : List PB, lfB s (-1) (pbs bs) = true → ∀ y ∈ bs, 1 + y.d.size ≤ 1000000 := fun bs hlf y hy => by
    obtain ⟨-, hall⟩ := lfB_all hlf (by omega) (by omega)
    have := formed_size (hall (y.v, y.d.tm) (List.mem_map.2 ⟨y, hy, rfl⟩)).2
    rw [size_tm] at this
    omega
  have hV : ∀ (D : DT) W, Below W0.heap.size W0 W → Lies W.heap.size W D → formedB s D.tm = true → Calls Tryz.prog 17 #[.agg #[.slice ac lc cc, .slice af lf cf], dv D] W fun e w' => ∃ v, e = .returned (.tuple #[v, .int .i64 0]) ∧ Hid (w'.ownsRow W.heap.size 3 1 v (listTo (fvT D.tm) 20).length (natVals (listTo (fvT D.tm) 20))) ∧ Below W.heap.size W w' := fun D W hW hD hf => by
    obtain ⟨q0, q1, q2, q3⟩ := hlie W hW
    obtain ⟨c1, c2⟩ := hck D hf
    refine (Vars_any s D W.heap.size W ac lc cc af lf cf c2 (Nat.le_refl _) q1 hD).mono ?_
    unfold varsL
    rw [c1, if_pos rfl]
    rintro e w' ⟨v, he, hr, -, hb⟩
    exact ⟨v, he, Lib.hid hr, hb⟩
  have hdv : ∀ (D : DT) (Z : Tm) (a : Option Addr) (l c : Nat), D.op = Z.op → D.n = Z.n → D.a = a → D.l = l → D.c = c → dv D = .agg #[.int .i64 Z.op, .int .i64 Z.n, .slice a l c] := fun D Z a l c e1 e2 e3 e4 e5 => by
    show Value.agg #[.int .i64 D.op, .int .i64 D.n, .slice D.a D.l D.c] = _
    rw [e1, e2, e3, e4, e5]
  refine ⟨fun W hW => ?_, fun W a l c hW hI => ?_, fun W hW => ?_, fun Z hZ W a l c hW hI => ?_, fun Z hZ W a l c hW hI => ?_, fun W a l c hW hI => ?_⟩
  · obtain ⟨q0, q1, q2, q3⟩ := hlie W hW
    obtain ⟨bs, hL, hp⟩ := q3.placed
    have hlf' : lfB s (-1) (pbs bs) = true := by rw [hp]; exact hlf
    cases hT : putF (bindK bs bs.length) (stK bs bs.length) d.size (fun _ => false) d.tm with
    | none => exact ⟨.mk 0 0 [], 3, .inl ⟨rfl, rfl⟩, Subst_gone s d bs d.size W.heap.size W ac lc cc af lf cf al ll cl hsz (hbz bs hlf') (Nat.le_refl _) q1 q2 (hL.wider q0) hc hlf' hT (Nat.le_refl _)⟩
    | some T =>
      have hS := Subst_any s d bs T W.heap.size W ac lc cc af lf cf al ll cl hsz (hbz bs hlf') (Nat.le_refl _) q1 q2 (hL.wider q0) (fun _ _ => ⟨_, hT⟩)
      unfold substA at hS
      rw [if_pos hc, if_pos hlf'] at hS
      cases hf : formedB s T with
      | true => rw [hf, if_pos rfl] at hS; exact ⟨T, 0, .inr ⟨rfl, hf, capture hp hlf hO hT⟩, hS⟩
      | false => rw [hf, if_neg (by simp)] at hS; exact ⟨.mk 0 0 [], 3, .inl ⟨rfl, rfl⟩, hS⟩
  · obtain ⟨q0, q1, q2, q3⟩ := hlie W hW
    obtain ⟨bs, hL, hp⟩ := hI.placed
    have hlf' : lfB s (-1) (pbs bs) = true := by
      rw [hp]
      exact own_lf s _ _ (fun v _ => by omega) (listTo_pair _ _) (fun v hv => (listTo_mem hv).1)
    have hS := Subst_any s d bs d.tm W.heap.size W ac lc cc af lf cf a l c hsz (hbz bs hlf') (Nat.le_refl _) q1 q2 hL (fun _ _ => ⟨d.size, own_all hp hO (by rw [size_tm]; exact Nat.le_refl _)⟩)
    unfold substA at hS
    rw [if_pos hc, if_pos hlf', if_pos hsg.2] at hS
    exact hS
  · obtain ⟨q0, q1, q2, q3⟩ := hlie W hW
    exact hV d W hW q2 hsg.2
  · obtain ⟨D, D1, D2, D3, D4, D5, D6, D7⟩ := hI.placed
    have := hV D W hW D1 (by rw [D2]; exact hZ)
    rw [D2, hdv D Z a l c D3 D4 D5 D6 D7] at this
    exact this
  · obtain ⟨q0, q1, q2, q3⟩ := hlie W hW
    have := Term_any s Z W.heap.size W ac lc cc af lf cf a l c q1 hI (Nat.le_refl _)
    rw [hZ] at this
    exact this
  · obtain ⟨q0, q1, q2, q3⟩ := hlie W hW
    obtain ⟨D, D1, D2, D3, D4, D5, D6, D7⟩ := hI.placed
    have hfD : formedB s D.tm = true := by rw [D2]; exact hsg.2
    have := Variant_any s D d W.heap.size W ac lc cc af lf cf (hck D hfD).2 hsz (Nat.le_refl _) q1 D1 q2
    unfold variantA at this
    rw [check_pairc, (hck D hfD).1, hc, D2, sameB_refl, hdv D d.tm a l c D3 D4 D5 D6 D7] at this
    exact this

set_option maxRecDepth 100000 in
set_option maxHeartbeats 16000000 in
theorem TermCapture_any (s : Sg) (d : DT) (L : List (Int × Tm)) (n₀ : Nat) (w : World) (ac : Option Addr) (lc cc : Nat) (af : Option Addr) (lf cf : Nat) (al : Option Addr) (ll cl : Nat) (hs : IsSg n₀ w s ac lc cc af lf cf) (h1 : Lies n₀ w d) (hBi : IsBinds n₀ w L al ll cl) (hn : n₀ ≤ w.heap.size) :
    Calls Tryz.prog 7 #[.agg #[.slice ac lc cc, .slice af lf cf], .agg #[.int .i64 d.op, .int .i64 d.n, .slice d.a d.l d.c], .slice al ll cl] w
      fun e w' => e = .returned (.bool true) ∧ Below w.heap.size w w' := by
  obtain ⟨wa, hwa⟩ : ∃ W, W = bs1 w ac lc cc af lf cf := ⟨_, rfl⟩
  obtain ⟨W0, hW0⟩ : ∃ W, W = bt1 wa d := ⟨_, rfl⟩
  have hza : wa.heap.size = w.heap.size + 1 := by rw [hwa]; simp
  have hz0 : W0.heap.size = w.heap.size + 1 + 1 := by rw [hW0]; simp [hza]
  have ba : Below w.heap.size w wa := by rw [hwa]; exact bal _ _
  have bd : Below wa.heap.size wa W0 := by rw [hW0]; exact bal _ _
  have hB0 : Below w.heap.size w W0 := Below.up ba bd
  have hcells : Hid (∀ W, Below W0.heap.size W0 W → (W.cell? ⟨w.heap.size, 0, none⟩ = some (.slice ac lc cc) ∧ W.cell? ⟨w.heap.size, 1, none⟩ = some (.slice af lf cf)) ∧ (W.cell? ⟨w.heap.size + 1, 0, none⟩ = some (.int .i64 d.op) ∧ W.cell? ⟨w.heap.size + 1, 1, none⟩ = some (.int .i64 d.n) ∧ W.cell? ⟨w.heap.size + 1, 2, none⟩ = some (.slice d.a d.l d.c))) := Lib.hid (fun W h => by
    have e0 := box_s hwa (Nat.le_refl _) (Below.up bd h)
    have e1 := box_t hW0 (Nat.le_refl _) h
    rw [hza] at e1
    exact ⟨e0, e1⟩)
  have hlie : Hid (∀ W, Below W0.heap.size W0 W → n₀ ≤ W.heap.size ∧ IsSg n₀ W s ac lc cc af lf cf ∧ Lies n₀ W d ∧ IsBinds n₀ W L al ll cl) := Lib.hid (fun W h => by
    have hb := (Below.up hB0 h).mono hn
    exact ⟨by have := h.size; omega, hs.below hb, h1.below hb, hBi.below hb⟩)
  have hG : Calls Tryz.prog 11 #[.agg #[.slice ac lc cc, .slice af lf cf], .slice (some ⟨W0.heap.size, 0, none⟩) 1 1] (W0.alloc (.cells #[.int .i64 d.op, .int .i64 d.n, .slice d.a d.l d.c] 28))
      fun e w' => e = .returned (.bool (smallDs [d] && smallB s)) ∧ Below W0.heap.size W0 w' := by
    obtain ⟨q0, q1, q2, q3⟩ := hlie.out W0 (Below.refl _ _)
    exact small1c s d n₀ W0 ac lc cc af lf cf q1 q2 q0
  have hb0 : Hid (∀ W, Below (w.heap.size + 1 + 1) (bt1 (bs1 w ac lc cc af lf cf) d) W → Below W0.heap.size W0 W) := Lib.hid (fun W h => by rw [hz0, hW0, hwa]; exact h)
  rw [hz0, hW0, hwa] at hG
  have hKn := fun W => known_any W
  replace hKn := Lib.hid hKn
  have hsm : Hid ((smallDs [d] && smallB s) = true → smallT d.tm = true) := Lib.hid (fun h => by
    simp only [smallDs, List.all_cons, List.all_nil, Bool.and_true, Bool.and_eq_true] at h
    exact h.1)
  obtain ⟨g, hg⟩ : ∃ g, g = (smallDs [d] && smallB s) := ⟨_, rfl⟩
  rw [← hg] at hG hsm
  have h19 : Hid (∀ W, Below W0.heap.size W0 W → Calls Tryz.prog 19 #[.agg #[.slice ac lc cc, .slice af lf cf], .slice (some ⟨W.heap.size, 0, none⟩) 1 1] (W.alloc (.cells #[.int .i64 d.op, .int .i64 d.n, .slice d.a d.l d.c] 28)) fun e w' => e = .returned (.bool (checkB s [d])) ∧ Below W.heap.size W w') := Lib.hid (fun W hW => by
    obtain ⟨q0, q1, q2, q3⟩ := hlie.out W hW
    exact given1c s d n₀ W ac lc cc af lf cf q1 q2 q0)
  have h25 : Hid (∀ W, Below W0.heap.size W0 W → Calls Tryz.prog 25 #[.slice al ll cl] W fun e w' => e = .returned (.bool (smallBs L)) ∧ Below W.heap.size W w') := Lib.hid (fun W hW => by
    obtain ⟨q0, q1, q2, q3⟩ := hlie.out W hW
    exact SmallBinds_any L n₀ W al ll cl q3 q0)
  have h27 : Hid (∀ W, Below W0.heap.size W0 W → Calls Tryz.prog 27 #[.agg #[.slice ac lc cc, .slice af lf cf], .slice al ll cl] W fun e w' => ∃ b, e = .returned (.bool b) ∧ (b = true → lfB s (-1) L = true) ∧ Below W.heap.size W w') := Lib.hid (fun W hW => by
    obtain ⟨q0, q1, q2, q3⟩ := hlie.out W hW
    exact Binds_any s L n₀ W ac lc cc af lf cf al ll cl q1 q3 q0)
  have hAt : Hid (smallT d.tm = true → checkB s [d] = true → lfB s (-1) L = true → CapAt s d L al ll cl ac lc cc af lf cf (listTo (fvT d.tm) 20) W0 ∧ ∀ k (h : k < L.length), formedB s L[k].2 = true) := Lib.hid (fun e1 hc hlf => by
    obtain ⟨q0, q1, q2, q3⟩ := hlie.out W0 (Below.refl _ _)
    obtain ⟨-, hall⟩ := lfB_all hlf (by omega) (by omega)
    exact ⟨cap_at q1 q2 q3 q0 e1 hc hlf, fun k h => (hall _ (List.getElem_mem h)).2⟩)
  obtain ⟨G, hGe⟩ : ∃ T, T = listTo (fvT d.tm) 20 := ⟨_, rfl⟩
  obtain ⟨c, hc⟩ : ∃ T, T = checkB s [d] := ⟨_, rfl⟩
  obtain ⟨b25, hb25⟩ : ∃ T, T = smallBs L := ⟨_, rfl⟩
  rw [← hc] at h19
  rw [← hb25] at h25
  rw [← hc, ← hGe] at hAt
  have hG20 : Hid (G.length ≤ 20 ∧ ∀ v ∈ G, v < 20) := Lib.hid (by rw [hGe]; exact ⟨listTo_len _ _, fun v hv => (listTo_mem hv).1⟩)
  obtain ⟨rfl, hl1, hl2, hka⟩ := hBi
  clear hc hb25 hGe
  replace hG := Lib.hid hG
  replace hB0 := Lib.hid hB0
  replace hz0 := Lib.hid hz0
  clear hs h1 ba bd hW0 hza hwa hg
  obtain ⟨i0, hi, hi0, hi1, hi2⟩ := info_parts inf70
  go_enter Tryz.func7, Tryz.ntmps7
  go_upto_region 99 with fail
  refine (hG.out).mono ?_
  rintro e w1 ⟨rfl, hbe⟩
  replace hbe := Lib.hid (hb0.out _ hbe)
  clear hG
  cases g
  · go_wp2_with (go_at_call 12; refine (hKn.out _).mono ?_; rintro e w2 ⟨rfl, hbe2⟩)
    go_ret
    exact ⟨rfl, Below.up hB0.out (Below.up hbe.out hbe2)⟩
  have sm1 := hsm.out rfl
  replace hAt := Lib.hid (hAt.out sm1)
  clear hsm sm1 hb0

  obtain ⟨⟨s0, s1⟩, ⟨p0, p1, p2⟩⟩ := hcells.out _ hbe.out
  have hC := h25.out _ hbe.out
  replace hC := Lib.hid hC
  go_upto_region 99 with fail
  refine (hC.out).mono ?_
  rintro e wm ⟨rfl, hbe2⟩
  clear hC s0 s1 p0 p1 p2
  replace hbe := Lib.hid (Below.up hbe.out hbe2)
  clear hbe2
  obtain ⟨wn, hwn⟩ : ∃ W, W = wm := ⟨_, rfl⟩
  rw [← hwn] at hbe ⊢
  clear hwn
  cases b25
  · go_wp2_with (go_at_call 12; refine (hKn.out _).mono ?_; rintro e wl ⟨rfl, hbe2⟩)
    go_ret
    exact ⟨rfl, Below.up hB0.out (Below.up hbe.out hbe2)⟩
  clear h25
  cases c
  · obtain ⟨⟨s0, s1⟩, ⟨p0, p1, p2⟩⟩ := hcells.out _ hbe.out
    have hC := h19.out _ hbe.out
    replace hC := Lib.hid hC
    go_upto_region 99 with fail
    refine (hC.out).mono ?_
    rintro e wm ⟨rfl, hbe2⟩
    clear hC s0 s1 p0 p1 p2
    replace hbe := Lib.hid (Below.up hbe.out hbe2)
    clear hbe2
    obtain ⟨wn, hwn⟩ : ∃ W, W = wm := ⟨_, rfl⟩
    rw [← hwn] at hbe ⊢
    clear hwn
    go_wp2_with (go_at_call 12; refine (hKn.out _).mono ?_; rintro e wl ⟨rfl, hbe2⟩)
    go_ret
    exact ⟨rfl, Below.up hB0.out (Below.up hbe.out hbe2)⟩
  replace hAt := Lib.hid (hAt.out rfl)
  obtain ⟨⟨s0, s1⟩, ⟨p0, p1, p2⟩⟩ := hcells.out _ hbe.out
  have hC := h19.out _ hbe.out
  replace hC := Lib.hid hC
  go_upto_region 99 with fail
  refine (hC.out).mono ?_
  rintro e wm ⟨rfl, hbe2⟩
  clear hC s0 s1 p0 p1 p2
  replace hbe := Lib.hid (Below.up hbe.out hbe2)
  clear hbe2
  obtain ⟨wn, hwn⟩ : ∃ W, W = wm := ⟨_, rfl⟩
  rw [← hwn] at hbe ⊢
  clear hwn
  clear h19
  obtain ⟨⟨s0, s1⟩, ⟨p0, p1, p2⟩⟩ := hcells.out _ hbe.out
  have hC := h27.out _ hbe.out
  replace hC := Lib.hid hC
  go_upto_region 99 with fail
  refine (hC.out).mono ?_
  rintro e wm ⟨b27, rfl, hbt, hbe2⟩
  clear hC s0 s1 p0 p1 p2
  replace hbe := Lib.hid (Below.up hbe.out hbe2)
  clear hbe2
  obtain ⟨wn, hwn⟩ : ∃ W, W = wm := ⟨_, rfl⟩
  rw [← hwn] at hbe ⊢
  clear hwn
  clear h27
  cases b27
  · go_wp2_with (go_at_call 12; refine (hKn.out _).mono ?_; rintro e wl ⟨rfl, hbe2⟩)
    go_ret
    exact ⟨rfl, Below.up hB0.out (Below.up hbe.out hbe2)⟩
  obtain ⟨hV, hLf⟩ := hAt.out (hbt rfl)
  replace hV := Lib.hid hV
  replace hLf := Lib.hid hLf
  clear hAt hbt
  obtain ⟨Z, E, hE, hS⟩ := hV.out.k26 _ hbe.out
  unfold SubstEnd at hS
  simp only at hS
  replace hS := Lib.hid hS
  obtain ⟨rfl, rfl⟩ | ⟨rfl, hZf, hZv⟩ := hE
  · simp only [Tm.op, Tm.n] at hS
    obtain ⟨⟨s0, s1⟩, ⟨p0, p1, p2⟩⟩ := hcells.out _ hbe.out
    have hC := hS.out
    replace hC := Lib.hid hC
    go_upto_region 99 with fail
    refine (hC.out).mono ?_
    rintro e wm ⟨a3, l3, k3, rfl, -, hbe2⟩
    clear hC s0 s1 p0 p1 p2
    replace hbe := Lib.hid (Below.up hbe.out hbe2)
    clear hbe2
    go_wp2_with (go_at_call 12; refine (hKn.out _).mono ?_; rintro e wl ⟨rfl, hbe2⟩)
    go_ret
    exact ⟨rfl, Below.up hB0.out (Below.up hbe.out (Below.up (bal _ _) hbe2))⟩
  replace hZf := Lib.hid hZf
  replace hZv := Lib.hid hZv
  have hZs := Lib.hid (formed_small hZf.out)
  obtain ⟨⟨s0, s1⟩, ⟨p0, p1, p2⟩⟩ := hcells.out _ hbe.out
  have hC := hS.out
  replace hC := Lib.hid hC
  go_upto_region 99 with fail
  refine (hC.out).mono ?_
  rintro e wm ⟨a3, l3, k3, rfl, hF3, hbe2⟩
  clear hC s0 s1 p0 p1 p2
  have t3 := hF3.is
  clear hF3
  replace hbe := Lib.hid (Below.up hbe.out hbe2)
  clear hbe2
  clear hS
  obtain ⟨w7, hwz⟩ : ∃ W, W = wm.alloc (.cells #[.int .i64 Z.op, .int .i64 Z.n, .slice a3 l3 k3] 28) := ⟨_, rfl⟩
  have st : Below wm.heap.size wm w7 := by rw [hwz]; exact bal _ _
  obtain ⟨Bz, hBz⟩ : ∃ n, n = wm.heap.size := ⟨_, rfl⟩
  have cz : Hid (w7.heap[Bz]? = some (.cells #[.int .i64 Z.op, .int .i64 Z.n, .slice a3 l3 k3] 28 (0, 0))) := Lib.hid (by rw [hwz, hBz]; exact heap_new'' _ _)
  replace t3 := Lib.hid (IsTm.wider st.size _ (IsTm.below st _ t3))
  replace hbe := Lib.hid (Below.up hbe.out st)
  clear st
  replace hwz := Lib.hid hwz
  replace hBz := Lib.hid hBz
  obtain ⟨⟨s0, s1⟩, ⟨p0, p1, p2⟩⟩ := hcells.out _ hbe.out
  obtain ⟨⟨zz0, zz1, zz2⟩, -⟩ := c3_cells cz.out
  have hC := Small_any Z w7.heap.size w7 a3 l3 k3 t3.out (Nat.le_refl _)
  rw [hZs.out] at hC
  rw [hwz.out] at hC s0 s1 p0 p1 p2 zz0 zz1 zz2
  replace hC := Lib.hid hC
  go_upto_region 99 with fail
  refine (hC.out).mono ?_
  rintro e wk ⟨rfl, hbe2⟩
  clear hC s0 s1 p0 p1 p2 zz0 zz1 zz2
  rw [← hwz.out] at hbe2
  rw [← hBz.out]
  replace cz := Lib.hid ((hbe2.block _ (Array.getElem?_eq_some_iff.1 cz.out).1).trans cz.out)
  replace t3 := Lib.hid (IsTm.wider hbe2.size _ (IsTm.below hbe2 _ t3.out))
  replace hbe := Lib.hid (Below.up hbe.out hbe2)
  clear hbe2 hwz hBz
  obtain ⟨wm, hnm⟩ : ∃ W, W = wk := ⟨_, rfl⟩
  rw [← hnm] at hbe cz t3 ⊢
  clear hnm
  obtain ⟨⟨s0, s1⟩, ⟨p0, p1, p2⟩⟩ := hcells.out _ hbe.out
  obtain ⟨⟨zz0, zz1, zz2⟩, -⟩ := c3_cells cz.out
  have hC := hV.out.k30 Z hZf.out wm a3 l3 k3 hbe.out t3.out
  replace hC := Lib.hid hC
  go_upto_region 99 with fail
  refine (hC.out).mono ?_
  rintro e wm ⟨rfl, hbe2⟩
  clear hC s0 s1 p0 p1 p2 zz0 zz1 zz2
  replace cz := Lib.hid ((hbe2.block _ (Array.getElem?_eq_some_iff.1 cz.out).1).trans cz.out)
  replace t3 := Lib.hid (IsTm.wider hbe2.size _ (IsTm.below hbe2 _ t3.out))
  replace hbe := Lib.hid (Below.up hbe.out hbe2)
  clear hbe2
  obtain ⟨⟨s0, s1⟩, ⟨p0, p1, p2⟩⟩ := hcells.out _ hbe.out
  obtain ⟨⟨zz0, zz1, zz2⟩, -⟩ := c3_cells cz.out
  have hC := hV.out.k17 wm hbe.out
  replace hC := Lib.hid hC
  go_upto_region 99 with fail
  refine (hC.out).mono ?_
  rintro e wm ⟨v1, rfl, hr1, hbe2⟩
  clear hC s0 s1 p0 p1 p2 zz0 zz1 zz2
  have hr1' := Lib.hid (row_intsC hr1.out)
  clear hr1
  replace cz := Lib.hid ((hbe2.block _ (Array.getElem?_eq_some_iff.1 cz.out).1).trans cz.out)
  replace t3 := Lib.hid (IsTm.wider hbe2.size _ (IsTm.below hbe2 _ t3.out))
  replace hbe := Lib.hid (Below.up hbe.out hbe2)
  clear hbe2
  obtain ⟨av, cv, rfl, hI1, -⟩ := hr1'.out
  clear hr1'
  obtain ⟨wa1, hwa1⟩ : ∃ W, W = wm := ⟨_, rfl⟩
  have hsa : Hid (Below wa1.heap.size wa1 wm) := Lib.hid (by rw [hwa1]; exact Below.refl _ _)
  rw [← hwa1] at hI1
  replace hI1 := Lib.hid hI1
  clear hwa1
  obtain ⟨⟨s0, s1⟩, ⟨p0, p1, p2⟩⟩ := hcells.out _ hbe.out
  obtain ⟨⟨zz0, zz1, zz2⟩, -⟩ := c3_cells cz.out
  have hC := hV.out.k17z Z hZf.out wm a3 l3 k3 hbe.out t3.out
  replace hC := Lib.hid hC
  go_upto_region 99 with fail
  refine (hC.out).mono ?_
  rintro e wm ⟨v2, rfl, hr2, hbe2⟩
  clear hC s0 s1 p0 p1 p2 zz0 zz1 zz2
  have hr2' := Lib.hid (row_intsC hr2.out)
  clear hr2
  replace hsa := Lib.hid (Below.up hsa.out hbe2)
  replace cz := Lib.hid ((hbe2.block _ (Array.getElem?_eq_some_iff.1 cz.out).1).trans cz.out)
  replace t3 := Lib.hid (IsTm.wider hbe2.size _ (IsTm.below hbe2 _ t3.out))
  replace hbe := Lib.hid (Below.up hbe.out hbe2)
  clear hbe2
  obtain ⟨av2, cv2, rfl, hI2, -⟩ := hr2'.out
  clear hr2' cz t3
  obtain ⟨w9, hw9⟩ : ∃ W, W = wm := ⟨_, rfl⟩
  rw [← hw9] at hbe hsa hI2 ⊢
  clear hw9
  replace hI1 := Lib.hid (IsInts.below hsa.out hI1.out)
  have hz1 := hsa.out.size
  replace hI2 := Lib.hid hI2
  clear hsa
  obtain ⟨H, hH⟩ : ∃ H, H = listTo (fvT Z) 20 := ⟨_, rfl⟩
  rw [← hH] at hI2 ⊢
  replace hH := Lib.hid hH
  have hlG := hG20.out.1
  have hlG' : (G.length : Int) ≤ 20 := by omega
  have o1 : ¬ (20 : Int) < (G.length : Int) := by omega
  obtain ⟨q, hq⟩ : ∃ q, q = w9.heap.size := ⟨_, rfl⟩
  have hmk : ∀ W, (Instr.makeSlice 67 (.int .i64 20) (.int .i64 20)).run Tryz.prog W = .ok (.slice (some ⟨W.heap.size, 0, none⟩) 20 20) (W.alloc (.cells (vs (fun _ => false)) 4)) := fun W => by
    obtain ⟨i4, h4, z0, z1, z2⟩ := info_parts inf4C
    have := run_makeSlice (P := Tryz.prog) W 67 4 i4 (.bool false) und67C h4 z0 .i64 .i64 20 20 (by omega) (by omega) (by rw [z1]; decide) (by rw [z2]; decide) (by omega)
    rw [z1] at this
    have e : madeCells (Value.bool false).cells (Int.toNat 20 * 1) = vs (fun _ => false) := by rw [vs_none]; kernel_rfl
    have e2 : Int.toNat 20 = 20 := by decide
    rw [e, e2] at this
    exact this
  replace hq := Lib.hid hq
  go_wp2_with fail
  clear hmk
  have hBA := Lib.hid (bal w9 (.cells (vs (fun _ => false)) 4))
  have hWA : Hid (WantAt (w9.alloc (.cells (vs (fun _ => false)) 4)) q (wantF L (G.take 0))) := Lib.hid (by
    unfold WantAt
    rw [hq.out, heap_new'' _ _, show wantF L (G.take 0) = fun _ => false from funext (fun u => by simp [wantF])])
  rw [← hq.out]
  go_loopw [14, 15] (fun v i wr => ∃ k va vl vc, k ≤ G.length ∧ i = .int .i64 (k : Nat) ∧ v = .slice va vl vc ∧ Hid (BRow (q + 1) wr ((G.take k).map ownV) va vl vc) ∧ Hid (WantAt wr q (wantF L (G.take k))) ∧ Hid (Below w9.heap.size w9 wr)) (fun _ i _ => G.length - (intOf i).toNat)
  case atStart => exact ⟨0, none, 0, 0, by omega, rfl, rfl, Lib.hid (by simpa using BRow.nil (q + 1) _), hWA, hBA⟩
  case round =>
    obtain ⟨k, va, vl, vc, hk, rfl, rfl, hBR, hWa, hb⟩ := hrel
    clear hWA hBA
    have hz := hb.out.size
    have hqw : q < wr.heap.size := (Array.getElem?_eq_some_iff.1 hWa.out).1
    by_cases hlt : k < G.length
    · obtain ⟨n, hnG⟩ : ∃ n, n = G[k] := ⟨_, rfl⟩
      have hn20 : n < 20 := by rw [hnG]; exact hG20.out.2 _ (List.getElem_mem hlt)
      have hT1 : Hid (G.take (k + 1) = G.take k ++ [n]) := Lib.hid (by rw [hnG, List.take_succ_eq_append_getElem hlt])
      obtain ⟨bb, oo, rfl, hbb, hcc⟩ := intsC_at hI1.out hlt
      rw [← hnG] at hcc
      replace hcc := (hb.out.cell (p := ⟨bb, oo + k, none⟩) (show bb < w9.heap.size by omega)).trans hcc
      replace hnG := Lib.hid hnG
      have o2 : (k : Int) < (G.length : Int) := by omega
      have o3 : ¬ (n : Int) < 0 := by omega
      have o4 : ¬ (20 : Int) ≤ (n : Int) := by omega
      have hC := Lib.hid (v_mk (n : Int) wr)
      have hlen : Hid (((G.take k).map ownV).length = k) := Lib.hid (by simp; omega)
      have hle : ((G.take k).map ownV).length ≤ k := by rw [hlen.out]; exact Nat.le_refl _
      obtain ⟨K, g1, g2, g3⟩ := hBR.out
      clear hBR
      replace g1 := Lib.hid g1
      replace g2 := Lib.hid g2
      replace g3 := Lib.hid g3
      go_upto_region 99 with fail
      refine (hC.out).mono ?_
      rintro e w2 ⟨rfl, hT⟩
      have hzT := hT.size
      have hA : Hid (∀ j, j < wr.heap.size → w2.heap[j]? = wr.heap[j]?) := Lib.hid (fun j hj => hT.block j hj)
      have g2' := Lib.hid (own_stays (w' := w2) g2.out (fun g _ hg => hA.out g hg))
      have hb2 := Lib.hid (Below.up hb.out hT)
      have hWa2 := Lib.hid ((hT.block q hqw).trans hWa.out)
      replace hT := Lib.hid hT
      clear hC hcc hWa
      go_upto_region 21 with (first
        | (at_builtin; refine wpList_append_lies _ rfl _ _ 46 rfl (q + 1) 70 i0 _ 4 48 und46 hi hi0 hi1 hi2 rfl (by omega) (.slice va vl vc) ((G.take k).map ownV).length (flatB K) rfl (g2'.out.alloc _)
            ⟨w2.heap.size, 0, none⟩ 1 1 [.int .i64 (n : Int), .int .i64 1, .int .i64 (n : Int), .slice none 0 0] rfl rfl (World.news_of_block (cs := #[.int .i64 (n : Int), .int .i64 1, .int .i64 (n : Int), .slice none 0 0]) (t := 70) (fr := (0, 0)) (heap_new' _ rfl)) (by simp [Value.oneCell'])
            (by omega) (by unfold maxLen; omega) (by omega) (by simp; omega) (w2.heap.size + 1) (by simp) ?_; intro gg cap2 w3 hown1 hgrow hat hlt2))
      have hst := BRow.step (v := (n : Int)) (t := .mk 1 (n : Int) []) (W := w2) (W1 := w2.alloc (.cells #[.int .i64 (n : Int), .int .i64 1, .int .i64 (n : Int), .slice none 0 0] 70)) g1.out g2.out g3.out (fun j _ hj => (Below.heap_alloc _ _ j (by omega)).trans (hA.out j hj)) hzT (by omega) (by simp)
        (Fresh.leafc _ _ 1 (n : Int)) hgrow hown1 (by simpa using hat)
      have hnb : ∀ j, (Value.slice va vl vc).ownBlock = some j → q + 1 ≤ j := fun j e => (own_base g2.out e).1
      have hb3 : Below w9.heap.size w9 w3 := (hb2.out.alloc (by omega) _).grown hgrow (by simp; omega) (fun j hj => by have := hnb j hj; have := hq.out; omega)
      have hWa3 : WantAt w3 q (wantF L (G.take k)) := (hgrow.block q (by simp; omega) (fun e => by have := hnb q e.symm; omega)).trans ((Below.heap_alloc _ _ q (by omega)).trans hWa2.out)
      have hz3 := hb3.size
      have hqw3 : q < w3.heap.size := (Array.getElem?_eq_some_iff.1 hWa3).1
      have hst' : Hid (BRow (q + 1) w3 ((G.take (k + 1)).map ownV) (some ⟨gg, 0, none⟩) (k + 1) cap2) := Lib.hid (by rw [hT1.out, List.map_append]; have h9 := hst; rw [hlen.out] at h9; exact h9)
      replace hb3 := Lib.hid hb3
      replace hWa3 := Lib.hid hWa3
      clear hst hnb hgrow hown1 hat hlt2 hWa2 hb2 g2' hA hT g1 g2 g3 K hle
      go_wp2_with fail
      have hst3 := hst'
      clear hst'
      have hbW := Lib.hid (Below.up hbe.out hb3.out)
      have hbw := Lib.hid (Below.up hB0.out hbW.out)
      have e1 : w3.cell? ⟨q, n, none⟩ = some (.bool (wantF L (G.take k) n)) := by rw [cell_of_row w3 q n _ 4 (0, 0) hWa3.out]; exact vs_get _ hn20
      have e2 : w3.frozen? ⟨q, n, none⟩ = false := frozen_of_row w3 q n _ 4 hWa3.out
      have hfl := findL_le L n
      go_loop [17] (fun kk => ∃ j : Nat, j ≤ findL L n ∧ kk = .int .i64 (j : Nat)) (fun kk => L.length - (intOf kk).toNat)
      case atStart => exact ⟨0, by omega, rfl⟩
      case round =>
        obtain ⟨j, hj, rfl⟩ := hrel
        by_cases hjl : j < L.length
        · have o5 : (j : Int) < (L.length : Int) := by omega
          rcases hka with hka | ⟨bL, oL, rfl, hbL, hcL⟩
          · rw [hka] at hjl; simp at hjl
          obtain ⟨c0, a', l', c', c1, c2⟩ := hcL j hjl
          replace c0 := (hbw.out.cell (p := ⟨bL, oL + j * 4, none⟩) (by simp; omega)).trans c0
          by_cases hjf : j < findL L n
          · have hne := findL_ne L n j hjf
            have o6 : (L[j].1 != (n : Int)) = true := by simpa using hne
            clear hcL c1 c2 hne
            go_wp2_with fail
            go_round
            case rel => exact ⟨j + 1, by omega, by go_num⟩
            case measure => simp [intOf]; omega
          have hje : findL L n = j := by omega
          have hat := findL_at L n (by omega)
          have hLj : Hid (L[j].1 = (n : Int)) := Lib.hid (by simp only [hje] at hat; exact hat)
          have himg : Hid (∀ u, imgB L n u = fvT L[j].2 u) := Lib.hid (fun u => by unfold imgB; rw [hje, List.getElem?_eq_getElem hjl])
          have o6 : (L[j].1 != (n : Int)) = false := by simpa using hLj.out
          have o7 : ((j : Int) == (L.length : Int)) = false := by simp; omega
          clear hje hat hcL
          replace hLj := hLj
          have hVc := Lib.hid (fun W (hW : Below w3.heap.size w3 W) => hV.out.k17z L[j].2 (hLf.out j hjl) W a' l' c' (Below.up hbW.out hW) (IsTm.wider (by have := hW.size; have := hbw.out.size; omega) _ (IsTm.below ((Below.up hbw.out hW).mono hn) _ c2)))
          have hcS := Lib.hid (fun W (hW : Below w3.heap.size w3 W) => (hcells.out W (Below.up hbW.out hW)).1)
          have hcJ := Lib.hid (fun W (hW : Below w3.heap.size w3 W) => c1.below ((Below.up hbw.out hW).mono hn) hbL)
          clear c1 c2
          have o8 : j < L.length := hjl
          go_upto_region 26 with fail
          refine region_named (S := fun W' => Below w3.heap.size w3 W') (by kernel_rfl) (fun x hx => ?_)
          have hqS : Hid (Below w3.heap.size w3 x) := Lib.hid (by rw [hx]; exact (Below.refl _ _).drew)
          clear hx e1 e2 c0
          refine takeH 0 144 (.agg #[.slice ac lc cc, .slice af lf cf]) rfl rfl (by kernel_rfl) (by kernel_rfl) (by kernel_rfl) (fun _ _ _ h => h) (by rfl) (by intro W hSw; obtain ⟨j0, j1⟩ := hcS.out W hSw; clear hSw; go_simp) hqS.out ?_
          try simp only [List.setIfInBounds_toArray, List.set_cons_zero, List.set_cons_succ]
          refine takeH 1 145 (.slice (some ⟨bL, oL, none⟩) L.length cl) rfl rfl (by kernel_rfl) (by kernel_rfl) (by kernel_rfl) (fun _ _ _ h => h) (by rfl) (by intro W hSw; clear hSw; go_simp) hqS.out ?_
          try simp only [List.setIfInBounds_toArray, List.set_cons_zero, List.set_cons_succ]
          refine takeH 2 146 (.int .i64 (j : Nat)) rfl rfl (by kernel_rfl) (by kernel_rfl) (by kernel_rfl) (fun _ _ _ h => h) (by rfl) (by intro W hSw; clear hSw; go_simp) hqS.out ?_
          try simp only [List.setIfInBounds_toArray, List.set_cons_zero, List.set_cons_succ]
          refine takeH 3 147 (.pointer (some ⟨bL, oL + j * 4, none⟩)) rfl rfl (by kernel_rfl) (by kernel_rfl) (by kernel_rfl) (fun _ _ _ h => h) (by rfl) (by intro W hSw; clear hSw; go_simp) hqS.out ?_
          try simp only [List.setIfInBounds_toArray, List.set_cons_zero, List.set_cons_succ]
          refine takeH 4 148 (.pointer (some ⟨bL, oL + j * 4 + 1, none⟩)) rfl rfl (by kernel_rfl) (by kernel_rfl) (by kernel_rfl) (fun _ _ _ h => h) (by rfl) (by intro W hSw; clear hSw; go_simp) hqS.out ?_
          try simp only [List.setIfInBounds_toArray, List.set_cons_zero, List.set_cons_succ]
          refine takeH 5 149 (.agg #[.int .i64 L[j].2.op, .int .i64 L[j].2.n, .slice a' l' c']) rfl rfl (by kernel_rfl) (by kernel_rfl) (by kernel_rfl) (fun _ _ _ h => h) (by rfl) (by intro W hSw; obtain ⟨j0, j1, j2⟩ := hcJ.out W hSw; clear hSw; go_simp) hqS.out ?_
          try simp only [List.setIfInBounds_toArray, List.set_cons_zero, List.set_cons_succ]
          refine wpAnyH_ready (rs := [6]) (by kernel_rfl) (by simp) ?_
          refine AllReadyH.cons rfl (fun K hKc => ?_) AllReadyH.nil
          go_simp
          go_at_call 17
          refine (hVc.out x hqS.out).mono ?_
          rintro e x1 ⟨v3, rfl, hr3, hb1⟩
          obtain ⟨av3, cv3, rfl, hI3, hba3⟩ := row_intsC hr3.out
          have hsz3 := hqS.out.size
          have hsz1 := hb1.size
          replace hqS := Lib.hid (Below.up hqS.out hb1)
          obtain ⟨G2, hG2⟩ : ∃ l, l = listTo (fvT L[j].2) 20 := ⟨_, rfl⟩
          rw [← hG2] at hI3 ⊢
          have hG2l : G2.length ≤ 20 := by rw [hG2]; exact listTo_len _ _
          have hG2v : Hid (∀ v ∈ G2, v < 20) := Lib.hid (fun v hv => by rw [hG2] at hv; exact (listTo_mem hv).1)
          have hmem : Hid (∀ u, u < 20 → (decide (u ∈ G2) = imgB L n u)) := Lib.hid (fun u hu => by
            rw [himg.out u, hG2, Bool.eq_iff_iff, decide_eq_true_eq]
            constructor
            · intro h; exact (listTo_mem h).2
            · intro h; exact List.mem_filter.2 ⟨List.mem_range.2 hu, h⟩)
          have hba : Hid (∀ p, av3 = some p → w3.heap.size ≤ p.block) := Lib.hid (fun p hp => Nat.le_trans hsz3 (hba3 p hp))
          replace hI3 := Lib.hid hI3
          clear hr3 hG2 hba3 hb1 hVc hcS hcJ himg
          refine hKc _ _ hqS.out (fun _ => ?_)
          clear hKc K
          try simp only [List.setIfInBounds_toArray, List.set_cons_zero, List.set_cons_succ]
          refine takeH 7 143 (.tuple #[.slice av3 G2.length cv3, .int .i64 0]) rfl rfl (by kernel_rfl) (by kernel_rfl) (by kernel_rfl) (fun _ _ _ h => h) (by rfl) (by intro W hSw; clear hSw; go_simp) hqS.out ?_
          try simp only [List.setIfInBounds_toArray, List.set_cons_zero, List.set_cons_succ]
          refine takeH 8 151 (.slice av3 G2.length cv3) rfl rfl (by kernel_rfl) (by kernel_rfl) (by kernel_rfl) (fun _ _ _ h => h) (by rfl) (by intro W hSw; clear hSw; go_simp) hqS.out ?_
          try simp only [List.setIfInBounds_toArray, List.set_cons_zero, List.set_cons_succ]
          refine takeH 9 152 (.int .i64 0) rfl rfl (by kernel_rfl) (by kernel_rfl) (by kernel_rfl) (fun _ _ _ h => h) (by rfl) (by intro W hSw; clear hSw; go_simp) hqS.out ?_
          try simp only [List.setIfInBounds_toArray, List.set_cons_zero, List.set_cons_succ]
          refine takeH 10 18 (.slice av3 G2.length cv3) rfl rfl (by kernel_rfl) (by kernel_rfl) (by kernel_rfl) (fun _ _ _ h => h) (by rfl) (by intro W hSw; clear hSw; go_simp) hqS.out ?_
          try simp only [List.setIfInBounds_toArray, List.set_cons_zero, List.set_cons_succ]
          refine takeH 11 19 (.int .i64 0) rfl rfl (by kernel_rfl) (by kernel_rfl) (by kernel_rfl) (fun _ _ _ h => h) (by rfl) (by intro W hSw; clear hSw; go_simp) hqS.out ?_
          try simp only [List.setIfInBounds_toArray, List.set_cons_zero, List.set_cons_succ]
          refine wpAnyH_done (by kernel_rfl) ?_ _
          have hW1 : Hid (WantAt x1 q (orSet (wantF L (G.take k)) (fun u => decide (u ∈ G2.take 0)))) := Lib.hid (by
            unfold WantAt
            rw [hqS.out.block q hqw3, hWa3.out]
            congr 4
            refine funext (fun u => ?_)
            unfold orSet; simp)
          have hB1 := Lib.hid (Below.up hb3.out hqS.out)
          have hR1 := Lib.hid (BRow.stays hst3.out (fun g _ hg => hqS.out.block g hg))
          have hqx : q < x1.heap.size := by have := hqS.out.size; omega
          clear hqS hst3 hWa3 hb3
          go_wp2_with fail
          go_loopw [20] (fun jj W => ∃ i : Nat, i ≤ G2.length ∧ jj = .int .i64 (i : Nat) ∧ Hid (WantAt W q (orSet (wantF L (G.take k)) (fun u => decide (u ∈ G2.take i)))) ∧ Hid (∀ b, b ≠ q → W.heap[b]? = x1.heap[b]?) ∧ Hid (Below w9.heap.size w9 W)) (fun jj _ => G2.length - (intOf jj).toNat)
          case atStart => exact ⟨0, by omega, rfl, hW1, Lib.hid (fun _ _ => rfl), hB1⟩
          case round =>
            obtain ⟨i, hi3, rfl, hWi, hsi, hbi⟩ := hrel
            clear hW1 hB1
            by_cases hil : i < G2.length
            · obtain ⟨m, hm⟩ : ∃ m, m = G2[i] := ⟨_, rfl⟩
              have hm20 : m < 20 := by rw [hm]; exact hG2v.out _ (List.getElem_mem hil)
              have hT2 : Hid (G2.take (i + 1) = G2.take i ++ [m]) := Lib.hid (by rw [hm, List.take_succ_eq_append_getElem hil])
              obtain ⟨b3, o3', rfl, hb3', hc3⟩ := intsC_at hI3.out hil
              rw [← hm] at hc3
              have hnq : b3 ≠ q := by have := hba.out _ rfl; simp only at this; omega
              have hc3' : wr.cell? ⟨b3, o3' + i, none⟩ = some (.int .i64 (m : Nat)) := (World.cell?_of_block (hsi.out b3 hnq)).trans hc3
              replace hm := Lib.hid hm
              have o9 : (i : Int) < (G2.length : Int) := by omega
              have o10 : ¬ (m : Int) < 0 := by omega
              have o11 : ¬ (20 : Int) ≤ (m : Int) := by omega
              have f1 : wr.cell? ⟨q, m, none⟩ = some (.bool (orSet (wantF L (G.take k)) (fun u => decide (u ∈ G2.take i)) m)) := by rw [cell_of_row wr q m _ 4 (0, 0) hWi.out]; exact vs_get _ hm20
              have f2 : wr.frozen? ⟨q, m, none⟩ = false := frozen_of_row wr q m _ 4 hWi.out
              have hWn : Hid (WantAt (wr.setCell ⟨q, m, none⟩ (.bool true)) q (orSet (wantF L (G.take k)) (fun u => decide (u ∈ G2.take (i + 1))))) := Lib.hid (by
                unfold WantAt
                rw [heap_setCell_same wr q m _ 4 (.bool true) hWi.out, vs_set _ _ hm20, hT2.out]
                congr 4
                refine funext (fun u => ?_)
                unfold setB orSet
                by_cases e : u = m <;> simp [e])
              clear hc3 hnq
              go_wp2_with fail
              go_roundw
              case rel => exact ⟨i + 1, by omega, by go_num, hWn, Lib.hid (fun b hb => (heap_setCell_other wr ⟨q, m, none⟩ _ _ hb).trans (hsi.out b hb)), Lib.hid (hbi.out.setCell (p := ⟨q, m, none⟩) (by have := hq.out; simp; omega) _)⟩
              case measure => simp [intOf]; omega
            obtain rfl : i = G2.length := by omega
            have o9 : ¬ (G2.length : Int) < (G2.length : Int) := by omega
            have hWn : Hid (WantAt wr q (wantF L (G.take (k + 1)))) := Lib.hid (by
              unfold WantAt
              rw [hWi.out, hT1.out, wantF_snoc, List.take_length]
              have := vs_congr (f := orSet (wantF L (G.take k)) (fun u => decide (u ∈ G2))) (g := orSet (wantF L (G.take k)) (imgB L n)) (fun u hu => by
                show (wantF L (G.take k) u || decide (u ∈ G2)) = (wantF L (G.take k) u || imgB L n u)
                rw [hmem.out u hu])
              rw [this])
            have hRn := Lib.hid (BRow.stays hR1.out (fun g hg _ => hsi.out g (by omega)))
            clear hWi hsi hR1 hI3 hmem hG2v
            go_wp2_with fail
            go_roundw
            case rel => exact ⟨k + 1, _, _, _, by omega, by go_num, rfl, hRn, hWn, hbi⟩
            case measure => simp [intOf]; omega
        have hje : findL L n = L.length := by omega
        obtain rfl : j = L.length := by omega
        have o5 : ¬ (L.length : Int) < (L.length : Int) := by omega
        have o7 : ((L.length : Int) == (L.length : Int)) = true := by simp
        have himg : Hid (∀ u, imgB L n u = (u == n)) := Lib.hid (fun u => by unfold imgB; rw [hje, List.getElem?_eq_none (Nat.le_refl _)])
        have hWn : Hid (WantAt (w3.setCell ⟨q, n, none⟩ (.bool true)) q (wantF L (G.take (k + 1)))) := Lib.hid (by
          unfold WantAt
          rw [heap_setCell_same w3 q n _ 4 (.bool true) hWa3.out, vs_set _ _ hn20, hT1.out, wantF_snoc]
          congr 4
          refine funext (fun u => ?_)
          unfold setB orSet
          rw [himg.out u]
          by_cases e : u = n <;> simp [e])
        clear hje hj hjl
        go_wp2_with fail
        go_roundw
        case rel =>
          exact ⟨k + 1, _, _, _, by omega, by go_num, rfl, Lib.hid (BRow.stays hst3.out (fun g hg _ => heap_setCell_other w3 ⟨q, n, none⟩ _ _ (by simp; omega))), hWn, Lib.hid (hb3.out.setCell (p := ⟨q, n, none⟩) (by have := hq.out; simp; omega) _)⟩
        case measure => simp [intOf]; omega
    have hke : k = G.length := by omega
    subst hke
    obtain ⟨F, hF⟩ : ∃ F, F = wantF L G := ⟨_, rfl⟩
    have hWF : Hid (WantAt wr q F) := Lib.hid (by rw [hF]; have h9 := hWa.out; rw [List.take_length] at h9; exact h9)
    have hHF : Hid (H = listTo F 20) := Lib.hid (by rw [hH.out, hF]; exact listTo_congr hZv.out)
    have hIB : Hid (IsBinds wr.heap.size wr (G.map ownV) va vl vc) := Lib.hid (by have h9 := hBR.out; rw [List.take_length] at h9; exact h9.is)
    have hI2' := Lib.hid (IsInts.below hb.out hI2.out)
    have hbW := Lib.hid (Below.up hbe.out hb.out)
    clear hF hWa hBR hI2 hI1 hb hbe hka hlt hi hi0 hi1 hi2 i0 hlG hlG' o1 hLf hZf hZs
    go_wp2_with fail
    go_loop [21, 22] (fun nn ii => ∃ i m : Nat, i ≤ 20 ∧ m ≤ 20 ∧ ii = .int .i64 (i : Nat) ∧ nn = .int .i64 (m : Nat) ∧ Hid (m = (listTo F i).length)) (fun _ ii => 20 - (intOf ii).toNat)
    case atStart => exact ⟨0, 0, by omega, by omega, rfl, rfl, Lib.hid (by simp [listTo])⟩
    case round =>
      obtain ⟨i, m, hi20, hm20, rfl, rfl, hm⟩ := hrel
      by_cases hil : i < 20
      · have o2 : (i : Int) < 20 := by omega
        have e1 : wr.cell? ⟨q, i, none⟩ = some (.bool (F i)) := by rw [cell_of_row wr q i _ 4 (0, 0) hWF.out]; exact vs_get _ hil
        cases hFi : F i
        · rw [hFi] at e1
          have hm' : Hid (m = (listTo F (i + 1)).length) := Lib.hid (by rw [listTo_no hFi]; exact hm.out)
          replace hFi := Lib.hid hFi
          go_wp2_with fail
          go_round
          case rel => exact ⟨i + 1, m, by omega, by omega, by go_num, rfl, hm'⟩
          case measure => simp [intOf]; omega
        rw [hFi] at e1
        have hat := listTo_at (n := 20) hil hFi
        rw [← hHF.out, ← hm.out] at hat
        obtain ⟨hml, hmi⟩ := List.getElem?_eq_some_iff.1 hat
        obtain ⟨b2, o2', rfl, hb2, hc2⟩ := intsC_at hI2'.out hml
        rw [hmi] at hc2
        have o3 : ¬ (H.length : Int) ≤ (m : Int) := by omega
        have o4 : (m : Int) < (H.length : Int) := by omega
        have hm' : Hid (m + 1 = (listTo F (i + 1)).length) := Lib.hid (by rw [listTo_yes hFi, hm.out]; simp)
        have hm20' : m + 1 ≤ 20 := by rw [hm'.out]; exact Nat.le_trans (listTo_len _ _) (by omega)
        replace hFi := Lib.hid hFi
        clear hat hmi
        go_wp2_with fail
        go_round
        case rel => exact ⟨i + 1, m + 1, by omega, by omega, by go_num, by go_num, hm'⟩
        case measure => simp [intOf]; omega
      obtain rfl : i = 20 := by omega
      have hmH : m = H.length := by rw [hHF.out]; exact hm.out
      subst hmH
      have o3 : ((H.length : Int) != (H.length : Int)) = false := by simp
      have hbe := hbW
      clear hm hHF hI2' hWF
      have hS2 := Lib.hid (hV.out.k26o wr va vl vc hbe.out hIB.out)
      obtain ⟨⟨s0, s1⟩, ⟨p0, p1, p2⟩⟩ := hcells.out _ hbe.out
      have hC := hS2.out
      replace hC := Lib.hid hC
      go_upto_region 99 with fail
      refine (hC.out).mono ?_
      rintro e wm ⟨a4, l4, k4, rfl, hF4, hbe2⟩
      clear hC s0 s1 p0 p1 p2
      have t4 := hF4.is
      clear hF4
      replace hbe := Lib.hid (Below.up hbe.out hbe2)
      clear hbe2
      obtain ⟨wS, hws⟩ : ∃ W, W = wm.alloc (.cells #[.int .i64 d.tm.op, .int .i64 d.tm.n, .slice a4 l4 k4] 28) := ⟨_, rfl⟩
      have st : Below wm.heap.size wm wS := by rw [hws]; exact bal _ _
      obtain ⟨Bs, hBs⟩ : ∃ n, n = wm.heap.size := ⟨_, rfl⟩
      have cs : Hid (wS.heap[Bs]? = some (.cells #[.int .i64 d.tm.op, .int .i64 d.tm.n, .slice a4 l4 k4] 28 (0, 0))) := Lib.hid (by rw [hws, hBs]; exact heap_new'' _ _)
      replace t4 := Lib.hid (IsTm.wider st.size _ (IsTm.below st _ t4))
      replace hbe := Lib.hid (Below.up hbe.out st)
      clear st
      replace hws := Lib.hid hws
      replace hBs := Lib.hid hBs
      obtain ⟨⟨s0, s1⟩, ⟨p0, p1, p2⟩⟩ := hcells.out _ hbe.out
      obtain ⟨⟨zs0, zs1, zs2⟩, -⟩ := c3_cells cs.out
      have hC := hV.out.k34 wS a4 l4 k4 hbe.out t4.out
      rw [hws.out] at hC s0 s1 p0 p1 p2 zs0 zs1 zs2
      replace hC := Lib.hid hC
      go_upto_region 99 with fail
      refine (hC.out).mono ?_
      rintro e wk ⟨rfl, hbe2⟩
      clear hC s0 s1 p0 p1 p2 zs0 zs1 zs2
      rw [← hws.out] at hbe2
      rw [← hBs.out]
      replace cs := Lib.hid ((hbe2.block _ (Array.getElem?_eq_some_iff.1 cs.out).1).trans cs.out)
      replace t4 := Lib.hid (IsTm.wider hbe2.size _ (IsTm.below hbe2 _ t4.out))
      replace hbe := Lib.hid (Below.up hbe.out hbe2)
      clear hbe2 hws hBs
      obtain ⟨wm, hnm⟩ : ∃ W, W = wk := ⟨_, rfl⟩
      rw [← hnm] at hbe cs t4 ⊢
      clear hnm
      go_wp2_with (go_at_call 12; refine (hKn.out _).mono ?_; rintro e wl ⟨rfl, hbe2⟩)
      go_ret
      exact ⟨rfl, Below.up hB0.out (Below.up hbe.out hbe2)⟩

end Go.Proofs.YtaieplfegngjnaaGreat
