/- Own text, joined of: X9. TermGeneral, of arguments that lie in memory: what the law's calls answer. -/
import Derived.Deep.CutRange
import Derived.Test.YthlegfegkopdkaaGreatMm30
import Derived.Test.YthlegfegkopdkaaGreatMm36

namespace Go.Proofs.YthlegfegkopdkaaGreat
open Go.RowKit Go.Shelf Go.Sort

theorem small2g (s : Sg) (d x : DT) (n₀ : Nat) (w : World) (ac : Option Addr) (lc cc : Nat) (af : Option Addr) (lf cf : Nat) (hs : IsSg n₀ w s ac lc cc af lf cf) (h1 : Lies n₀ w d) (h2 : Lies n₀ w x) (hn : n₀ ≤ w.heap.size) :
    Calls Tryz.prog 11 #[.agg #[.slice ac lc cc, .slice af lf cf], .slice (some ⟨w.heap.size, 0, none⟩) 2 2] (w.alloc (.cells #[.int .i64 d.op, .int .i64 d.n, .slice d.a d.l d.c, .int .i64 x.op, .int .i64 x.n, .slice x.a x.l x.c] 28))
      fun e w' => e = .returned (.bool (smallDs [d, x] && smallB s)) ∧ Below w.heap.size w w' := by
  have hb := bal w (.cells #[.int .i64 d.op, .int .i64 d.n, .slice d.a d.l d.c, .int .i64 x.op, .int .i64 x.n, .slice x.a x.l x.c] 28)
  refine (small_any s [d, x] (w.heap.size + 1) _ ac lc cc af lf cf w.heap.size 0 2 ((hs.below (hb.mono hn)).wider (by omega)) (two_lies' h1 h2 hn) (by omega) ⟨by simp, by omega⟩ (by simp)).mono ?_
  rintro e w' ⟨he, h⟩
  exact ⟨he, hb.trans (h.mono (by simp))⟩
/-- A term as a value of the program. -/
abbrev tvG (Z : Tm) (a : Option Addr) (l c : Nat) : Value := .agg #[.int .i64 Z.op, .int .i64 Z.n, .slice a l c]

/-- What the law's calls answer, in every world behind the boxes. -/
structure GenAt (s : Sg) (d x : DT) (L : List (Int × Tm)) (al : Option Addr) (ll cl : Nat) (ac : Option Addr) (lc cc : Nat) (af : Option Addr) (lf cf : Nat) (M1 M2 : List (Int × Tm)) (E1 E2 : Int) (W0 : World) : Prop where
  k37 : ∀ W, Below W0.heap.size W0 W → Calls Tryz.prog 37 #[.agg #[.slice ac lc cc, .slice af lf cf], dv d, dv x] W fun e w' => ∃ va vl vc, e = .returned (.tuple #[.slice va vl vc, .int .i64 E1]) ∧ IsBinds w'.heap.size w' M1 va vl vc ∧ Below W.heap.size W w'
  k38 : ∀ W, Below W0.heap.size W0 W → Calls Tryz.prog 38 #[.agg #[.slice ac lc cc, .slice af lf cf], dv d, dv x] W (MgEnd W M2 E2)
  k26 : ∀ W a l c M, Below W0.heap.size W0 W → IsBinds W.heap.size W M a l c → lfB s (-1) M = true → Calls Tryz.prog 26 #[.agg #[.slice ac lc cc, .slice af lf cf], dv d, .slice a l c] W (SubstEnd W (subV s M d.tm)) ∧ Calls Tryz.prog 26 #[.agg #[.slice ac lc cc, .slice af lf cf], dv x, .slice a l c] W (SubstEnd W (subV s M x.tm))
  k26z : ∀ Z, formedB s Z = true → isVal Z = true → ∀ W a l c, Below W0.heap.size W0 W → IsTm W.heap.size W Z a l c → Calls Tryz.prog 26 #[.agg #[.slice ac lc cc, .slice af lf cf], tvG Z a l c, .slice al ll cl] W (SubstEnd W (subV s L Z))
  k17 : ∀ Z, formedB s Z = true → ∀ W a l c, Below W0.heap.size W0 W → IsTm W.heap.size W Z a l c → Calls Tryz.prog 17 #[.agg #[.slice ac lc cc, .slice af lf cf], tvG Z a l c] W fun e w' => ∃ v, e = .returned (.tuple #[v, .int .i64 0]) ∧ Hid (w'.ownsRow W.heap.size 3 1 v (listTo (fvT Z) 20).length (natVals (listTo (fvT Z) 20))) ∧ Below W.heap.size W w'
  k27 : ∀ W a l c M, Below W0.heap.size W0 W → IsBinds W.heap.size W M a l c → lfB s (-1) M = true → Calls Tryz.prog 27 #[.agg #[.slice ac lc cc, .slice af lf cf], .slice a l c] W fun e w' => e = .returned (.bool true) ∧ Below W.heap.size W w'
  own : ∀ W, Below W0.heap.size W0 W → IsBinds W.heap.size W L al ll cl

end Go.Proofs.YthlegfegkopdkaaGreat
