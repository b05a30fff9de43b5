/- Own text, joined of: K3 K4 K5 W1 W2. The chapter's examples: the calls' contracts at them. · The chapter's examples: the other calls' contracts at them. · The chapter's examples are as they say: the walk of 'known'. · The reference's 'names'. · The reference's 'Sig'. -/
import Derived.Test.YthlegfegkopdkaaGreatMm28

namespace Go.Proofs.YthlegfegkopdkaaGreat
open Go.RowKit Go.Shelf Go.Sort

abbrev tv (n : Int) : Tm := .mk 1 n []
abbrev tc (n : Int) : Tm := .mk 3 n []

theorem ints_of_own {w : World} {base : Nat} {v : Value} {l : List Nat} (h : w.ownsRow base 3 1 v l.length (natVals l)) : ∃ va vl vc, v = .slice va vl vc ∧ IsInts w.heap.size w (l.map fun n : Nat => (n : Int)) va vl vc := by
  rcases h.2 with ⟨hv, h0⟩ | ⟨g, cap, cur, hv, hg, hcur, hn, hcap, hs, ht⟩
  · subst hv
    have : l = [] := List.length_eq_zero_iff.1 h0
    subst this
    exact ⟨none, 0, 0, rfl, rfl, by omega, by omega, .inl rfl⟩
  · subst hv
    obtain ⟨hc, h1, h2, h3, h4⟩ := own_cells h
    refine ⟨_, _, _, rfl, by simp, h1, h2, .inr ⟨g, 0, rfl, h3, fun k hk => ?_⟩⟩
    rw [Nat.zero_add]
    refine hc k _ ?_
    unfold natVals
    simp at hk
    rw [List.getElem?_map, List.getElem?_eq_getElem (by simpa using hk)]
    simp

abbrev d3 (k1 k2 : Nat) : DT := dP 8 0 k2 (dN 1 1) (dP 3 5 k1 (dN 1 0) (dN 1 2))
theorem f3 (k1 k2 : Nat) : formedB sgS (d3 k1 k2).tm = true := by rfl
theorem v3 (k1 k2 : Nat) : listTo (fvT (d3 k1 k2).tm) 20 = [1, 2] := by rfl
theorem kVars {w : World} {A B : Option Addr} (k1 k2 : Nat) (hS : Hid (SgV w A B)) (hL : Hid (Liv w (d3 k1 k2))) :
    Calls Tryz.prog 17 #[.agg #[.slice A 6 6, .slice B 2 2], .agg #[.int .i64 8, .int .i64 0, .slice (some ⟨k2, 0, none⟩) 2 2]] w fun e w' => ∃ va vl vc, e = .returned (.tuple #[.slice va vl vc, .int .i64 0]) ∧ Hid (IsInts w'.heap.size w' [1, 2] va vl vc) ∧ Hid (Below w.heap.size w w') :=
  (Vars_any sgS (d3 k1 k2) _ w A 6 6 B 2 2 (by simp [DT.size, dsizes]) (Nat.le_refl _) hS.out hL.out).mono fun e w' ⟨v, he, h1, h2, hb⟩ => by
    have hl : varsL sgS (d3 k1 k2) = [1, 2] := by unfold varsL; rw [chk1, f3, if_pos rfl, v3]
    rw [hl] at h1
    obtain ⟨va, vl, vc, rfl, hi⟩ := ints_of_own h1
    rw [chk1, f3] at he
    exact ⟨va, vl, vc, he, hi, hb⟩

abbrev T4 : Tm := .mk 8 3 [tv 1, .mk 3 5 [tv 3, .mk 3 3 [tv 0]]]
abbrev b4 (k : Nat) : List PB := [⟨2, dS 3 3 k (dN 1 0)⟩]
theorem p4 (k k1 k2 : Nat) : putF (bindK (b4 k) 1) (stK (b4 k) 1) 5 (fun _ => false) (d3 k1 k2).tm = some T4 := by rfl
theorem l4 (k : Nat) : lfB sgS (-1) (pbs (b4 k)) = true := by
  unfold b4 pbs
  simp only [List.map_cons, List.map_nil, lfB]
  rfl
theorem s4 (k k1 k2 : Nat) : substA sgS (d3 k1 k2) (b4 k) T4 = (T4, 0) := by
  unfold substA
  rw [chk1, f3, if_pos rfl, l4, if_pos rfl, if_pos (by rfl)]

abbrev d5 (k1 k2 : Nat) : DT := dP 3 5 k2 (dN 1 5) (dP 8 5 k1 (dN 1 2) (dN 1 5))
abbrev T5 : Tm := .mk 3 5 [tv 0, .mk 8 1 [tv 2, tv 1]]
theorem o5 (k1 k2 : Nat) : orderA sgS (d5 k1 k2) = (T5, 0) := by
  unfold orderA
  rw [chk1, show formedB sgS (d5 k1 k2).tm = true from rfl, if_pos rfl]
  rfl
theorem m6 (k1 k2 : Nat) : matchA sgS (dP 3 5 k1 (dN 1 0) (dN 1 1)) (dP 3 5 k2 (dN 3 2) (dN 3 4)) = ([(0, tc 2), (1, tc 4)], 0) := by
  unfold matchA
  rw [chkV]
  rfl
theorem u7 (k1 k2 : Nat) : UniAns (dP 3 5 k1 (dN 1 0) (dN 1 1)) (dP 3 5 k2 (dN 1 1) (dN 3 4)) [(0, tc 4), (1, tc 4)] 0 := by
  refine ⟨6, .inr ⟨updI (updI noB 1 (vD 0)) 0 (dN 3 4), fun _ => tc 4, by rfl, fun v hv hne => ?_, by rfl, rfl⟩⟩
  by_cases h0 : v = 0
  · subst h0; exact ⟨1, by rfl⟩
  · by_cases h1 : v = 1
    · subst h1; exact ⟨1, by rfl⟩
    · exfalso; apply hne
      unfold updI noB
      rw [if_neg (by omega), if_neg (by omega)]
theorem u8 (k : Nat) : UniAns (dN 1 0) (dS 3 3 k (dN 1 0)) [] 5 := ⟨6, .inl ⟨by rfl, rfl, rfl⟩⟩

end Go.Proofs.YthlegfegkopdkaaGreat

namespace Go.Proofs.YthlegfegkopdkaaGreat
open Go.RowKit Go.Shelf Go.Sort

def Tv (w : World) (t : Tm) (a : Option Addr) (l c : Nat) : Prop := IsTm w.heap.size w t a l c
def Bv (w : World) (L : List (Int × Tm)) (a : Option Addr) (l c : Nat) : Prop := IsBinds w.heap.size w L a l c
def Iv (w : World) (L : List Int) (a : Option Addr) (l c : Nat) : Prop := IsInts w.heap.size w L a l c
def LbV (w : World) (bs : List PB) (a : Option Addr) (l c : Nat) : Prop := LiesB w.heap.size w bs a l c
def BxV (w : World) (k : Nat) (x y z : Value) : Prop := w.heap[k]? = some (.cells #[x, y, z] 28 (0, 0))
theorem BxV.up {w w' : World} {k : Nat} {x y z : Value} (h : BxV w k x y z) (hb : Below w.heap.size w w') : BxV w' k x y z := (hb.block k (Array.getElem?_eq_some_iff.1 h).1).trans h
theorem IsBinds.wider' {n₀ n₁ : Nat} {A : World} (h : n₀ ≤ n₁) {l : List (Int × Tm)} {a : Option Addr} {len c : Nat} (x : IsBinds n₀ A l a len c) : IsBinds n₁ A l a len c := by
  obtain ⟨h1, h2, h3, h4⟩ := x
  refine ⟨h1, h2, h3, ?_⟩
  rcases h4 with h4 | ⟨b, off, ha, hb, hk⟩
  · exact .inl h4
  · refine .inr ⟨b, off, ha, by omega, fun k hk' => ?_⟩
    obtain ⟨q1, a', l', c', q2, q3⟩ := hk k hk'
    exact ⟨q1, a', l', c', q2, IsTm.wider h _ q3⟩
theorem Tv.up {w w' : World} {t : Tm} {a : Option Addr} {l c : Nat} (h : Tv w t a l c) (hb : Below w.heap.size w w') : Tv w' t a l c := IsTm.wider hb.size _ (IsTm.below hb _ h)
theorem Bv.up {w w' : World} {L : List (Int × Tm)} {a : Option Addr} {l c : Nat} (h : Bv w L a l c) (hb : Below w.heap.size w w') : Bv w' L a l c := (IsBinds.below hb h).wider' hb.size
theorem Iv.up {w w' : World} {L : List Int} {a : Option Addr} {l c : Nat} (h : Iv w L a l c) (hb : Below w.heap.size w w') : Iv w' L a l c := by
  obtain ⟨h1, h2, h3, h4⟩ := IsInts.below hb h
  refine ⟨h1, h2, h3, ?_⟩
  rcases h4 with h4 | ⟨b, off, ha, hlt, hk⟩
  · exact .inl h4
  · exact .inr ⟨b, off, ha, Nat.lt_of_lt_of_le hlt hb.size, hk⟩
theorem LbV.up {w w' : World} {bs : List PB} {a : Option Addr} {l c : Nat} (h : LbV w bs a l c) (hb : Below w.heap.size w w') : LbV w' bs a l c := (LiesB.below hb h).wider hb.size
theorem LbV.one {w : World} {x : DT} (v : Int) (h : Liv w x) : LbV (w.alloc (.cells #[.int .i64 v, .int .i64 x.op, .int .i64 x.n, .slice x.a x.l x.c] 70)) [⟨v, x⟩] (some ⟨w.heap.size, 0, none⟩) 1 1 := by
  refine ⟨rfl, by omega, by omega, .inr ⟨w.heap.size, 0, rfl, by simp, fun k hk => ?_⟩⟩
  have : k = 0 := by simp at hk; omega
  subst this
  exact ⟨⟨by go_cell, by go_cell, by go_cell, by go_cell⟩, (Liv.up h (bal _ _))⟩
theorem Bv.two {w : World} {x y : DT} (v u : Int) (h : Liv w x) (h2 : Liv w y) : Bv (w.alloc (.cells #[.int .i64 v, .int .i64 x.op, .int .i64 x.n, .slice x.a x.l x.c, .int .i64 u, .int .i64 y.op, .int .i64 y.n, .slice y.a y.l y.c] 70)) [(v, x.tm), (u, y.tm)] (some ⟨w.heap.size, 0, none⟩) 2 2 := by
  refine ⟨rfl, by omega, by omega, .inr ⟨w.heap.size, 0, rfl, by simp, fun k hk => ?_⟩⟩
  have h1' := Lies.isTm x (Liv.up h (bal w (.cells #[.int .i64 v, .int .i64 x.op, .int .i64 x.n, .slice x.a x.l x.c, .int .i64 u, .int .i64 y.op, .int .i64 y.n, .slice y.a y.l y.c] 70)))
  have h2' := Lies.isTm y (Liv.up h2 (bal w (.cells #[.int .i64 v, .int .i64 x.op, .int .i64 x.n, .slice x.a x.l x.c, .int .i64 u, .int .i64 y.op, .int .i64 y.n, .slice y.a y.l y.c] 70)))
  have : k = 0 ∨ k = 1 := by simp at hk; omega
  rcases this with rfl | rfl
  · exact ⟨by go_cell, x.a, x.l, x.c, ⟨by simp only [List.getElem_cons_zero, DT.tm_op]; go_cell, by simp only [List.getElem_cons_zero, DT.tm_n]; go_cell, by go_cell⟩, h1'⟩
  · exact ⟨by go_cell, y.a, y.l, y.c, ⟨by simp only [List.getElem_cons_succ, List.getElem_cons_zero, DT.tm_op]; go_cell, by simp only [List.getElem_cons_succ, List.getElem_cons_zero, DT.tm_n]; go_cell, by go_cell⟩, h2'⟩
theorem Iv.two (w : World) (v u : Int) : Iv (w.alloc (.cells #[.int .i64 v, .int .i64 u] 3)) [v, u] (some ⟨w.heap.size, 0, none⟩) 2 2 := by
  refine ⟨rfl, by omega, by omega, .inr ⟨w.heap.size, 0, rfl, by simp, fun k hk => ?_⟩⟩
  have : k = 0 ∨ k = 1 := by simp at hk; omega
  rcases this with rfl | rfl
  · go_cell
  · go_cell

theorem kSubst {w : World} {A B : Option Addr} (k1 k2 k3 k : Nat) (hS : Hid (SgV w A B)) (hL : Hid (Liv w (d3 k1 k2))) (hB : Hid (LbV w (b4 k) (some ⟨k3, 0, none⟩) 1 1)) :
    Calls Tryz.prog 26 #[.agg #[.slice A 6 6, .slice B 2 2], .agg #[.int .i64 8, .int .i64 0, .slice (some ⟨k2, 0, none⟩) 2 2], .slice (some ⟨k3, 0, none⟩) 1 1] w fun e w' => ∃ a l c, e = .returned (.tuple #[.agg #[.int .i64 8, .int .i64 3, .slice a l c], .int .i64 0]) ∧ Hid (Tv w' T4 a l c) ∧ Hid (Below w.heap.size w w') :=
  (Subst_any sgS (d3 k1 k2) (b4 k) T4 _ w A 6 6 B 2 2 _ 1 1 (by simp [DT.size, dsizes]) (by intro x hx; simp at hx; subst hx; simp [DT.size, dsizes]) (Nat.le_refl _) hS.out hL.out hB.out (fun _ _ => ⟨5, p4 k k1 k2⟩)).mono fun e w' ⟨a, l, c, he, hF, hb⟩ => by
    rw [s4] at he hF
    exact ⟨a, l, c, he, hF.is, hb⟩
theorem kOrder {w : World} {A B : Option Addr} (k1 k2 : Nat) (hS : Hid (SgV w A B)) (hL : Hid (Liv w (d5 k1 k2))) :
    Calls Tryz.prog 33 #[.agg #[.slice A 6 6, .slice B 2 2], .agg #[.int .i64 3, .int .i64 5, .slice (some ⟨k2, 0, none⟩) 2 2]] w fun e w' => ∃ a l c, e = .returned (.tuple #[.agg #[.int .i64 3, .int .i64 5, .slice a l c], .int .i64 0]) ∧ Hid (Tv w' T5 a l c) ∧ Hid (Below w.heap.size w w') :=
  (Order_any sgS (d5 k1 k2) _ w A 6 6 B 2 2 (by simp [DT.size, dsizes]) (Nat.le_refl _) hS.out hL.out).mono fun e w' ⟨a, l, c, he, hF, hb⟩ => by
    rw [o5] at he hF
    exact ⟨a, l, c, he, hF.is, hb⟩
theorem kMatch {w : World} {A B : Option Addr} (k1 k2 : Nat) (hS : Hid (SgV w A B)) (hL : Hid (Liv w (dP 3 5 k1 (dN 1 0) (dN 1 1)))) (hL2 : Hid (Liv w (dP 3 5 k2 (dN 3 2) (dN 3 4)))) :
    Calls Tryz.prog 37 #[.agg #[.slice A 6 6, .slice B 2 2], .agg #[.int .i64 3, .int .i64 5, .slice (some ⟨k1, 0, none⟩) 2 2], .agg #[.int .i64 3, .int .i64 5, .slice (some ⟨k2, 0, none⟩) 2 2]] w fun e w' => ∃ va vl vc, e = .returned (.tuple #[.slice va vl vc, .int .i64 0]) ∧ Hid (Bv w' [(0, tc 2), (1, tc 4)] va vl vc) ∧ Hid (Below w.heap.size w w') :=
  (Match_any sgS (dP 3 5 k1 (dN 1 0) (dN 1 1)) (dP 3 5 k2 (dN 3 2) (dN 3 4)) _ w A 6 6 B 2 2 (by simp [DT.size, dsizes]) (by simp [DT.size, dsizes]) (Nat.le_refl _) hS.out hL.out hL2.out).mono fun e w' ⟨a, l, c, he, hF, hb⟩ => by
    rw [m6] at he hF
    exact ⟨a, l, c, he, hF, hb⟩
theorem kUnify {w : World} {A B : Option Addr} (d x : DT) (L : List (Int × Tm)) (err : Int) (hs1 : 1 + d.size ≤ 1000000) (hs2 : 1 + x.size ≤ 1000000) (hS : Hid (SgV w A B)) (hL : Hid (Liv w d)) (hL2 : Hid (Liv w x)) (hv : checkV sgS [d, x] = true) (hA : UniAns d x L err) :
    Calls Tryz.prog 38 #[.agg #[.slice A 6 6, .slice B 2 2], .agg #[.int .i64 d.op, .int .i64 d.n, .slice d.a d.l d.c], .agg #[.int .i64 x.op, .int .i64 x.n, .slice x.a x.l x.c]] w fun e w' => ∃ va vl vc, e = .returned (.tuple #[.slice va vl vc, .int .i64 err]) ∧ Hid (Bv w' L va vl vc) ∧ Hid (Below w.heap.size w w') :=
  (Unify_any sgS d x _ w A 6 6 B 2 2 L err hs1 hs2 (Nat.le_refl _) hS.out hL.out hL2.out (fun _ => hA) (fun h => by rw [hv] at h; cases h)).mono fun e w' ⟨a, l, c, he, hF, hb⟩ => ⟨a, l, c, he, hF, hb⟩
theorem kCompare {w : World} {A B : Option Addr} (d x : DT) (v : Int) (hs1 : 1 + d.size ≤ 1000000) (hs2 : 1 + x.size ≤ 1000000) (hS : Hid (SgV w A B)) (hL : Hid (Liv w d)) (hL2 : Hid (Liv w x)) (hv : checkV sgS [d, x] = true) (hc : cmpT d.tm x.tm = v) :
    Calls Tryz.prog 39 #[.agg #[.slice A 6 6, .slice B 2 2], .agg #[.int .i64 d.op, .int .i64 d.n, .slice d.a d.l d.c], .agg #[.int .i64 x.op, .int .i64 x.n, .slice x.a x.l x.c]] w fun e w' => e = .returned (.tuple #[.int .i64 v, .int .i64 0]) ∧ Hid (Below w.heap.size w w') :=
  (Compare_any sgS d x _ w A 6 6 B 2 2 hs1 hs2 (Nat.le_refl _) hS.out hL.out hL2.out).mono fun e w' ⟨he, hb⟩ => by
    unfold cmpV at he
    rw [hv, if_pos rfl, hc] at he
    exact ⟨he, hb⟩
theorem kSmall {w : World} {t : Tm} {a : Option Addr} {l c : Nat} (h : Hid (Tv w t a l c)) (ht : decide (0 ≤ weigh t 50 14) = true) :
    Calls Tryz.prog 31 #[.agg #[.int .i64 t.op, .int .i64 t.n, .slice a l c]] w fun e w' => e = .returned (.bool true) ∧ Hid (Below w.heap.size w w') :=
  (Small_any t _ w a l c h.out (Nat.le_refl _)).mono fun e w' ⟨he, hb⟩ => ⟨by rw [he, ht], hb⟩
theorem kSame {w : World} {t : Tm} {a : Option Addr} {l c : Nat} (d : DT) (h : Hid (Tv w t a l c)) (hL : Hid (Liv w d)) (ht : sameB t d.tm = true) :
    Calls Tryz.prog 32 #[.agg #[.int .i64 t.op, .int .i64 t.n, .slice a l c], .agg #[.int .i64 d.op, .int .i64 d.n, .slice d.a d.l d.c]] w fun e w' => e = .returned (.bool true) ∧ Hid (Below w.heap.size w w') := by
  have := Same_any t.size t d.tm _ w a l c d.a d.l d.c (Nat.le_refl _) h.out (Lies.isTm d hL.out) (Nat.le_refl _)
  rw [DT.tm_op, DT.tm_n, ht] at this
  exact this.mono fun e w' ⟨he, hb⟩ => ⟨he, hb⟩
theorem kSmallBinds {w : World} {L : List (Int × Tm)} {a : Option Addr} {l c : Nat} (h : Hid (Bv w L a l c)) (ht : smallBs L = true) :
    Calls Tryz.prog 25 #[.slice a l c] w fun e w' => e = .returned (.bool true) ∧ Hid (Below w.heap.size w w') :=
  (SmallBinds_any L _ w a l c h.out (Nat.le_refl _)).mono fun e w' ⟨he, hb⟩ => ⟨by rw [he, ht], hb⟩
theorem kSameBinds {w : World} {L M : List (Int × Tm)} {a : Option Addr} {l c : Nat} {a2 : Option Addr} {l2 c2 : Nat} (h : Hid (Bv w L a l c)) (h2 : Hid (Bv w M a2 l2 c2)) (ht : sameBs L M = true) :
    Calls Tryz.prog 43 #[.slice a l c, .slice a2 l2 c2] w fun e w' => e = .returned (.bool true) ∧ Hid (Below w.heap.size w w') :=
  (SameBinds_any L M _ w a l c a2 l2 c2 h.out h2.out (Nat.le_refl _)).mono fun e w' ⟨he, hb⟩ => ⟨by rw [he, ht], hb⟩
theorem kSameInts {w : World} {L M : List Int} {a : Option Addr} {l c : Nat} {a2 : Option Addr} {l2 c2 : Nat} (h : Hid (Iv w L a l c)) (h2 : Hid (Iv w M a2 l2 c2)) (ht : L = M) :
    Calls Tryz.prog 23 #[.slice a l c, .slice a2 l2 c2] w fun e w' => e = .returned (.bool true) ∧ Hid (Below w.heap.size w w') :=
  (SameInts_any L M _ w a l c a2 l2 c2 h.out h2.out (Nat.le_refl _)).mono fun e w' ⟨he, hb⟩ => ⟨by rw [he, decide_eq_true ht], hb⟩

end Go.Proofs.YthlegfegkopdkaaGreat

namespace Go.Proofs.YthlegfegkopdkaaGreat
open Go.RowKit Go.Shelf Go.Sort

theorem region_named {P : Program} {ops : Array Oper} {Q : Exit → Act → World → Prop} {S : World → Prop} {id : Nat} {a : Act} {w : World} (hm : P.follows .mixedOrders = true)
    (h : ∀ w1, w1 = w.drew → wpAnyH P .any ops Q S ops.size (Array.replicate ops.size false) a w1) : (Code.region id ops true).wp P Q a w := wp_region_held hm (h _ rfl)

set_option maxRecDepth 100000 in
set_option maxHeartbeats 16000000 in
theorem known_any (w : World) : Calls Tryz.prog 12 #[] w fun e w' => e = .returned (.bool true) ∧ Below w.heap.size w w' := by
  have hb : Hid (Below w.heap.size w w) := Below.refl _ _
  go_enter Tryz.func12, Tryz.ntmps12
  go_wp2_with fail
  refine (kS _).mono ?_
  rintro e w1 ⟨A0, B0, rfl, hS', hn⟩
  replace hb := Lib.hid (Below.up hb.out hn.out)
  clear hn
  have hS := hS'
  clear hS'
  go_wp2_with fail
  refine (kv 0 _).mono ?_
  rintro e w2 ⟨rfl, hn⟩
  replace hS := Lib.hid (hS.out.up hn.out)
  replace hb := Lib.hid (Below.up hb.out hn.out)
  clear hn
  go_wp2_with fail
  refine (kv 1 _).mono ?_
  rintro e w3 ⟨rfl, hn⟩
  replace hS := Lib.hid (hS.out.up hn.out)
  replace hb := Lib.hid (Below.up hb.out hn.out)
  clear hn
  have hL : Hid (Liv (w3.alloc (.cells #[.int .i64 1, .int .i64 0, .slice none 0 0, .int .i64 1, .int .i64 1, .slice none 0 0] 28)) (dP 3 5 w3.heap.size (dN 1 0) (dN 1 1))) := Lib.hid (Liv.P 3 5 (Liv.N _ 1 0) (Liv.N _ 1 1))
  replace hS := Lib.hid (hS.out.up (bal w3 (.cells #[.int .i64 1, .int .i64 0, .slice none 0 0, .int .i64 1, .int .i64 1, .slice none 0 0] 28)))
  replace hb := Lib.hid (Below.up hb.out (bal w3 (.cells #[.int .i64 1, .int .i64 0, .slice none 0 0, .int .i64 1, .int .i64 1, .slice none 0 0] 28)))
  go_wp2_with fail
  refine (kcon 5 (some ⟨w3.heap.size, 0, none⟩) 2 2 _).mono ?_
  rintro e w4 ⟨rfl, hn⟩
  replace hS := Lib.hid (hS.out.up hn.out)
  replace hL := Lib.hid (hL.out.up hn.out)
  replace hb := Lib.hid (Below.up hb.out hn.out)
  clear hn
  go_wp2_with fail
  refine (kCheck (dP 3 5 w3.heap.size (dN 1 0) (dN 1 1)) (by simp [DT.size, dsizes]) hS hL 0 rfl).mono ?_
  rintro e w5 ⟨rfl, hn⟩
  replace hS := Lib.hid (hS.out.up hn.out)
  replace hL := Lib.hid (hL.out.up hn.out)
  replace hb := Lib.hid (Below.up hb.out hn.out)
  clear hn
  clear hS hL
  go_wp2_with fail
  refine (kS _).mono ?_
  rintro e w6 ⟨A5, B5, rfl, hS', hn⟩
  replace hb := Lib.hid (Below.up hb.out hn.out)
  clear hn
  have hS := hS'
  clear hS'
  go_wp2_with fail
  refine (kv 0 _).mono ?_
  rintro e w7 ⟨rfl, hn⟩
  replace hS := Lib.hid (hS.out.up hn.out)
  replace hb := Lib.hid (Below.up hb.out hn.out)
  clear hn
  have hL : Hid (Liv (w7.alloc (.cells #[.int .i64 1, .int .i64 0, .slice none 0 0] 28)) (dS 3 5 w7.heap.size (dN 1 0))) := Lib.hid (Liv.S 3 5 (Liv.N _ 1 0))
  replace hS := Lib.hid (hS.out.up (bal w7 (.cells #[.int .i64 1, .int .i64 0, .slice none 0 0] 28)))
  replace hb := Lib.hid (Below.up hb.out (bal w7 (.cells #[.int .i64 1, .int .i64 0, .slice none 0 0] 28)))
  go_wp2_with fail
  refine (kcon 5 (some ⟨w7.heap.size, 0, none⟩) 1 1 _).mono ?_
  rintro e w8 ⟨rfl, hn⟩
  replace hS := Lib.hid (hS.out.up hn.out)
  replace hL := Lib.hid (hL.out.up hn.out)
  replace hb := Lib.hid (Below.up hb.out hn.out)
  clear hn
  go_wp2_with fail
  refine (kCheck (dS 3 5 w7.heap.size (dN 1 0)) (by simp [DT.size, dsizes]) hS hL 2 rfl).mono ?_
  rintro e w9 ⟨rfl, hn⟩
  replace hS := Lib.hid (hS.out.up hn.out)
  replace hL := Lib.hid (hL.out.up hn.out)
  replace hb := Lib.hid (Below.up hb.out hn.out)
  clear hn
  clear hS hL
  go_wp2_with fail
  refine (kS _).mono ?_
  rintro e w10 ⟨A9, B9, rfl, hS', hn⟩
  replace hb := Lib.hid (Below.up hb.out hn.out)
  clear hn
  have hS := hS'
  clear hS'
  go_wp2_with fail
  refine (knode 5 1 none 0 0 _).mono ?_
  rintro e w11 ⟨rfl, hn⟩
  replace hS := Lib.hid (hS.out.up hn.out)
  replace hb := Lib.hid (Below.up hb.out hn.out)
  clear hn
  have hL := Lib.hid (Liv.N w11 5 1)
  go_wp2_with fail
  refine (kCheck (dN 5 1) (by simp [DT.size, dsizes]) hS hL 2 rfl).mono ?_
  rintro e w12 ⟨rfl, hn⟩
  replace hS := Lib.hid (hS.out.up hn.out)
  replace hL := Lib.hid (hL.out.up hn.out)
  replace hb := Lib.hid (Below.up hb.out hn.out)
  clear hn
  clear hS hL
  go_wp2_with fail
  refine (kS _).mono ?_
  rintro e w13 ⟨A12, B12, rfl, hS', hn⟩
  replace hb := Lib.hid (Below.up hb.out hn.out)
  clear hn
  have hS := hS'
  clear hS'
  go_wp2_with fail
  refine (kv 1 _).mono ?_
  rintro e w14 ⟨rfl, hn⟩
  replace hS := Lib.hid (hS.out.up hn.out)
  replace hb := Lib.hid (Below.up hb.out hn.out)
  clear hn
  go_wp2_with fail
  refine (kv 0 _).mono ?_
  rintro e w15 ⟨rfl, hn⟩
  replace hS := Lib.hid (hS.out.up hn.out)
  replace hb := Lib.hid (Below.up hb.out hn.out)
  clear hn
  go_wp2_with fail
  refine (kv 2 _).mono ?_
  rintro e w16 ⟨rfl, hn⟩
  replace hS := Lib.hid (hS.out.up hn.out)
  replace hb := Lib.hid (Below.up hb.out hn.out)
  clear hn
  have hL1 : Hid (Liv (w16.alloc (.cells #[.int .i64 1, .int .i64 0, .slice none 0 0, .int .i64 1, .int .i64 2, .slice none 0 0] 28)) (dP 3 5 w16.heap.size (dN 1 0) (dN 1 2))) := Lib.hid (Liv.P 3 5 (Liv.N _ 1 0) (Liv.N _ 1 2))
  replace hS := Lib.hid (hS.out.up (bal w16 (.cells #[.int .i64 1, .int .i64 0, .slice none 0 0, .int .i64 1, .int .i64 2, .slice none 0 0] 28)))
  replace hb := Lib.hid (Below.up hb.out (bal w16 (.cells #[.int .i64 1, .int .i64 0, .slice none 0 0, .int .i64 1, .int .i64 2, .slice none 0 0] 28)))
  go_wp2_with fail
  refine (kcon 5 (some ⟨w16.heap.size, 0, none⟩) 2 2 _).mono ?_
  rintro e w17 ⟨rfl, hn⟩
  replace hS := Lib.hid (hS.out.up hn.out)
  replace hL1 := Lib.hid (hL1.out.up hn.out)
  replace hb := Lib.hid (Below.up hb.out hn.out)
  clear hn
  have hL : Hid (Liv (w17.alloc (.cells #[.int .i64 1, .int .i64 1, .slice none 0 0, .int .i64 3, .int .i64 5, .slice (some ⟨w16.heap.size, 0, none⟩) 2 2] 28)) (dP 8 0 w17.heap.size (dN 1 1) (dP 3 5 w16.heap.size (dN 1 0) (dN 1 2)))) := Lib.hid (Liv.P 8 0 (Liv.N _ 1 1) hL1.out)
  clear hL1
  replace hS := Lib.hid (hS.out.up (bal w17 (.cells #[.int .i64 1, .int .i64 1, .slice none 0 0, .int .i64 3, .int .i64 5, .slice (some ⟨w16.heap.size, 0, none⟩) 2 2] 28)))
  replace hb := Lib.hid (Below.up hb.out (bal w17 (.cells #[.int .i64 1, .int .i64 1, .slice none 0 0, .int .i64 3, .int .i64 5, .slice (some ⟨w16.heap.size, 0, none⟩) 2 2] 28)))
  go_wp2_with fail
  refine (knode 8 0 (some ⟨w17.heap.size, 0, none⟩) 2 2 _).mono ?_
  rintro e w18 ⟨rfl, hn⟩
  replace hS := Lib.hid (hS.out.up hn.out)
  replace hL := Lib.hid (hL.out.up hn.out)
  replace hb := Lib.hid (Below.up hb.out hn.out)
  clear hn
  go_wp2_with fail
  refine (kVars (w16.heap.size) (w17.heap.size) hS hL).mono ?_
  rintro e w19 ⟨va1, vl1, vc1, rfl, hI1, hn⟩
  replace hS := Lib.hid (hS.out.up hn.out)
  replace hL := Lib.hid (hL.out.up hn.out)
  replace hb := Lib.hid (Below.up hb.out hn.out)
  clear hn
  clear hS hL
  replace hI1 : Hid (Iv w19 [1, 2] va1 vl1 vc1) := hI1
  go_wp2_with fail
  refine (kS _).mono ?_
  rintro e w20 ⟨A19, B19, rfl, hS', hn⟩
  replace hI1 := Lib.hid (hI1.out.up hn.out)
  replace hb := Lib.hid (Below.up hb.out hn.out)
  clear hn
  have hS := hS'
  clear hS'
  go_wp2_with fail
  refine (kv 1 _).mono ?_
  rintro e w21 ⟨rfl, hn⟩
  replace hI1 := Lib.hid (hI1.out.up hn.out)
  replace hS := Lib.hid (hS.out.up hn.out)
  replace hb := Lib.hid (Below.up hb.out hn.out)
  clear hn
  go_wp2_with fail
  refine (kv 0 _).mono ?_
  rintro e w22 ⟨rfl, hn⟩
  replace hI1 := Lib.hid (hI1.out.up hn.out)
  replace hS := Lib.hid (hS.out.up hn.out)
  replace hb := Lib.hid (Below.up hb.out hn.out)
  clear hn
  go_wp2_with fail
  refine (kv 2 _).mono ?_
  rintro e w23 ⟨rfl, hn⟩
  replace hI1 := Lib.hid (hI1.out.up hn.out)
  replace hS := Lib.hid (hS.out.up hn.out)
  replace hb := Lib.hid (Below.up hb.out hn.out)
  clear hn
  have hL1 : Hid (Liv (w23.alloc (.cells #[.int .i64 1, .int .i64 0, .slice none 0 0, .int .i64 1, .int .i64 2, .slice none 0 0] 28)) (dP 3 5 w23.heap.size (dN 1 0) (dN 1 2))) := Lib.hid (Liv.P 3 5 (Liv.N _ 1 0) (Liv.N _ 1 2))
  replace hI1 := Lib.hid (hI1.out.up (bal w23 (.cells #[.int .i64 1, .int .i64 0, .slice none 0 0, .int .i64 1, .int .i64 2, .slice none 0 0] 28)))
  replace hS := Lib.hid (hS.out.up (bal w23 (.cells #[.int .i64 1, .int .i64 0, .slice none 0 0, .int .i64 1, .int .i64 2, .slice none 0 0] 28)))
  replace hb := Lib.hid (Below.up hb.out (bal w23 (.cells #[.int .i64 1, .int .i64 0, .slice none 0 0, .int .i64 1, .int .i64 2, .slice none 0 0] 28)))
  go_wp2_with fail
  refine (kcon 5 (some ⟨w23.heap.size, 0, none⟩) 2 2 _).mono ?_
  rintro e w24 ⟨rfl, hn⟩
  replace hI1 := Lib.hid (hI1.out.up hn.out)
  replace hS := Lib.hid (hS.out.up hn.out)
  replace hL1 := Lib.hid (hL1.out.up hn.out)
  replace hb := Lib.hid (Below.up hb.out hn.out)
  clear hn
  have hL : Hid (Liv (w24.alloc (.cells #[.int .i64 1, .int .i64 1, .slice none 0 0, .int .i64 3, .int .i64 5, .slice (some ⟨w23.heap.size, 0, none⟩) 2 2] 28)) (dP 8 0 w24.heap.size (dN 1 1) (dP 3 5 w23.heap.size (dN 1 0) (dN 1 2)))) := Lib.hid (Liv.P 8 0 (Liv.N _ 1 1) hL1.out)
  clear hL1
  replace hI1 := Lib.hid (hI1.out.up (bal w24 (.cells #[.int .i64 1, .int .i64 1, .slice none 0 0, .int .i64 3, .int .i64 5, .slice (some ⟨w23.heap.size, 0, none⟩) 2 2] 28)))
  replace hS := Lib.hid (hS.out.up (bal w24 (.cells #[.int .i64 1, .int .i64 1, .slice none 0 0, .int .i64 3, .int .i64 5, .slice (some ⟨w23.heap.size, 0, none⟩) 2 2] 28)))
  replace hb := Lib.hid (Below.up hb.out (bal w24 (.cells #[.int .i64 1, .int .i64 1, .slice none 0 0, .int .i64 3, .int .i64 5, .slice (some ⟨w23.heap.size, 0, none⟩) 2 2] 28)))
  go_wp2_with fail
  refine (knode 8 0 (some ⟨w24.heap.size, 0, none⟩) 2 2 _).mono ?_
  rintro e w25 ⟨rfl, hn⟩
  replace hI1 := Lib.hid (hI1.out.up hn.out)
  replace hS := Lib.hid (hS.out.up hn.out)
  replace hL := Lib.hid (hL.out.up hn.out)
  replace hb := Lib.hid (Below.up hb.out hn.out)
  clear hn
  go_wp2_with fail
  refine (kv 0 _).mono ?_
  rintro e w26 ⟨rfl, hn⟩
  replace hI1 := Lib.hid (hI1.out.up hn.out)
  replace hS := Lib.hid (hS.out.up hn.out)
  replace hL := Lib.hid (hL.out.up hn.out)
  replace hb := Lib.hid (Below.up hb.out hn.out)
  clear hn
  have hM : Hid (Liv (w26.alloc (.cells #[.int .i64 1, .int .i64 0, .slice none 0 0] 28)) (dS 3 3 w26.heap.size (dN 1 0))) := Lib.hid (Liv.S 3 3 (Liv.N _ 1 0))
  replace hI1 := Lib.hid (hI1.out.up (bal w26 (.cells #[.int .i64 1, .int .i64 0, .slice none 0 0] 28)))
  replace hS := Lib.hid (hS.out.up (bal w26 (.cells #[.int .i64 1, .int .i64 0, .slice none 0 0] 28)))
  replace hL := Lib.hid (hL.out.up (bal w26 (.cells #[.int .i64 1, .int .i64 0, .slice none 0 0] 28)))
  replace hb := Lib.hid (Below.up hb.out (bal w26 (.cells #[.int .i64 1, .int .i64 0, .slice none 0 0] 28)))
  go_wp2_with fail
  refine (kcon 3 (some ⟨w26.heap.size, 0, none⟩) 1 1 _).mono ?_
  rintro e w27 ⟨rfl, hn⟩
  replace hI1 := Lib.hid (hI1.out.up hn.out)
  replace hS := Lib.hid (hS.out.up hn.out)
  replace hL := Lib.hid (hL.out.up hn.out)
  replace hM := Lib.hid (hM.out.up hn.out)
  replace hb := Lib.hid (Below.up hb.out hn.out)
  clear hn
  have hP : Hid (LbV (w27.alloc (.cells #[.int .i64 2, .int .i64 3, .int .i64 3, .slice (some ⟨w26.heap.size, 0, none⟩) 1 1] 70)) (b4 w26.heap.size) (some ⟨w27.heap.size, 0, none⟩) 1 1) := Lib.hid (LbV.one 2 hM.out)
  clear hM
  replace hI1 := Lib.hid (hI1.out.up (bal w27 (.cells #[.int .i64 2, .int .i64 3, .int .i64 3, .slice (some ⟨w26.heap.size, 0, none⟩) 1 1] 70)))
  replace hS := Lib.hid (hS.out.up (bal w27 (.cells #[.int .i64 2, .int .i64 3, .int .i64 3, .slice (some ⟨w26.heap.size, 0, none⟩) 1 1] 70)))
  replace hL := Lib.hid (hL.out.up (bal w27 (.cells #[.int .i64 2, .int .i64 3, .int .i64 3, .slice (some ⟨w26.heap.size, 0, none⟩) 1 1] 70)))
  replace hb := Lib.hid (Below.up hb.out (bal w27 (.cells #[.int .i64 2, .int .i64 3, .int .i64 3, .slice (some ⟨w26.heap.size, 0, none⟩) 1 1] 70)))
  go_wp2_with fail
  refine (kSubst (w23.heap.size) (w24.heap.size) (w27.heap.size) (w26.heap.size) hS hL hP).mono ?_
  rintro e w28 ⟨a4, l4, c4, rfl, hT4, hn⟩
  replace hI1 := Lib.hid (hI1.out.up hn.out)
  replace hS := Lib.hid (hS.out.up hn.out)
  replace hL := Lib.hid (hL.out.up hn.out)
  replace hP := Lib.hid (hP.out.up hn.out)
  replace hb := Lib.hid (Below.up hb.out hn.out)
  clear hn
  clear hS hL hP
  have hA4 : Hid (BxV (w28.alloc (.cells #[.int .i64 8, .int .i64 3, .slice a4 l4 c4] 28)) (w28.heap.size) (.int .i64 8) (.int .i64 3) (.slice a4 l4 c4)) := Lib.hid (heap_new' _ rfl)
  replace hI1 := Lib.hid (hI1.out.up (bal w28 (.cells #[.int .i64 8, .int .i64 3, .slice a4 l4 c4] 28)))
  replace hT4 := Lib.hid (hT4.out.up (bal w28 (.cells #[.int .i64 8, .int .i64 3, .slice a4 l4 c4] 28)))
  replace hb := Lib.hid (Below.up hb.out (bal w28 (.cells #[.int .i64 8, .int .i64 3, .slice a4 l4 c4] 28)))
  go_wp2_with fail
  refine (kS _).mono ?_
  rintro e w29 ⟨A28, B28, rfl, hS', hn⟩
  replace hI1 := Lib.hid (hI1.out.up hn.out)
  replace hT4 := Lib.hid (hT4.out.up hn.out)
  replace hA4 := Lib.hid (hA4.out.up hn.out)
  replace hb := Lib.hid (Below.up hb.out hn.out)
  clear hn
  have hS := hS'
  clear hS'
  go_wp2_with fail
  refine (kv 5 _).mono ?_
  rintro e w30 ⟨rfl, hn⟩
  replace hI1 := Lib.hid (hI1.out.up hn.out)
  replace hT4 := Lib.hid (hT4.out.up hn.out)
  replace hA4 := Lib.hid (hA4.out.up hn.out)
  replace hS := Lib.hid (hS.out.up hn.out)
  replace hb := Lib.hid (Below.up hb.out hn.out)
  clear hn
  go_wp2_with fail
  refine (kv 2 _).mono ?_
  rintro e w31 ⟨rfl, hn⟩
  replace hI1 := Lib.hid (hI1.out.up hn.out)
  replace hT4 := Lib.hid (hT4.out.up hn.out)
  replace hA4 := Lib.hid (hA4.out.up hn.out)
  replace hS := Lib.hid (hS.out.up hn.out)
  replace hb := Lib.hid (Below.up hb.out hn.out)
  clear hn
  go_wp2_with fail
  refine (kv 5 _).mono ?_
  rintro e w32 ⟨rfl, hn⟩
  replace hI1 := Lib.hid (hI1.out.up hn.out)
  replace hT4 := Lib.hid (hT4.out.up hn.out)
  replace hA4 := Lib.hid (hA4.out.up hn.out)
  replace hS := Lib.hid (hS.out.up hn.out)
  replace hb := Lib.hid (Below.up hb.out hn.out)
  clear hn
  have hL1 : Hid (Liv (w32.alloc (.cells #[.int .i64 1, .int .i64 2, .slice none 0 0, .int .i64 1, .int .i64 5, .slice none 0 0] 28)) (dP 8 5 w32.heap.size (dN 1 2) (dN 1 5))) := Lib.hid (Liv.P 8 5 (Liv.N _ 1 2) (Liv.N _ 1 5))
  replace hI1 := Lib.hid (hI1.out.up (bal w32 (.cells #[.int .i64 1, .int .i64 2, .slice none 0 0, .int .i64 1, .int .i64 5, .slice none 0 0] 28)))
  replace hT4 := Lib.hid (hT4.out.up (bal w32 (.cells #[.int .i64 1, .int .i64 2, .slice none 0 0, .int .i64 1, .int .i64 5, .slice none 0 0] 28)))
  replace hA4 := Lib.hid (hA4.out.up (bal w32 (.cells #[.int .i64 1, .int .i64 2, .slice none 0 0, .int .i64 1, .int .i64 5, .slice none 0 0] 28)))
  replace hS := Lib.hid (hS.out.up (bal w32 (.cells #[.int .i64 1, .int .i64 2, .slice none 0 0, .int .i64 1, .int .i64 5, .slice none 0 0] 28)))
  replace hb := Lib.hid (Below.up hb.out (bal w32 (.cells #[.int .i64 1, .int .i64 2, .slice none 0 0, .int .i64 1, .int .i64 5, .slice none 0 0] 28)))
  go_wp2_with fail
  refine (knode 8 5 (some ⟨w32.heap.size, 0, none⟩) 2 2 _).mono ?_
  rintro e w33 ⟨rfl, hn⟩
  replace hI1 := Lib.hid (hI1.out.up hn.out)
  replace hT4 := Lib.hid (hT4.out.up hn.out)
  replace hA4 := Lib.hid (hA4.out.up hn.out)
  replace hS := Lib.hid (hS.out.up hn.out)
  replace hL1 := Lib.hid (hL1.out.up hn.out)
  replace hb := Lib.hid (Below.up hb.out hn.out)
  clear hn
  have hL : Hid (Liv (w33.alloc (.cells #[.int .i64 1, .int .i64 5, .slice none 0 0, .int .i64 8, .int .i64 5, .slice (some ⟨w32.heap.size, 0, none⟩) 2 2] 28)) (dP 3 5 w33.heap.size (dN 1 5) (dP 8 5 w32.heap.size (dN 1 2) (dN 1 5)))) := Lib.hid (Liv.P 3 5 (Liv.N _ 1 5) hL1.out)
  clear hL1
  replace hI1 := Lib.hid (hI1.out.up (bal w33 (.cells #[.int .i64 1, .int .i64 5, .slice none 0 0, .int .i64 8, .int .i64 5, .slice (some ⟨w32.heap.size, 0, none⟩) 2 2] 28)))
  replace hT4 := Lib.hid (hT4.out.up (bal w33 (.cells #[.int .i64 1, .int .i64 5, .slice none 0 0, .int .i64 8, .int .i64 5, .slice (some ⟨w32.heap.size, 0, none⟩) 2 2] 28)))
  replace hA4 := Lib.hid (hA4.out.up (bal w33 (.cells #[.int .i64 1, .int .i64 5, .slice none 0 0, .int .i64 8, .int .i64 5, .slice (some ⟨w32.heap.size, 0, none⟩) 2 2] 28)))
  replace hS := Lib.hid (hS.out.up (bal w33 (.cells #[.int .i64 1, .int .i64 5, .slice none 0 0, .int .i64 8, .int .i64 5, .slice (some ⟨w32.heap.size, 0, none⟩) 2 2] 28)))
  replace hb := Lib.hid (Below.up hb.out (bal w33 (.cells #[.int .i64 1, .int .i64 5, .slice none 0 0, .int .i64 8, .int .i64 5, .slice (some ⟨w32.heap.size, 0, none⟩) 2 2] 28)))
  go_wp2_with fail
  refine (kcon 5 (some ⟨w33.heap.size, 0, none⟩) 2 2 _).mono ?_
  rintro e w34 ⟨rfl, hn⟩
  replace hI1 := Lib.hid (hI1.out.up hn.out)
  replace hT4 := Lib.hid (hT4.out.up hn.out)
  replace hA4 := Lib.hid (hA4.out.up hn.out)
  replace hS := Lib.hid (hS.out.up hn.out)
  replace hL := Lib.hid (hL.out.up hn.out)
  replace hb := Lib.hid (Below.up hb.out hn.out)
  clear hn
  go_wp2_with fail
  refine (kOrder (w32.heap.size) (w33.heap.size) hS hL).mono ?_
  rintro e w35 ⟨a5, l5, c5, rfl, hT5, hn⟩
  replace hI1 := Lib.hid (hI1.out.up hn.out)
  replace hT4 := Lib.hid (hT4.out.up hn.out)
  replace hA4 := Lib.hid (hA4.out.up hn.out)
  replace hS := Lib.hid (hS.out.up hn.out)
  replace hL := Lib.hid (hL.out.up hn.out)
  replace hb := Lib.hid (Below.up hb.out hn.out)
  clear hn
  clear hS hL
  have hA5 : Hid (BxV (w35.alloc (.cells #[.int .i64 3, .int .i64 5, .slice a5 l5 c5] 28)) (w35.heap.size) (.int .i64 3) (.int .i64 5) (.slice a5 l5 c5)) := Lib.hid (heap_new' _ rfl)
  replace hI1 := Lib.hid (hI1.out.up (bal w35 (.cells #[.int .i64 3, .int .i64 5, .slice a5 l5 c5] 28)))
  replace hT4 := Lib.hid (hT4.out.up (bal w35 (.cells #[.int .i64 3, .int .i64 5, .slice a5 l5 c5] 28)))
  replace hA4 := Lib.hid (hA4.out.up (bal w35 (.cells #[.int .i64 3, .int .i64 5, .slice a5 l5 c5] 28)))
  replace hT5 := Lib.hid (hT5.out.up (bal w35 (.cells #[.int .i64 3, .int .i64 5, .slice a5 l5 c5] 28)))
  replace hb := Lib.hid (Below.up hb.out (bal w35 (.cells #[.int .i64 3, .int .i64 5, .slice a5 l5 c5] 28)))
  go_wp2_with fail
  refine (kS _).mono ?_
  rintro e w36 ⟨A35, B35, rfl, hS', hn⟩
  replace hI1 := Lib.hid (hI1.out.up hn.out)
  replace hT4 := Lib.hid (hT4.out.up hn.out)
  replace hA4 := Lib.hid (hA4.out.up hn.out)
  replace hT5 := Lib.hid (hT5.out.up hn.out)
  replace hA5 := Lib.hid (hA5.out.up hn.out)
  replace hb := Lib.hid (Below.up hb.out hn.out)
  clear hn
  have hS := hS'
  clear hS'
  go_wp2_with fail
  refine (kv 0 _).mono ?_
  rintro e w37 ⟨rfl, hn⟩
  replace hI1 := Lib.hid (hI1.out.up hn.out)
  replace hT4 := Lib.hid (hT4.out.up hn.out)
  replace hA4 := Lib.hid (hA4.out.up hn.out)
  replace hT5 := Lib.hid (hT5.out.up hn.out)
  replace hA5 := Lib.hid (hA5.out.up hn.out)
  replace hS := Lib.hid (hS.out.up hn.out)
  replace hb := Lib.hid (Below.up hb.out hn.out)
  clear hn
  go_wp2_with fail
  refine (kv 1 _).mono ?_
  rintro e w38 ⟨rfl, hn⟩
  replace hI1 := Lib.hid (hI1.out.up hn.out)
  replace hT4 := Lib.hid (hT4.out.up hn.out)
  replace hA4 := Lib.hid (hA4.out.up hn.out)
  replace hT5 := Lib.hid (hT5.out.up hn.out)
  replace hA5 := Lib.hid (hA5.out.up hn.out)
  replace hS := Lib.hid (hS.out.up hn.out)
  replace hb := Lib.hid (Below.up hb.out hn.out)
  clear hn
  have hL : Hid (Liv (w38.alloc (.cells #[.int .i64 1, .int .i64 0, .slice none 0 0, .int .i64 1, .int .i64 1, .slice none 0 0] 28)) (dP 3 5 w38.heap.size (dN 1 0) (dN 1 1))) := Lib.hid (Liv.P 3 5 (Liv.N _ 1 0) (Liv.N _ 1 1))
  replace hI1 := Lib.hid (hI1.out.up (bal w38 (.cells #[.int .i64 1, .int .i64 0, .slice none 0 0, .int .i64 1, .int .i64 1, .slice none 0 0] 28)))
  replace hT4 := Lib.hid (hT4.out.up (bal w38 (.cells #[.int .i64 1, .int .i64 0, .slice none 0 0, .int .i64 1, .int .i64 1, .slice none 0 0] 28)))
  replace hA4 := Lib.hid (hA4.out.up (bal w38 (.cells #[.int .i64 1, .int .i64 0, .slice none 0 0, .int .i64 1, .int .i64 1, .slice none 0 0] 28)))
  replace hT5 := Lib.hid (hT5.out.up (bal w38 (.cells #[.int .i64 1, .int .i64 0, .slice none 0 0, .int .i64 1, .int .i64 1, .slice none 0 0] 28)))
  replace hA5 := Lib.hid (hA5.out.up (bal w38 (.cells #[.int .i64 1, .int .i64 0, .slice none 0 0, .int .i64 1, .int .i64 1, .slice none 0 0] 28)))
  replace hS := Lib.hid (hS.out.up (bal w38 (.cells #[.int .i64 1, .int .i64 0, .slice none 0 0, .int .i64 1, .int .i64 1, .slice none 0 0] 28)))
  replace hb := Lib.hid (Below.up hb.out (bal w38 (.cells #[.int .i64 1, .int .i64 0, .slice none 0 0, .int .i64 1, .int .i64 1, .slice none 0 0] 28)))
  go_wp2_with fail
  refine (kcon 5 (some ⟨w38.heap.size, 0, none⟩) 2 2 _).mono ?_
  rintro e w39 ⟨rfl, hn⟩
  replace hI1 := Lib.hid (hI1.out.up hn.out)
  replace hT4 := Lib.hid (hT4.out.up hn.out)
  replace hA4 := Lib.hid (hA4.out.up hn.out)
  replace hT5 := Lib.hid (hT5.out.up hn.out)
  replace hA5 := Lib.hid (hA5.out.up hn.out)
  replace hS := Lib.hid (hS.out.up hn.out)
  replace hL := Lib.hid (hL.out.up hn.out)
  replace hb := Lib.hid (Below.up hb.out hn.out)
  clear hn
  go_wp2_with fail
  refine (kcon 2 none 0 0 _).mono ?_
  rintro e w40 ⟨rfl, hn⟩
  replace hI1 := Lib.hid (hI1.out.up hn.out)
  replace hT4 := Lib.hid (hT4.out.up hn.out)
  replace hA4 := Lib.hid (hA4.out.up hn.out)
  replace hT5 := Lib.hid (hT5.out.up hn.out)
  replace hA5 := Lib.hid (hA5.out.up hn.out)
  replace hS := Lib.hid (hS.out.up hn.out)
  replace hL := Lib.hid (hL.out.up hn.out)
  replace hb := Lib.hid (Below.up hb.out hn.out)
  clear hn
  go_wp2_with fail
  refine (kcon 4 none 0 0 _).mono ?_
  rintro e w41 ⟨rfl, hn⟩
  replace hI1 := Lib.hid (hI1.out.up hn.out)
  replace hT4 := Lib.hid (hT4.out.up hn.out)
  replace hA4 := Lib.hid (hA4.out.up hn.out)
  replace hT5 := Lib.hid (hT5.out.up hn.out)
  replace hA5 := Lib.hid (hA5.out.up hn.out)
  replace hS := Lib.hid (hS.out.up hn.out)
  replace hL := Lib.hid (hL.out.up hn.out)
  replace hb := Lib.hid (Below.up hb.out hn.out)
  clear hn
  have hM : Hid (Liv (w41.alloc (.cells #[.int .i64 3, .int .i64 2, .slice none 0 0, .int .i64 3, .int .i64 4, .slice none 0 0] 28)) (dP 3 5 w41.heap.size (dN 3 2) (dN 3 4))) := Lib.hid (Liv.P 3 5 (Liv.N _ 3 2) (Liv.N _ 3 4))
  replace hI1 := Lib.hid (hI1.out.up (bal w41 (.cells #[.int .i64 3, .int .i64 2, .slice none 0 0, .int .i64 3, .int .i64 4, .slice none 0 0] 28)))
  replace hT4 := Lib.hid (hT4.out.up (bal w41 (.cells #[.int .i64 3, .int .i64 2, .slice none 0 0, .int .i64 3, .int .i64 4, .slice none 0 0] 28)))
  replace hA4 := Lib.hid (hA4.out.up (bal w41 (.cells #[.int .i64 3, .int .i64 2, .slice none 0 0, .int .i64 3, .int .i64 4, .slice none 0 0] 28)))
  replace hT5 := Lib.hid (hT5.out.up (bal w41 (.cells #[.int .i64 3, .int .i64 2, .slice none 0 0, .int .i64 3, .int .i64 4, .slice none 0 0] 28)))
  replace hA5 := Lib.hid (hA5.out.up (bal w41 (.cells #[.int .i64 3, .int .i64 2, .slice none 0 0, .int .i64 3, .int .i64 4, .slice none 0 0] 28)))
  replace hS := Lib.hid (hS.out.up (bal w41 (.cells #[.int .i64 3, .int .i64 2, .slice none 0 0, .int .i64 3, .int .i64 4, .slice none 0 0] 28)))
  replace hL := Lib.hid (hL.out.up (bal w41 (.cells #[.int .i64 3, .int .i64 2, .slice none 0 0, .int .i64 3, .int .i64 4, .slice none 0 0] 28)))
  replace hb := Lib.hid (Below.up hb.out (bal w41 (.cells #[.int .i64 3, .int .i64 2, .slice none 0 0, .int .i64 3, .int .i64 4, .slice none 0 0] 28)))
  go_wp2_with fail
  refine (kcon 5 (some ⟨w41.heap.size, 0, none⟩) 2 2 _).mono ?_
  rintro e w42 ⟨rfl, hn⟩
  replace hI1 := Lib.hid (hI1.out.up hn.out)
  replace hT4 := Lib.hid (hT4.out.up hn.out)
  replace hA4 := Lib.hid (hA4.out.up hn.out)
  replace hT5 := Lib.hid (hT5.out.up hn.out)
  replace hA5 := Lib.hid (hA5.out.up hn.out)
  replace hS := Lib.hid (hS.out.up hn.out)
  replace hL := Lib.hid (hL.out.up hn.out)
  replace hM := Lib.hid (hM.out.up hn.out)
  replace hb := Lib.hid (Below.up hb.out hn.out)
  clear hn
  go_wp2_with fail
  refine (kMatch (w38.heap.size) (w41.heap.size) hS hL hM).mono ?_
  rintro e w43 ⟨va6, vl6, vc6, rfl, hB6, hn⟩
  replace hI1 := Lib.hid (hI1.out.up hn.out)
  replace hT4 := Lib.hid (hT4.out.up hn.out)
  replace hA4 := Lib.hid (hA4.out.up hn.out)
  replace hT5 := Lib.hid (hT5.out.up hn.out)
  replace hA5 := Lib.hid (hA5.out.up hn.out)
  replace hS := Lib.hid (hS.out.up hn.out)
  replace hL := Lib.hid (hL.out.up hn.out)
  replace hM := Lib.hid (hM.out.up hn.out)
  replace hb := Lib.hid (Below.up hb.out hn.out)
  clear hn
  clear hS hL hM
  go_wp2_with fail
  refine (kS _).mono ?_
  rintro e w44 ⟨A43, B43, rfl, hS', hn⟩
  replace hI1 := Lib.hid (hI1.out.up hn.out)
  replace hT4 := Lib.hid (hT4.out.up hn.out)
  replace hA4 := Lib.hid (hA4.out.up hn.out)
  replace hT5 := Lib.hid (hT5.out.up hn.out)
  replace hA5 := Lib.hid (hA5.out.up hn.out)
  replace hB6 := Lib.hid (hB6.out.up hn.out)
  replace hb := Lib.hid (Below.up hb.out hn.out)
  clear hn
  have hS := hS'
  clear hS'
  go_wp2_with fail
  refine (kv 0 _).mono ?_
  rintro e w45 ⟨rfl, hn⟩
  replace hI1 := Lib.hid (hI1.out.up hn.out)
  replace hT4 := Lib.hid (hT4.out.up hn.out)
  replace hA4 := Lib.hid (hA4.out.up hn.out)
  replace hT5 := Lib.hid (hT5.out.up hn.out)
  replace hA5 := Lib.hid (hA5.out.up hn.out)
  replace hB6 := Lib.hid (hB6.out.up hn.out)
  replace hS := Lib.hid (hS.out.up hn.out)
  replace hb := Lib.hid (Below.up hb.out hn.out)
  clear hn
  go_wp2_with fail
  refine (kv 1 _).mono ?_
  rintro e w46 ⟨rfl, hn⟩
  replace hI1 := Lib.hid (hI1.out.up hn.out)
  replace hT4 := Lib.hid (hT4.out.up hn.out)
  replace hA4 := Lib.hid (hA4.out.up hn.out)
  replace hT5 := Lib.hid (hT5.out.up hn.out)
  replace hA5 := Lib.hid (hA5.out.up hn.out)
  replace hB6 := Lib.hid (hB6.out.up hn.out)
  replace hS := Lib.hid (hS.out.up hn.out)
  replace hb := Lib.hid (Below.up hb.out hn.out)
  clear hn
  have hL : Hid (Liv (w46.alloc (.cells #[.int .i64 1, .int .i64 0, .slice none 0 0, .int .i64 1, .int .i64 1, .slice none 0 0] 28)) (dP 3 5 w46.heap.size (dN 1 0) (dN 1 1))) := Lib.hid (Liv.P 3 5 (Liv.N _ 1 0) (Liv.N _ 1 1))
  replace hI1 := Lib.hid (hI1.out.up (bal w46 (.cells #[.int .i64 1, .int .i64 0, .slice none 0 0, .int .i64 1, .int .i64 1, .slice none 0 0] 28)))
  replace hT4 := Lib.hid (hT4.out.up (bal w46 (.cells #[.int .i64 1, .int .i64 0, .slice none 0 0, .int .i64 1, .int .i64 1, .slice none 0 0] 28)))
  replace hA4 := Lib.hid (hA4.out.up (bal w46 (.cells #[.int .i64 1, .int .i64 0, .slice none 0 0, .int .i64 1, .int .i64 1, .slice none 0 0] 28)))
  replace hT5 := Lib.hid (hT5.out.up (bal w46 (.cells #[.int .i64 1, .int .i64 0, .slice none 0 0, .int .i64 1, .int .i64 1, .slice none 0 0] 28)))
  replace hA5 := Lib.hid (hA5.out.up (bal w46 (.cells #[.int .i64 1, .int .i64 0, .slice none 0 0, .int .i64 1, .int .i64 1, .slice none 0 0] 28)))
  replace hB6 := Lib.hid (hB6.out.up (bal w46 (.cells #[.int .i64 1, .int .i64 0, .slice none 0 0, .int .i64 1, .int .i64 1, .slice none 0 0] 28)))
  replace hS := Lib.hid (hS.out.up (bal w46 (.cells #[.int .i64 1, .int .i64 0, .slice none 0 0, .int .i64 1, .int .i64 1, .slice none 0 0] 28)))
  replace hb := Lib.hid (Below.up hb.out (bal w46 (.cells #[.int .i64 1, .int .i64 0, .slice none 0 0, .int .i64 1, .int .i64 1, .slice none 0 0] 28)))
  go_wp2_with fail
  refine (kcon 5 (some ⟨w46.heap.size, 0, none⟩) 2 2 _).mono ?_
  rintro e w47 ⟨rfl, hn⟩
  replace hI1 := Lib.hid (hI1.out.up hn.out)
  replace hT4 := Lib.hid (hT4.out.up hn.out)
  replace hA4 := Lib.hid (hA4.out.up hn.out)
  replace hT5 := Lib.hid (hT5.out.up hn.out)
  replace hA5 := Lib.hid (hA5.out.up hn.out)
  replace hB6 := Lib.hid (hB6.out.up hn.out)
  replace hS := Lib.hid (hS.out.up hn.out)
  replace hL := Lib.hid (hL.out.up hn.out)
  replace hb := Lib.hid (Below.up hb.out hn.out)
  clear hn
  go_wp2_with fail
  refine (kv 1 _).mono ?_
  rintro e w48 ⟨rfl, hn⟩
  replace hI1 := Lib.hid (hI1.out.up hn.out)
  replace hT4 := Lib.hid (hT4.out.up hn.out)
  replace hA4 := Lib.hid (hA4.out.up hn.out)
  replace hT5 := Lib.hid (hT5.out.up hn.out)
  replace hA5 := Lib.hid (hA5.out.up hn.out)
  replace hB6 := Lib.hid (hB6.out.up hn.out)
  replace hS := Lib.hid (hS.out.up hn.out)
  replace hL := Lib.hid (hL.out.up hn.out)
  replace hb := Lib.hid (Below.up hb.out hn.out)
  clear hn
  go_wp2_with fail
  refine (kcon 4 none 0 0 _).mono ?_
  rintro e w49 ⟨rfl, hn⟩
  replace hI1 := Lib.hid (hI1.out.up hn.out)
  replace hT4 := Lib.hid (hT4.out.up hn.out)
  replace hA4 := Lib.hid (hA4.out.up hn.out)
  replace hT5 := Lib.hid (hT5.out.up hn.out)
  replace hA5 := Lib.hid (hA5.out.up hn.out)
  replace hB6 := Lib.hid (hB6.out.up hn.out)
  replace hS := Lib.hid (hS.out.up hn.out)
  replace hL := Lib.hid (hL.out.up hn.out)
  replace hb := Lib.hid (Below.up hb.out hn.out)
  clear hn
  have hM : Hid (Liv (w49.alloc (.cells #[.int .i64 1, .int .i64 1, .slice none 0 0, .int .i64 3, .int .i64 4, .slice none 0 0] 28)) (dP 3 5 w49.heap.size (dN 1 1) (dN 3 4))) := Lib.hid (Liv.P 3 5 (Liv.N _ 1 1) (Liv.N _ 3 4))
  replace hI1 := Lib.hid (hI1.out.up (bal w49 (.cells #[.int .i64 1, .int .i64 1, .slice none 0 0, .int .i64 3, .int .i64 4, .slice none 0 0] 28)))
  replace hT4 := Lib.hid (hT4.out.up (bal w49 (.cells #[.int .i64 1, .int .i64 1, .slice none 0 0, .int .i64 3, .int .i64 4, .slice none 0 0] 28)))
  replace hA4 := Lib.hid (hA4.out.up (bal w49 (.cells #[.int .i64 1, .int .i64 1, .slice none 0 0, .int .i64 3, .int .i64 4, .slice none 0 0] 28)))
  replace hT5 := Lib.hid (hT5.out.up (bal w49 (.cells #[.int .i64 1, .int .i64 1, .slice none 0 0, .int .i64 3, .int .i64 4, .slice none 0 0] 28)))
  replace hA5 := Lib.hid (hA5.out.up (bal w49 (.cells #[.int .i64 1, .int .i64 1, .slice none 0 0, .int .i64 3, .int .i64 4, .slice none 0 0] 28)))
  replace hB6 := Lib.hid (hB6.out.up (bal w49 (.cells #[.int .i64 1, .int .i64 1, .slice none 0 0, .int .i64 3, .int .i64 4, .slice none 0 0] 28)))
  replace hS := Lib.hid (hS.out.up (bal w49 (.cells #[.int .i64 1, .int .i64 1, .slice none 0 0, .int .i64 3, .int .i64 4, .slice none 0 0] 28)))
  replace hL := Lib.hid (hL.out.up (bal w49 (.cells #[.int .i64 1, .int .i64 1, .slice none 0 0, .int .i64 3, .int .i64 4, .slice none 0 0] 28)))
  replace hb := Lib.hid (Below.up hb.out (bal w49 (.cells #[.int .i64 1, .int .i64 1, .slice none 0 0, .int .i64 3, .int .i64 4, .slice none 0 0] 28)))
  go_wp2_with fail
  refine (kcon 5 (some ⟨w49.heap.size, 0, none⟩) 2 2 _).mono ?_
  rintro e w50 ⟨rfl, hn⟩
  replace hI1 := Lib.hid (hI1.out.up hn.out)
  replace hT4 := Lib.hid (hT4.out.up hn.out)
  replace hA4 := Lib.hid (hA4.out.up hn.out)
  replace hT5 := Lib.hid (hT5.out.up hn.out)
  replace hA5 := Lib.hid (hA5.out.up hn.out)
  replace hB6 := Lib.hid (hB6.out.up hn.out)
  replace hS := Lib.hid (hS.out.up hn.out)
  replace hL := Lib.hid (hL.out.up hn.out)
  replace hM := Lib.hid (hM.out.up hn.out)
  replace hb := Lib.hid (Below.up hb.out hn.out)
  clear hn
  go_wp2_with fail
  refine (kUnify (dP 3 5 w46.heap.size (dN 1 0) (dN 1 1)) (dP 3 5 w49.heap.size (dN 1 1) (dN 3 4)) [(0, tc 4), (1, tc 4)] 0 (by simp [DT.size, dsizes]) (by simp [DT.size, dsizes]) hS hL hM (by rw [chkV]; rfl) (u7 (w46.heap.size) (w49.heap.size))).mono ?_
  rintro e w51 ⟨va7, vl7, vc7, rfl, hB7, hn⟩
  replace hI1 := Lib.hid (hI1.out.up hn.out)
  replace hT4 := Lib.hid (hT4.out.up hn.out)
  replace hA4 := Lib.hid (hA4.out.up hn.out)
  replace hT5 := Lib.hid (hT5.out.up hn.out)
  replace hA5 := Lib.hid (hA5.out.up hn.out)
  replace hB6 := Lib.hid (hB6.out.up hn.out)
  replace hS := Lib.hid (hS.out.up hn.out)
  replace hL := Lib.hid (hL.out.up hn.out)
  replace hM := Lib.hid (hM.out.up hn.out)
  replace hb := Lib.hid (Below.up hb.out hn.out)
  clear hn
  clear hS hL hM
  go_wp2_with fail
  refine (kS _).mono ?_
  rintro e w52 ⟨A51, B51, rfl, hS', hn⟩
  replace hI1 := Lib.hid (hI1.out.up hn.out)
  replace hT4 := Lib.hid (hT4.out.up hn.out)
  replace hA4 := Lib.hid (hA4.out.up hn.out)
  replace hT5 := Lib.hid (hT5.out.up hn.out)
  replace hA5 := Lib.hid (hA5.out.up hn.out)
  replace hB6 := Lib.hid (hB6.out.up hn.out)
  replace hB7 := Lib.hid (hB7.out.up hn.out)
  replace hb := Lib.hid (Below.up hb.out hn.out)
  clear hn
  have hS := hS'
  clear hS'
  go_wp2_with fail
  refine (kv 0 _).mono ?_
  rintro e w53 ⟨rfl, hn⟩
  replace hI1 := Lib.hid (hI1.out.up hn.out)
  replace hT4 := Lib.hid (hT4.out.up hn.out)
  replace hA4 := Lib.hid (hA4.out.up hn.out)
  replace hT5 := Lib.hid (hT5.out.up hn.out)
  replace hA5 := Lib.hid (hA5.out.up hn.out)
  replace hB6 := Lib.hid (hB6.out.up hn.out)
  replace hB7 := Lib.hid (hB7.out.up hn.out)
  replace hS := Lib.hid (hS.out.up hn.out)
  replace hb := Lib.hid (Below.up hb.out hn.out)
  clear hn
  go_wp2_with fail
  refine (kv 0 _).mono ?_
  rintro e w54 ⟨rfl, hn⟩
  replace hI1 := Lib.hid (hI1.out.up hn.out)
  replace hT4 := Lib.hid (hT4.out.up hn.out)
  replace hA4 := Lib.hid (hA4.out.up hn.out)
  replace hT5 := Lib.hid (hT5.out.up hn.out)
  replace hA5 := Lib.hid (hA5.out.up hn.out)
  replace hB6 := Lib.hid (hB6.out.up hn.out)
  replace hB7 := Lib.hid (hB7.out.up hn.out)
  replace hS := Lib.hid (hS.out.up hn.out)
  replace hb := Lib.hid (Below.up hb.out hn.out)
  clear hn
  have hM : Hid (Liv (w54.alloc (.cells #[.int .i64 1, .int .i64 0, .slice none 0 0] 28)) (dS 3 3 w54.heap.size (dN 1 0))) := Lib.hid (Liv.S 3 3 (Liv.N _ 1 0))
  replace hI1 := Lib.hid (hI1.out.up (bal w54 (.cells #[.int .i64 1, .int .i64 0, .slice none 0 0] 28)))
  replace hT4 := Lib.hid (hT4.out.up (bal w54 (.cells #[.int .i64 1, .int .i64 0, .slice none 0 0] 28)))
  replace hA4 := Lib.hid (hA4.out.up (bal w54 (.cells #[.int .i64 1, .int .i64 0, .slice none 0 0] 28)))
  replace hT5 := Lib.hid (hT5.out.up (bal w54 (.cells #[.int .i64 1, .int .i64 0, .slice none 0 0] 28)))
  replace hA5 := Lib.hid (hA5.out.up (bal w54 (.cells #[.int .i64 1, .int .i64 0, .slice none 0 0] 28)))
  replace hB6 := Lib.hid (hB6.out.up (bal w54 (.cells #[.int .i64 1, .int .i64 0, .slice none 0 0] 28)))
  replace hB7 := Lib.hid (hB7.out.up (bal w54 (.cells #[.int .i64 1, .int .i64 0, .slice none 0 0] 28)))
  replace hS := Lib.hid (hS.out.up (bal w54 (.cells #[.int .i64 1, .int .i64 0, .slice none 0 0] 28)))
  replace hb := Lib.hid (Below.up hb.out (bal w54 (.cells #[.int .i64 1, .int .i64 0, .slice none 0 0] 28)))
  go_wp2_with fail
  refine (kcon 3 (some ⟨w54.heap.size, 0, none⟩) 1 1 _).mono ?_
  rintro e w55 ⟨rfl, hn⟩
  replace hI1 := Lib.hid (hI1.out.up hn.out)
  replace hT4 := Lib.hid (hT4.out.up hn.out)
  replace hA4 := Lib.hid (hA4.out.up hn.out)
  replace hT5 := Lib.hid (hT5.out.up hn.out)
  replace hA5 := Lib.hid (hA5.out.up hn.out)
  replace hB6 := Lib.hid (hB6.out.up hn.out)
  replace hB7 := Lib.hid (hB7.out.up hn.out)
  replace hS := Lib.hid (hS.out.up hn.out)
  replace hM := Lib.hid (hM.out.up hn.out)
  replace hb := Lib.hid (Below.up hb.out hn.out)
  clear hn
  go_wp2_with fail
  refine (kUnify (dN 1 0) (dS 3 3 w54.heap.size (dN 1 0)) [] 5 (by simp [DT.size, dsizes]) (by simp [DT.size, dsizes]) hS (Liv.N _ 1 0) hM (by rw [chkV]; rfl) (u8 (w54.heap.size))).mono ?_
  rintro e w56 ⟨va8, vl8, vc8, rfl, hB8, hn⟩
  replace hI1 := Lib.hid (hI1.out.up hn.out)
  replace hT4 := Lib.hid (hT4.out.up hn.out)
  replace hA4 := Lib.hid (hA4.out.up hn.out)
  replace hT5 := Lib.hid (hT5.out.up hn.out)
  replace hA5 := Lib.hid (hA5.out.up hn.out)
  replace hB6 := Lib.hid (hB6.out.up hn.out)
  replace hB7 := Lib.hid (hB7.out.up hn.out)
  replace hS := Lib.hid (hS.out.up hn.out)
  replace hM := Lib.hid (hM.out.up hn.out)
  replace hb := Lib.hid (Below.up hb.out hn.out)
  clear hn
  clear hS hM
  clear hB8
  go_wp2_with fail
  refine (kS _).mono ?_
  rintro e w57 ⟨A56, B56, rfl, hS', hn⟩
  replace hI1 := Lib.hid (hI1.out.up hn.out)
  replace hT4 := Lib.hid (hT4.out.up hn.out)
  replace hA4 := Lib.hid (hA4.out.up hn.out)
  replace hT5 := Lib.hid (hT5.out.up hn.out)
  replace hA5 := Lib.hid (hA5.out.up hn.out)
  replace hB6 := Lib.hid (hB6.out.up hn.out)
  replace hB7 := Lib.hid (hB7.out.up hn.out)
  replace hb := Lib.hid (Below.up hb.out hn.out)
  clear hn
  have hS := hS'
  clear hS'
  go_wp2_with fail
  refine (kcon 2 none 0 0 _).mono ?_
  rintro e w58 ⟨rfl, hn⟩
  replace hI1 := Lib.hid (hI1.out.up hn.out)
  replace hT4 := Lib.hid (hT4.out.up hn.out)
  replace hA4 := Lib.hid (hA4.out.up hn.out)
  replace hT5 := Lib.hid (hT5.out.up hn.out)
  replace hA5 := Lib.hid (hA5.out.up hn.out)
  replace hB6 := Lib.hid (hB6.out.up hn.out)
  replace hB7 := Lib.hid (hB7.out.up hn.out)
  replace hS := Lib.hid (hS.out.up hn.out)
  replace hb := Lib.hid (Below.up hb.out hn.out)
  clear hn
  go_wp2_with fail
  refine (knode 2 7 none 0 0 _).mono ?_
  rintro e w59 ⟨rfl, hn⟩
  replace hI1 := Lib.hid (hI1.out.up hn.out)
  replace hT4 := Lib.hid (hT4.out.up hn.out)
  replace hA4 := Lib.hid (hA4.out.up hn.out)
  replace hT5 := Lib.hid (hT5.out.up hn.out)
  replace hA5 := Lib.hid (hA5.out.up hn.out)
  replace hB6 := Lib.hid (hB6.out.up hn.out)
  replace hB7 := Lib.hid (hB7.out.up hn.out)
  replace hS := Lib.hid (hS.out.up hn.out)
  replace hb := Lib.hid (Below.up hb.out hn.out)
  clear hn
  go_wp2_with fail
  refine (kCompare (dN 3 2) (dN 2 7) 1 (by simp [DT.size, dsizes]) (by simp [DT.size, dsizes]) hS (Liv.N _ 3 2) (Liv.N _ 2 7) (by rw [chkV]; rfl) rfl).mono ?_
  rintro e w60 ⟨rfl, hn⟩
  replace hI1 := Lib.hid (hI1.out.up hn.out)
  replace hT4 := Lib.hid (hT4.out.up hn.out)
  replace hA4 := Lib.hid (hA4.out.up hn.out)
  replace hT5 := Lib.hid (hT5.out.up hn.out)
  replace hA5 := Lib.hid (hA5.out.up hn.out)
  replace hB6 := Lib.hid (hB6.out.up hn.out)
  replace hB7 := Lib.hid (hB7.out.up hn.out)
  replace hS := Lib.hid (hS.out.up hn.out)
  replace hb := Lib.hid (Below.up hb.out hn.out)
  clear hn
  clear hS
  go_upto_region 12 with fail
  have hK : Hid (∀ W, Below w60.heap.size w60 W → (W.cell? ⟨w28.heap.size, 0, none⟩ = some (.int .i64 8) ∧ W.cell? ⟨w28.heap.size, 1, none⟩ = some (.int .i64 3) ∧ W.cell? ⟨w28.heap.size, 2, none⟩ = some (.slice a4 l4 c4)) ∧ (W.cell? ⟨w35.heap.size, 0, none⟩ = some (.int .i64 3) ∧ W.cell? ⟨w35.heap.size, 1, none⟩ = some (.int .i64 5) ∧ W.cell? ⟨w35.heap.size, 2, none⟩ = some (.slice a5 l5 c5))) := Lib.hid (fun W h => ⟨(c3_cells (hA4.out.up h)).1, (c3_cells (hA5.out.up h)).1⟩)
  clear hA4 hA5
  refine region_named (S := fun W' => Below w60.heap.size w60 W') (by kernel_rfl) (fun w61 hw61 => ?_)
  have hq : Hid (Below w60.heap.size w60 w60.drew) := Lib.hid ((Below.refl _ _).drew)
  have hdr : Hid (Below w60.heap.size w60 w60.drew) := hq
  replace hI1 := Lib.hid (hI1.out.up hdr.out)
  replace hT4 := Lib.hid (hT4.out.up hdr.out)
  replace hT5 := Lib.hid (hT5.out.up hdr.out)
  replace hB6 := Lib.hid (hB6.out.up hdr.out)
  replace hB7 := Lib.hid (hB7.out.up hdr.out)
  replace hb := Lib.hid (Below.up hb.out hdr.out)
  clear hdr
  rw [← hw61] at hI1
  rw [← hw61] at hT4
  rw [← hw61] at hT5
  rw [← hw61] at hB6
  rw [← hw61] at hB7
  rw [← hw61] at hb
  rw [← hw61] at hq
  clear hw61
  refine takeH 0 149 (.slice va1 vl1 vc1) rfl rfl (by kernel_rfl) (by kernel_rfl) (by kernel_rfl) (fun _ _ _ h => h) (by rfl) (by intro W hSw; clear hSw; go_simp) hq.out ?_
  try simp only [List.setIfInBounds_toArray, List.set_cons_zero, List.set_cons_succ]
  refine wpAnyH_ready (rs := [1]) (by kernel_rfl) (by simp) ?_
  refine AllReadyH.cons rfl (fun K hKc => ?_) AllReadyH.nil
  go_simp
  have hI2 : Hid (Iv (w61.alloc (.cells #[.int .i64 1, .int .i64 2] 3)) [1, 2] (some ⟨w61.heap.size, 0, none⟩) 2 2) := Lib.hid (Iv.two _ 1 2)
  replace hI1 := Lib.hid (hI1.out.up (bal w61 (.cells #[.int .i64 1, .int .i64 2] 3)))
  replace hT4 := Lib.hid (hT4.out.up (bal w61 (.cells #[.int .i64 1, .int .i64 2] 3)))
  replace hT5 := Lib.hid (hT5.out.up (bal w61 (.cells #[.int .i64 1, .int .i64 2] 3)))
  replace hB6 := Lib.hid (hB6.out.up (bal w61 (.cells #[.int .i64 1, .int .i64 2] 3)))
  replace hB7 := Lib.hid (hB7.out.up (bal w61 (.cells #[.int .i64 1, .int .i64 2] 3)))
  replace hb := Lib.hid (Below.up hb.out (bal w61 (.cells #[.int .i64 1, .int .i64 2] 3)))
  replace hq := Lib.hid (Below.up hq.out (bal w61 (.cells #[.int .i64 1, .int .i64 2] 3)))
  obtain ⟨w62, hw62⟩ : ∃ w62, w62 = w61.alloc (.cells #[.int .i64 1, .int .i64 2] 3) := ⟨_, rfl⟩
  rw [← hw62]
  rw [← hw62] at hI1
  rw [← hw62] at hT4
  rw [← hw62] at hT5
  rw [← hw62] at hB6
  rw [← hw62] at hB7
  rw [← hw62] at hI2
  rw [← hw62] at hb
  rw [← hw62] at hq
  clear hw62
  refine hKc _ _ hq.out (fun _ => ?_)
  clear hKc K
  try simp only [List.setIfInBounds_toArray, List.set_cons_zero, List.set_cons_succ]
  refine wpAnyH_ready (rs := [2]) (by kernel_rfl) (by simp) ?_
  refine AllReadyH.cons rfl (fun K hKc => ?_) AllReadyH.nil
  go_simp
  refine (kSameInts hI1 hI2 rfl).mono ?_
  rintro e w63 ⟨rfl, hn⟩
  replace hI1 := Lib.hid (hI1.out.up hn.out)
  replace hT4 := Lib.hid (hT4.out.up hn.out)
  replace hT5 := Lib.hid (hT5.out.up hn.out)
  replace hB6 := Lib.hid (hB6.out.up hn.out)
  replace hB7 := Lib.hid (hB7.out.up hn.out)
  replace hI2 := Lib.hid (hI2.out.up hn.out)
  replace hb := Lib.hid (Below.up hb.out hn.out)
  replace hq := Lib.hid (Below.up hq.out hn.out)
  refine hKc _ _ hq.out (fun _ => ?_)
  clear hKc K hn
  try simp only [List.setIfInBounds_toArray, List.set_cons_zero, List.set_cons_succ]
  clear hI1 hI2
  refine takeH 3 152 (.bool true) rfl rfl (by kernel_rfl) (by kernel_rfl) (by kernel_rfl) (fun _ _ _ h => h) (by rfl) (by intro W hSw; clear hSw; go_simp) hq.out ?_
  try simp only [List.setIfInBounds_toArray, List.set_cons_zero, List.set_cons_succ]
  refine takeH 4 153 (.agg #[.int .i64 8, .int .i64 3, .slice a4 l4 c4]) rfl rfl (by kernel_rfl) (by kernel_rfl) (by kernel_rfl) (fun _ _ _ h => h) (by rfl) (by intro W hSw; obtain ⟨⟨j1, j2, j3⟩, ⟨j4, j5, j6⟩⟩ := hK.out W hSw; clear hSw; go_simp) hq.out ?_
  try simp only [List.setIfInBounds_toArray, List.set_cons_zero, List.set_cons_succ]
  refine wpAnyH_ready (rs := [5]) (by kernel_rfl) (by simp) ?_
  refine AllReadyH.cons rfl (fun K hKc => ?_) AllReadyH.nil
  go_simp
  refine (kSmall hT4 rfl).mono ?_
  rintro e w64 ⟨rfl, hn⟩
  replace hT4 := Lib.hid (hT4.out.up hn.out)
  replace hT5 := Lib.hid (hT5.out.up hn.out)
  replace hB6 := Lib.hid (hB6.out.up hn.out)
  replace hB7 := Lib.hid (hB7.out.up hn.out)
  replace hb := Lib.hid (Below.up hb.out hn.out)
  replace hq := Lib.hid (Below.up hq.out hn.out)
  refine hKc _ _ hq.out (fun _ => ?_)
  clear hKc K hn
  try simp only [List.setIfInBounds_toArray, List.set_cons_zero, List.set_cons_succ]
  refine takeH 6 155 (.bool true) rfl rfl (by kernel_rfl) (by kernel_rfl) (by kernel_rfl) (fun _ _ _ h => h) (by rfl) (by intro W hSw; clear hSw; go_simp) hq.out ?_
  try simp only [List.setIfInBounds_toArray, List.set_cons_zero, List.set_cons_succ]
  refine takeH 7 156 (.bool true) rfl rfl (by kernel_rfl) (by kernel_rfl) (by kernel_rfl) (fun _ _ _ h => h) (by rfl) (by intro W hSw; clear hSw; go_simp) hq.out ?_
  try simp only [List.setIfInBounds_toArray, List.set_cons_zero, List.set_cons_succ]
  refine takeH 8 157 (.agg #[.int .i64 8, .int .i64 3, .slice a4 l4 c4]) rfl rfl (by kernel_rfl) (by kernel_rfl) (by kernel_rfl) (fun _ _ _ h => h) (by rfl) (by intro W hSw; obtain ⟨⟨j1, j2, j3⟩, ⟨j4, j5, j6⟩⟩ := hK.out W hSw; clear hSw; go_simp) hq.out ?_
  try simp only [List.setIfInBounds_toArray, List.set_cons_zero, List.set_cons_succ]
  refine wpAnyH_ready (rs := [9]) (by kernel_rfl) (by simp) ?_
  refine AllReadyH.cons rfl (fun K hKc => ?_) AllReadyH.nil
  go_simp
  refine (kv 1 _).mono ?_
  rintro e w65 ⟨rfl, hn⟩
  replace hT4 := Lib.hid (hT4.out.up hn.out)
  replace hT5 := Lib.hid (hT5.out.up hn.out)
  replace hB6 := Lib.hid (hB6.out.up hn.out)
  replace hB7 := Lib.hid (hB7.out.up hn.out)
  replace hb := Lib.hid (Below.up hb.out hn.out)
  replace hq := Lib.hid (Below.up hq.out hn.out)
  refine hKc _ _ hq.out (fun _ => ?_)
  clear hKc K hn
  try simp only [List.setIfInBounds_toArray, List.set_cons_zero, List.set_cons_succ]
  refine wpAnyH_ready (rs := [10]) (by kernel_rfl) (by simp) ?_
  refine AllReadyH.cons rfl (fun K hKc => ?_) AllReadyH.nil
  go_simp
  refine (kv 3 _).mono ?_
  rintro e w66 ⟨rfl, hn⟩
  replace hT4 := Lib.hid (hT4.out.up hn.out)
  replace hT5 := Lib.hid (hT5.out.up hn.out)
  replace hB6 := Lib.hid (hB6.out.up hn.out)
  replace hB7 := Lib.hid (hB7.out.up hn.out)
  replace hb := Lib.hid (Below.up hb.out hn.out)
  replace hq := Lib.hid (Below.up hq.out hn.out)
  refine hKc _ _ hq.out (fun _ => ?_)
  clear hKc K hn
  try simp only [List.setIfInBounds_toArray, List.set_cons_zero, List.set_cons_succ]
  refine wpAnyH_ready (rs := [11]) (by kernel_rfl) (by simp) ?_
  refine AllReadyH.cons rfl (fun K hKc => ?_) AllReadyH.nil
  go_simp
  refine (kv 0 _).mono ?_
  rintro e w67 ⟨rfl, hn⟩
  replace hT4 := Lib.hid (hT4.out.up hn.out)
  replace hT5 := Lib.hid (hT5.out.up hn.out)
  replace hB6 := Lib.hid (hB6.out.up hn.out)
  replace hB7 := Lib.hid (hB7.out.up hn.out)
  replace hb := Lib.hid (Below.up hb.out hn.out)
  replace hq := Lib.hid (Below.up hq.out hn.out)
  refine hKc _ _ hq.out (fun _ => ?_)
  clear hKc K hn
  try simp only [List.setIfInBounds_toArray, List.set_cons_zero, List.set_cons_succ]
  refine wpAnyH_ready (rs := [12]) (by kernel_rfl) (by simp) ?_
  refine AllReadyH.cons rfl (fun K hKc => ?_) AllReadyH.nil
  go_simp
  have hL1 : Hid (Liv (w67.alloc (.cells #[.int .i64 1, .int .i64 0, .slice none 0 0] 28)) (dS 3 3 w67.heap.size (dN 1 0))) := Lib.hid (Liv.S 3 3 (Liv.N _ 1 0))
  replace hT4 := Lib.hid (hT4.out.up (bal w67 (.cells #[.int .i64 1, .int .i64 0, .slice none 0 0] 28)))
  replace hT5 := Lib.hid (hT5.out.up (bal w67 (.cells #[.int .i64 1, .int .i64 0, .slice none 0 0] 28)))
  replace hB6 := Lib.hid (hB6.out.up (bal w67 (.cells #[.int .i64 1, .int .i64 0, .slice none 0 0] 28)))
  replace hB7 := Lib.hid (hB7.out.up (bal w67 (.cells #[.int .i64 1, .int .i64 0, .slice none 0 0] 28)))
  replace hb := Lib.hid (Below.up hb.out (bal w67 (.cells #[.int .i64 1, .int .i64 0, .slice none 0 0] 28)))
  replace hq := Lib.hid (Below.up hq.out (bal w67 (.cells #[.int .i64 1, .int .i64 0, .slice none 0 0] 28)))
  obtain ⟨w68, hw68⟩ : ∃ w68, w68 = w67.alloc (.cells #[.int .i64 1, .int .i64 0, .slice none 0 0] 28) := ⟨_, rfl⟩
  rw [← hw68]
  rw [← hw68] at hT4
  rw [← hw68] at hT5
  rw [← hw68] at hB6
  rw [← hw68] at hB7
  rw [← hw68] at hL1
  rw [← hw68] at hb
  rw [← hw68] at hq
  clear hw68
  refine hKc _ _ hq.out (fun _ => ?_)
  clear hKc K
  try simp only [List.setIfInBounds_toArray, List.set_cons_zero, List.set_cons_succ]
  refine wpAnyH_ready (rs := [13]) (by kernel_rfl) (by simp) ?_
  refine AllReadyH.cons rfl (fun K hKc => ?_) AllReadyH.nil
  go_simp
  refine (kcon 3 (some ⟨w67.heap.size, 0, none⟩) 1 1 _).mono ?_
  rintro e w69 ⟨rfl, hn⟩
  replace hT4 := Lib.hid (hT4.out.up hn.out)
  replace hT5 := Lib.hid (hT5.out.up hn.out)
  replace hB6 := Lib.hid (hB6.out.up hn.out)
  replace hB7 := Lib.hid (hB7.out.up hn.out)
  replace hL1 := Lib.hid (hL1.out.up hn.out)
  replace hb := Lib.hid (Below.up hb.out hn.out)
  replace hq := Lib.hid (Below.up hq.out hn.out)
  refine hKc _ _ hq.out (fun _ => ?_)
  clear hKc K hn
  try simp only [List.setIfInBounds_toArray, List.set_cons_zero, List.set_cons_succ]
  refine wpAnyH_ready (rs := [14]) (by kernel_rfl) (by simp) ?_
  refine AllReadyH.cons rfl (fun K hKc => ?_) AllReadyH.nil
  go_simp
  have hL2 : Hid (Liv (w69.alloc (.cells #[.int .i64 1, .int .i64 3, .slice none 0 0, .int .i64 3, .int .i64 3, .slice (some ⟨w67.heap.size, 0, none⟩) 1 1] 28)) (dP 3 5 w69.heap.size (dN 1 3) (dS 3 3 w67.heap.size (dN 1 0)))) := Lib.hid (Liv.P 3 5 (Liv.N _ 1 3) hL1.out)
  clear hL1
  replace hT4 := Lib.hid (hT4.out.up (bal w69 (.cells #[.int .i64 1, .int .i64 3, .slice none 0 0, .int .i64 3, .int .i64 3, .slice (some ⟨w67.heap.size, 0, none⟩) 1 1] 28)))
  replace hT5 := Lib.hid (hT5.out.up (bal w69 (.cells #[.int .i64 1, .int .i64 3, .slice none 0 0, .int .i64 3, .int .i64 3, .slice (some ⟨w67.heap.size, 0, none⟩) 1 1] 28)))
  replace hB6 := Lib.hid (hB6.out.up (bal w69 (.cells #[.int .i64 1, .int .i64 3, .slice none 0 0, .int .i64 3, .int .i64 3, .slice (some ⟨w67.heap.size, 0, none⟩) 1 1] 28)))
  replace hB7 := Lib.hid (hB7.out.up (bal w69 (.cells #[.int .i64 1, .int .i64 3, .slice none 0 0, .int .i64 3, .int .i64 3, .slice (some ⟨w67.heap.size, 0, none⟩) 1 1] 28)))
  replace hb := Lib.hid (Below.up hb.out (bal w69 (.cells #[.int .i64 1, .int .i64 3, .slice none 0 0, .int .i64 3, .int .i64 3, .slice (some ⟨w67.heap.size, 0, none⟩) 1 1] 28)))
  replace hq := Lib.hid (Below.up hq.out (bal w69 (.cells #[.int .i64 1, .int .i64 3, .slice none 0 0, .int .i64 3, .int .i64 3, .slice (some ⟨w67.heap.size, 0, none⟩) 1 1] 28)))
  obtain ⟨w70, hw70⟩ : ∃ w70, w70 = w69.alloc (.cells #[.int .i64 1, .int .i64 3, .slice none 0 0, .int .i64 3, .int .i64 3, .slice (some ⟨w67.heap.size, 0, none⟩) 1 1] 28) := ⟨_, rfl⟩
  rw [← hw70]
  rw [← hw70] at hT4
  rw [← hw70] at hT5
  rw [← hw70] at hB6
  rw [← hw70] at hB7
  rw [← hw70] at hL2
  rw [← hw70] at hb
  rw [← hw70] at hq
  clear hw70
  refine hKc _ _ hq.out (fun _ => ?_)
  clear hKc K
  try simp only [List.setIfInBounds_toArray, List.set_cons_zero, List.set_cons_succ]
  refine wpAnyH_ready (rs := [15]) (by kernel_rfl) (by simp) ?_
  refine AllReadyH.cons rfl (fun K hKc => ?_) AllReadyH.nil
  go_simp
  refine (kcon 5 (some ⟨w69.heap.size, 0, none⟩) 2 2 _).mono ?_
  rintro e w71 ⟨rfl, hn⟩
  replace hT4 := Lib.hid (hT4.out.up hn.out)
  replace hT5 := Lib.hid (hT5.out.up hn.out)
  replace hB6 := Lib.hid (hB6.out.up hn.out)
  replace hB7 := Lib.hid (hB7.out.up hn.out)
  replace hL2 := Lib.hid (hL2.out.up hn.out)
  replace hb := Lib.hid (Below.up hb.out hn.out)
  replace hq := Lib.hid (Below.up hq.out hn.out)
  refine hKc _ _ hq.out (fun _ => ?_)
  clear hKc K hn
  try simp only [List.setIfInBounds_toArray, List.set_cons_zero, List.set_cons_succ]
  refine wpAnyH_ready (rs := [16]) (by kernel_rfl) (by simp) ?_
  refine AllReadyH.cons rfl (fun K hKc => ?_) AllReadyH.nil
  go_simp
  have hL3 : Hid (Liv (w71.alloc (.cells #[.int .i64 1, .int .i64 1, .slice none 0 0, .int .i64 3, .int .i64 5, .slice (some ⟨w69.heap.size, 0, none⟩) 2 2] 28)) (dP 8 3 w71.heap.size (dN 1 1) (dP 3 5 w69.heap.size (dN 1 3) (dS 3 3 w67.heap.size (dN 1 0))))) := Lib.hid (Liv.P 8 3 (Liv.N _ 1 1) hL2.out)
  clear hL2
  replace hT4 := Lib.hid (hT4.out.up (bal w71 (.cells #[.int .i64 1, .int .i64 1, .slice none 0 0, .int .i64 3, .int .i64 5, .slice (some ⟨w69.heap.size, 0, none⟩) 2 2] 28)))
  replace hT5 := Lib.hid (hT5.out.up (bal w71 (.cells #[.int .i64 1, .int .i64 1, .slice none 0 0, .int .i64 3, .int .i64 5, .slice (some ⟨w69.heap.size, 0, none⟩) 2 2] 28)))
  replace hB6 := Lib.hid (hB6.out.up (bal w71 (.cells #[.int .i64 1, .int .i64 1, .slice none 0 0, .int .i64 3, .int .i64 5, .slice (some ⟨w69.heap.size, 0, none⟩) 2 2] 28)))
  replace hB7 := Lib.hid (hB7.out.up (bal w71 (.cells #[.int .i64 1, .int .i64 1, .slice none 0 0, .int .i64 3, .int .i64 5, .slice (some ⟨w69.heap.size, 0, none⟩) 2 2] 28)))
  replace hb := Lib.hid (Below.up hb.out (bal w71 (.cells #[.int .i64 1, .int .i64 1, .slice none 0 0, .int .i64 3, .int .i64 5, .slice (some ⟨w69.heap.size, 0, none⟩) 2 2] 28)))
  replace hq := Lib.hid (Below.up hq.out (bal w71 (.cells #[.int .i64 1, .int .i64 1, .slice none 0 0, .int .i64 3, .int .i64 5, .slice (some ⟨w69.heap.size, 0, none⟩) 2 2] 28)))
  obtain ⟨w72, hw72⟩ : ∃ w72, w72 = w71.alloc (.cells #[.int .i64 1, .int .i64 1, .slice none 0 0, .int .i64 3, .int .i64 5, .slice (some ⟨w69.heap.size, 0, none⟩) 2 2] 28) := ⟨_, rfl⟩
  rw [← hw72]
  rw [← hw72] at hT4
  rw [← hw72] at hT5
  rw [← hw72] at hB6
  rw [← hw72] at hB7
  rw [← hw72] at hL3
  rw [← hw72] at hb
  rw [← hw72] at hq
  clear hw72
  refine hKc _ _ hq.out (fun _ => ?_)
  clear hKc K
  try simp only [List.setIfInBounds_toArray, List.set_cons_zero, List.set_cons_succ]
  refine wpAnyH_ready (rs := [17]) (by kernel_rfl) (by simp) ?_
  refine AllReadyH.cons rfl (fun K hKc => ?_) AllReadyH.nil
  go_simp
  refine (knode 8 3 (some ⟨w71.heap.size, 0, none⟩) 2 2 _).mono ?_
  rintro e w73 ⟨rfl, hn⟩
  replace hT4 := Lib.hid (hT4.out.up hn.out)
  replace hT5 := Lib.hid (hT5.out.up hn.out)
  replace hB6 := Lib.hid (hB6.out.up hn.out)
  replace hB7 := Lib.hid (hB7.out.up hn.out)
  replace hL3 := Lib.hid (hL3.out.up hn.out)
  replace hb := Lib.hid (Below.up hb.out hn.out)
  replace hq := Lib.hid (Below.up hq.out hn.out)
  refine hKc _ _ hq.out (fun _ => ?_)
  clear hKc K hn
  try simp only [List.setIfInBounds_toArray, List.set_cons_zero, List.set_cons_succ]
  refine wpAnyH_ready (rs := [18]) (by kernel_rfl) (by simp) ?_
  refine AllReadyH.cons rfl (fun K hKc => ?_) AllReadyH.nil
  go_simp
  refine (kSame (dP 8 3 w71.heap.size (dN 1 1) (dP 3 5 w69.heap.size (dN 1 3) (dS 3 3 w67.heap.size (dN 1 0)))) hT4 hL3 rfl).mono ?_
  rintro e w74 ⟨rfl, hn⟩
  replace hT4 := Lib.hid (hT4.out.up hn.out)
  replace hT5 := Lib.hid (hT5.out.up hn.out)
  replace hB6 := Lib.hid (hB6.out.up hn.out)
  replace hB7 := Lib.hid (hB7.out.up hn.out)
  replace hL3 := Lib.hid (hL3.out.up hn.out)
  replace hb := Lib.hid (Below.up hb.out hn.out)
  replace hq := Lib.hid (Below.up hq.out hn.out)
  refine hKc _ _ hq.out (fun _ => ?_)
  clear hKc K hn
  try simp only [List.setIfInBounds_toArray, List.set_cons_zero, List.set_cons_succ]
  clear hT4 hL3
  refine takeH 19 168 (.bool true) rfl rfl (by kernel_rfl) (by kernel_rfl) (by kernel_rfl) (fun _ _ _ h => h) (by rfl) (by intro W hSw; clear hSw; go_simp) hq.out ?_
  try simp only [List.setIfInBounds_toArray, List.set_cons_zero, List.set_cons_succ]
  refine takeH 20 169 (.bool true) rfl rfl (by kernel_rfl) (by kernel_rfl) (by kernel_rfl) (fun _ _ _ h => h) (by rfl) (by intro W hSw; clear hSw; go_simp) hq.out ?_
  try simp only [List.setIfInBounds_toArray, List.set_cons_zero, List.set_cons_succ]
  refine takeH 21 170 (.agg #[.int .i64 3, .int .i64 5, .slice a5 l5 c5]) rfl rfl (by kernel_rfl) (by kernel_rfl) (by kernel_rfl) (fun _ _ _ h => h) (by rfl) (by intro W hSw; obtain ⟨⟨j1, j2, j3⟩, ⟨j4, j5, j6⟩⟩ := hK.out W hSw; clear hSw; go_simp) hq.out ?_
  try simp only [List.setIfInBounds_toArray, List.set_cons_zero, List.set_cons_succ]
  refine wpAnyH_ready (rs := [22]) (by kernel_rfl) (by simp) ?_
  refine AllReadyH.cons rfl (fun K hKc => ?_) AllReadyH.nil
  go_simp
  refine (kSmall hT5 rfl).mono ?_
  rintro e w75 ⟨rfl, hn⟩
  replace hT5 := Lib.hid (hT5.out.up hn.out)
  replace hB6 := Lib.hid (hB6.out.up hn.out)
  replace hB7 := Lib.hid (hB7.out.up hn.out)
  replace hb := Lib.hid (Below.up hb.out hn.out)
  replace hq := Lib.hid (Below.up hq.out hn.out)
  refine hKc _ _ hq.out (fun _ => ?_)
  clear hKc K hn
  try simp only [List.setIfInBounds_toArray, List.set_cons_zero, List.set_cons_succ]
  refine takeH 23 172 (.bool true) rfl rfl (by kernel_rfl) (by kernel_rfl) (by kernel_rfl) (fun _ _ _ h => h) (by rfl) (by intro W hSw; clear hSw; go_simp) hq.out ?_
  try simp only [List.setIfInBounds_toArray, List.set_cons_zero, List.set_cons_succ]
  refine takeH 24 173 (.bool true) rfl rfl (by kernel_rfl) (by kernel_rfl) (by kernel_rfl) (fun _ _ _ h => h) (by rfl) (by intro W hSw; clear hSw; go_simp) hq.out ?_
  try simp only [List.setIfInBounds_toArray, List.set_cons_zero, List.set_cons_succ]
  refine takeH 25 174 (.agg #[.int .i64 3, .int .i64 5, .slice a5 l5 c5]) rfl rfl (by kernel_rfl) (by kernel_rfl) (by kernel_rfl) (fun _ _ _ h => h) (by rfl) (by intro W hSw; obtain ⟨⟨j1, j2, j3⟩, ⟨j4, j5, j6⟩⟩ := hK.out W hSw; clear hSw; go_simp) hq.out ?_
  try simp only [List.setIfInBounds_toArray, List.set_cons_zero, List.set_cons_succ]
  refine wpAnyH_ready (rs := [26]) (by kernel_rfl) (by simp) ?_
  refine AllReadyH.cons rfl (fun K hKc => ?_) AllReadyH.nil
  go_simp
  refine (kv 0 _).mono ?_
  rintro e w76 ⟨rfl, hn⟩
  replace hT5 := Lib.hid (hT5.out.up hn.out)
  replace hB6 := Lib.hid (hB6.out.up hn.out)
  replace hB7 := Lib.hid (hB7.out.up hn.out)
  replace hb := Lib.hid (Below.up hb.out hn.out)
  replace hq := Lib.hid (Below.up hq.out hn.out)
  refine hKc _ _ hq.out (fun _ => ?_)
  clear hKc K hn
  try simp only [List.setIfInBounds_toArray, List.set_cons_zero, List.set_cons_succ]
  refine wpAnyH_ready (rs := [27]) (by kernel_rfl) (by simp) ?_
  refine AllReadyH.cons rfl (fun K hKc => ?_) AllReadyH.nil
  go_simp
  refine (kv 2 _).mono ?_
  rintro e w77 ⟨rfl, hn⟩
  replace hT5 := Lib.hid (hT5.out.up hn.out)
  replace hB6 := Lib.hid (hB6.out.up hn.out)
  replace hB7 := Lib.hid (hB7.out.up hn.out)
  replace hb := Lib.hid (Below.up hb.out hn.out)
  replace hq := Lib.hid (Below.up hq.out hn.out)
  refine hKc _ _ hq.out (fun _ => ?_)
  clear hKc K hn
  try simp only [List.setIfInBounds_toArray, List.set_cons_zero, List.set_cons_succ]
  refine wpAnyH_ready (rs := [28]) (by kernel_rfl) (by simp) ?_
  refine AllReadyH.cons rfl (fun K hKc => ?_) AllReadyH.nil
  go_simp
  refine (kv 1 _).mono ?_
  rintro e w78 ⟨rfl, hn⟩
  replace hT5 := Lib.hid (hT5.out.up hn.out)
  replace hB6 := Lib.hid (hB6.out.up hn.out)
  replace hB7 := Lib.hid (hB7.out.up hn.out)
  replace hb := Lib.hid (Below.up hb.out hn.out)
  replace hq := Lib.hid (Below.up hq.out hn.out)
  refine hKc _ _ hq.out (fun _ => ?_)
  clear hKc K hn
  try simp only [List.setIfInBounds_toArray, List.set_cons_zero, List.set_cons_succ]
  refine wpAnyH_ready (rs := [29]) (by kernel_rfl) (by simp) ?_
  refine AllReadyH.cons rfl (fun K hKc => ?_) AllReadyH.nil
  go_simp
  have hL1 : Hid (Liv (w78.alloc (.cells #[.int .i64 1, .int .i64 2, .slice none 0 0, .int .i64 1, .int .i64 1, .slice none 0 0] 28)) (dP 8 1 w78.heap.size (dN 1 2) (dN 1 1))) := Lib.hid (Liv.P 8 1 (Liv.N _ 1 2) (Liv.N _ 1 1))
  replace hT5 := Lib.hid (hT5.out.up (bal w78 (.cells #[.int .i64 1, .int .i64 2, .slice none 0 0, .int .i64 1, .int .i64 1, .slice none 0 0] 28)))
  replace hB6 := Lib.hid (hB6.out.up (bal w78 (.cells #[.int .i64 1, .int .i64 2, .slice none 0 0, .int .i64 1, .int .i64 1, .slice none 0 0] 28)))
  replace hB7 := Lib.hid (hB7.out.up (bal w78 (.cells #[.int .i64 1, .int .i64 2, .slice none 0 0, .int .i64 1, .int .i64 1, .slice none 0 0] 28)))
  replace hb := Lib.hid (Below.up hb.out (bal w78 (.cells #[.int .i64 1, .int .i64 2, .slice none 0 0, .int .i64 1, .int .i64 1, .slice none 0 0] 28)))
  replace hq := Lib.hid (Below.up hq.out (bal w78 (.cells #[.int .i64 1, .int .i64 2, .slice none 0 0, .int .i64 1, .int .i64 1, .slice none 0 0] 28)))
  obtain ⟨w79, hw79⟩ : ∃ w79, w79 = w78.alloc (.cells #[.int .i64 1, .int .i64 2, .slice none 0 0, .int .i64 1, .int .i64 1, .slice none 0 0] 28) := ⟨_, rfl⟩
  rw [← hw79]
  rw [← hw79] at hT5
  rw [← hw79] at hB6
  rw [← hw79] at hB7
  rw [← hw79] at hL1
  rw [← hw79] at hb
  rw [← hw79] at hq
  clear hw79
  refine hKc _ _ hq.out (fun _ => ?_)
  clear hKc K
  try simp only [List.setIfInBounds_toArray, List.set_cons_zero, List.set_cons_succ]
  refine wpAnyH_ready (rs := [30]) (by kernel_rfl) (by simp) ?_
  refine AllReadyH.cons rfl (fun K hKc => ?_) AllReadyH.nil
  go_simp
  refine (knode 8 1 (some ⟨w78.heap.size, 0, none⟩) 2 2 _).mono ?_
  rintro e w80 ⟨rfl, hn⟩
  replace hT5 := Lib.hid (hT5.out.up hn.out)
  replace hB6 := Lib.hid (hB6.out.up hn.out)
  replace hB7 := Lib.hid (hB7.out.up hn.out)
  replace hL1 := Lib.hid (hL1.out.up hn.out)
  replace hb := Lib.hid (Below.up hb.out hn.out)
  replace hq := Lib.hid (Below.up hq.out hn.out)
  refine hKc _ _ hq.out (fun _ => ?_)
  clear hKc K hn
  try simp only [List.setIfInBounds_toArray, List.set_cons_zero, List.set_cons_succ]
  refine wpAnyH_ready (rs := [31]) (by kernel_rfl) (by simp) ?_
  refine AllReadyH.cons rfl (fun K hKc => ?_) AllReadyH.nil
  go_simp
  have hL2 : Hid (Liv (w80.alloc (.cells #[.int .i64 1, .int .i64 0, .slice none 0 0, .int .i64 8, .int .i64 1, .slice (some ⟨w78.heap.size, 0, none⟩) 2 2] 28)) (dP 3 5 w80.heap.size (dN 1 0) (dP 8 1 w78.heap.size (dN 1 2) (dN 1 1)))) := Lib.hid (Liv.P 3 5 (Liv.N _ 1 0) hL1.out)
  clear hL1
  replace hT5 := Lib.hid (hT5.out.up (bal w80 (.cells #[.int .i64 1, .int .i64 0, .slice none 0 0, .int .i64 8, .int .i64 1, .slice (some ⟨w78.heap.size, 0, none⟩) 2 2] 28)))
  replace hB6 := Lib.hid (hB6.out.up (bal w80 (.cells #[.int .i64 1, .int .i64 0, .slice none 0 0, .int .i64 8, .int .i64 1, .slice (some ⟨w78.heap.size, 0, none⟩) 2 2] 28)))
  replace hB7 := Lib.hid (hB7.out.up (bal w80 (.cells #[.int .i64 1, .int .i64 0, .slice none 0 0, .int .i64 8, .int .i64 1, .slice (some ⟨w78.heap.size, 0, none⟩) 2 2] 28)))
  replace hb := Lib.hid (Below.up hb.out (bal w80 (.cells #[.int .i64 1, .int .i64 0, .slice none 0 0, .int .i64 8, .int .i64 1, .slice (some ⟨w78.heap.size, 0, none⟩) 2 2] 28)))
  replace hq := Lib.hid (Below.up hq.out (bal w80 (.cells #[.int .i64 1, .int .i64 0, .slice none 0 0, .int .i64 8, .int .i64 1, .slice (some ⟨w78.heap.size, 0, none⟩) 2 2] 28)))
  obtain ⟨w81, hw81⟩ : ∃ w81, w81 = w80.alloc (.cells #[.int .i64 1, .int .i64 0, .slice none 0 0, .int .i64 8, .int .i64 1, .slice (some ⟨w78.heap.size, 0, none⟩) 2 2] 28) := ⟨_, rfl⟩
  rw [← hw81]
  rw [← hw81] at hT5
  rw [← hw81] at hB6
  rw [← hw81] at hB7
  rw [← hw81] at hL2
  rw [← hw81] at hb
  rw [← hw81] at hq
  clear hw81
  refine hKc _ _ hq.out (fun _ => ?_)
  clear hKc K
  try simp only [List.setIfInBounds_toArray, List.set_cons_zero, List.set_cons_succ]
  refine wpAnyH_ready (rs := [32]) (by kernel_rfl) (by simp) ?_
  refine AllReadyH.cons rfl (fun K hKc => ?_) AllReadyH.nil
  go_simp
  refine (kcon 5 (some ⟨w80.heap.size, 0, none⟩) 2 2 _).mono ?_
  rintro e w82 ⟨rfl, hn⟩
  replace hT5 := Lib.hid (hT5.out.up hn.out)
  replace hB6 := Lib.hid (hB6.out.up hn.out)
  replace hB7 := Lib.hid (hB7.out.up hn.out)
  replace hL2 := Lib.hid (hL2.out.up hn.out)
  replace hb := Lib.hid (Below.up hb.out hn.out)
  replace hq := Lib.hid (Below.up hq.out hn.out)
  refine hKc _ _ hq.out (fun _ => ?_)
  clear hKc K hn
  try simp only [List.setIfInBounds_toArray, List.set_cons_zero, List.set_cons_succ]
  refine wpAnyH_ready (rs := [33]) (by kernel_rfl) (by simp) ?_
  refine AllReadyH.cons rfl (fun K hKc => ?_) AllReadyH.nil
  go_simp
  refine (kSame (dP 3 5 w80.heap.size (dN 1 0) (dP 8 1 w78.heap.size (dN 1 2) (dN 1 1))) hT5 hL2 rfl).mono ?_
  rintro e w83 ⟨rfl, hn⟩
  replace hT5 := Lib.hid (hT5.out.up hn.out)
  replace hB6 := Lib.hid (hB6.out.up hn.out)
  replace hB7 := Lib.hid (hB7.out.up hn.out)
  replace hL2 := Lib.hid (hL2.out.up hn.out)
  replace hb := Lib.hid (Below.up hb.out hn.out)
  replace hq := Lib.hid (Below.up hq.out hn.out)
  refine hKc _ _ hq.out (fun _ => ?_)
  clear hKc K hn
  try simp only [List.setIfInBounds_toArray, List.set_cons_zero, List.set_cons_succ]
  clear hT5 hL2
  refine takeH 34 183 (.bool true) rfl rfl (by kernel_rfl) (by kernel_rfl) (by kernel_rfl) (fun _ _ _ h => h) (by rfl) (by intro W hSw; clear hSw; go_simp) hq.out ?_
  try simp only [List.setIfInBounds_toArray, List.set_cons_zero, List.set_cons_succ]
  refine takeH 35 184 (.bool true) rfl rfl (by kernel_rfl) (by kernel_rfl) (by kernel_rfl) (fun _ _ _ h => h) (by rfl) (by intro W hSw; clear hSw; go_simp) hq.out ?_
  try simp only [List.setIfInBounds_toArray, List.set_cons_zero, List.set_cons_succ]
  refine takeH 36 185 (.slice va6 vl6 vc6) rfl rfl (by kernel_rfl) (by kernel_rfl) (by kernel_rfl) (fun _ _ _ h => h) (by rfl) (by intro W hSw; clear hSw; go_simp) hq.out ?_
  try simp only [List.setIfInBounds_toArray, List.set_cons_zero, List.set_cons_succ]
  refine wpAnyH_ready (rs := [37]) (by kernel_rfl) (by simp) ?_
  refine AllReadyH.cons rfl (fun K hKc => ?_) AllReadyH.nil
  go_simp
  refine (kSmallBinds hB6 rfl).mono ?_
  rintro e w84 ⟨rfl, hn⟩
  replace hB6 := Lib.hid (hB6.out.up hn.out)
  replace hB7 := Lib.hid (hB7.out.up hn.out)
  replace hb := Lib.hid (Below.up hb.out hn.out)
  replace hq := Lib.hid (Below.up hq.out hn.out)
  refine hKc _ _ hq.out (fun _ => ?_)
  clear hKc K hn
  try simp only [List.setIfInBounds_toArray, List.set_cons_zero, List.set_cons_succ]
  refine takeH 38 187 (.bool true) rfl rfl (by kernel_rfl) (by kernel_rfl) (by kernel_rfl) (fun _ _ _ h => h) (by rfl) (by intro W hSw; clear hSw; go_simp) hq.out ?_
  try simp only [List.setIfInBounds_toArray, List.set_cons_zero, List.set_cons_succ]
  refine takeH 39 188 (.bool true) rfl rfl (by kernel_rfl) (by kernel_rfl) (by kernel_rfl) (fun _ _ _ h => h) (by rfl) (by intro W hSw; clear hSw; go_simp) hq.out ?_
  try simp only [List.setIfInBounds_toArray, List.set_cons_zero, List.set_cons_succ]
  refine takeH 40 189 (.slice va6 vl6 vc6) rfl rfl (by kernel_rfl) (by kernel_rfl) (by kernel_rfl) (fun _ _ _ h => h) (by rfl) (by intro W hSw; clear hSw; go_simp) hq.out ?_
  try simp only [List.setIfInBounds_toArray, List.set_cons_zero, List.set_cons_succ]
  refine wpAnyH_ready (rs := [41]) (by kernel_rfl) (by simp) ?_
  refine AllReadyH.cons rfl (fun K hKc => ?_) AllReadyH.nil
  go_simp
  refine (kcon 2 none 0 0 _).mono ?_
  rintro e w85 ⟨rfl, hn⟩
  replace hB6 := Lib.hid (hB6.out.up hn.out)
  replace hB7 := Lib.hid (hB7.out.up hn.out)
  replace hb := Lib.hid (Below.up hb.out hn.out)
  replace hq := Lib.hid (Below.up hq.out hn.out)
  refine hKc _ _ hq.out (fun _ => ?_)
  clear hKc K hn
  try simp only [List.setIfInBounds_toArray, List.set_cons_zero, List.set_cons_succ]
  refine takeH 42 191 (.agg #[.int .i64 0, .int .i64 3, .int .i64 2, .slice none 0 0]) rfl rfl (by kernel_rfl) (by kernel_rfl) (by kernel_rfl) (fun _ _ _ h => h) (by rfl) (by intro W hSw; clear hSw; go_simp) hq.out ?_
  try simp only [List.setIfInBounds_toArray, List.set_cons_zero, List.set_cons_succ]
  refine wpAnyH_ready (rs := [43]) (by kernel_rfl) (by simp) ?_
  refine AllReadyH.cons rfl (fun K hKc => ?_) AllReadyH.nil
  go_simp
  refine (kcon 4 none 0 0 _).mono ?_
  rintro e w86 ⟨rfl, hn⟩
  replace hB6 := Lib.hid (hB6.out.up hn.out)
  replace hB7 := Lib.hid (hB7.out.up hn.out)
  replace hb := Lib.hid (Below.up hb.out hn.out)
  replace hq := Lib.hid (Below.up hq.out hn.out)
  refine hKc _ _ hq.out (fun _ => ?_)
  clear hKc K hn
  try simp only [List.setIfInBounds_toArray, List.set_cons_zero, List.set_cons_succ]
  refine takeH 44 193 (.agg #[.int .i64 1, .int .i64 3, .int .i64 4, .slice none 0 0]) rfl rfl (by kernel_rfl) (by kernel_rfl) (by kernel_rfl) (fun _ _ _ h => h) (by rfl) (by intro W hSw; clear hSw; go_simp) hq.out ?_
  try simp only [List.setIfInBounds_toArray, List.set_cons_zero, List.set_cons_succ]
  refine wpAnyH_ready (rs := [45]) (by kernel_rfl) (by simp) ?_
  refine AllReadyH.cons rfl (fun K hKc => ?_) AllReadyH.nil
  go_simp
  have hM6 : Hid (Bv (w86.alloc (.cells #[.int .i64 0, .int .i64 3, .int .i64 2, .slice none 0 0, .int .i64 1, .int .i64 3, .int .i64 4, .slice none 0 0] 70)) [(0, tc 2), (1, tc 4)] (some ⟨w86.heap.size, 0, none⟩) 2 2) := Lib.hid (Bv.two (x := dN 3 2) (y := dN 3 4) 0 1 (Liv.N _ 3 2) (Liv.N _ 3 4))
  replace hB6 := Lib.hid (hB6.out.up (bal w86 (.cells #[.int .i64 0, .int .i64 3, .int .i64 2, .slice none 0 0, .int .i64 1, .int .i64 3, .int .i64 4, .slice none 0 0] 70)))
  replace hB7 := Lib.hid (hB7.out.up (bal w86 (.cells #[.int .i64 0, .int .i64 3, .int .i64 2, .slice none 0 0, .int .i64 1, .int .i64 3, .int .i64 4, .slice none 0 0] 70)))
  replace hb := Lib.hid (Below.up hb.out (bal w86 (.cells #[.int .i64 0, .int .i64 3, .int .i64 2, .slice none 0 0, .int .i64 1, .int .i64 3, .int .i64 4, .slice none 0 0] 70)))
  replace hq := Lib.hid (Below.up hq.out (bal w86 (.cells #[.int .i64 0, .int .i64 3, .int .i64 2, .slice none 0 0, .int .i64 1, .int .i64 3, .int .i64 4, .slice none 0 0] 70)))
  obtain ⟨w87, hw87⟩ : ∃ w87, w87 = w86.alloc (.cells #[.int .i64 0, .int .i64 3, .int .i64 2, .slice none 0 0, .int .i64 1, .int .i64 3, .int .i64 4, .slice none 0 0] 70) := ⟨_, rfl⟩
  rw [← hw87]
  rw [← hw87] at hB6
  rw [← hw87] at hB7
  rw [← hw87] at hM6
  rw [← hw87] at hb
  rw [← hw87] at hq
  clear hw87
  refine hKc _ _ hq.out (fun _ => ?_)
  clear hKc K
  try simp only [List.setIfInBounds_toArray, List.set_cons_zero, List.set_cons_succ]
  refine wpAnyH_ready (rs := [46]) (by kernel_rfl) (by simp) ?_
  refine AllReadyH.cons rfl (fun K hKc => ?_) AllReadyH.nil
  go_simp
  refine (kSameBinds hB6 hM6 rfl).mono ?_
  rintro e w88 ⟨rfl, hn⟩
  replace hB6 := Lib.hid (hB6.out.up hn.out)
  replace hB7 := Lib.hid (hB7.out.up hn.out)
  replace hM6 := Lib.hid (hM6.out.up hn.out)
  replace hb := Lib.hid (Below.up hb.out hn.out)
  replace hq := Lib.hid (Below.up hq.out hn.out)
  refine hKc _ _ hq.out (fun _ => ?_)
  clear hKc K hn
  try simp only [List.setIfInBounds_toArray, List.set_cons_zero, List.set_cons_succ]
  clear hB6 hM6
  refine takeH 47 196 (.bool true) rfl rfl (by kernel_rfl) (by kernel_rfl) (by kernel_rfl) (fun _ _ _ h => h) (by rfl) (by intro W hSw; clear hSw; go_simp) hq.out ?_
  try simp only [List.setIfInBounds_toArray, List.set_cons_zero, List.set_cons_succ]
  refine takeH 48 197 (.bool true) rfl rfl (by kernel_rfl) (by kernel_rfl) (by kernel_rfl) (fun _ _ _ h => h) (by rfl) (by intro W hSw; clear hSw; go_simp) hq.out ?_
  try simp only [List.setIfInBounds_toArray, List.set_cons_zero, List.set_cons_succ]
  refine takeH 49 198 (.slice va7 vl7 vc7) rfl rfl (by kernel_rfl) (by kernel_rfl) (by kernel_rfl) (fun _ _ _ h => h) (by rfl) (by intro W hSw; clear hSw; go_simp) hq.out ?_
  try simp only [List.setIfInBounds_toArray, List.set_cons_zero, List.set_cons_succ]
  refine wpAnyH_ready (rs := [50]) (by kernel_rfl) (by simp) ?_
  refine AllReadyH.cons rfl (fun K hKc => ?_) AllReadyH.nil
  go_simp
  refine (kSmallBinds hB7 rfl).mono ?_
  rintro e w89 ⟨rfl, hn⟩
  replace hB7 := Lib.hid (hB7.out.up hn.out)
  replace hb := Lib.hid (Below.up hb.out hn.out)
  replace hq := Lib.hid (Below.up hq.out hn.out)
  refine hKc _ _ hq.out (fun _ => ?_)
  clear hKc K hn
  try simp only [List.setIfInBounds_toArray, List.set_cons_zero, List.set_cons_succ]
  refine takeH 51 200 (.bool true) rfl rfl (by kernel_rfl) (by kernel_rfl) (by kernel_rfl) (fun _ _ _ h => h) (by rfl) (by intro W hSw; clear hSw; go_simp) hq.out ?_
  try simp only [List.setIfInBounds_toArray, List.set_cons_zero, List.set_cons_succ]
  refine takeH 52 201 (.bool true) rfl rfl (by kernel_rfl) (by kernel_rfl) (by kernel_rfl) (fun _ _ _ h => h) (by rfl) (by intro W hSw; clear hSw; go_simp) hq.out ?_
  try simp only [List.setIfInBounds_toArray, List.set_cons_zero, List.set_cons_succ]
  refine takeH 53 202 (.slice va7 vl7 vc7) rfl rfl (by kernel_rfl) (by kernel_rfl) (by kernel_rfl) (fun _ _ _ h => h) (by rfl) (by intro W hSw; clear hSw; go_simp) hq.out ?_
  try simp only [List.setIfInBounds_toArray, List.set_cons_zero, List.set_cons_succ]
  refine wpAnyH_ready (rs := [54]) (by kernel_rfl) (by simp) ?_
  refine AllReadyH.cons rfl (fun K hKc => ?_) AllReadyH.nil
  go_simp
  refine (kcon 4 none 0 0 _).mono ?_
  rintro e w90 ⟨rfl, hn⟩
  replace hB7 := Lib.hid (hB7.out.up hn.out)
  replace hb := Lib.hid (Below.up hb.out hn.out)
  replace hq := Lib.hid (Below.up hq.out hn.out)
  refine hKc _ _ hq.out (fun _ => ?_)
  clear hKc K hn
  try simp only [List.setIfInBounds_toArray, List.set_cons_zero, List.set_cons_succ]
  refine takeH 55 204 (.agg #[.int .i64 0, .int .i64 3, .int .i64 4, .slice none 0 0]) rfl rfl (by kernel_rfl) (by kernel_rfl) (by kernel_rfl) (fun _ _ _ h => h) (by rfl) (by intro W hSw; clear hSw; go_simp) hq.out ?_
  try simp only [List.setIfInBounds_toArray, List.set_cons_zero, List.set_cons_succ]
  refine wpAnyH_ready (rs := [56]) (by kernel_rfl) (by simp) ?_
  refine AllReadyH.cons rfl (fun K hKc => ?_) AllReadyH.nil
  go_simp
  refine (kcon 4 none 0 0 _).mono ?_
  rintro e w91 ⟨rfl, hn⟩
  replace hB7 := Lib.hid (hB7.out.up hn.out)
  replace hb := Lib.hid (Below.up hb.out hn.out)
  replace hq := Lib.hid (Below.up hq.out hn.out)
  refine hKc _ _ hq.out (fun _ => ?_)
  clear hKc K hn
  try simp only [List.setIfInBounds_toArray, List.set_cons_zero, List.set_cons_succ]
  refine takeH 57 206 (.agg #[.int .i64 1, .int .i64 3, .int .i64 4, .slice none 0 0]) rfl rfl (by kernel_rfl) (by kernel_rfl) (by kernel_rfl) (fun _ _ _ h => h) (by rfl) (by intro W hSw; clear hSw; go_simp) hq.out ?_
  try simp only [List.setIfInBounds_toArray, List.set_cons_zero, List.set_cons_succ]
  refine wpAnyH_ready (rs := [58]) (by kernel_rfl) (by simp) ?_
  refine AllReadyH.cons rfl (fun K hKc => ?_) AllReadyH.nil
  go_simp
  have hM7 : Hid (Bv (w91.alloc (.cells #[.int .i64 0, .int .i64 3, .int .i64 4, .slice none 0 0, .int .i64 1, .int .i64 3, .int .i64 4, .slice none 0 0] 70)) [(0, tc 4), (1, tc 4)] (some ⟨w91.heap.size, 0, none⟩) 2 2) := Lib.hid (Bv.two (x := dN 3 4) (y := dN 3 4) 0 1 (Liv.N _ 3 4) (Liv.N _ 3 4))
  replace hB7 := Lib.hid (hB7.out.up (bal w91 (.cells #[.int .i64 0, .int .i64 3, .int .i64 4, .slice none 0 0, .int .i64 1, .int .i64 3, .int .i64 4, .slice none 0 0] 70)))
  replace hb := Lib.hid (Below.up hb.out (bal w91 (.cells #[.int .i64 0, .int .i64 3, .int .i64 4, .slice none 0 0, .int .i64 1, .int .i64 3, .int .i64 4, .slice none 0 0] 70)))
  replace hq := Lib.hid (Below.up hq.out (bal w91 (.cells #[.int .i64 0, .int .i64 3, .int .i64 4, .slice none 0 0, .int .i64 1, .int .i64 3, .int .i64 4, .slice none 0 0] 70)))
  obtain ⟨w92, hw92⟩ : ∃ w92, w92 = w91.alloc (.cells #[.int .i64 0, .int .i64 3, .int .i64 4, .slice none 0 0, .int .i64 1, .int .i64 3, .int .i64 4, .slice none 0 0] 70) := ⟨_, rfl⟩
  rw [← hw92]
  rw [← hw92] at hB7
  rw [← hw92] at hM7
  rw [← hw92] at hb
  rw [← hw92] at hq
  clear hw92
  refine hKc _ _ hq.out (fun _ => ?_)
  clear hKc K
  try simp only [List.setIfInBounds_toArray, List.set_cons_zero, List.set_cons_succ]
  refine wpAnyH_ready (rs := [59]) (by kernel_rfl) (by simp) ?_
  refine AllReadyH.cons rfl (fun K hKc => ?_) AllReadyH.nil
  go_simp
  refine (kSameBinds hB7 hM7 rfl).mono ?_
  rintro e w93 ⟨rfl, hn⟩
  replace hB7 := Lib.hid (hB7.out.up hn.out)
  replace hM7 := Lib.hid (hM7.out.up hn.out)
  replace hb := Lib.hid (Below.up hb.out hn.out)
  replace hq := Lib.hid (Below.up hq.out hn.out)
  refine hKc _ _ hq.out (fun _ => ?_)
  clear hKc K hn
  try simp only [List.setIfInBounds_toArray, List.set_cons_zero, List.set_cons_succ]
  clear hB7 hM7
  refine takeH 60 209 (.bool true) rfl rfl (by kernel_rfl) (by kernel_rfl) (by kernel_rfl) (fun _ _ _ h => h) (by rfl) (by intro W hSw; clear hSw; go_simp) hq.out ?_
  try simp only [List.setIfInBounds_toArray, List.set_cons_zero, List.set_cons_succ]
  refine takeH 61 0 (.bool true) rfl rfl (by kernel_rfl) (by kernel_rfl) (by kernel_rfl) (fun _ _ _ h => h) (by rfl) (by intro W hSw; clear hSw; go_simp) hq.out ?_
  try simp only [List.setIfInBounds_toArray, List.set_cons_zero]
  refine wpAnyH_done (by kernel_rfl) ?_ _
  go_wp2_with fail
  go_ret
  exact ⟨rfl, hb.out⟩

end Go.Proofs.YthlegfegkopdkaaGreat

namespace Go.Proofs.YthlegfegkopdkaaGreat
open Go.RowKit Go.Shelf

def strVals (l : List ByteArray) : List Value := l.map fun s => .string s
theorem inf9 : (Tryz.prog.info? 9).map (fun i => (i.zero, i.size, i.bytes)) = some (some (.string ByteArray.empty), 1, 16) := by kernel_rfl
theorem u85 : Tryz.prog.underlying 85 = some (.slice 9) := by kernel_rfl
theorem owns_form {w : World} {base : Nat} {v : Value} {l : List ByteArray} (h : w.ownsRow base 9 1 v l.length (strVals l)) :
    (v = .slice none 0 0 ∧ l = []) ∨ ∃ g cv, v = .slice (some ⟨g, 0, none⟩) l.length cv ∧ l.length ≤ cv ∧ cv ≤ maxLen ∧ base ≤ g ∧ g < w.heap.size ∧ ∀ j (hj : j < l.length), w.cell? ⟨g, j, none⟩ = some (.string l[j]) := by
  rcases h.2 with ⟨h1, h2⟩ | ⟨g, cap, cur, h1, h2, h3, h4, h5, h6, h7⟩
  · exact .inl ⟨h1, List.length_eq_zero_iff.1 h2⟩
  · refine .inr ⟨g, cap, h1, h4, h5, h2, (h.lt g (by rw [h1]; rfl)).2, fun j hj => ?_⟩
    subst h1
    rw [h.cellAt j (by omega)]
    simp [strVals, hj]

def curN (bf : List ByteArray) (ds : List Nm) (k : Nat) : List ByteArray := bf ++ (ds.take k).map (·.1)

theorem nmsR_eq : ∀ (a : List Nm) (seen : List ByteArray), nmsR a seen = (a.map (·.1)).reverse ++ seen
  | [], _ => rfl
  | y :: r, seen => by simp only [nmsR, nmsR_eq r (y.1 :: seen)]; simp
theorem OkNames_step {bf : List ByteArray} {ds : List Nm} {k : Nat} (h : k < ds.length) :
    OkNames bf.reverse (ds.take (k + 1)) ↔ OkNames bf.reverse (ds.take k) ∧ ds[k].1 ∉ curN bf ds k ∧ nameB ds[k].1 = true ∧ 0 ≤ ds[k].2 ∧ ds[k].2 ≤ 4 := by
  rw [List.take_succ_eq_append_getElem h, OkNames_append]
  simp only [OkNames, and_true]
  have e : nmsR (ds.take k) bf.reverse = (curN bf ds k).reverse := by rw [nmsR_eq, curN, List.reverse_append]
  rw [e, List.mem_reverse]
theorem OkNames_no {bf : List ByteArray} {ds : List Nm} {k : Nat} (h : k < ds.length) (hn : ¬ (ds[k].1 ∉ curN bf ds k ∧ nameB ds[k].1 = true ∧ 0 ≤ ds[k].2 ∧ ds[k].2 ≤ 4)) : ¬ OkNames bf.reverse ds := fun ho => by
  have h1 : OkNames bf.reverse (ds.take (k + 1)) := by
    rw [← List.take_append_drop (k + 1) ds] at ho
    exact ((OkNames_append _ _ _).1 ho).1
  exact hn ((OkNames_step h).1 h1).2
theorem owns_form' {w : World} {base : Nat} {v : Value} {l : List ByteArray} (h : w.ownsRow base 9 1 v l.length (strVals l)) :
    ∃ av cv, v = .slice av l.length cv ∧ l.length ≤ cv ∧ cv ≤ maxLen ∧ Hid ((l = [] ∧ av = none ∧ cv = 0) ∨ ∃ g, av = some ⟨g, 0, none⟩ ∧ base ≤ g ∧ g < w.heap.size ∧ ∀ j (hj : j < l.length), w.cell? ⟨g, j, none⟩ = some (.string l[j])) := by
  rcases owns_form h with ⟨rfl, rfl⟩ | ⟨g, cv, rfl, h1, h2, h3, h4, h5⟩
  · exact ⟨none, 0, rfl, by simp, by simp, Lib.hid (.inl ⟨rfl, rfl, rfl⟩)⟩
  · exact ⟨_, cv, rfl, h1, h2, Lib.hid (.inr ⟨g, rfl, h3, h4, h5⟩)⟩

theorem ownsRow_wider {w : World} {b b' : Nat} {e : TypeId} {size : Nat} {v : Value} {n : Nat} {xs : List Value} (hb : b' ≤ b) (h : w.ownsRow b e size v n xs) : w.ownsRow b' e size v n xs := by
  refine ⟨h.1, ?_⟩
  rcases h.2 with h2 | ⟨g, cap, cur, h2, h3, h4⟩
  · exact .inl h2
  · exact .inr ⟨g, cap, cur, h2, by omega, h4⟩
theorem app1_run (W : World) (base : Nat) (v : Value) (cur : List ByteArray) (hl : cur.length ≤ 200) (h : W.ownsRow base 9 1 v cur.length (strVals cur)) :
    ∃ v1 W1, (Builtin.append_ #[85, 85] 85 #[.slice none 0 0, v]).run Tryz.prog W = .ok v1 W1 ∧ W1.ownsRow W.heap.size 9 1 v1 cur.length (strVals cur) ∧ W.grownBy W1 none := by
  obtain ⟨i0, hi, hz0, hz1, hz2⟩ := info_parts inf9
  rcases h.2 with ⟨rfl, h2⟩ | ⟨g, cap, cs, rfl, h3⟩
  · obtain rfl := List.length_eq_zero_iff.1 h2
    exact ⟨.slice none 0 0, W, by simp [Builtin.append_, run_underlying u85, sizeOf, typeInfo, hi, Builtin.lenOf, Builtin.firstCells], W.ownsRow_nil _ _ _, World.grownBy.refl _ _⟩
  · obtain ⟨v1, W1, h4, h5, h6, h7⟩ := run_append_own (P := Tryz.prog) W W.heap.size 85 85 9 i0 (.string ByteArray.empty) 1 16 u85 hi hz0 hz1 hz2 rfl (by decide) (.slice none 0 0) 0 [] (W.ownsRow_nil _ _ _) ⟨g, 0, none⟩ cur.length cap (strVals cur) (by simp [strVals])
      (h.cells rfl) (fun u hu => by simp [strVals] at hu; obtain ⟨x, _, rfl⟩ := hu; rfl) (by unfold maxLen; omega) (by omega) (Nat.le_refl _)
    exact ⟨v1, W1, h4, by simpa using h5, h6⟩
theorem wp_builtin_append {P : Program} {o : Oper} {a : Act} {w : World} {K : Act → World → Prop} {Q : Exit → Act → World → Prop} {s x : Operand} {t : TypeId} {v y v1 : Value} {W1 : World}
    (ho : o.op = .call { callee := .builtin .append, args := #[s, x], argTypes := #[t, t] }) (hs : a.eval s = v) (hx : a.eval x = y) (hr : (Builtin.append_ #[t, t] o.type #[v, y]).run P w = .ok v1 W1) (h : K (a.put o.dst v1) W1) : o.wp P a w K Q := by
  unfold Oper.wp execOp
  simp only [ho, resolve, invoke, builtin, Sem.run_bind, Sem.run_pure, Result.andThen_ok, List.map_toArray, List.map_cons, List.map_nil, hs, hx, hr]
  exact h

set_option maxRecDepth 100000 in
set_option maxHeartbeats 1000000 in
theorem rnames_any (ds : List Nm) (n₀ : Nat) (w : World) (a : Option Addr) (l c : Nat) (hs : IsNames n₀ w ds a l c) (hn : n₀ ≤ w.heap.size) (bf : List ByteArray) (base : Nat) (v : Value)
    (hv : w.ownsRow base 9 1 v bf.length (strVals bf)) (hbase : base ≤ w.heap.size) (hlen : ds.length ≤ 100 ∧ bf.length ≤ 100) :
    Calls Tryz.prog 59 #[.slice a l c, v] w fun e w' => ((OkNames bf.reverse ds ∧ ∃ v', e = .returned (.tuple #[v', .bool true]) ∧ w'.ownsRow base 9 1 v' (bf ++ ds.map (·.1)).length (strVals (bf ++ ds.map (·.1)))) ∨ (¬ OkNames bf.reverse ds ∧ e = .returned (.tuple #[.slice none 0 0, .bool false]))) ∧ Below w.heap.size w w' := by
  obtain ⟨rfl, h1, h2, hk⟩ := hs
  have hnm := fun s W hs => name_any s W hs
  replace hnm := Lib.hid hnm
  have hin := fun n W => in_any n 0 4 W
  replace hin := Lib.hid hin
  replace hk := Lib.hid hk
  go_enter Tryz.func59, Tryz.ntmps59
  go_wp2_with fail
  go_loopw [1, 6, 7] (fun v i _ wi => ∃ k : Nat, k ≤ ds.length ∧ i = .int .i64 k ∧ Hid (OkNames bf.reverse (ds.take k)) ∧ Hid (wi.ownsRow base 9 1 v (curN bf ds k).length (strVals (curN bf ds k))) ∧ Hid (Below w.heap.size w wi)) (fun _ i _ _ => ds.length - (intOf i).toNat)
  case atStart => exact ⟨0, by omega, rfl, Lib.hid (by simp [OkNames]), Lib.hid (by simpa [curN] using hv), Lib.hid (Below.refl _ _)⟩
  case round =>
    obtain ⟨k, hkk, rfl, hok, hown, hb⟩ := hrel
    clear hv
    by_cases hp : k < ds.length
    · have o1 : (k : Int) < (ds.length : Int) := by omega
      have hcl : (curN bf ds k).length ≤ 200 := by simp [curN]; omega
      obtain ⟨b, off, ha, hbn, hks⟩ : ∃ b off, a = some ⟨b, off, none⟩ ∧ b < n₀ ∧ Hid (∀ (k : Nat) (h : k < ds.length), w.cell? ⟨b, off + k * 2, none⟩ = some (.string ds[k].1) ∧ w.cell? ⟨b, off + k * 2 + 1, none⟩ = some (.int .i64 ds[k].2) ∧ ds[k].1.size ≤ 140737488351232) := by
        rcases hk.out with hk | ⟨b, off, ha, hbn, hks⟩
        · rw [hk] at hp; simp at hp
        · exact ⟨b, off, ha, hbn, Lib.hid hks⟩
      subst ha
      clear hk
      have hx := Lib.hid (List.take_succ_eq_append_getElem hp)
      obtain ⟨nm, hnm'⟩ : ∃ x, x = ds[k].1 := ⟨_, rfl⟩
      obtain ⟨ar, har⟩ : ∃ x, x = ds[k].2 := ⟨_, rfl⟩
      have c0 := (hb.out.cell (p := ⟨b, off + k * 2, none⟩) (show b < w.heap.size by omega)).trans (hks.out k hp).1
      have c1 := (hb.out.cell (p := ⟨b, off + k * 2 + 1, none⟩) (show b < w.heap.size by omega)).trans (hks.out k hp).2.1
      rw [← hnm'] at c0
      rw [← har] at c1
      have hsz := (hks.out k hp).2.2
      rw [← hnm'] at hsz
      replace hnm' := Lib.hid hnm'
      replace har := Lib.hid har
      obtain ⟨cur, hcur⟩ : ∃ x, x = curN bf ds k := ⟨_, rfl⟩
      rw [← hcur] at hcl hown
      replace hcur := Lib.hid hcur
      obtain ⟨av, cv, rfl, hcv, hcm, hcs⟩ := owns_form' hown.out
      go_wp2_with fail
      go_loopw [7] (fun q wj => ∃ m : Nat, m ≤ cur.length ∧ q = .int .i64 m ∧ Hid (wj.ownsRow base 9 1 (.slice av cur.length cv) cur.length (strVals cur)) ∧ Hid (Below w.heap.size w wj) ∧ Hid (∀ j (hj : j < cur.length), j < m → cur[j] ≠ nm)) (fun q _ => cur.length - (intOf q).toNat)
      case atStart => exact ⟨0, by omega, rfl, hown, hb, Lib.hid (fun j hj h => by omega)⟩
      case round =>
        clear hcs hown hb c0 c1
        rename_i wr
        obtain ⟨m, hm, rfl, hown, hb, hall⟩ := hrel
        have c0 := (hb.out.cell (p := ⟨b, off + k * 2, none⟩) (show b < w.heap.size by omega)).trans (hks.out k hp).1
        have c1 := (hb.out.cell (p := ⟨b, off + k * 2 + 1, none⟩) (show b < w.heap.size by omega)).trans (hks.out k hp).2.1
        rw [← hnm'.out] at c0
        rw [← har.out] at c1
        obtain ⟨av', cv', hve, hcv', hcm', hcs⟩ := owns_form' hown.out
        simp only [Value.slice.injEq] at hve
        obtain ⟨rfl, -, rfl⟩ := hve
        clear hcv' hcm'
        by_cases hq : m < cur.length
        · have o2 : (m : Int) < (cur.length : Int) := by omega
          obtain ⟨g, rfl, hgb, hgl, hcells⟩ : ∃ g, av = some ⟨g, 0, none⟩ ∧ base ≤ g ∧ g < wr.heap.size ∧ Hid (∀ j (hj : j < cur.length), wr.cell? ⟨g, j, none⟩ = some (.string cur[j])) := by
            rcases hcs.out with ⟨h0, _⟩ | ⟨g, h3, h4, h5, h6⟩
            · rw [h0] at hq; simp at hq
            · exact ⟨g, h3, h4, h5, Lib.hid h6⟩
          have c2 := hcells.out m hq
          obtain ⟨cm, hcm'⟩ : ∃ x, x = cur[m] := ⟨_, rfl⟩
          rw [← hcm'] at c2
          replace hcm' := Lib.hid hcm'
          by_cases he : cm = nm
          · have hno : Hid (¬ OkNames bf.reverse ds) := Lib.hid (OkNames_no hp (fun h => h.1 (by rw [← hnm'.out, ← he, hcm'.out, ← hcur.out]; exact List.getElem_mem hq)))
            subst he
            clear hall hcells hcs
            go_wp2_with fail
            go_quiet (fail)
            go_wp2_with fail
            refine bodyPost_ret (v := .tuple #[.slice none 0 0, .bool false]) (by simp [results, Tryz.f59, go_sem]) rfl ⟨.inr ⟨hno.out, rfl⟩, hb.out.trans (below_drewN _ _ _)⟩
          · have hall' : Hid (∀ j (hj : j < cur.length), j < m + 1 → cur[j] ≠ nm) := Lib.hid (fun j hj h => by
              by_cases e : j = m
              · subst e; rw [← hcm'.out]; exact he
              · exact hall.out j hj (by omega))
            have e1 : (cm.toList == nm.toList) = false := by
              rw [beq_eq_false_iff_ne]; exact fun h => he (toList_inj h)
            replace he := Lib.hid he
            clear hall hcells hcs
            go_wp2_with fail
            go_quiet (fail)
            go_wp2_with fail
            go_roundw
            case rel => exact ⟨m + 1, by omega, by go_num, hown, Lib.hid (hb.out.trans (below_drewN _ _ _)), hall'⟩
            case measure => simp [intOf]; omega
        · have hnotin : Hid (nm ∉ cur) := Lib.hid (fun hmem => by
            obtain ⟨j, hj, e⟩ := List.getElem_of_mem hmem
            exact hall.out j hj (by omega) e)
          have o2 : ¬ (m : Int) < (cur.length : Int) := by omega
          clear hall
          cases hnb : nameB nm
          · have hno : Hid (¬ OkNames bf.reverse ds) := Lib.hid (OkNames_no hp (fun h => by rw [← hnm'.out, hnb] at h; simp at h))
            clear hcs
            go_wp2_with (go_at_call 90; refine (hnm.out nm _ hsz).mono ?_; rintro e w' ⟨rfl, rfl⟩)
            refine bodyPost_ret (v := .tuple #[.slice none 0 0, .bool false]) (by simp [results, Tryz.f59, go_sem]) rfl ⟨.inr ⟨hno.out, rfl⟩, hb.out⟩
          cases hib : inB ar 0 4
          · have hno : Hid (¬ OkNames bf.reverse ds) := Lib.hid (OkNames_no hp (fun h => by rw [← har.out] at h; simp [inB] at hib; omega))
            clear hcs
            go_wp2_with (first | (go_at_call 90; refine (hnm.out nm _ hsz).mono ?_; rintro e w' ⟨rfl, rfl⟩) | (go_at_call 58; refine (hin.out ar _).mono ?_; rintro e w' ⟨rfl, rfl⟩))
            refine bodyPost_ret (v := .tuple #[.slice none 0 0, .bool false]) (by simp [results, Tryz.f59, go_sem]) rfl ⟨.inr ⟨hno.out, rfl⟩, hb.out⟩
          have hstep : Hid (OkNames bf.reverse (ds.take (k + 1))) := Lib.hid ((OkNames_step hp).2 ⟨hok.out, by rw [← hnm'.out, ← hcur.out]; exact hnotin.out, by rw [← hnm'.out]; exact hnb, by rw [← har.out]; simp [inB] at hib; omega⟩)
          have hnext : Hid (curN bf ds (k + 1) = cur ++ [nm]) := Lib.hid (by rw [curN, hx.out, List.map_append, ← List.append_assoc, hcur.out, curN, hnm'.out]; rfl)
          obtain ⟨i0, hi, hz0, hz1, hz2⟩ := info_parts inf9
          clear hcs hnotin
          go_upto_region 11 with (first | (go_at_call 90; refine (hnm.out nm _ hsz).mono ?_; rintro e w' ⟨rfl, rfl⟩) | (go_at_call 58; refine (hin.out ar _).mono ?_; rintro e w' ⟨rfl, rfl⟩))
          have hcell : Hid (∀ W', Below w.heap.size wr W' → W'.cell? ⟨b, off + k * 2, none⟩ = some (.string nm)) := Lib.hid (fun W' h => (h.cell (p := ⟨b, off + k * 2, none⟩) (show b < w.heap.size by omega)).trans c0)
          clear c0 c1
          have hwr := hb.out.size
          refine region_named (S := fun W' => Below w.heap.size wr W') (by kernel_rfl) (fun W hW => ?_)
          have hq : Hid (Below w.heap.size wr W) := Lib.hid (by rw [hW]; exact (Below.refl _ _).drew)
          replace hown : Hid (W.ownsRow base 9 1 (.slice av cur.length cv) cur.length (strVals cur)) := Lib.hid (by rw [hW]; exact hown.out)
          have hWs : w.heap.size ≤ W.heap.size := by rw [hW]; exact hwr
          clear hW
          refine takeH 0 46 (.slice av cur.length cv) rfl rfl (by kernel_rfl) (by kernel_rfl) (by kernel_rfl) (fun _ _ _ h => h) (by rfl) (by intro W hSw; clear hSw; go_simp) hq.out ?_
          try simp only [List.setIfInBounds_toArray, List.set_cons_zero, List.set_cons_succ]
          refine takeH 2 48 (.slice (some ⟨b, off, none⟩) ds.length c) rfl rfl (by kernel_rfl) (by kernel_rfl) (by kernel_rfl) (fun _ _ _ h => h) (by rfl) (by intro W hSw; clear hSw; go_simp) hq.out ?_
          try simp only [List.setIfInBounds_toArray, List.set_cons_zero, List.set_cons_succ]
          refine takeH 3 49 (.int .i64 k) rfl rfl (by kernel_rfl) (by kernel_rfl) (by kernel_rfl) (fun _ _ _ h => h) (by rfl) (by intro W hSw; clear hSw; go_simp) hq.out ?_
          try simp only [List.setIfInBounds_toArray, List.set_cons_zero, List.set_cons_succ]
          refine takeH 4 50 (.pointer (some ⟨b, off + k * 2, none⟩)) rfl rfl (by kernel_rfl) (by kernel_rfl) (by kernel_rfl) (fun _ _ _ h => h) (by rfl) (by intro W hSw; clear hSw; go_simp) hq.out ?_
          try simp only [List.setIfInBounds_toArray, List.set_cons_zero, List.set_cons_succ]
          refine takeH 5 51 (.pointer (some ⟨b, off + k * 2, none⟩)) rfl rfl (by kernel_rfl) (by kernel_rfl) (by kernel_rfl) (fun _ _ _ h => h) (by rfl) (by intro W hSw; clear hSw; go_simp) hq.out ?_
          try simp only [List.setIfInBounds_toArray, List.set_cons_zero, List.set_cons_succ]
          refine takeH 6 52 (.string nm) rfl rfl (by kernel_rfl) (by kernel_rfl) (by kernel_rfl) (fun _ _ _ h => h) (by rfl) (by intro W hSw; have j := hcell.out W hSw; clear hSw; go_simp) hq.out ?_
          try simp only [List.setIfInBounds_toArray, List.set_cons_zero, List.set_cons_succ]
          refine wpAnyH_ready (rs := [1, 7]) (by kernel_rfl) (by simp) ?_
          refine AllReadyH.cons rfl (fun K hKc => ?_) (AllReadyH.cons rfl (fun K hKc => ?_) AllReadyH.nil)
          · rw [if_pos (by rfl)]
            obtain ⟨v1, W1, hr1, ho1, hg1⟩ := app1_run W base (.slice av cur.length cv) cur hcl hown.out
            refine wp_builtin_append rfl rfl rfl hr1 ?_
            replace hq := Lib.hid (hq.out.grown hg1 hWs (fun q hq => by cases hq))
            have hWs1 : W.heap.size ≤ W1.heap.size := hg1.size
            refine hKc _ _ hq.out (fun _ => ?_)
            clear hKc K hr1
            try simp only [Act.put, List.setIfInBounds_toArray]
            refine wpAnyH_ready (rs := [7]) (by kernel_rfl) (by simp) ?_
            refine AllReadyH.cons rfl (fun K hKc => ?_) AllReadyH.nil
            go_simp
            replace hq := Lib.hid (hq.out.alloc (by omega) (.cells #[.string nm] 9))
            refine hKc _ _ hq.out (fun _ => ?_)
            clear hKc K
            try simp only [Act.put, List.setIfInBounds_toArray, List.set_cons_zero, List.set_cons_succ]
            refine wpAnyH_ready (rs := [8]) (by kernel_rfl) (by simp) ?_
            refine AllReadyH.cons rfl (fun K hKc => ?_) AllReadyH.nil
            rw [if_pos (by rfl)]
            refine wp_append_own _ _ _ 85 rfl W.heap.size 9 i0 (.string ByteArray.empty) 1 16 u85 hi hz0 hz1 hz2 rfl (by decide) v1 cur.length (strVals cur) rfl (ho1.alloc _) ⟨W1.heap.size, 0, none⟩ 1 1 [.string nm] rfl rfl (cell_one_new _ _ _) (fun x hx => by simp at hx; subst hx; rfl) (by unfold maxLen; omega) (by omega) (by first | omega | (simp; omega)) ?_
            intro v2 W2 ho2 hg2 _
            replace hq := Lib.hid (hq.out.grown hg2 (by first | omega | (simp; omega)) (fun q hq => by have := (ho1.lt q hq).1; first | omega | (simp at this; omega)))
            have hfin : Hid (W2.ownsRow base 9 1 v2 (curN bf ds (k + 1)).length (strVals (curN bf ds (k + 1)))) := Lib.hid (by
              rw [hnext.out, List.length_append, strVals, List.map_append]
              exact ownsRow_wider (by first | omega | (simp; omega)) ho2)
            refine hKc _ _ hq.out (fun _ => ?_)
            clear hKc K ho1 ho2 hg1 hg2
            try simp only [Act.put, List.setIfInBounds_toArray]
            refine takeH 9 1 v2 rfl rfl (by kernel_rfl) (by kernel_rfl) (by kernel_rfl) (fun _ _ _ h => h) (by rfl) (by intro W hSw; clear hSw; go_simp) hq.out ?_
            try simp only [List.setIfInBounds_toArray, List.set_cons_zero, List.set_cons_succ]
            refine wpAnyH_done (by kernel_rfl) ?_ _
            go_wp2_with fail
            go_roundw
            case rel => exact ⟨k + 1, by omega, by go_num, hstep, hfin, Lib.hid (hb.out.trans hq.out)⟩
            case measure => simp [intOf]; omega

          · go_simp
            replace hq := Lib.hid (hq.out.alloc hWs (.cells #[.string nm] 9))
            refine hKc _ _ hq.out (fun _ => ?_)
            clear hKc K
            try simp only [Act.put, List.setIfInBounds_toArray, List.set_cons_zero, List.set_cons_succ]
            refine wpAnyH_ready (rs := [1]) (by kernel_rfl) (by simp) ?_
            refine AllReadyH.cons rfl (fun K hKc => ?_) AllReadyH.nil
            rw [if_pos (by rfl)]
            obtain ⟨v1, W1, hr1, ho1, hg1⟩ := app1_run (W.alloc (.cells #[.string nm] 9)) base (.slice av cur.length cv) cur hcl (hown.out.alloc _)
            refine wp_builtin_append rfl rfl rfl hr1 ?_
            replace hq := Lib.hid (hq.out.grown hg1 (by simp; omega) (fun q hq => by cases hq))
            have hWs1 : W.heap.size + 1 ≤ W1.heap.size := by have := hg1.size; simpa using this
            refine hKc _ _ hq.out (fun _ => ?_)
            clear hKc K hr1
            try simp only [Act.put, List.setIfInBounds_toArray]
            refine wpAnyH_ready (rs := [8]) (by kernel_rfl) (by simp) ?_
            refine AllReadyH.cons rfl (fun K hKc => ?_) AllReadyH.nil
            rw [if_pos (by rfl)]
            refine wp_append_own _ _ _ 85 rfl (W.alloc (.cells #[.string nm] 9)).heap.size 9 i0 (.string ByteArray.empty) 1 16 u85 hi hz0 hz1 hz2 rfl (by decide) v1 cur.length (strVals cur) rfl ho1 ⟨W.heap.size, 0, none⟩ 1 1 [.string nm] rfl rfl (fun j u hj => hg1.cell (cell_one_new W (.string nm) 9 j u hj) (fun h => by cases h)) (fun x hx => by simp at hx; subst hx; rfl) (by unfold maxLen; omega) (by omega) (by first | omega | (simp; omega)) ?_
            intro v2 W2 ho2 hg2 _
            replace hq := Lib.hid (hq.out.grown hg2 (by first | omega | (simp; omega)) (fun q hq => by have := (ho1.lt q hq).1; first | omega | (simp at this; omega)))
            have hfin : Hid (W2.ownsRow base 9 1 v2 (curN bf ds (k + 1)).length (strVals (curN bf ds (k + 1)))) := Lib.hid (by
              rw [hnext.out, List.length_append, strVals, List.map_append]
              exact ownsRow_wider (by first | omega | (simp; omega)) ho2)
            refine hKc _ _ hq.out (fun _ => ?_)
            clear hKc K ho1 ho2 hg1 hg2
            try simp only [Act.put]
            refine takeH 9 1 v2 rfl rfl (by kernel_rfl) (by kernel_rfl) (by kernel_rfl) (fun _ _ _ h => h) (by rfl) (by intro W hSw; clear hSw; go_simp) hq.out ?_
            try simp only [List.setIfInBounds_toArray, List.set_cons_zero, List.set_cons_succ]
            refine wpAnyH_done (by kernel_rfl) ?_ _
            go_wp2_with fail
            go_roundw
            case rel => exact ⟨k + 1, by omega, by go_num, hstep, hfin, Lib.hid (hb.out.trans hq.out)⟩
            case measure => simp [intOf]; omega

    · have hke : k = ds.length := by omega
      subst hke
      have o1 : ¬ ((ds.length : Int) < (ds.length : Int)) := by omega
      have hfin : Hid (OkNames bf.reverse ds) := Lib.hid (by simpa using hok.out)
      replace hown : Hid (wr.ownsRow base 9 1 u1 (bf ++ ds.map (·.1)).length (strVals (bf ++ ds.map (·.1)))) := Lib.hid (by simpa [curN] using hown.out)
      clear hk hok
      go_wp2_with fail
      refine bodyPost_ret (v := .tuple #[u1, .bool true]) (by simp [results, Tryz.f59, go_sem]) rfl ⟨.inl ⟨hfin.out, u1, rfl, by have := hown.out; simpa using this⟩, hb.out⟩

end Go.Proofs.YthlegfegkopdkaaGreat

namespace Go.Proofs.YthlegfegkopdkaaGreat
open Go.RowKit Go.Shelf

set_option maxRecDepth 100000 in
set_option maxHeartbeats 2000000 in
theorem Sig_any (s : Sg) (n₀ : Nat) (w : World) (ac : Option Addr) (lc cc : Nat) (af : Option Addr) (lf cf : Nat) (hs : IsSg n₀ w s ac lc cc af lf cf) (hn : n₀ ≤ w.heap.size) :
    Calls Tryz.prog 18 #[.agg #[.slice ac lc cc, .slice af lf cf]] w fun e w' => e = .returned (.bool (sigB s)) ∧ Below w.heap.size w w' := by
  obtain ⟨rfl, hc1, hc2, hk⟩ := hs.cons
  obtain ⟨rfl, hf1, hf2, hkf⟩ := hs.funs
  have hb1 : Below w.heap.size w (w.alloc (.cells #[.slice ac s.cons.length cc, .slice af s.funs.length cf] 24)) := (Below.refl _ _).alloc (Nat.le_refl _) _
  have hin := fun W => in_any (s.cons.length : Nat) 2 12 W
  replace hin := Lib.hid hin
  by_cases hi : inB (s.cons.length : Nat) 2 12 = true
  rotate_left
  · replace hi : inB (s.cons.length : Nat) 2 12 = false := Bool.eq_false_iff.2 hi
    have hv := Lib.hid (sigB_false (s := s) (fun h => by have h3 := h.1; have h4 := h.2.1; simp [inB] at hi; omega))
    clear hk hkf hs
    go_enter Tryz.func18, Tryz.ntmps18
    go_wp2_with (go_at_call 58; refine (hin.out _).mono ?_; rintro e w' ⟨rfl, rfl⟩)
    go_ret
    exact ⟨by rw [hv.out]; rfl, hb1⟩
  have h2 : 2 ≤ s.cons.length := by simp [inB] at hi; omega
  have h12 : s.cons.length ≤ 12 := by simp [inB] at hi; omega
  by_cases h8 : s.funs.length ≤ 8
  rotate_left
  · have hv := Lib.hid (sigB_false (s := s) (fun h => h8 h.2.2.1))
    clear hk hkf hs
    go_enter Tryz.func18, Tryz.ntmps18
    go_wp2_with (go_at_call 58; refine (hin.out _).mono ?_; rintro e w' ⟨rfl, rfl⟩)
    go_ret
    exact ⟨by rw [hv.out]; rfl, hb1⟩
  rcases hk with hk | ⟨b, off, rfl, hbn, hks⟩
  · rw [hk] at h2; simp at h2
  have k0 := hks 0 (by omega)
  have k1 := hks 1 (by omega)
  have g0 := (hb1.cell (p := ⟨b, off + 0 * 2, none⟩) (show b < w.heap.size by omega)).trans k0.1
  have g1 := (hb1.cell (p := ⟨b, off + 0 * 2 + 1, none⟩) (show b < w.heap.size by omega)).trans k0.2.1
  have g2 := (hb1.cell (p := ⟨b, off + 1 * 2, none⟩) (show b < w.heap.size by omega)).trans k1.1
  have g3 := (hb1.cell (p := ⟨b, off + 1 * 2 + 1, none⟩) (show b < w.heap.size by omega)).trans k1.2.1
  simp only [Nat.zero_mul, Nat.one_mul, Nat.add_zero] at g0 g1 g2 g3
  have gs0 : s.cons[0]? = some s.cons[0] := List.getElem?_eq_getElem (by omega)
  have gs1 : s.cons[1]? = some s.cons[1] := List.getElem?_eq_getElem (by omega)
  replace gs0 := Lib.hid gs0
  replace gs1 := Lib.hid gs1
  by_cases e0 : s.cons[0].1.toList = [70, 97, 108, 115, 101]
  rotate_left
  · have hv := Lib.hid (sigB_false (s := s) (fun h => e0 (by have := h.2.2.2.1; rw [gs0.out] at this; injection this with this; rw [this]; exact sFalse_list)))
    clear hkf hs hks k0 k1
    go_enter Tryz.func18, Tryz.ntmps18
    go_wp2_with (go_at_call 58; refine (hin.out _).mono ?_; rintro e w' ⟨rfl, rfl⟩)
    go_ret
    exact ⟨by rw [hv.out]; rfl, hb1⟩
  by_cases e1 : s.cons[0].2 = 0
  rotate_left
  · have hv := Lib.hid (sigB_false (s := s) (fun h => e1 (by have := h.2.2.2.1; rw [gs0.out] at this; injection this with this; rw [this])))
    clear hkf hs hks k0 k1
    go_enter Tryz.func18, Tryz.ntmps18
    go_wp2_with (go_at_call 58; refine (hin.out _).mono ?_; rintro e w' ⟨rfl, rfl⟩)
    go_ret
    exact ⟨by rw [hv.out]; rfl, hb1⟩
  by_cases e2 : s.cons[1].1.toList = [84, 114, 117, 101]
  rotate_left
  · have hv := Lib.hid (sigB_false (s := s) (fun h => e2 (by have := h.2.2.2.2.1; rw [gs1.out] at this; injection this with this; rw [this]; exact sTrue_list)))
    clear hkf hs hks k0 k1
    go_enter Tryz.func18, Tryz.ntmps18
    go_wp2_with (go_at_call 58; refine (hin.out _).mono ?_; rintro e w' ⟨rfl, rfl⟩)
    go_ret
    exact ⟨by rw [hv.out]; rfl, hb1⟩
  by_cases e3 : s.cons[1].2 = 0
  rotate_left
  · have hv := Lib.hid (sigB_false (s := s) (fun h => e3 (by have := h.2.2.2.2.1; rw [gs1.out] at this; injection this with this; rw [this])))
    clear hkf hs hks k0 k1
    go_enter Tryz.func18, Tryz.ntmps18
    go_wp2_with (go_at_call 58; refine (hin.out _).mono ?_; rintro e w' ⟨rfl, rfl⟩)
    go_ret
    exact ⟨by rw [hv.out]; rfl, hb1⟩
  have hv : Hid (SigOk s ↔ OkNames [] (s.cons ++ s.funs)) := Lib.hid ⟨fun h => h.2.2.2.2.2, fun h => ⟨h2, h12, h8, by rw [gs0.out, show s.cons[0] = (sFalse, 0) from Prod.ext (toList_inj (e0.trans sFalse_list.symm)) e1], by rw [gs1.out, show s.cons[1] = (sTrue, 0) from Prod.ext (toList_inj (e2.trans sTrue_list.symm)) e3], h⟩⟩
  have o16 : s.cons.length ≤ 100 := by omega
  obtain ⟨w1, hw1⟩ : ∃ w1, w1 = (w.alloc (.cells #[.slice (some ⟨b, off, none⟩) s.cons.length cc, .slice af s.funs.length cf] 24)) := ⟨_, rfl⟩
  have f0 : w1.cell? ⟨w.heap.size, 0, none⟩ = some (.slice (some ⟨b, off, none⟩) s.cons.length cc) := by rw [hw1]; go_cell
  have f1 : w1.cell? ⟨w.heap.size, 1, none⟩ = some (.slice af s.funs.length cf) := by rw [hw1]; go_cell
  have hz : w1.heap.size = w.heap.size + 1 := by rw [hw1]; simp
  have hC := rnames_any s.cons n₀ w1 (some ⟨b, off, none⟩) s.cons.length cc (by rw [hw1]; exact hs.cons.below (hb1.mono hn)) (by omega) [] w1.heap.size (.slice none 0 0) (World.ownsRow_nil _ _ _ _) (Nat.le_refl _) ⟨o16, by simp⟩
  replace hC := Lib.hid hC
  have hb1' : Hid (Below w.heap.size w w1) := Lib.hid (by rw [hw1]; exact hb1)
  have hsf := Lib.hid hs.funs
  clear hs hkf hks k0 k1
  go_enter Tryz.func18, Tryz.ntmps18
  subst hw1
  go_wp2_with (first | (go_at_call 58; refine (hin.out _).mono ?_; rintro e w' ⟨rfl, rfl⟩))
  refine (hC.out).mono ?_
  rintro e w2 ⟨⟨hok, v', rfl, hown⟩ | ⟨hno, rfl⟩, hbe⟩
  · have f2 : w2.cell? ⟨w.heap.size, 1, none⟩ = some (.slice af s.funs.length cf) := (hbe.cell (p := ⟨w.heap.size, 1, none⟩) (by simp)).trans f1
    have hnf : IsNames n₀ w2 s.funs af s.funs.length cf := (hsf.out.below (hb1.mono hn)).below (hbe.mono (by simp; omega))
    have hsz := hbe.size
    simp only [List.nil_append] at hown
    have hD := rnames_any s.funs n₀ w2 af s.funs.length cf hnf (by simp at hsz; omega) (s.cons.map (·.1)) _ v' hown (by simpa using hsz) ⟨by omega, by simpa using o16⟩
    replace hD := Lib.hid hD
    replace hbe := Lib.hid hbe
    replace hok := Lib.hid hok
    clear f0 f1 hnf hsf hC g0 g1 g2 g3 hown
    go_wp2_with fail
    refine (hD.out).mono ?_
    have hiff : SigOk s ↔ OkNames (s.cons.map (·.1)).reverse s.funs := by
      rw [hv.out, OkNames_append, nmsR_eq, List.append_nil]
      exact ⟨fun h => h.2, fun h => ⟨hok.out, h⟩⟩
    replace hiff := Lib.hid hiff
    rintro e w3 ⟨⟨hok2, v2, rfl, -⟩ | ⟨hno, rfl⟩, hbe2⟩
    · have hv' := Lib.hid (sigB_true (hiff.out.2 hok2))
      replace hbe2 := Lib.hid hbe2
      clear hok2
      go_wp2_with fail
      go_ret
      exact ⟨by rw [hv'.out]; rfl, hb1'.out.trans ((hbe.out.mono (by simp)).trans (hbe2.out.mono (by simp at hsz; omega)))⟩
    · have hv' := Lib.hid (sigB_false (fun h => hno (hiff.out.1 h)))
      replace hbe2 := Lib.hid hbe2
      clear hno
      go_wp2_with fail
      go_ret
      exact ⟨by rw [hv'.out]; rfl, hb1'.out.trans ((hbe.out.mono (by simp)).trans (hbe2.out.mono (by simp at hsz; omega)))⟩
  · have hv' := Lib.hid (sigB_false (fun h => hno (by simpa using OkNames_prefix (hv.out.1 h))))
    replace hbe := Lib.hid hbe
    clear hno f0 f1 hsf hC g0 g1 g2 g3
    go_wp2_with fail
    go_ret
    exact ⟨by rw [hv'.out]; rfl, hb1'.out.trans (hbe.out.mono (by simp))⟩

end Go.Proofs.YthlegfegkopdkaaGreat
