/- Own text, joined of: R8 R9 Y0. The reference's 'number': lists of pairs of numbers. · The reference's 'ordered': the plain side; rows of pairs. · The weight of an expression in order. -/
import Derived.Test.YthlegfegkopdkaaGreatMm22
import Derived.Test.YthlegfegkopdkaaGreatMm31

namespace Go.Proofs.YthlegfegkopdkaaGreat
open Go.RowKit Go.Shelf Go.Sort

theorem und94 : Tryz.prog.underlying 94 = some (.slice 145) := by kernel_rfl
theorem inf145 : (Tryz.prog.info? 145).map (fun i => (i.zero, i.size, i.bytes)) = some (some (.agg #[.int .i64 0, .int .i64 0]), 2, 16) := by kernel_rfl

abbrev Prs := List (Int × Int)
def pairVals : Prs → List Value
  | [] => []
  | p :: r => .int .i64 p.1 :: .int .i64 p.2 :: pairVals r
theorem pairVals_append : ∀ (a b : Prs), pairVals (a ++ b) = pairVals a ++ pairVals b
  | [], b => rfl
  | p :: r, b => by simp [pairVals, pairVals_append r b]
theorem pairVals_len : ∀ (l : Prs), (pairVals l).length = l.length * 2
  | [] => rfl
  | p :: r => by simp [pairVals, pairVals_len r]; omega
theorem pairVals_get : ∀ (l : Prs) (k : Nat) (h : k < l.length), (pairVals l)[k * 2]? = some (.int .i64 l[k].1) ∧ (pairVals l)[k * 2 + 1]? = some (.int .i64 l[k].2)
  | p :: r, 0, _ => by simp [pairVals]
  | p :: r, k + 1, h => by
    have := pairVals_get r k (by simpa using h)
    rw [show (k + 1) * 2 = k * 2 + 1 + 1 by omega]
    simpa [pairVals] using this
/-- The function that a list of pairs stands for: the last one counts. -/
def lookP (l : Prs) : Int → Option Int := l.foldl (fun f p => updI f p.1 p.2) (fun _ => none)
theorem lookP_snoc (l : Prs) (p : Int × Int) : lookP (l ++ [p]) = updI (lookP l) p.1 p.2 := by unfold lookP; rw [List.foldl_append]; rfl
theorem lookP_take_succ (l : Prs) (k : Nat) (h : k < l.length) : lookP (l.take (k + 1)) = updI (lookP (l.take k)) l[k].1 l[k].2 := by
  rw [List.take_succ_eq_append_getElem h, lookP_snoc]
theorem lookP_skip (l : Prs) (n : Int) (k : Nat) (hk : k ≤ l.length) (h : ∀ j (hj : j < l.length), k ≤ j → l[j].1 ≠ n) : lookP l n = lookP (l.take k) n := by
  have : ∀ i, k ≤ i → i ≤ l.length → lookP (l.take i) n = lookP (l.take k) n := by
    intro i
    induction i with
    | zero => intro h1 _; rw [show k = 0 by omega]
    | succ i ih =>
      intro h1 h2
      by_cases e : k = i + 1
      · rw [e]
      · rw [lookP_take_succ l i (by omega), ← ih (by omega) (by omega)]
        unfold updI
        rw [if_neg (fun he => h i (by omega) (by omega) he.symm)]
  have := this l.length hk (Nat.le_refl _)
  rwa [List.take_length] at this
theorem lookP_hit (l : Prs) (n : Int) (k : Nat) (hk : k < l.length) (h : ∀ j (hj : j < l.length), k < j → l[j].1 ≠ n) (he : l[k].1 = n) : lookP l n = some l[k].2 := by
  rw [lookP_skip l n (k + 1) (by omega) (fun j hj h1 => h j hj (by omega)), lookP_take_succ l k hk]
  unfold updI; rw [if_pos he.symm]
theorem lookP_none (l : Prs) (n : Int) (h : ∀ j (hj : j < l.length), l[j].1 ≠ n) : lookP l n = none := by
  rw [lookP_skip l n 0 (by omega) (fun j hj _ => h j hj)]; rfl

def PRow (w : World) (base : Nat) (v : Value) (l : Prs) : Prop := w.ownsRow base 145 2 v l.length (pairVals l)
theorem PRow.form {w : World} {base : Nat} {v : Value} {l : Prs} (h : PRow w base v l) :
    ∃ av cv, v = .slice av l.length cv ∧ l.length ≤ cv ∧ cv ≤ maxLen ∧ Hid (∀ j (hj : j < l.length), ∃ g, av = some ⟨g, 0, none⟩ ∧ base ≤ g ∧ g < w.heap.size ∧ w.cell? ⟨g, j * 2, none⟩ = some (.int .i64 l[j].1) ∧ w.cell? ⟨g, j * 2 + 1, none⟩ = some (.int .i64 l[j].2)) := by
  rcases h.2 with ⟨h1, h2⟩ | ⟨g, cap, cur, h1, h2, h3, h4, h5, h6, h7⟩
  · obtain rfl := List.length_eq_zero_iff.1 h2
    exact ⟨none, 0, h1, by simp, by simp, Lib.hid (fun j hj => by simp at hj)⟩
  · subst h1
    refine ⟨_, cap, rfl, h4, h5, Lib.hid (fun j hj => ⟨g, rfl, h2, (h.lt g rfl).2, ?_, ?_⟩)⟩
    · rw [h.cellAt (j * 2) (by omega)]; exact (pairVals_get l j hj).1
    · rw [h.cellAt (j * 2 + 1) (by omega)]; exact (pairVals_get l j hj).2

set_option maxRecDepth 100000 in
set_option maxHeartbeats 1000000 in
theorem rnumber_any (l : Prs) (n : Int) (w : World) (base : Nat) (v : Value) (hv : PRow w base v l) :
    Calls Tryz.prog 106 #[v, .int .i64 n] w fun e w' => e = .returned (.tuple #[.int .i64 ((lookP l n).getD 0), .bool (lookP l n).isSome]) ∧ w' = w := by
  obtain ⟨av, cv, rfl, hcv, hcm, hcs⟩ := hv.form
  clear hv
  have hcm' : cv ≤ 9223372036854775807 := by unfold maxLen at hcm; omega
  go_enter Tryz.func106, Tryz.ntmps106
  go_wp2_with fail
  go_loopw [6] (fun q wj => ∃ k : Nat, k ≤ l.length ∧ q = .int .i64 ((k : Int) - 1) ∧ wj = w ∧ Hid (∀ j (hj : j < l.length), k ≤ j → l[j].1 ≠ n)) (fun q _ => (intOf q + 1).toNat)
  case atStart => exact ⟨l.length, by omega, by go_num, rfl, Lib.hid (fun j hj h => by omega)⟩
  case round =>
    obtain ⟨k, hk, rfl, rfl, hall⟩ := hrel
    by_cases hp : k = 0
    · have hnone := Lib.hid (lookP_none l n (fun j hj => hall.out j hj (by omega)))
      have o1 : ¬ ((0 : Int) ≤ (k : Int) - 1) := by omega
      replace hp := Lib.hid hp
      clear hcs hall
      go_wp2_with fail
      refine bodyPost_ret (v := .tuple #[.int .i64 0, .bool false]) (by simp [results, Tryz.f106, go_sem]) rfl ⟨by rw [hnone.out]; rfl, rfl⟩
    · obtain ⟨m, rfl⟩ : ∃ m, k = m + 1 := ⟨k - 1, by omega⟩
      have hm : m < l.length := by omega
      obtain ⟨g, rfl, hgb, hgl, c0, c1⟩ := hcs.out m hm
      have o1 : (0 : Int) ≤ (m : Int) := by omega
      have o2 : (m : Int) < (l.length : Int) := by omega
      have em : (((m + 1 : Nat) : Int) - 1) = (m : Int) := by omega
      rw [em]
      obtain ⟨x, hx⟩ : ∃ x, x = l[m].1 := ⟨_, rfl⟩
      obtain ⟨y, hy⟩ : ∃ y, y = l[m].2 := ⟨_, rfl⟩
      rw [← hx] at c0
      rw [← hy] at c1
      by_cases he : x = n
      · have hhit := Lib.hid (lookP_hit l n m hm (fun j hj h => hall.out j hj (by omega)) (by rw [← hx]; exact he))
        rw [← hy] at hhit
        have o3 : (x == n) = true := by simpa using he
        replace he := Lib.hid he
        clear hcs hall hx hy
        go_wp2_with fail
        refine bodyPost_ret (v := .tuple #[.int .i64 y, .bool true]) (by simp [results, Tryz.f106, go_sem]) rfl ⟨by rw [hhit.out]; rfl, rfl⟩
      · have o3 : (x == n) = false := by simpa using he
        have hall' : Hid (∀ j (hj : j < l.length), m ≤ j → l[j].1 ≠ n) := Lib.hid (fun j hj h => by
          by_cases e : j = m
          · subst e; rw [← hx]; exact he
          · exact hall.out j hj (by omega))
        replace he := Lib.hid he
        clear hcs hall hx hy
        go_wp2_with fail
        go_roundw
        case rel => exact ⟨m, by omega, by go_num, by trivial, hall'⟩
        case measure => simp [intOf]

end Go.Proofs.YthlegfegkopdkaaGreat

namespace Go.Proofs.YthlegfegkopdkaaGreat
open Go.RowKit Go.Shelf Go.Sort

/-- What binds a kid's variables, the state in front of a kid, and what becomes of it. -/
def fbAt (op n : Int) (own : Nat) (fb : Int → Option Int) (j : Nat) : Int → Option Int := if op = 8 ∧ j = 1 then updI fb n own else fb
def stAt (op n : Int) (fb : Int → Option Int) (s : OS) (ks : List Tm) : Nat → OS
  | 0 => if op = 8 then s.next else s
  | j + 1 => if h : j < ks.length then (ordT (fbAt op n s.count fb j) (stAt op n fb s ks j) ks[j]).2 else stAt op n fb s ks j
def outAt (op n : Int) (fb : Int → Option Int) (s : OS) (ks : List Tm) (j : Nat) : Tm := if h : j < ks.length then (ordT (fbAt op n s.count fb j) (stAt op n fb s ks j) ks[j]).1 else .mk 0 0 []
theorem stAt_succ {op n : Int} {fb : Int → Option Int} {s : OS} {ks : List Tm} {j : Nat} (h : j < ks.length) : stAt op n fb s ks (j + 1) = (ordT (fbAt op n s.count fb j) (stAt op n fb s ks j) ks[j]).2 := by rw [stAt, dif_pos h]
theorem outAt_eq {op n : Int} {fb : Int → Option Int} {s : OS} {ks : List Tm} {j : Nat} (h : j < ks.length) : outAt op n fb s ks j = (ordT (fbAt op n s.count fb j) (stAt op n fb s ks j) ks[j]).1 := by rw [outAt, dif_pos h]
theorem stAt_count (op n : Int) (fb : Int → Option Int) (s : OS) (ks : List Tm) : ∀ j, j ≤ ks.length → (stAt op n fb s ks j).count ≤ s.count + 1 + sizes (ks.take j)
  | 0, _ => by
    simp only [stAt, List.take_zero, sizes]
    split <;> simp [OS.next] <;> omega
  | j + 1, h => by
    have h1 := stAt_count op n fb s ks j (by omega)
    have h2 := ordT_count (fbAt op n s.count fb j) ks[j] (stAt op n fb s ks j)
    rw [stAt_succ (by omega), sizes_take_succ _ _ (by omega)]
    omega
theorem stAt_room (op n : Int) (fb : Int → Option Int) (s : OS) (ks : List Tm) (j : Nat) (h : j < ks.length) : (stAt op n fb s ks j).count + ks[j].size ≤ s.count + 1 + sizes ks := by
  have h1 := stAt_count op n fb s ks j (by omega)
  have h2 := sizes_take_succ ks j h
  have h3 := sizes_take_le ks (j + 1)
  omega
theorem numO_mono (fb : Int → Option Int) (s : OS) (v : Int) : s.count ≤ (numO fb s v).2.count := by
  unfold numO
  split
  · exact Nat.le_refl _
  · split
    · exact Nat.le_refl _
    · exact Nat.le_succ _
mutual
theorem ordT_mono : ∀ (t : Tm) (fb : Int → Option Int) (s : OS), s.count ≤ (ordT fb s t).2.count
  | .mk op n ks, fb, s => by
    rw [ordT]
    split
    · exact numO_mono _ _ _
    · split
      · exact Nat.le_trans (Nat.le_succ _) (ordL_mono ks _ _ s.next)
      · exact ordTs_mono ks _ s
theorem ordTs_mono : ∀ (ks : List Tm) (fb : Int → Option Int) (s : OS), s.count ≤ (ordTs fb s ks).2.count
  | [], _, s => by rw [ordTs]; exact Nat.le_refl _
  | t :: ts, fb, s => by rw [ordTs]; exact Nat.le_trans (ordT_mono t fb s) (ordTs_mono ts fb _)
theorem ordL_mono : ∀ (ks : List Tm) (fb fi : Int → Option Int) (s : OS), s.count ≤ (ordL fb fi s ks).2.count
  | [], _, _, s => by rw [ordL]; exact Nat.le_refl _
  | t :: ts, fb, fi, s => by rw [ordL]; exact Nat.le_trans (ordT_mono t fb s) (ordTs_mono ts fi _)
end
theorem stAt_mono (op n : Int) (fb : Int → Option Int) (s : OS) (ks : List Tm) : ∀ j, j ≤ ks.length → s.count ≤ (stAt op n fb s ks j).count
  | 0, _ => by
    rw [stAt]
    split
    · exact Nat.le_succ _
    · exact Nat.le_refl _
  | j + 1, h => by
    rw [stAt_succ (by omega)]
    exact Nat.le_trans (stAt_mono op n fb s ks j (by omega)) (ordT_mono _ _ _)
theorem stAt_plain {op n : Int} {fb : Int → Option Int} {s : OS} {ks : List Tm} (h8 : op ≠ 8) : ∀ j, j ≤ ks.length → stAt op n fb s ks j = ordAt fb s ks j
  | 0, _ => by rw [stAt, if_neg h8, ordAt_zero]
  | j + 1, h => by
    rw [stAt_succ (by omega), stAt_plain h8 j (by omega), ordAt_succ _ _ _ (by omega)]
    unfold fbAt; rw [if_neg (fun e => h8 e.1)]
theorem ord_node (t : Tm) (fb : Int → Option Int) (s : OS) (h1 : t.op ≠ 1) (h8 : t.op = 8 → t.kids.length = 2) :
    ordT fb s t = (.mk t.op (if t.op = 8 then (s.count : Int) else t.n) ((List.range t.kids.length).map (outAt t.op t.n fb s t.kids)), stAt t.op t.n fb s t.kids t.kids.length) := by
  rw [ordT_eq, if_neg h1]
  by_cases e8 : t.op = 8
  · rw [if_pos e8, if_pos e8]
    have hl := h8 e8
    obtain ⟨x, y, hk⟩ : ∃ x y, t.kids = [x, y] := by
      match hh : t.kids, hl with
      | [x, y], _ => exact ⟨x, y, rfl⟩
    rw [hk, e8]
    have e0 : stAt 8 t.n fb s [x, y] 0 = s.next := by rw [stAt, if_pos rfl]
    have f0 : fbAt 8 t.n s.count fb 0 = fb := by unfold fbAt; rw [if_neg (by simp)]
    have f1 : fbAt 8 t.n s.count fb 1 = updI fb t.n s.count := by unfold fbAt; rw [if_pos (by simp)]
    have e1 : stAt 8 t.n fb s [x, y] 1 = (ordT fb s.next x).2 := by rw [stAt_succ (by simp), e0, f0]; rfl
    have e2 : stAt 8 t.n fb s [x, y] 2 = (ordT (updI fb t.n s.count) (ordT fb s.next x).2 y).2 := by rw [stAt_succ (by simp), e1, f1]; rfl
    have g0 : outAt 8 t.n fb s [x, y] 0 = (ordT fb s.next x).1 := by rw [outAt_eq (by simp), e0, f0]; rfl
    have g1 : outAt 8 t.n fb s [x, y] 1 = (ordT (updI fb t.n s.count) (ordT fb s.next x).2 y).1 := by rw [outAt_eq (by simp), e1, f1]; rfl
    simp only [List.length_cons, List.length_nil, ordL, ordTs]
    rw [show List.range (0 + 1 + 1) = [0, 1] from rfl]
    simp only [List.map_cons, List.map_nil, g0, g1]
    rw [show (0 + 1 + 1) = 2 from rfl, e2]
  · rw [if_neg e8, if_neg e8, stAt_plain e8 _ (Nat.le_refl _), ordAt_all, ← ordK_all]
    congr 2
    refine List.map_congr_left fun j hj => ?_
    have hj' := List.mem_range.1 hj
    rw [outAt_eq hj', stAt_plain e8 j (by omega)]
    unfold ordK
    rw [dif_pos hj']
    unfold fbAt; rw [if_neg (fun e => e8 e.1)]

theorem PRow.up {w w' : World} {b n : Nat} {v : Value} {l : Prs} (h : PRow w b v l) (hb : Below n w w') (hn : w.heap.size ≤ n) : PRow w' b v l := ownsRow_up h hb hn
theorem PRow.wider {w : World} {b b' : Nat} {v : Value} {l : Prs} (hb : b' ≤ b) (h : PRow w b v l) : PRow w b' v l := ownsRow_wider hb h
theorem onePairs (l : Prs) : ∀ u ∈ pairVals l, u.oneCell' = true := by
  induction l with
  | nil => intro u hu; simp [pairVals] at hu
  | cons p r ih => intro u hu; simp [pairVals] at hu; rcases hu with rfl | rfl | hu <;> first | rfl | exact ih u hu

/-- 'append([][2]int(nil), l...)'. -/
theorem appP_run (W : World) (b : Nat) (v : Value) (l : Prs) (hl : l.length ≤ 1000000) (h : PRow W b v l) :
    ∃ v1 W1, (Builtin.append_ #[94, 94] 94 #[.slice none 0 0, v]).run Tryz.prog W = .ok v1 W1 ∧ PRow W1 W.heap.size v1 l ∧ W.grownBy W1 none := by
  obtain ⟨i0, hi, hz0, hz1, hz2⟩ := info_parts inf145
  rcases h.2 with ⟨rfl, h2⟩ | ⟨g, cap, cs, rfl, h3, h4, h5, h6, h7, h8⟩
  · obtain rfl := List.length_eq_zero_iff.1 h2
    exact ⟨.slice none 0 0, W, by simp [Builtin.append_, run_underlying und94, sizeOf, typeInfo, hi, Builtin.lenOf, Builtin.firstCells], W.ownsRow_nil _ _ _, World.grownBy.refl _ _⟩
  · obtain ⟨v1, W1, h4, h5, h6, h7⟩ := run_append_own (P := Tryz.prog) W W.heap.size 94 94 145 i0 (.agg #[.int .i64 0, .int .i64 0]) 2 16 und94 hi hz0 hz1 hz2 rfl (by decide) (.slice none 0 0) 0 [] (W.ownsRow_nil _ _ _) ⟨g, 0, none⟩ l.length cap (pairVals l) (pairVals_len l)
      (h.cells rfl) (onePairs l) (by unfold maxLen; omega) (by omega) (Nat.le_refl _)
    exact ⟨v1, W1, h4, by simpa [PRow] using h5, h6⟩

theorem cell_two_new (W : World) (x y : Value) (ty j : Nat) (u : Value) (h : [x, y][j]? = some u) : (W.alloc (.cells #[x, y] ty)).cell? ((⟨W.heap.size, 0, none⟩ : Addr).add j) = some u := by
  rw [addp, Nat.zero_add]
  match j, h with
  | 0, h => simp at h; subst h; go_cell
  | 1, h => simp at h; subst h; go_cell
  | j + 2, h => simp at h
theorem snoc_row {W : World} {b b' : Nat} {v : Value} {l : Prs} {x y : Int} (h : W.ownsRow b 145 2 v (l.length + 1) (pairVals l ++ [.int .i64 x, .int .i64 y])) (hb : b' ≤ b) : PRow W b' v (l ++ [(x, y)]) := by
  unfold PRow
  rw [List.length_append, pairVals_append]
  exact ownsRow_wider hb h

/-- What 'ordered' comes to. -/
def OrdEnd (w : World) (vb : Value) (T : Tm) (S : OS) (e : Ending) (w' : World) : Prop :=
  ∃ a l c vf free, e = .returned (.tuple #[.agg #[.int .i64 T.op, .int .i64 T.n, .slice a l c], .agg #[vb, vf, .int .i64 (S.count : Nat)]]) ∧ Fresh w w' T a l c ∧ PRow w' 0 vf free ∧ lookP free = S.free ∧ free.length ≤ S.count ∧ Below w.heap.size w w'
def OrdR (N : Nat) : Prop := ∀ (t : Tm) (bound free : Prs) (next n₀ : Nat) (w : World) (a : Option Addr) (l c : Nat) (vb vf : Value), t.size ≤ N → IsTm n₀ w t a l c → OkV t → n₀ ≤ w.heap.size →
  PRow w 0 vb bound → PRow w 0 vf free → bound.length ≤ next → free.length ≤ next → next + t.size ≤ 1000000 →
  Calls Tryz.prog 72 #[.agg #[.int .i64 t.op, .int .i64 t.n, .slice a l c], .agg #[vb, vf, .int .i64 (next : Nat)]] w (OrdEnd w vb (ordT (lookP bound) ⟨lookP free, next⟩ t).1 (ordT (lookP bound) ⟨lookP free, next⟩ t).2)

end Go.Proofs.YthlegfegkopdkaaGreat

namespace Go.Proofs.YthlegfegkopdkaaGreat
open Go.RowKit Go.Shelf Go.Sort

/-! The weight of an expression in order -/
mutual
theorem weigh_ord : ∀ (t : Tm) (fb : Int → Option Int) (s : OS) (left depth : Int), OkV t → weigh (ordT fb s t).1 left depth = weigh t left depth
  | .mk op n ks, fb, s, left, depth, hO => by
    rw [OkV] at hO
    rw [ordT]
    split
    · next h1 => rw [hO.2.1 h1, weigh, weigh]
    · split
      · rw [weigh, weigh, weighs_ordL ks fb _ s.next (left - 1) (depth - 1) hO.2.2.2]
      · rw [weigh, weigh, weighs_ord ks fb s (left - 1) (depth - 1) hO.2.2.2]
theorem weighs_ord : ∀ (ks : List Tm) (fb : Int → Option Int) (s : OS) (left depth : Int), OkVs ks → weighs (ordTs fb s ks).1 left depth = weighs ks left depth
  | [], fb, s, left, depth, _ => by rw [ordTs]
  | t :: ts, fb, s, left, depth, hO => by
    rw [OkVs] at hO
    rw [ordTs, weighs, weighs, weigh_ord t fb s left depth hO.1, weighs_ord ts fb _ _ depth hO.2]
theorem weighs_ordL : ∀ (ks : List Tm) (fb fi : Int → Option Int) (s : OS) (left depth : Int), OkVs ks → weighs (ordL fb fi s ks).1 left depth = weighs ks left depth
  | [], fb, fi, s, left, depth, _ => by rw [ordL]
  | t :: ts, fb, fi, s, left, depth, hO => by
    rw [OkVs] at hO
    rw [ordL, weighs, weighs, weigh_ord t fb s left depth hO.1, weighs_ord ts fi _ _ depth hO.2]
end
theorem small_ordE {t : Tm} (hO : OkV t) (h : smallT t = true) : decide (0 ≤ weigh (ordE t).1 50 14) = true := by
  unfold ordE
  rw [weigh_ord t _ _ 50 14 hO]
  exact h

/-! The count only grows -/

end Go.Proofs.YthlegfegkopdkaaGreat
