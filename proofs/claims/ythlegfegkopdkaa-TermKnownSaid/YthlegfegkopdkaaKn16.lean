/- Own text, joined of: E1.  -/
import Derived.Laws.Rows
import Derived.Test.YthlegfegkopdkaaKn15

namespace Go.Proofs.Ythlegfegkopdkaa
open Go.RowKit Go.Shelf

/-- A set of variables, as a row of 20 Booleans. -/
def vs (f : Nat → Bool) : Array Value := Array.ofFn (n := 20) fun i => Value.bool (f i.val)
theorem vs_size (f : Nat → Bool) : (vs f).size = 20 := by simp [vs]
theorem vs_get (f : Nat → Bool) {k : Nat} (h : k < 20) : (vs f)[k]? = some (.bool (f k)) := by
  rw [Array.getElem?_eq_getElem (by rw [vs_size]; exact h)]; simp [vs]
def setB (f : Nat → Bool) (k : Nat) (b : Bool) : Nat → Bool := fun i => if i = k then b else f i
theorem vs_set (f : Nat → Bool) {k : Nat} (b : Bool) (_h : k < 20) : (vs f).setIfInBounds k (.bool b) = vs (setB f k b) := by
  apply Array.ext
  · simp [vs]
  · intro i h1 h2
    rw [Array.getElem_setIfInBounds (by simpa [vs] using h2)]
    simp only [vs, Array.getElem_ofFn, setB]
    by_cases e : k = i
    · subst e; simp
    · rw [if_neg e, if_neg (fun x => e x.symm)]
theorem vs_congr {f g : Nat → Bool} (h : ∀ i, i < 20 → f i = g i) : vs f = vs g := by
  apply Array.ext
  · simp [vs]
  · intro i h1 h2
    have : i < 20 := by simpa [vs] using h1
    simp [vs, h i this]

def SetAt (w : World) (B : Nat) (f : Nat → Bool) : Prop := w.heap[B]? = some (.cells (vs f) 82)
theorem SetAt.lt {w : World} {B : Nat} {f : Nat → Bool} (h : SetAt w B f) : B < w.heap.size := (Array.getElem?_eq_some_iff.1 h).1
theorem SetAt.cell {w : World} {B : Nat} {f : Nat → Bool} (h : SetAt w B f) {k : Nat} (hk : k < 20) : w.cell? ⟨B, k, none⟩ = some (.bool (f k)) := by
  rw [cell_of_row w B k (vs f) 82 (0, 0) h, vs_get f hk]
theorem SetAt.frozen {w : World} {B : Nat} {f : Nat → Bool} (h : SetAt w B f) (k : Nat) : w.frozen? ⟨B, k, none⟩ = false := frozen_of_row w B k (vs f) 82 h
theorem SetAt.set {w : World} {B : Nat} {f : Nat → Bool} (h : SetAt w B f) {k : Nat} (hk : k < 20) (b : Bool) : SetAt (w.setCell ⟨B, k, none⟩ (.bool b)) B (setB f k b) := by
  unfold SetAt
  rw [heap_setCell_same w B k (vs f) 82 (.bool b) h, vs_set f b hk]
theorem SetAt.other {w : World} {B : Nat} {f : Nat → Bool} (h : SetAt w B f) {p : Addr} (hp : B ≠ p.block) (v : Value) : SetAt (w.setCell p v) B f := by
  unfold SetAt; rw [heap_setCell_other w p B v hp]; exact h
theorem SetAt.alloc {w : World} {B : Nat} {f : Nat → Bool} (h : SetAt w B f) (o : Obj) : SetAt (w.alloc o) B f := by
  unfold SetAt
  rw [Below.heap_alloc w o B h.lt]
  exact h
theorem SetAt.new (w : World) (f : Nat → Bool) : SetAt (w.alloc (.cells (vs f) 82)) w.heap.size f := heap_alloc_new w _
theorem SetAt.below {w w' : World} {B n : Nat} {f : Nat → Bool} (h : SetAt w B f) (hb : Below n w w') (hB : B < n) : SetAt w' B f := (hb.block B hB).trans h
theorem SetAt.congr {w : World} {B : Nat} {f g : Nat → Bool} (h : SetAt w B f) (e : ∀ i, i < 20 → f i = g i) : SetAt w B g := by
  unfold SetAt; rw [← vs_congr e]; exact h

theorem u79 : Try.prog.underlying 82 = some (.array 20 4) := by kernel_rfl
theorem i79' : (Try.prog.info? 82).map (·.size) = some 20 := by kernel_rfl
theorem i79 (f : Nat → Bool) : (Try.prog.info? 82).map (·.size) = some (vs f).size := by rw [vs_size]; exact i79'
theorem vs_one (f : Nat → Bool) : (vs f).all (·.oneCell') = true := by
  rw [Array.all_eq_true]; intro i h; simp [vs, Value.oneCell']
theorem SetAt.store {w : World} {B : Nat} {f : Nat → Bool} (h : SetAt w B f) (g : Nat → Bool) : SetAt (w.setRow B (vs g)) B g := setRow_heap w B _ _ 82 (0, 0) h
theorem SetAt.rowOther {w : World} {B B' : Nat} {f : Nat → Bool} (h : SetAt w B f) (hne : B ≠ B') (cs : Array Value) : SetAt (w.setRow B' cs) B f := by
  unfold SetAt; rw [setRow_other w B' B cs hne]; exact h
theorem below_row {a w : World} {n B : Nat} (h : Below n a w) (hB : n ≤ B) (cs : Array Value) : Below n a (w.setRow B cs) :=
  ⟨h.os, h.tape, h.output, by rw [setRow_size]; exact h.size, fun k hk => by rw [setRow_other w B k cs (by omega)]; exact h.block k hk⟩

def orSet (f g : Nat → Bool) : Nat → Bool := fun i => f i || g i
def orTo (f g : Nat → Bool) (k : Nat) : Nat → Bool := fun i => if i < k then f i || g i else f i

theorem vs_none : vs (fun _ => false) = #[.bool false, .bool false, .bool false, .bool false, .bool false, .bool false, .bool false, .bool false, .bool false, .bool false, .bool false, .bool false, .bool false, .bool false, .bool false, .bool false, .bool false, .bool false, .bool false, .bool false] := rfl
theorem SetAt.none (w : World) : SetAt (w.alloc (.cells #[.bool false, .bool false, .bool false, .bool false, .bool false, .bool false, .bool false, .bool false, .bool false, .bool false, .bool false, .bool false, .bool false, .bool false, .bool false, .bool false, .bool false, .bool false, .bool false, .bool false] 82)) w.heap.size (fun _ => false) := by
  rw [← vs_none]; exact SetAt.new _ _

set_option maxRecDepth 100000 in
set_option maxHeartbeats 1000000 in
theorem with_any (f g : Nat → Bool) (w : World) :
    Calls Try.prog 44 #[.agg (vs f), .agg (vs g)] w fun e w' => e = .returned (.agg (vs (orSet f g))) ∧ Below w.heap.size w w' := by
  go_enter Try.func44, Try.ntmps44
  go_wp2_with fail
  go_loopw [5, 6] (fun _ i wi => ∃ k : Nat, k ≤ 20 ∧ i = .int .i64 k ∧ SetAt wi w.heap.size (orTo f g k) ∧ SetAt wi (w.heap.size + 1) g ∧ SetAt wi (w.heap.size + 1 + 1) (fun _ => false) ∧ Below w.heap.size w wi) (fun _ i _ => 20 - (intOf i).toNat)
  case atStart =>
    refine ⟨0, by omega, rfl, ?_, ?_, ?_, ?_⟩
    · exact ((((SetAt.new w f).alloc _).alloc _).congr (fun i _ => by simp [orTo]))
    · have := (SetAt.new (w.alloc (.cells (vs f) 82)) g).alloc (.cells #[.bool false, .bool false, .bool false, .bool false, .bool false, .bool false, .bool false, .bool false, .bool false, .bool false, .bool false, .bool false, .bool false, .bool false, .bool false, .bool false, .bool false, .bool false, .bool false, .bool false] 82)
      rw [World.size_alloc] at this
      exact this
    · have := SetAt.none ((w.alloc (.cells (vs f) 82)).alloc (.cells (vs g) 82))
      rw [World.size_alloc, World.size_alloc] at this
      exact this
    · exact (((Below.refl _ w).alloc (Nat.le_refl _) _).alloc (by simp) _).alloc (by simp; omega) _
  case round =>
    obtain ⟨k, hk, rfl, h1, h2, h3, hb⟩ := hrel
    by_cases hlt : k < 20
    · have p1 := h1.cell hlt
      have p2 := h2.cell hlt
      have p3 := h1.frozen k
      have o1 : (k : Int) < 20 := by omega
      have hs : ∀ b, b = (f k || g k) → SetAt (wr.setCell ⟨w.heap.size, k, none⟩ (.bool b)) w.heap.size (orTo f g (k + 1)) := fun b e => (h1.set hlt b).congr (fun i _ => by
        subst e; unfold setB orTo
        by_cases e1 : i = k
        · subst e1; simp
        · by_cases e2 : i < k
          · rw [if_neg e1, if_pos e2, if_pos (by omega)]
          · rw [if_neg e1, if_neg e2, if_neg (by omega)])
      have hs2 : ∀ b, SetAt (wr.setCell ⟨w.heap.size, k, none⟩ (.bool b)) (w.heap.size + 1) g := fun b => h2.other (by simp) _
      have hs3 : ∀ b, SetAt (wr.setCell ⟨w.heap.size, k, none⟩ (.bool b)) (w.heap.size + 1 + 1) (fun _ => false) := fun b => h3.other (by simp; omega) _
      have hb' : ∀ b, Below w.heap.size w (wr.setCell ⟨w.heap.size, k, none⟩ (.bool b)) := fun b => hb.setCell (Nat.le_refl _) _
      have hfk : orTo f g k k = f k := by simp [orTo]
      rw [hfk] at p1
      cases hf : f k
      · rw [hf] at p1 hs
        simp only [Bool.false_or] at hs
        obtain ⟨y, hy⟩ : ∃ y, y = g k := ⟨_, rfl⟩
        rw [← hy] at p2 hs
        replace hs := Lib.hid (hs y rfl)
        replace hs2 := Lib.hid hs2
        replace hs3 := Lib.hid hs3
        replace hb' := Lib.hid hb'
        clear h1 h2 h3 hy
        go_wp2_with fail
        go_roundw
        case rel => exact ⟨k + 1, by omega, by go_num, hs.out, hs2.out _, hs3.out _, hb'.out _⟩
        case measure => simp [intOf]; omega
      · rw [hf] at p1 hs
        simp only [Bool.true_or] at hs
        replace hs := Lib.hid (hs true rfl)
        replace hs2 := Lib.hid hs2
        replace hs3 := Lib.hid hs3
        replace hb' := Lib.hid hb'
        clear h1 h2 h3
        go_wp2_with fail
        go_roundw
        case rel => exact ⟨k + 1, by omega, by go_num, hs.out, hs2.out _, hs3.out _, hb'.out _⟩
        case measure => simp [intOf]; omega
    · have : k = 20 := by omega
      subst this
      have h1' := h1.congr (g := orSet f g) (fun i hi => by simp [orTo, orSet, hi])
      replace hb := Lib.hid hb
      clear h1 h2
      go_wp2_with (first
        | refine wpList_load_row rfl 82 _ rfl w.heap.size rfl 82 _ (0, 0) _ h1' u79 rfl (i79 _) ?_
        | refine wpList_store_row rfl 82 _ _ rfl (w.heap.size + 1 + 1) _ rfl rfl 82 _ h3 (i79 _) (by rw [vs_size, vs_size]) (vs_one _) ?_)
      refine bodyPost_ret (results_cell_row rfl _ _ (w.heap.size + 1 + 1) 82 _ (0, 0) _ rfl (h3.store _) u79 rfl (i79 _)) rfl ⟨rfl, below_row hb.out (by omega) _⟩

end Go.Proofs.Ythlegfegkopdkaa
