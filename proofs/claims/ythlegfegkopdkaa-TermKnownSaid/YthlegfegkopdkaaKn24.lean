/- Own text, joined of: S8. 'putList', where it does not give up. -/
import Derived.Test.YthlegfegkopdkaaKn22
import Derived.Test.YthlegfegkopdkaaKn23

namespace Go.Proofs.Ythlegfegkopdkaa
open Go.RowKit Go.Shelf Go.Sort

/-- A row of cells with some others laid into it. -/
def putAt : Array Value → Nat → List Value → Array Value
  | C, _, [] => C
  | C, o, v :: r => putAt (C.setIfInBounds o v) (o + 1) r
theorem putAt_get : ∀ (vs : List Value) (C : Array Value) (o i : Nat), (putAt C o vs)[i]? = if o ≤ i ∧ i < o + vs.length ∧ i < C.size then vs[i - o]? else C[i]?
  | [], C, o, i => by rw [putAt, if_neg (by simp; omega)]
  | v :: r, C, o, i => by
    rw [putAt, putAt_get r, Array.getElem?_setIfInBounds, Array.size_setIfInBounds]
    by_cases h1 : i = o
    · subst h1
      rw [if_neg (by omega)]
      by_cases h2 : i < C.size
      · rw [if_pos rfl, if_pos h2, if_pos ⟨by omega, by simp, h2⟩]; simp
      · rw [if_pos rfl, if_neg h2, if_neg (by omega), Array.getElem?_eq_none (by omega)]
    · rw [if_neg (c := o = i) (by omega)]
      by_cases h2 : o + 1 ≤ i ∧ i < o + 1 + r.length ∧ i < C.size
      · rw [if_pos h2, if_pos ⟨by omega, by simp; omega, h2.2.2⟩, show i - o = (i - (o + 1)) + 1 by omega, List.getElem?_cons_succ]
      · rw [if_neg h2, if_neg (by simp; omega)]
theorem heap_setCells {b t : Nat} : ∀ (vs : List Value) (o : Nat) (w : World) (C : Array Value), w.heap[b]? = some (.cells C t (0, 0)) → (w.setCells b o vs).heap[b]? = some (.cells (putAt C o vs) t (0, 0))
  | [], _, _, _, h => by simpa [World.setCells, putAt] using h
  | v :: r, o, w, C, h => by
    rw [World.setCells, putAt]
    exact heap_setCells r (o + 1) _ _ (heap_setCell_same w b o C t v h)

def lsA (bm : Nat) (f : Nat → Bool) : Array Value := #[.map (some bm)] ++ vs f
theorem lsA_get (bm : Nat) (f : Nat → Bool) (i : Nat) : (lsA bm f)[i]? = if i = 0 then some (.map (some bm)) else (vs f)[i - 1]? := by
  unfold lsA
  rw [Array.getElem?_append]
  by_cases h : i = 0
  · subst h; simp
  · rw [if_neg (by simp; omega), if_neg h]; simp
theorem lsA_size (bm : Nat) (f : Nat → Bool) : (lsA bm f).size = 21 := by simp [lsA, vs_size]
def LsAt (w : World) (B bm : Nat) (f : Nat → Bool) : Prop := w.heap[B]? = some (.cells (lsA bm f) 84 (0, 0))
theorem LsAt.lt {w : World} {B bm : Nat} {f : Nat → Bool} (h : LsAt w B bm f) : B < w.heap.size := (Array.getElem?_eq_some_iff.1 h).1
theorem LsAt.map {w : World} {B bm : Nat} {f : Nat → Bool} (h : LsAt w B bm f) : w.cell? ⟨B, 0, none⟩ = some (.map (some bm)) := by rw [cell_of_row w B 0 _ 84 (0, 0) h, lsA_get]; rfl
theorem LsAt.cell {w : World} {B bm : Nat} {f : Nat → Bool} (h : LsAt w B bm f) {k : Nat} (hk : k < 20) : w.cell? ⟨B, 1 + k, none⟩ = some (.bool (f k)) := by
  rw [cell_of_row w B (1 + k) _ 84 (0, 0) h, lsA_get, if_neg (by omega), show 1 + k - 1 = k by omega]; exact vs_get f hk
theorem LsAt.frozen {w : World} {B bm : Nat} {f : Nat → Bool} (h : LsAt w B bm f) (k : Nat) : w.frozen? ⟨B, k, none⟩ = false := frozen_of_row w B k _ 84 h
theorem LsAt.range {w : World} {B bm : Nat} {f : Nat → Bool} (h : LsAt w B bm f) : w.rangeAt B 1 (vs f).toList := fun j v hv => by
  have hj : j < 20 := by
    have := (List.getElem?_eq_some_iff.1 hv).1
    simpa [vs_size] using this
  rw [h.cell hj]
  have h2 : (vs f)[j]? = some v := by simpa using hv
  rw [vs_get f hj] at h2
  exact h2
theorem LsAt.there {w : World} {B bm : Nat} {f : Nat → Bool} (h : LsAt w B bm f) : w.there B 1 20 := fun j hj => ⟨by rw [h.cell hj]; rfl, h.frozen _⟩
theorem LsAt.stores {w : World} {B bm : Nat} {f : Nat → Bool} (h : LsAt w B bm f) (g : Nat → Bool) : LsAt (w.setCells B 1 (vs g).toList) B bm g := by
  unfold LsAt
  rw [heap_setCells _ 1 w _ h]
  have : putAt (lsA bm f) 1 (vs g).toList = lsA bm g := by
    apply Array.ext_getElem?
    intro i
    rw [putAt_get, lsA_get, lsA_get, lsA_size]
    by_cases h0 : i = 0
    · subst h0; rw [if_neg (by omega), if_pos rfl, if_pos rfl]
    · rw [if_neg (c := i = 0) h0, if_neg (c := i = 0) h0]
      by_cases h1 : 1 ≤ i ∧ i < 1 + (vs g).toList.length ∧ i < 21
      · rw [if_pos h1]; simp
      · rw [if_neg h1]
        simp [vs_size] at h1
        rw [Array.getElem?_eq_none (by rw [vs_size]; omega), Array.getElem?_eq_none (by rw [vs_size]; omega)]
  rw [this]
theorem LsAt.set {w : World} {B bm : Nat} {f : Nat → Bool} (h : LsAt w B bm f) {k : Nat} (hk : k < 20) (b : Bool) : LsAt (w.setCell ⟨B, 1 + k, none⟩ (.bool b)) B bm (setB f k b) := by
  unfold LsAt
  rw [heap_setCell_same w B (1 + k) _ 84 (.bool b) h]
  have : (lsA bm f).setIfInBounds (1 + k) (.bool b) = lsA bm (setB f k b) := by
    have hv := vs_set f b hk
    apply Array.ext_getElem?
    intro i
    rw [Array.getElem?_setIfInBounds, lsA_get, lsA_get, lsA_size, ← hv, Array.getElem?_setIfInBounds, vs_size]
    by_cases h0 : i = 0
    · subst h0; rw [if_neg (by omega), if_pos rfl, if_pos rfl]
    · rw [if_neg (c := i = 0) h0, if_neg (c := i = 0) h0]
      by_cases h1 : 1 + k = i
      · rw [if_pos h1, if_pos (by omega), if_pos (show k = i - 1 by omega), if_pos hk]
      · rw [if_neg h1, if_neg (show ¬ k = i - 1 by omega)]
  rw [this]
/-- The bindings' map, and the variables that stand in them, after k of them. -/
def bindK (bs : List PB) (k : Nat) : Int → Option DT := (bs.take k).foldl (fun f x => updI f x.v x.d) (fun _ => none)
def stK (bs : List PB) (k : Nat) : Nat → Bool := (bs.take k).foldl (fun s x => setB (orSet s (stT x.d.tm (fun _ => false))) x.v.toNat true) (fun _ => false)
theorem bindK_succ (bs : List PB) (k : Nat) (h : k < bs.length) : bindK bs (k + 1) = updI (bindK bs k) bs[k].v bs[k].d := by
  unfold bindK; rw [List.take_succ_eq_append_getElem h, List.foldl_append]; rfl
theorem stK_succ (bs : List PB) (k : Nat) (h : k < bs.length) : stK bs (k + 1) = setB (orSet (stK bs k) (stT bs[k].d.tm (fun _ => false))) bs[k].v.toNat true := by
  unfold stK; rw [List.take_succ_eq_append_getElem h, List.foldl_append]; rfl

end Go.Proofs.Ythlegfegkopdkaa
