/- Own text, joined of: E3.  -/
import Derived.OwnWalk
import Derived.Maps.AppendAt
import Derived.Test.YthlegfegkopdkaaKn17

namespace Go.Proofs.Ythlegfegkopdkaa
open Go.RowKit Go.Shelf

/-- The variables of a set, increasing. -/
def listTo (f : Nat → Bool) (k : Nat) : List Nat := (List.range k).filter f
theorem listTo_yes {f : Nat → Bool} {k : Nat} (h : f k = true) : listTo f (k + 1) = listTo f k ++ [k] := by
  simp [listTo, List.range_succ, List.filter_append, h]
theorem listTo_no {f : Nat → Bool} {k : Nat} (h : f k = false) : listTo f (k + 1) = listTo f k := by
  simp [listTo, List.range_succ, List.filter_append, h]
theorem listTo_len (f : Nat → Bool) (k : Nat) : (listTo f k).length ≤ k := by
  have := List.length_filter_le f (List.range k); simpa [listTo] using this
def natVals (l : List Nat) : List Value := l.map fun n : Nat => .int .i64 (n : Int)

theorem inf3 : (Try.prog.info? 3).map (fun i => (i.zero, i.size, i.bytes)) = some (some (.int .i64 0), 1, 8) := by kernel_rfl
theorem u38 : Try.prog.underlying 65 = some (.slice 3) := by kernel_rfl

set_option maxRecDepth 100000 in
set_option maxHeartbeats 1000000 in
/-- 'varSet.list'. -/
theorem list_any (f : Nat → Bool) (w : World) :
    Calls Try.prog 59 #[.agg (vs f)] w fun e w' => ∃ v, e = .returned v ∧ w'.ownsRow (w.heap.size + 1) 3 1 v (listTo f 20).length (natVals (listTo f 20)) ∧ (v = .slice none 0 0 ↔ listTo f 20 = []) ∧ Below w.heap.size w w' := by
  obtain ⟨i0, hi, hz0, hz1, hz2⟩ := info_parts inf3
  go_enter Try.func59, Try.ntmps59
  go_wp2_with fail
  go_loopw [3, 4, 5] (fun v _ i wi => ∃ k : Nat, k ≤ 20 ∧ i = .int .i64 k ∧ wi.ownsRow (w.heap.size + 1) 3 1 v (listTo f k).length (natVals (listTo f k)) ∧ (v = .slice none 0 0 ↔ listTo f k = []) ∧ SetAt wi w.heap.size f ∧ Below w.heap.size w wi) (fun _ _ i _ => 20 - (intOf i).toNat)
  case atStart => exact ⟨0, by omega, rfl, World.ownsRow_nil _ _ _ _, by simp [listTo], SetAt.new w f, (Below.refl _ w).alloc (Nat.le_refl _) _⟩
  case round =>
    obtain ⟨k, hk, rfl, hown, hnil, h1, hb⟩ := hrel
    have hz := h1.lt
    replace hnil := Lib.hid hnil
    by_cases hlt : k < 20
    · have p1 := h1.cell hlt
      have o1 : (k : Int) < 20 := by omega
      cases hf : f k
      · rw [hf] at p1
        have hl := Lib.hid (listTo_no hf)
        replace h1 := Lib.hid h1
        replace hf := Lib.hid hf
        go_wp2_with fail
        go_roundw
        case rel => exact ⟨k + 1, by omega, by go_num, by rw [hl.out]; exact hown, by rw [hl.out]; exact hnil.out, h1.out, hb⟩
        case measure => simp [intOf]; omega
      · rw [hf] at p1
        have hl := Lib.hid (listTo_yes hf)
        have hlen := listTo_len f k
        replace h1 := Lib.hid h1
        replace hf := Lib.hid hf
        go_wp2_with (first
          | (at_builtin; refine wpList_append_own _ rfl _ _ 65 rfl (w.heap.size + 1) 3 i0 (.int .i64 0) 1 8 u38 hi hz0 hz1 hz2 rfl (by decide) _ _ _ rfl (hown.alloc _) ⟨wr.heap.size, 0, none⟩ 1 1 [.int .i64 (k : Int)] rfl rfl (cell_one_new _ _ _) (fun x hx => by simp at hx; subst hx; rfl) (by unfold maxLen; omega) (by omega) (by simp; omega) ?_; intro v' w3 hown' hgrow3 hnil3))
        go_roundw
        case rel =>
          refine ⟨k + 1, by omega, by go_num, ?_, ?_, ?_, ?_⟩
          · rw [hl.out, List.length_append]
            simp only [natVals, List.map_append, List.map_cons, List.map_nil] at hown' ⊢
            exact hown'
          · rw [hl.out]; rw [hnil3]; simp
          · exact (hgrow3.block w.heap.size (by simp; omega) (fun e => by have := (hown.lt _ e.symm).1; omega)).trans (h1.out.alloc _)
          · exact (hb.alloc hb.size _).grown hgrow3 (by simp; omega) (fun q hq => by have := (hown.lt q hq).1; omega)
        case measure => simp [intOf]; omega
    · have : k = 20 := by omega
      subst this
      replace h1 := Lib.hid h1
      go_wp2_with fail
      go_ret
      exact ⟨_, rfl, hown, hnil.out, hb⟩

end Go.Proofs.Ythlegfegkopdkaa
