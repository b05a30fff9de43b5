/- Own text, joined of: D1.  -/
import Derived.Test.YthlegfegkopdkaaProg
import Derived.Laws.Runes
import Derived.Laws.RangeString
import Derived.Laws.RangeAny
import Derived.BigQuiet
import Derived.Deep.Draws
import Derived.Deep.QuietTactic
import Derived.Outline
import Derived.LoopTactic
import Derived.IntWalk
import Derived.Handy
import Derived.StillTailTactics
import Derived.Test.YthlegfegkopdkaaKn00
import Derived.Test.YthlegfegkopdkaaKn10

namespace Go.Proofs.Ythlegfegkopdkaa
open Go.RowKit

def isLet (b : Nat) : Bool := (decide (97 ≤ b) && decide (b ≤ 122)) || (decide (65 ≤ b) && decide (b ≤ 90))
def nameB (s : ByteArray) : Bool := decide (1 ≤ s.size) && decide (s.size ≤ 8) && s.data.toList.all (fun b => isLet b.toNat)
theorem nameB_all (s : ByteArray) : s.data.toList.all (fun b => isLet b.toNat) = true ↔ ∀ i (h : i < s.size), isLet (s[i]'h).toNat = true := by
  rw [List.all_eq_true]
  constructor
  · intro h i hi
    exact h _ (by rw [show (s[i]'hi) = s.data[i]'hi from rfl]; exact Array.getElem_mem_toList _)
  · intro h b hb
    obtain ⟨i, hi, rfl⟩ := List.getElem_of_mem hb
    exact h i (by simpa using hi)

theorem let_rune (s : ByteArray) (pos : Nat) (h : pos < s.size) : isLet (Utf8.decode s pos).1 = isLet (s[pos]'h).toNat ∧ (isLet (Utf8.decode s pos).1 = true → (Utf8.decode s pos).2 = 1) := by
  by_cases ha : (s[pos]'h).toNat < 128
  · rw [decode_ascii s pos h ha]; exact ⟨rfl, fun _ => rfl⟩
  · have hd := (decode_high s pos h (by omega)).1
    have e1 : isLet (Utf8.decode s pos).1 = false := by unfold isLet; simp; omega
    have e2 : isLet (s[pos]'h).toNat = false := by unfold isLet; simp; omega
    rw [e1, e2]; exact ⟨rfl, fun h => by cases h⟩

set_option maxRecDepth 100000 in
set_option maxHeartbeats 1000000 in
theorem isName_any (s : ByteArray) (w : World) (hs : s.size ≤ 140737488351232) :
    Calls Try.prog 74 #[.string s] w fun e w' => e = .returned (.bool (nameB s)) ∧ Below w.heap.size w w' := by
  by_cases h1 : 1 ≤ s.size
  rotate_left
  · have hv : Hid (nameB s = false) := Lib.hid (by unfold nameB; rw [decide_eq_false h1]; rfl)
    go_enter Try.func74, Try.ntmps74
    go_wp2_with fail
    go_ret
    exact ⟨by rw [hv.out]; rfl, Below.refl _ _⟩
  by_cases h8 : s.size ≤ 8
  rotate_left
  · have hv : Hid (nameB s = false) := Lib.hid (by unfold nameB; rw [decide_eq_false h8]; simp)
    go_enter Try.func74, Try.ntmps74
    go_wp2_with fail
    go_ret
    exact ⟨by rw [hv.out]; rfl, Below.refl _ _⟩
  have hv : Hid (nameB s = s.data.toList.all (fun b => isLet b.toNat)) := Lib.hid (by unfold nameB; rw [decide_eq_true h1, decide_eq_true h8]; rfl)
  go_enter Try.func74, Try.ntmps74
  go_wp2_with fail
  go_loopw [4] (fun _ w' => ∃ pos : Nat, w' = w.iter s pos ∧ pos ≤ s.size ∧ Hid (∀ i (h : i < s.size), i < pos → isLet (s[i]'h).toNat = true)) (fun _ w' => s.size - w'.iterPos w.heap.size)
  case atStart => exact ⟨0, rfl, by omega, Lib.hid (fun i h h0 => by omega)⟩
  case round =>
    obtain ⟨pos, rfl, hps, hall⟩ := hrel
    by_cases hp : pos < s.size
    · have hnx : ∀ ty, (Instr.next (.pointer (some ⟨w.heap.size, 0, none⟩)) true ty).run Try.prog (w.iter s pos) = _ := fun ty => run_next_any w s pos ty hp
      have hlr := let_rune s pos hp
      obtain ⟨c, hc⟩ : ∃ c, c = (Utf8.decode s pos).1 := ⟨_, rfl⟩
      obtain ⟨wd, hwd⟩ : ∃ wd, wd = (Utf8.decode s pos).2 := ⟨_, rfl⟩
      simp only [← hc, ← hwd] at hnx hlr
      clear hc hwd
      cases hl : isLet c
      · have hbad : Hid (nameB s = false) := Lib.hid (by
          rw [hv.out]
          apply Bool.eq_false_iff.2
          intro h
          have := (nameB_all s).1 h pos hp
          rw [← hlr.1, hl] at this; cases this)
        have hl' : c < 65 ∨ (90 < c ∧ c < 97) ∨ 122 < c := by unfold isLet at hl; simp at hl; omega
        clear hlr hl hall
        rcases hl' with h5 | ⟨h5, h6⟩ | h5
        · have d1 : decide ((97 : Int) ≤ (c : Int)) = false := by simp <;> omega
          have d3 : decide ((65 : Int) ≤ (c : Int)) = false := by simp <;> omega
          go_wp2_with fail
          go_ret
          exact ⟨by rw [hbad.out]; rfl, (Below.refl _ _).alloc (Nat.le_refl _) _⟩
        · have d1 : decide ((97 : Int) ≤ (c : Int)) = false := by simp <;> omega
          have d3 : decide ((65 : Int) ≤ (c : Int)) = true := by simp <;> omega
          have d4 : decide ((c : Int) ≤ 90) = false := by simp <;> omega
          go_wp2_with fail
          go_ret
          exact ⟨by rw [hbad.out]; rfl, (Below.refl _ _).alloc (Nat.le_refl _) _⟩
        · have d1 : decide ((97 : Int) ≤ (c : Int)) = true := by simp <;> omega
          have d2 : decide ((c : Int) ≤ 122) = false := by simp <;> omega
          have d3 : decide ((65 : Int) ≤ (c : Int)) = true := by simp <;> omega
          have d4 : decide ((c : Int) ≤ 90) = false := by simp <;> omega
          go_wp2_with fail
          go_ret
          exact ⟨by rw [hbad.out]; rfl, (Below.refl _ _).alloc (Nat.le_refl _) _⟩
      · have hlast : Hid (∀ i (h : i < s.size), i < pos + 1 → isLet (s[i]'h).toNat = true) := Lib.hid (fun i h hi => by
          by_cases he : i = pos
          · subst he; rw [← hlr.1]; exact hl
          · exact hall.out i h (by omega))
        have hw1 := hlr.2 hl
        have hl' : (97 ≤ c ∧ c ≤ 122) ∨ (65 ≤ c ∧ c ≤ 90 ∧ c < 97) := by unfold isLet at hl; simp at hl; omega
        clear hlr hl hall
        subst hw1
        rcases hl' with ⟨h5, h6⟩ | ⟨h5, h6, h7⟩
        · have d1 : decide ((97 : Int) ≤ (c : Int)) = true := by simp <;> omega
          have d2 : decide ((c : Int) ≤ 122) = true := by simp <;> omega
          go_wp2_with fail
          go_roundw
          case rel => exact ⟨pos + 1, rfl, by omega, hlast⟩
          case measure => simp; omega
        · have d1 : decide ((97 : Int) ≤ (c : Int)) = false := by simp <;> omega
          have d3 : decide ((65 : Int) ≤ (c : Int)) = true := by simp <;> omega
          have d4 : decide ((c : Int) ≤ 90) = true := by simp <;> omega
          go_wp2_with fail
          go_roundw
          case rel => exact ⟨pos + 1, rfl, by omega, hlast⟩
          case measure => simp; omega
    · have hnx : ∀ ty, (Instr.next (.pointer (some ⟨w.heap.size, 0, none⟩)) true ty).run Try.prog (w.iter s pos) = _ := fun ty => run_next_end w s pos ty hp
      have hend : Hid (nameB s = true) := Lib.hid (by rw [hv.out, nameB_all]; exact fun i h => hall.out i h (by omega))
      clear hall
      go_wp2_with fail
      go_ret
      exact ⟨by rw [hend.out]; rfl, (Below.refl _ _).alloc (Nat.le_refl _) _⟩

end Go.Proofs.Ythlegfegkopdkaa
