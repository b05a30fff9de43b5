/- Own text, joined of: D2.  -/
import Derived.Test.YthlegfegkopdkaaProg
import Derived.RangeFuncBox
import Derived.Laws.Runes
import Derived.Laws.RangeString
import Derived.Laws.RangeAny
import Derived.BigQuiet
import Derived.Deep.Draws
import Derived.Deep.QuietTactic
import Derived.Outline
import Derived.LoopTactic
import Derived.IntWalk
import Derived.Handy
import Derived.StillTailTactics
import Derived.Test.YthlegfegkopdkaaKn10
import Derived.Test.YthlegfegkopdkaaKn12

namespace Go.Proofs.Ythlegfegkopdkaa
open Go.RowKit

set_option maxRecDepth 100000 in
set_option maxHeartbeats 1000000 in
theorem allNames_any (g : Nat) (cap : Array Value) (eg : ∀ args w, (callFunc g args).run Try.prog w = .ok (.enter g args) w)
    (ds : List Nm) (a : Option Addr) (c : Nat) (hc1 : ds.length ≤ c) (hc2 : c ≤ 9223372036854775807)
    (Inv : Nat → World → Prop) (Stop : World → Prop) (hal : ∀ k W o, Inv k W → Inv k (W.alloc o))
    (hcell : ∀ k W (h : k < ds.length), Inv k W → ∃ b off, a = some ⟨b, off, none⟩ ∧ W.cell? ⟨b, off + k * 2, none⟩ = some (.string ds[k].1) ∧ W.cell? ⟨b, off + k * 2 + 1, none⟩ = some (.int .i64 ds[k].2))
    (hf : ∀ k (h : k < ds.length) W, Inv k W → Calls Try.prog g (#[.agg #[.string ds[k].1, .int .i64 ds[k].2]] ++ cap) W fun e W' => (e = .returned (.bool true) ∧ Inv (k + 1) W') ∨ (e = .returned (.bool false) ∧ Stop W'))
    (W : World) (h0 : Inv 0 W) :
    Calls Try.prog 75 #[.slice a ds.length c, .func (.func g) #[] cap] W fun e W' => (e = .returned (.bool true) ∧ Inv ds.length W') ∨ (e = .returned (.bool false) ∧ Stop W') := by
  replace hf := Lib.hid hf
  replace hcell := Lib.hid hcell
  replace h0 := Lib.hid h0
  replace hal := Lib.hid hal
  go_enter Try.func75, Try.ntmps75
  go_wp2_with fail
  go_loopw [6, 9] (fun _ i wr => ∃ k : Nat, k ≤ ds.length ∧ i = .int .i64 k ∧ Hid (Inv k wr)) (fun _ i _ => ds.length - (intOf i).toNat)
  case atStart => exact ⟨0, by omega, rfl, h0⟩
  case round =>
    obtain ⟨k, hk1, rfl, hI⟩ := hrel
    by_cases hlt : k < ds.length
    · obtain ⟨b, off, rfl, d0, d1⟩ := hcell.out k wr hlt hI.out
      have hC := Lib.hid (hf.out k hlt _ (hal.out k wr (.cells #[.string ds[k].1, .int .i64 ds[k].2] 53) hI.out))
      go_wp2_with fail
      refine (hC.out).mono ?_
      rintro e W' (⟨rfl, hI'⟩ | ⟨rfl, hS'⟩)
      · replace hI' := Lib.hid hI'
        go_wp2_with fail
        go_roundw
        case rel => exact ⟨k + 1, by omega, by go_num, hI'⟩
        case measure => simp [intOf]; omega
      · replace hS' := Lib.hid hS'
        go_wp2_with fail
        go_ret
        exact .inr ⟨rfl, hS'.out⟩
    · have : k = ds.length := by omega
      subst this
      go_wp2_with fail
      go_ret
      exact .inl ⟨rfl, hI.out⟩

/-! The set of names that were met. -/
noncomputable def seenF : List ByteArray → Lit → Option Value
  | [] => fun _ => none
  | s :: r => upd (seenF r) (.string s.data.toList) (.bool true)
theorem lit_ne {s x : ByteArray} (h : s ≠ x) : Lit.string s.data.toList ≠ Lit.string x.data.toList := fun e => h (by injection e with e; exact ByteArray.ext (Array.ext' e))
theorem seenF_mem (s : ByteArray) : ∀ (l : List ByteArray), s ∈ l → seenF l (.string s.data.toList) = some (.bool true)
  | [], h => by cases h
  | x :: r, h => by
    by_cases hx : s = x
    · subst hx; simp [seenF, upd_same]
    · rw [seenF, upd_other _ _ (lit_ne hx), seenF_mem s r ((List.mem_cons.1 h).resolve_left hx)]
theorem seenF_not (s : ByteArray) : ∀ (l : List ByteArray), s ∉ l → seenF l (.string s.data.toList) = none
  | [], _ => rfl
  | x :: r, h => by
    rw [seenF, upd_other _ _ (lit_ne (fun e => h (by simp [e]))), seenF_not s r (fun e => h (by simp [e]))]

theorem boxed_low {B B' : Nat} {t : TypeId} {v : Value} {W W' : World} (hb : Boxed W B t v) (h : Below B' W W') (hlt : B < B') : Boxed W' B t v := by
  unfold Boxed; rw [h.block B hlt]; exact hb

theorem law9 : Go.Maps.Keyed Try.prog 9 := Go.Maps.string_keyed Try.underlying9

set_option maxRecDepth 100000 in
set_option maxHeartbeats 2000000 in
theorem sig1_any (B Bm bm k : Nat) (seen : List ByteArray) (s : ByteArray) (a : Int) (w : World) (hs : s.size ≤ 140737488351232) (hB : B ≤ Bm) (hb : B ≤ bm) (hne : Bm ≠ bm) (hk : k ≤ 1000000)
    (hm : MapV Try.prog 9 w bm k (seenF seen)) (hbx : Boxed w Bm 113 (.map (some bm))) :
    Calls Try.prog 73 #[.agg #[.string s, .int .i64 a], .pointer (some ⟨Bm, 0, none⟩)] w fun e w' =>
      (e = .returned (.bool true) ∧ (s ∉ seen ∧ nameB s = true ∧ 0 ≤ a ∧ a ≤ 4) ∧ MapV Try.prog 9 w' bm (k + 1) (seenF (s :: seen)) ∧ Boxed w' Bm 113 (.map (some bm)) ∧ Below B w w') ∨
      (e = .returned (.bool false) ∧ ¬ (s ∉ seen ∧ nameB s = true ∧ 0 ≤ a ∧ a ≤ 4) ∧ Below B w w') := by
  have c0 := hbx.cell
  have hlt := hbx.lt
  have hmlt := hm.lt
  have hm1 := hm.alloc (.cells #[.string s, .int .i64 a] 53)
  have hkey : keyOf Try.prog 9 (.string s) = some (.string s.data.toList) := Go.WideMaps.keyOf_string_mk Try.underlying9 (by unfold maxLen; omega)
  have hlook := hm1.look (t := 113) law9 Try.underlying113 (z := .bool false) (by kernel_rfl) hkey
  have hBw : Below B w (w.alloc (.cells #[.string s, .int .i64 a] 53)) := (Below.refl _ _).alloc (by omega) _
  by_cases hin : s ∈ seen
  · rw [seenF_mem s seen hin] at hlook
    simp only [Option.getD_some] at hlook
    replace hin := Lib.hid hin
    clear hm1 hm
    go_enter Try.func73, Try.ntmps73
    go_wp2_with fail
    go_ret
    exact .inr ⟨rfl, fun h => h.1 hin.out, hBw⟩
  · rw [seenF_not s seen hin] at hlook
    simp only [Option.getD_none] at hlook
    replace hin := Lib.hid hin
    have hN := isName_any s (w.alloc (.cells #[.string s, .int .i64 a] 53)) hs
    cases hnm : nameB s
    · rw [hnm] at hN
      replace hN := Lib.hid hN
      replace hnm := Lib.hid hnm
      clear hm1 hm
      go_enter Try.func73, Try.ntmps73
      go_wp2_with (go_at_call 74; refine (hN.out).mono ?_; rintro e w1 ⟨rfl, hb1⟩)
      go_ret
      exact .inr ⟨rfl, (fun h => by cases h.2.1), hBw.trans (hb1.mono (by simp; omega))⟩
    · rw [hnm] at hN
      replace hN := Lib.hid hN
      replace hnm := Lib.hid hnm
      replace hm1 := Lib.hid hm1
      clear hm
      have h3 : (0 ≤ a ∧ a ≤ 4) ∨ a < 0 ∨ (0 ≤ a ∧ 4 < a) := by omega
      rcases h3 with ⟨e1, e2⟩ | e1 | ⟨e1, e2⟩
      all_goals
        go_enter Try.func73, Try.ntmps73
        go_wp2_with (first
          | (go_at_call 74; refine (hN.out).mono ?_; rintro e w1 ⟨rfl, hb1⟩
             have q0 : w1.cell? ⟨Bm, 0, none⟩ = some (.map (some bm)) := by rw [hb1.cell (by simp; omega)]; go_simp
             have q1 : w1.cell? ⟨w.heap.size, 0, none⟩ = some (.string s) := by rw [hb1.cell (by simp)]; go_cell
             have q2 : w1.cell? ⟨w.heap.size, 1, none⟩ = some (.int .i64 a) := by rw [hb1.cell (by simp)]; go_cell
             have hmw := Lib.hid (hm1.out.below hb1 (by simp; omega)))
          | (at_mapUpdate; refine wpList_mapStore _ rfl _ _ _ 113 rfl law9 Try.underlying113 bm k _ rfl hmw.out (by unfold maxLen; omega) _ _ _ rfl rfl hkey trivial ?_; intro w2 hm2 hg2
             have q3 : w2.cell? ⟨w.heap.size, 1, none⟩ = some (.int .i64 a) := hg2.cell q2 (by simp; omega)
             have q4 : Boxed w2 Bm 113 (.map (some bm)) := (boxed_low (hbx.alloc _) hb1 (by simp; omega)).kept hg2 (by simp; omega)
             replace hm2 := Lib.hid hm2))
        go_ret
        have hBe := (hBw.trans (hb1.mono (by simp; omega))).grown hg2 (by have := hb1.size; simp at this; omega) (fun k e => by cases e; exact hb)
      · exact .inl ⟨by simp, ⟨hin.out, trivial, e1, e2⟩, hm2.out, q4, hBe⟩
      · exact .inr ⟨by first | (simp; done) | (simp; omega), fun h => by omega, hBe⟩
      · exact .inr ⟨by first | (simp; done) | (simp; omega), fun h => by omega, hBe⟩

end Go.Proofs.Ythlegfegkopdkaa
