/- Own text, joined of: D3.  -/
import Derived.Test.YthlegfegkopdkaaProg
import Derived.Laws.StructEq
import Derived.Shelf.Abstract
import Derived.RangeFuncNested
import Derived.RangeFuncLeaves
import Derived.RangeFuncBound
import Derived.RangeFuncBox
import Derived.Laws.Runes
import Derived.Laws.RangeString
import Derived.Laws.RangeAny
import Derived.BigQuiet
import Derived.Deep.Draws
import Derived.Deep.QuietTactic
import Derived.Outline
import Derived.LoopTactic
import Derived.IntWalk
import Derived.Handy
import Derived.StillTailTactics
import Derived.Test.YthlegfegkopdkaaKn10
import Derived.Test.YthlegfegkopdkaaKn13

namespace Go.Proofs.Ythlegfegkopdkaa
open Go.RowKit Go.Shelf

def OkNames : List ByteArray → List Nm → Prop
  | _, [] => True
  | seen, x :: r => (x.1 ∉ seen ∧ nameB x.1 = true ∧ 0 ≤ x.2 ∧ x.2 ≤ 4) ∧ OkNames (x.1 :: seen) r
def nmsR : List Nm → List ByteArray → List ByteArray
  | [], seen => seen
  | x :: r, seen => nmsR r (x.1 :: seen)
theorem nmsR_snoc (x : Nm) : ∀ (a : List Nm) (seen : List ByteArray), nmsR (a ++ [x]) seen = x.1 :: nmsR a seen
  | [], _ => rfl
  | y :: r, seen => by simp only [List.cons_append, nmsR]; exact nmsR_snoc x r (y.1 :: seen)
theorem OkNames_append : ∀ (a b : List Nm) (seen : List ByteArray), OkNames seen (a ++ b) ↔ OkNames seen a ∧ OkNames (nmsR a seen) b
  | [], b, seen => by simp [OkNames, nmsR]
  | x :: r, b, seen => by simp only [List.cons_append, OkNames, nmsR, OkNames_append r b (x.1 :: seen)]; exact and_assoc.symm
theorem OkNames_snoc (a : List Nm) (x : Nm) : OkNames [] (a ++ [x]) ↔ OkNames [] a ∧ (x.1 ∉ nmsR a [] ∧ nameB x.1 = true ∧ 0 ≤ x.2 ∧ x.2 ≤ 4) := by
  rw [OkNames_append]; simp [OkNames]
theorem OkNames_prefix {a b : List Nm} (h : OkNames [] (a ++ b)) : OkNames [] a := ((OkNames_append a b []).1 h).1

/-- One slice of names, behind some that were met. -/
theorem names_any (B Bm bm : Nat) (before : List Nm) (ds : List Nm) (a : Option Addr) (l c n₀ : Nat) (w W0 : World) (hI : IsNames n₀ w ds a l c) (hn : n₀ ≤ B) (hB : B ≤ Bm) (hb : B ≤ bm) (hne : Bm ≠ bm) (hlen : before.length + ds.length ≤ 1000)
    (hW0 : Below B w W0) (hBW : B ≤ w.heap.size) (hok : OkNames [] before) (hm : MapV Try.prog 9 W0 bm before.length (seenF (nmsR before []))) (hbx : Boxed W0 Bm 113 (.map (some bm))) :
    Calls Try.prog 75 #[.slice a l c, .func (.func 73) #[] #[.pointer (some ⟨Bm, 0, none⟩)]] W0 fun e W' =>
      (e = .returned (.bool true) ∧ OkNames [] (before ++ ds) ∧ MapV Try.prog 9 W' bm (before.length + ds.length) (seenF (nmsR (before ++ ds) [])) ∧ Boxed W' Bm 113 (.map (some bm)) ∧ Below B w W') ∨
      (e = .returned (.bool false) ∧ ¬ OkNames [] (before ++ ds) ∧ Below B w W') := by
  obtain ⟨rfl, h1, h2, hk⟩ := hI
  refine (allNames_any 73 #[.pointer (some ⟨Bm, 0, none⟩)] (enters_of Try.func73 (by kernel_rfl) rfl) ds a c h1 h2
    (fun k W => OkNames [] (before ++ ds.take k) ∧ MapV Try.prog 9 W bm (before.length + k) (seenF (nmsR (before ++ ds.take k) [])) ∧ Boxed W Bm 113 (.map (some bm)) ∧ Below B w W)
    (fun W => ¬ OkNames [] (before ++ ds) ∧ Below B w W)
    (fun k W o h => ⟨h.1, h.2.1.alloc o, h.2.2.1.alloc o, h.2.2.2.alloc (by have := h.2.2.2.size; omega) o⟩)
    (fun k W hlt h => by
      rcases hk with hk | ⟨b, off, ha, hbn, hks⟩
      · rw [hk] at hlt; simp at hlt
      · exact ⟨b, off, ha, (h.2.2.2.cell (p := ⟨b, off + k * 2, none⟩) (show b < B by omega)).trans (hks k hlt).1, (h.2.2.2.cell (p := ⟨b, off + k * 2 + 1, none⟩) (show b < B by omega)).trans (hks k hlt).2.1⟩)
    (fun k hlt W h => by
      rcases hk with hk | ⟨b, off, ha, hbn, hks⟩
      · rw [hk] at hlt; simp at hlt
      · refine (sig1_any B Bm bm (before.length + k) (nmsR (before ++ ds.take k) []) ds[k].1 ds[k].2 W (hks k hlt).2.2 hB hb hne (by omega) h.2.1 h.2.2.1).mono ?_
        have hsn := OkNames_snoc (before ++ ds.take k) ds[k]
        rw [List.append_assoc, ← List.take_succ_eq_append_getElem hlt] at hsn
        rintro e W' (⟨rfl, hg, hm', hb', hbe⟩ | ⟨rfl, hg, hbe⟩)
        · refine .inl ⟨rfl, hsn.2 ⟨h.1, hg⟩, ?_, hb', h.2.2.2.trans hbe⟩
          rw [List.take_succ_eq_append_getElem hlt, ← List.append_assoc, nmsR_snoc]
          exact hm'
        · refine .inr ⟨rfl, fun hall => hg (hsn.1 ?_).2, h.2.2.2.trans hbe⟩
          rw [← List.take_append_drop (k + 1) ds, ← List.append_assoc] at hall
          exact OkNames_prefix hall)
    W0 ⟨by simpa using hok, by simpa using hm, hbx, hW0⟩).mono ?_
  rintro e W' (⟨rfl, h⟩ | ⟨rfl, h⟩)
  · rw [List.take_length] at h; exact .inl ⟨rfl, h⟩
  · exact .inr ⟨rfl, h⟩

def sFalse : ByteArray := ⟨#[70, 97, 108, 115, 101]⟩
def sTrue : ByteArray := ⟨#[84, 114, 117, 101]⟩
def SigOk (s : Sg) : Prop := 2 ≤ s.cons.length ∧ s.cons.length ≤ 12 ∧ s.funs.length ≤ 8 ∧ s.cons[0]? = some (sFalse, 0) ∧ s.cons[1]? = some (sTrue, 0) ∧ OkNames [] (s.cons ++ s.funs)
noncomputable def sigB (s : Sg) : Bool := @decide (SigOk s) (Classical.propDecidable _)
theorem toList_inj {a b : ByteArray} (h : a.toList = b.toList) : a = b := by
  rw [ByteArray.toList_eq, ByteArray.toList_eq] at h; exact ByteArray.ext (Array.ext' h)
theorem sFalse_list : sFalse.toList = [70, 97, 108, 115, 101] := by rw [ByteArray.toList_eq]; rfl
theorem sTrue_list : sTrue.toList = [84, 114, 117, 101] := by rw [ByteArray.toList_eq]; rfl
theorem sigB_true {s : Sg} (h : SigOk s) : sigB s = true := @decide_eq_true _ (Classical.propDecidable _) h
theorem sigB_false {s : Sg} (h : ¬ SigOk s) : sigB s = false := @decide_eq_false _ (Classical.propDecidable _) h

set_option maxRecDepth 100000 in
set_option maxHeartbeats 2000000 in
theorem sigFormed_any (s : Sg) (n₀ : Nat) (w : World) (ac : Option Addr) (lc cc : Nat) (af : Option Addr) (lf cf : Nat) (hs : IsSg n₀ w s ac lc cc af lf cf) (hn : n₀ ≤ w.heap.size) :
    Calls Try.prog 49 #[.agg #[.slice ac lc cc, .slice af lf cf]] w fun e w' => e = .returned (.bool (sigB s)) ∧ Below w.heap.size w w' := by
  obtain ⟨rfl, hc1, hc2, hk⟩ := hs.cons
  obtain ⟨rfl, hf1, hf2, hkf⟩ := hs.funs
  have hb1 : Below w.heap.size w (w.alloc (.cells #[.slice ac s.cons.length cc, .slice af s.funs.length cf] 27)) := (Below.refl _ _).alloc (Nat.le_refl _) _
  by_cases h2 : 2 ≤ s.cons.length
  rotate_left
  · have hv := Lib.hid (sigB_false (s := s) (fun h => h2 h.1))
    clear hk hkf hs
    go_enter Try.func49, Try.ntmps49
    go_wp2_with fail
    go_ret
    exact ⟨by rw [hv.out]; rfl, hb1⟩
  by_cases h12 : s.cons.length ≤ 12
  rotate_left
  · have hv := Lib.hid (sigB_false (s := s) (fun h => h12 h.2.1))
    clear hk hkf hs
    go_enter Try.func49, Try.ntmps49
    go_wp2_with fail
    go_ret
    exact ⟨by rw [hv.out]; rfl, hb1⟩
  by_cases h8 : s.funs.length ≤ 8
  rotate_left
  · have hv := Lib.hid (sigB_false (s := s) (fun h => h8 h.2.2.1))
    clear hk hkf hs
    go_enter Try.func49, Try.ntmps49
    go_wp2_with fail
    go_ret
    exact ⟨by rw [hv.out]; rfl, hb1⟩
  rcases hk with hk | ⟨b, off, rfl, hbn, hks⟩
  · rw [hk] at h2; simp at h2
  have k0 := hks 0 (by omega)
  have k1 := hks 1 (by omega)
  have g0 := (hb1.cell (p := ⟨b, off + 0 * 2, none⟩) (show b < w.heap.size by omega)).trans k0.1
  have g1 := (hb1.cell (p := ⟨b, off + 0 * 2 + 1, none⟩) (show b < w.heap.size by omega)).trans k0.2.1
  have g2 := (hb1.cell (p := ⟨b, off + 1 * 2, none⟩) (show b < w.heap.size by omega)).trans k1.1
  have g3 := (hb1.cell (p := ⟨b, off + 1 * 2 + 1, none⟩) (show b < w.heap.size by omega)).trans k1.2.1
  simp only [Nat.zero_mul, Nat.one_mul, Nat.add_zero] at g0 g1 g2 g3
  have gs0 : s.cons[0]? = some s.cons[0] := List.getElem?_eq_getElem (by omega)
  have gs1 : s.cons[1]? = some s.cons[1] := List.getElem?_eq_getElem (by omega)
  replace gs0 := Lib.hid gs0
  replace gs1 := Lib.hid gs1
  by_cases e0 : s.cons[0].1.toList = [70, 97, 108, 115, 101]
  rotate_left
  · have hv := Lib.hid (sigB_false (s := s) (fun h => e0 (by have := h.2.2.2.1; rw [gs0.out] at this; injection this with this; rw [this]; exact sFalse_list)))
    clear hkf hs hks k0 k1
    go_enter Try.func49, Try.ntmps49
    go_wp2_with fail
    go_ret
    exact ⟨by rw [hv.out]; rfl, hb1⟩
  by_cases e1 : s.cons[0].2 = 0
  rotate_left
  · have hv := Lib.hid (sigB_false (s := s) (fun h => e1 (by have := h.2.2.2.1; rw [gs0.out] at this; injection this with this; rw [this])))
    clear hkf hs hks k0 k1
    go_enter Try.func49, Try.ntmps49
    go_wp2_with fail
    go_ret
    exact ⟨by rw [hv.out]; rfl, hb1⟩
  by_cases e2 : s.cons[1].1.toList = [84, 114, 117, 101]
  rotate_left
  · have hv := Lib.hid (sigB_false (s := s) (fun h => e2 (by have := h.2.2.2.2.1; rw [gs1.out] at this; injection this with this; rw [this]; exact sTrue_list)))
    clear hkf hs hks k0 k1
    go_enter Try.func49, Try.ntmps49
    go_wp2_with fail
    go_ret
    exact ⟨by rw [hv.out]; rfl, hb1⟩
  by_cases e3 : s.cons[1].2 = 0
  rotate_left
  · have hv := Lib.hid (sigB_false (s := s) (fun h => e3 (by have := h.2.2.2.2.1; rw [gs1.out] at this; injection this with this; rw [this])))
    clear hkf hs hks k0 k1
    go_enter Try.func49, Try.ntmps49
    go_wp2_with fail
    go_ret
    exact ⟨by rw [hv.out]; rfl, hb1⟩
  have hv : Hid (SigOk s ↔ OkNames [] (s.cons ++ s.funs)) := Lib.hid ⟨fun h => h.2.2.2.2.2, fun h => ⟨h2, h12, h8, by rw [gs0.out, show s.cons[0] = (sFalse, 0) from Prod.ext (toList_inj (e0.trans sFalse_list.symm)) e1], by rw [gs1.out, show s.cons[1] = (sTrue, 0) from Prod.ext (toList_inj (e2.trans sTrue_list.symm)) e3], h⟩⟩
  have hmm := @run_makeMap Try.prog
  obtain ⟨W0, hW0⟩ : ∃ W0, W0 = (((w.alloc (.cells #[.slice (some ⟨b, off, none⟩) s.cons.length cc, .slice af s.funs.length cf] 27)).alloc (.map #[] 0)).alloc (.cells #[.map (some (w.heap.size + 1))] 113)) := ⟨_, rfl⟩
  have hB0 : Below w.heap.size w W0 := by rw [hW0]; go_grown
  have hz0 : W0.heap.size = w.heap.size + 3 := by rw [hW0]; simp
  have hm0 : MapV Try.prog 9 W0 (w.heap.size + 1) 0 (seenF (nmsR [] [])) := by
    rw [hW0]
    have := (MapV.made (w.alloc (.cells #[.slice (some ⟨b, off, none⟩) s.cons.length cc, .slice af s.funs.length cf] 27)) Try.prog 9).alloc (.cells #[.map (some (w.heap.size + 1))] 113)
    rw [World.size_alloc] at this
    exact this
  have hbx0 : Boxed W0 (w.heap.size + 1 + 1) 113 (.map (some (w.heap.size + 1))) := by
    rw [hW0]
    have := Boxed.new ((w.alloc (.cells #[.slice (some ⟨b, off, none⟩) s.cons.length cc, .slice af s.funs.length cf] 27)).alloc (.map #[] 0)) 113 (.map (some (w.heap.size + 1)))
    rw [World.size_alloc, World.size_alloc] at this
    exact this
  have hbox0 : ∀ i, W0.cell? ⟨w.heap.size, i, none⟩ = (w.alloc (.cells #[.slice (some ⟨b, off, none⟩) s.cons.length cc, .slice af s.funs.length cf] 27)).cell? ⟨w.heap.size, i, none⟩ := fun i => by
    rw [hW0]
    have h1 : Below (w.heap.size + 1) (w.alloc (.cells #[.slice (some ⟨b, off, none⟩) s.cons.length cc, .slice af s.funs.length cf] 27)) (((w.alloc (.cells #[.slice (some ⟨b, off, none⟩) s.cons.length cc, .slice af s.funs.length cf] 27)).alloc (.map #[] 0)).alloc (.cells #[.map (some (w.heap.size + 1))] 113)) := ((Below.refl _ _).alloc (by simp) _).alloc (by simp) _
    exact h1.cell (p := ⟨w.heap.size, i, none⟩) (by simp)
  have f1 : W0.cell? ⟨w.heap.size, 1, none⟩ = some (.slice af s.funs.length cf) := by rw [hbox0]; go_cell
  have hC := names_any (w.heap.size + 1) (w.heap.size + 1 + 1) (w.heap.size + 1) [] s.cons (some ⟨b, off, none⟩) s.cons.length cc n₀ (w.alloc (.cells #[.slice (some ⟨b, off, none⟩) s.cons.length cc, .slice af s.funs.length cf] 27)) W0 (hs.cons.below (hb1.mono hn)) (by omega) (by omega) (by omega) (by omega) (by simp; omega)
    (by rw [hW0]; exact ((Below.refl _ _).alloc (by simp) _).alloc (by simp) _) (by simp) trivial hm0 hbx0
  have hC2 := fun (W1 : World) (hb : Below (w.heap.size + 1) (w.alloc (.cells #[.slice (some ⟨b, off, none⟩) s.cons.length cc, .slice af s.funs.length cf] 27)) W1) (hok : OkNames [] s.cons) (hm : MapV Try.prog 9 W1 (w.heap.size + 1) s.cons.length (seenF (nmsR s.cons []))) (hbx : Boxed W1 (w.heap.size + 1 + 1) 113 (.map (some (w.heap.size + 1)))) =>
    names_any (w.heap.size + 1) (w.heap.size + 1 + 1) (w.heap.size + 1) s.cons s.funs af s.funs.length cf n₀ _ W1 (hs.funs.below (hb1.mono hn)) (by omega) (by omega) (by omega) (by omega) (by omega) hb (by simp) hok hm hbx
  rw [hW0] at hC
  replace hC := Lib.hid hC
  replace hC2 := Lib.hid hC2
  clear hks hkf hs hW0 hm0 hbx0 hbox0 k0 k1
  go_enter Try.func49, Try.ntmps49
  go_wp2_with fail
  refine (hC.out).mono ?_
  rintro e W1 (⟨rfl, hok, hm, hbx, hbe⟩ | ⟨rfl, hno, hbe⟩)
  · rw [List.nil_append] at hok hm
    rw [show ([] : List Nm).length + s.cons.length = s.cons.length by simp] at hm
    have hCf := Lib.hid (hC2.out W1 hbe hok hm hbx)
    have f2 : W1.cell? ⟨w.heap.size, 1, none⟩ = some (.slice af s.funs.length cf) := by rw [hbe.cell (by simp)]; go_cell
    clear hm hbx f1 g0 g1 g2 g3
    replace hbe := Lib.hid hbe
    go_wp2_with fail
    refine (hCf.out).mono ?_
    rintro e W2 (⟨rfl, hok2, _, _, hbe2⟩ | ⟨rfl, hno2, hbe2⟩)
    · have hv' := Lib.hid (sigB_true (hv.out.2 hok2))
      replace hbe2 := Lib.hid hbe2
      clear hok hok2
      go_wp2_with fail
      go_ret
      exact ⟨by rw [hv'.out]; rfl, hb1.trans (hbe2.out.mono (by omega))⟩
    · have hv' := Lib.hid (sigB_false (fun h => hno2 (hv.out.1 h)))
      replace hbe2 := Lib.hid hbe2
      clear hok hno2
      go_wp2_with fail
      go_ret
      exact ⟨by rw [hv'.out]; rfl, hb1.trans (hbe2.out.mono (by omega))⟩
  · have hv' := Lib.hid (sigB_false (fun h => hno (by rw [List.nil_append]; exact OkNames_prefix (hv.out.1 h))))
    replace hbe := Lib.hid hbe
    clear hno
    go_wp2_with fail
    go_ret
    exact ⟨by rw [hv'.out]; rfl, hb1.trans (hbe.out.mono (by omega))⟩

end Go.Proofs.Ythlegfegkopdkaa
