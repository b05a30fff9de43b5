/- Own text, joined of: C5.  -/
import Derived.Test.YthlegfegkopdkaaProg
import Derived.BigQuiet
import Derived.Deep.Draws
import Derived.Deep.QuietTactic
import Derived.Outline
import Derived.LoopTactic
import Derived.IntWalk
import Derived.Handy
import Derived.StillTailTactics
import Derived.Test.YthlegfegkopdkaaKn04

namespace Go.Proofs.Ythlegfegkopdkaa
open Go.RowKit

theorem beq_l0 (l : Nat) : ((l : Int) == 0) = decide (l = 0) := by rw [Bool.eq_iff_iff]; simp
theorem beq_l2 (l : Nat) : ((l : Int) == 2) = decide (l = 2) := by rw [Bool.eq_iff_iff]; simp; omega

theorem isVar_any (n : Int) (w : World) : Calls Try.prog 42 #[.int .i64 n] w fun e w' => e = .returned (.bool (inB n 0 19)) ∧ w = w' := by
  by_cases h : 0 ≤ n
  · go_enter Try.func42, Try.ntmps42
    go_wp2
    go_ret
    exact ⟨by unfold inB; simp [h]; omega, rfl⟩
  · go_enter Try.func42, Try.ntmps42
    go_wp2
    go_ret
    exact ⟨by unfold inB; simp; omega, rfl⟩

theorem isFun_any (w : World) (ac : Option Addr) (lc cc : Nat) (af : Option Addr) (lf cf : Nat) (n : Int) :
    Calls Try.prog 93 #[.agg #[.slice ac lc cc, .slice af lf cf], .int .i64 n] w fun e w' => e = .returned (.bool (inB n 0 (lf - 1))) ∧ w' = w.alloc (.cells #[.slice ac lc cc, .slice af lf cf] 91) := by
  by_cases h : 0 ≤ n
  · go_enter Try.func93, Try.ntmps93
    go_wp2
    go_ret
    exact ⟨by unfold inB; simp [h]; omega, rfl⟩
  · go_enter Try.func93, Try.ntmps93
    go_wp2
    go_ret
    exact ⟨by unfold inB; simp; omega, rfl⟩

theorem nodeOk_1 (s : Sg) (n : Int) (k : Nat) : nodeOk s 1 n k = (inB n 0 19 && decide (k = 0)) := by rw [Bool.and_comm]; simp [nodeOk]
theorem nodeOk_2 (s : Sg) (n : Int) (k : Nat) : nodeOk s 2 n k = (inB n (-1000000) 1000000 && decide (k = 0)) := by rw [Bool.and_comm]; simp [nodeOk]
theorem nodeOk_8 (s : Sg) (n : Int) (k : Nat) : nodeOk s 8 n k = (inB n 0 19 && decide (k = 2)) := by rw [Bool.and_comm]; simp [nodeOk]
theorem nodeOk_two (s : Sg) (op n : Int) (k : Nat) (h : 6 ≤ op) (h' : op ≤ 15) (h8 : op ≠ 8) : nodeOk s op n k = (decide (n = 0) && decide (k = 2)) := by
  rw [Bool.and_comm]; unfold nodeOk; rw [if_neg (by omega), if_neg (by omega), if_neg (by omega), if_neg (by omega), if_neg (by omega), if_neg (by omega), if_pos (by omega)]

set_option maxHeartbeats 1000000 in
theorem g_variable (s : Sg) (w : World) (ac : Option Addr) (lc cc : Nat) (af : Option Addr) (lf cf : Nat) (n : Int) (a : Option Addr) (l c : Nat) :
    Calls Try.prog 66 #[.agg #[.slice ac lc cc, .slice af lf cf], .agg #[.int .i64 1, .int .i64 n, .slice a l c]] w fun e w' => e = .returned (.bool (nodeOk s 1 n l)) ∧ Below w.heap.size w w' := by
  have hd := Lib.hid (nodeOk_1 s n l)
  go_enter Try.func66, Try.ntmps66
  go_wp2_with (go_at_call 42; refine (isVar_any _ _).mono ?_; rintro e w' ⟨rfl, rfl⟩)
  all_goals
    go_ret
    refine ⟨?_, two_boxes _ _ _⟩
    rw [hd.out]
    first | (simp [*]; done) | (simp [*]; rfl) | (simp [*]; exact beq_l0 _) | (simp [*]; exact beq_l2 _) | (simp [*]; omega)

set_option maxHeartbeats 1000000 in
theorem g_let (s : Sg) (w : World) (ac : Option Addr) (lc cc : Nat) (af : Option Addr) (lf cf : Nat) (n : Int) (a : Option Addr) (l c : Nat) :
    Calls Try.prog 72 #[.agg #[.slice ac lc cc, .slice af lf cf], .agg #[.int .i64 8, .int .i64 n, .slice a l c]] w fun e w' => e = .returned (.bool (nodeOk s 8 n l)) ∧ Below w.heap.size w w' := by
  have hd := Lib.hid (nodeOk_8 s n l)
  go_enter Try.func72, Try.ntmps72
  go_wp2_with (go_at_call 42; refine (isVar_any _ _).mono ?_; rintro e w' ⟨rfl, rfl⟩)
  all_goals
    go_ret
    refine ⟨?_, two_boxes _ _ _⟩
    rw [hd.out]
    first | (simp [*]; done) | (simp [*]; rfl) | (simp [*]; exact beq_l0 _) | (simp [*]; exact beq_l2 _) | (simp [*]; omega)

set_option maxHeartbeats 1000000 in
theorem g_integer (s : Sg) (w : World) (ac : Option Addr) (lc cc : Nat) (af : Option Addr) (lf cf : Nat) (n : Int) (a : Option Addr) (l c : Nat) :
    Calls Try.prog 67 #[.agg #[.slice ac lc cc, .slice af lf cf], .agg #[.int .i64 2, .int .i64 n, .slice a l c]] w fun e w' => e = .returned (.bool (nodeOk s 2 n l)) ∧ Below w.heap.size w w' := by
  have hd := Lib.hid (nodeOk_2 s n l)
  go_enter Try.func67, Try.ntmps67
  go_wp2
  all_goals
    go_ret
    refine ⟨?_, two_boxes _ _ _⟩
    rw [hd.out]
    unfold inB
    first | (simp [*]; done) | (simp [*]; rfl) | (simp [*]; exact beq_l0 _) | (simp [*]; exact beq_l2 _) | (simp [*]; omega)

set_option maxHeartbeats 1000000 in
theorem g_two (s : Sg) (w : World) (ac : Option Addr) (lc cc : Nat) (af : Option Addr) (lf cf : Nat) (n : Int) (a : Option Addr) (l c : Nat) (op : Int) (h : 6 ≤ op) (h' : op ≤ 15) (h8 : op ≠ 8) :
    Calls Try.prog 71 #[.agg #[.slice ac lc cc, .slice af lf cf], .agg #[.int .i64 op, .int .i64 n, .slice a l c]] w fun e w' => e = .returned (.bool (nodeOk s op n l)) ∧ Below w.heap.size w w' := by
  have hd := Lib.hid (nodeOk_two s op n l h h' h8)
  go_enter Try.func71, Try.ntmps71
  go_wp2
  all_goals
    go_ret
    refine ⟨?_, two_boxes _ _ _⟩
    rw [hd.out]
    first | (simp [*]; done) | (simp [*]; rfl) | (simp [*]; exact beq_l0 _) | (simp [*]; exact beq_l2 _) | (simp [*]; omega)
theorem below_drewN (B : Nat) (w : World) (k : Nat) : Below B w (w.drewN k) := ⟨rfl, rfl, rfl, Nat.le_refl _, fun _ _ => rfl⟩

set_option maxRecDepth 100000 in
set_option maxHeartbeats 1000000 in
theorem g_constructor (s : Sg) (n₀ : Nat) (w : World) (ac : Option Addr) (lc cc : Nat) (af : Option Addr) (lf cf : Nat) (n : Int) (a : Option Addr) (l c : Nat) (hs : IsSg n₀ w s ac lc cc af lf cf) (hn : n₀ ≤ w.heap.size) :
    Calls Try.prog 68 #[.agg #[.slice ac lc cc, .slice af lf cf], .agg #[.int .i64 3, .int .i64 n, .slice a l c]] w fun e w' => e = .returned (.bool (nodeOk s 3 n l)) ∧ Below w.heap.size w w' := by
  have hd := Lib.hid (nodeOk_3 s n l)
  obtain ⟨rfl, h2, h3, hk⟩ := hs.cons
  by_cases hin : inB n 0 (s.cons.length - 1) = true
  · have hb : 0 ≤ n ∧ n ≤ s.cons.length - 1 := by simpa [inB] using hin
    obtain ⟨m, rfl⟩ := Int.eq_ofNat_of_zero_le hb.1
    have hm : m < s.cons.length := by omega
    rcases hk with hk | ⟨b, off, rfl, hbn, hks⟩
    · rw [hk] at hm; simp at hm
    obtain ⟨g1, g2, g3⟩ := hks m hm
    have g2 := (((Below.refl _ _).alloc (Nat.le_refl _) (.cells #[.slice (some ⟨b, off, none⟩) s.cons.length cc, .slice af lf cf] 91)).alloc (by simp) (.cells #[.int .i64 3, .int .i64 m, .slice a l c] 32)).cell (p := ⟨b, off + m * 2 + 1, none⟩) (show b < w.heap.size by omega) |>.trans g2
    have hv := Lib.hid (argsOf_get s.cons m hm)
    replace hin := Lib.hid hin
    have t1 : decide ((0 : Int) ≤ (m : Int)) = true := by simp
    have t2 : decide ((m : Int) < (s.cons.length : Int)) = true := by simpa using hm
    clear hks g1 hs
    go_enter Try.func68, Try.ntmps68
    go_wp2_with fail
    go_quiet (fail)
    go_wp2_with fail
    go_ret
    refine ⟨?_, (two_boxes _ _ _).trans (below_drewN _ _ _)⟩
    rw [hd.out, hin.out, hv.out]
    first | (simp; done) | (simp; rfl) | (simp [*]; done) | (simp; omega)
  · replace hin := Lib.hid (Bool.eq_false_iff.2 hin)
    have hb : n < 0 ∨ s.cons.length ≤ n := by have := hin.out; simp [inB] at this; omega
    clear hs hk
    rcases hb with hb | hb
    · have t1 : decide ((0 : Int) ≤ n) = false := by simp; omega
      go_enter Try.func68, Try.ntmps68
      go_wp2_with fail
      go_quiet (fail)
      go_wp2_with fail
      go_ret
      refine ⟨?_, (two_boxes _ _ _).trans (below_drewN _ _ _)⟩
      rw [hd.out, hin.out]
      simp
    · have t1 : decide ((0 : Int) ≤ n) = true := by simp; omega
      have t2 : decide (n < (s.cons.length : Int)) = false := by simp; omega
      go_enter Try.func68, Try.ntmps68
      go_wp2_with fail
      go_quiet (fail)
      go_wp2_with fail
      go_ret
      refine ⟨?_, (two_boxes _ _ _).trans (below_drewN _ _ _)⟩
      rw [hd.out, hin.out]
      simp

end Go.Proofs.Ythlegfegkopdkaa
