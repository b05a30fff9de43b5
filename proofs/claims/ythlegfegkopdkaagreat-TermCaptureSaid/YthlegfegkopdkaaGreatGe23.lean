/- Own text, joined of: S7. The closures that recover: of putList and of mostGeneral. -/
import Derived.Defers
import Derived.Recover
import Derived.RegionTactic
import Derived.ChangeAlike
import Derived.Test.YthlegfegkopdkaaGreatGe21

namespace Go.Proofs.YthlegfegkopdkaaGreat
open Go.RowKit Go.Shelf

theorem assert_nil (w : World) : (Instr.typeAssert .nilIface 20 120 true).run Tryz.prog w = .ok (.tuple #[.agg #[.int .i64 0], .bool false]) w := by kernel_rfl
theorem assert_gave (n : Int) (w : World) : (Instr.typeAssert (.iface 120 (.agg #[.int .i64 n])) 20 120 true).run Tryz.prog w = .ok (.tuple #[.agg #[.int .i64 n], .bool true]) w := by kernel_rfl

theorem catch95_idle (p q : Addr) (w : World) :
    CallsD Tryz.prog 95 #[.pointer (some p), .pointer (some q)] .returning w fun e u' w' => e = .returned (.tuple #[]) ∧ u' = .returning ∧ Below w.heap.size w w' := by
  have ha := assert_nil
  refine callsD_of_wpS Tryz.func95 rfl fun c₀ cs hu => ?_
  apply wpS_seq
  apply wpS_region
  simp [wpOpsS, go_sem, recoverD, hu, Tryz.ntmps95, Exit.thenS, ha]
  apply wpS_seq
  apply wpS_region
  simp [wpOpsS, go_sem, Exit.thenS]
  refine wpS_cond (t := false) (by simp [Act.eval, Array.replicate]) ?_
  simp only [Bool.false_eq_true, if_false]
  refine wpS_of_wp (wp_skip ?_)
  have hb : Below w.heap.size w (w.alloc (Obj.cells #[Value.int IntKind.i64 0] 120)) := (Below.refl _ _).alloc (Nat.le_refl _) _
  cases c₀
  simp_all [bodyPostS, results, Tryz.results95]

theorem catch108_idle (p q : Addr) (w : World) :
    CallsD Tryz.prog 108 #[.pointer (some p), .pointer (some q)] .returning w fun e u' w' => e = .returned (.tuple #[]) ∧ u' = .returning ∧ Below w.heap.size w w' := by
  have ha := assert_nil
  refine callsD_of_wpS Tryz.func108 rfl fun c₀ cs hu => ?_
  apply wpS_seq
  apply wpS_region
  simp [wpOpsS, go_sem, recoverD, hu, Tryz.ntmps108, Exit.thenS, ha]
  apply wpS_seq
  apply wpS_region
  simp [wpOpsS, go_sem, Exit.thenS]
  refine wpS_cond (t := false) (by simp [Act.eval, Array.replicate]) ?_
  simp only [Bool.false_eq_true, if_false]
  refine wpS_of_wp (wp_skip ?_)
  have hb : Below w.heap.size w (w.alloc (Obj.cells #[Value.int IntKind.i64 0] 120)) := (Below.refl _ _).alloc (Nat.le_refl _) _
  cases c₀
  simp_all [bodyPostS, results, Tryz.results108]

theorem catch108_panicking (B C : Nat) (x y : Value) (n : Int) (older : List PanicEntry) (w : World) (hx : w.cell? ⟨B, 0, none⟩ = some x) (hxz : w.frozen? ⟨B, 0, none⟩ = false) (hy : w.cell? ⟨C, 0, none⟩ = some y) (hyz : w.frozen? ⟨C, 0, none⟩ = false) (hne : B ≠ C) (hB : B < w.heap.size) (hC : C < w.heap.size) :
    CallsD Tryz.prog 108 #[.pointer (some ⟨B, 0, none⟩), .pointer (some ⟨C, 0, none⟩)] (.panicking ({ v := .iface 120 (.agg #[.int .i64 n]), recovered := false } :: older)) w fun e u' w' =>
      e = .returned (.tuple #[]) ∧ u' = .panicking ({ v := .iface 120 (.agg #[.int .i64 n]), recovered := true } :: older) ∧
      w'.Alike (((w.alloc (.cells #[.int .i64 n] 120)).setCell ⟨B, 0, none⟩ (.slice none 0 0)).setCell ⟨C, 0, none⟩ (.int .i64 n)) := by
  have ha := assert_gave
  refine callsD_of_wpS Tryz.func108 rfl fun c₀ cs hu => ?_
  apply wpS_seq
  apply wpS_region
  simp [wpOpsS, go_sem, recoverD, hu, Tryz.ntmps108, Exit.thenS, ha]
  apply wpS_seq
  apply wpS_region
  simp [wpOpsS, go_sem, Exit.thenS]
  refine wpS_cond (t := true) (by simp [Act.eval, Array.replicate]) ?_
  simp only [if_true]
  refine wpS_of_wp ?_
  obtain ⟨W, hW⟩ : ∃ W, W = w.alloc (Obj.cells #[Value.int IntKind.i64 n] 120) := ⟨_, rfl⟩
  have hn0 : W.cell? ⟨w.heap.size, 0, none⟩ = some (.int .i64 n) := by rw [hW]; simp [go_sem]
  have e1 : W.cell? ⟨B, 0, none⟩ = some x := by rw [hW]; exact alloc_cell hx
  have e2 : W.cell? ⟨C, 0, none⟩ = some y := by rw [hW]; exact alloc_cell hy
  have e3 : W.frozen? ⟨B, 0, none⟩ = false := by rw [hW, ((Below.refl _ _).alloc (Nat.le_refl _) _ : Below w.heap.size w _).frozen hB]; exact hxz
  have e4 : W.frozen? ⟨C, 0, none⟩ = false := by rw [hW, ((Below.refl _ _).alloc (Nat.le_refl _) _ : Below w.heap.size w _).frozen hC]; exact hyz
  have q1 : ¬ w.heap.size = B := by omega
  have q2 : ¬ w.heap.size = C := by omega
  have q3 : ¬ C = B := fun h => hne h.symm
  rw [← hW]
  replace hW := Lib.hid hW
  clear ha
  go_region
  all_goals
    cases c₀
    simp [bodyPostS, results, Tryz.results108]
    exact ⟨rfl, rfl, rfl⟩

end Go.Proofs.YthlegfegkopdkaaGreat
