/- Own text, joined of: E4.  -/
import Derived.Deep.Onto
import Derived.Test.YthlegfegkopdkaaKn18

namespace Go.Proofs.Ythlegfegkopdkaa
open Go.RowKit Go.Shelf

theorem nodeOk_range {s : Sg} {op n : Int} {k : Nat} (h : nodeOk s op n k = true) : ((op = 1 ∨ op = 8) → 0 ≤ n ∧ n < 20) ∧ (op = 1 → k = 0) ∧ (op = 8 → k = 2) := by
  refine ⟨?_, ?_, ?_⟩
  · rintro (rfl | rfl)
    · rw [nodeOk_1] at h; simp [inB] at h; omega
    · rw [nodeOk_8] at h; simp [inB] at h; omega
  · rintro rfl; rw [nodeOk_1] at h; simp at h; exact h.2
  · rintro rfl; rw [nodeOk_8] at h; simp at h; exact h.2
mutual
theorem okV_of {s : Sg} : ∀ (t : Tm), nodesOk s t = true → OkV t
  | .mk op n ks, h => by
    rw [nodesOk, Bool.and_eq_true] at h
    obtain ⟨h1, h2, h3⟩ := nodeOk_range h.1
    rw [OkV]
    exact ⟨h1, fun e => List.length_eq_zero_iff.1 (h2 e), h3, okVs_of ks h.2⟩
theorem okVs_of {s : Sg} : ∀ (ks : List Tm), nodesOks s ks = true → OkVs ks
  | [], _ => by simp [OkVs]
  | t :: ts, h => by
    rw [nodesOks, Bool.and_eq_true] at h
    rw [OkVs]
    exact ⟨okV_of t h.1, okVs_of ts h.2⟩
end
theorem OkV.formed {s : Sg} {t : Tm} (h : formedB s t = true) : OkV t := by
  rw [formedB_eq, Bool.and_eq_true] at h; exact okV_of t h.2
theorem OkV.checked {s : Sg} {ds : List DT} {d : DT} (h : checkB s ds = true) (hd : d ∈ ds) : OkV d.tm := by
  unfold checkB at h
  rw [Bool.and_eq_true, List.all_eq_true] at h
  exact OkV.formed (h.2 d hd)

/-- The free variables of an expression that is formed. -/
noncomputable def varsL (s : Sg) (d : DT) : List Nat := if checkB s [d] = true then listTo (fvT d.tm) 20 else []

set_option maxRecDepth 100000 in
set_option maxHeartbeats 1000000 in
/-- 'Vars'. -/
theorem Vars_any (s : Sg) (d : DT) (n₀ : Nat) (w : World) (ac : Option Addr) (lc cc : Nat) (af : Option Addr) (lf cf : Nat) (hs1 : 1 + d.size ≤ 1000000) (hn : n₀ ≤ w.heap.size) (hS : IsSg n₀ w s ac lc cc af lf cf) (hL1 : Lies n₀ w d) :
    Calls Try.prog 35 #[.agg #[.slice ac lc cc, .slice af lf cf], .agg #[.int .i64 d.op, .int .i64 d.n, .slice d.a d.l d.c]] w fun e w' =>
      ∃ v, e = .returned (.tuple #[v, .int .i64 (errOf (checkB s [d]))]) ∧ w'.ownsRow w.heap.size 3 1 v (varsL s d).length (natVals (varsL s d)) ∧ (v = .slice none 0 0 ↔ varsL s d = []) ∧ Below w.heap.size w w' := by
  obtain ⟨W0, hW0⟩ : ∃ W0, W0 = (w.alloc (bs 27 ac lc cc af lf cf)).alloc (bx d) := ⟨_, rfl⟩
  have hB0 : Below w.heap.size w W0 := by rw [hW0]; go_grown
  have hz0 : W0.heap.size = w.heap.size + 1 + 1 := by rw [hW0]; simp
  have hl1 := hL1.below (hB0.mono hn)
  have hC := Check_any s d n₀ W0 ac lc cc af lf cf hs1 (by omega) (hS.below (hB0.mono hn)) hl1
  have a0 : W0.cell? ⟨w.heap.size + 1, 0, none⟩ = some (.int .i64 d.op) := by rw [hW0]; go_cell
  have a1 : W0.cell? ⟨w.heap.size + 1, 1, none⟩ = some (.int .i64 d.n) := by rw [hW0]; go_cell
  have a2 : W0.cell? ⟨w.heap.size + 1, 2, none⟩ = some (.slice d.a d.l d.c) := by rw [hW0]; go_cell
  cases hv : checkB s [d]
  · rw [hv] at hC
    have hv1 : Hid (varsL s d = []) := Lib.hid (by unfold varsL; rw [hv]; rfl)
    rw [hW0] at hC
    replace hC := Lib.hid hC
    have he : errOf false = 2 := rfl
    clear a0 a1 a2 hl1 hL1 hS hv
    go_enter Try.func35, Try.ntmps35
    go_wp2_with (go_at_call 19; refine (hC.out).mono ?_; rintro e w1 ⟨rfl, hbe⟩)
    go_ret2
    rw [hW0] at hB0
    exact ⟨_, rfl, by rw [hv1.out]; exact World.ownsRow_nil _ _ _ _, by rw [hv1.out]; simp, hB0.trans (hbe.mono (by simp; omega))⟩
  · have hO := OkV.checked hv (List.mem_singleton.2 rfl)
    have hF := fun (W : World) (hb : Below W0.heap.size W0 W) => freeVars_any d.size d n₀ W (Nat.le_refl _) (by have := hb.size; omega) (hl1.below (hb.mono (by omega))) hO
    rw [hv] at hC
    have hv1 : Hid (varsL s d = listTo (fvT d.tm) 20) := Lib.hid (by unfold varsL; rw [hv]; rfl)
    obtain ⟨F, hFe⟩ : ∃ F, F = fvT d.tm := ⟨_, rfl⟩
    rw [← hFe] at hF hv1
    have hLs := fun (W : World) => list_any F W
    rw [hW0] at hC
    replace hC := Lib.hid hC
    replace hF := Lib.hid hF
    replace hLs := Lib.hid hLs
    have he : errOf true = 0 := rfl
    clear hl1 hL1 hS hv hFe hO
    go_enter Try.func35, Try.ntmps35
    go_wp2_with (first
      | (go_at_call 19; refine (hC.out).mono ?_; rintro e w1 ⟨rfl, hbe⟩
         have hb2 := Lib.hid (show Below W0.heap.size W0 w1 from by rw [hW0]; exact hbe)
         have a0' := (hb2.out.cell (p := ⟨w.heap.size + 1, 0, none⟩) (by simp; omega)).trans a0
         have a1' := (hb2.out.cell (p := ⟨w.heap.size + 1, 1, none⟩) (by simp; omega)).trans a1
         have a2' := (hb2.out.cell (p := ⟨w.heap.size + 1, 2, none⟩) (by simp; omega)).trans a2)
      | (go_at_call 58; refine (hF.out _ hb2.out).mono ?_; rintro e w2 ⟨rfl, hbe2⟩)
      | (go_at_call 59; refine (hLs.out _).mono ?_; rintro e w3 ⟨v, rfl, hown, hnil, hbe3⟩))
    go_ret2
    have h1 := hb2.out.size
    have h2 := hbe2.size
    exact ⟨_, rfl, by rw [hv1.out]; exact hown.mono (by omega), by rw [hv1.out]; exact hnil, hB0.trans ((hb2.out.mono (by omega)).trans ((hbe2.mono (by omega)).trans (hbe3.mono (by omega))))⟩

end Go.Proofs.Ythlegfegkopdkaa
