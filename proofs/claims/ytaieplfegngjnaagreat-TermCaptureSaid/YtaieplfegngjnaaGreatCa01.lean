/- Own text, joined of: W6. The reference's 'Binds'. -/
import Derived.Test.YtaieplfegngjnaaGreatOr23
import Derived.Test.YtaieplfegngjnaaGreatOr28
import Derived.Test.YtaieplfegngjnaaGreatOr29

namespace Go.Proofs.YtaieplfegngjnaaGreat
open Go.RowKit Go.Shelf Go.Sort

/-- What is asked of the binding j. -/
def BindAt (s : Sg) (L : List (Int × Tm)) (j : Nat) : Prop := ∃ h : j < L.length, inB L[j].1 0 19 = true ∧ formedB s L[j].2 = true ∧ (0 < j → (L[j - 1]'(by omega)).1 < L[j].1)
theorem lf_of (s : Sg) : ∀ (L : List (Int × Tm)) (b : Int), (∀ h : 0 < L.length, b < L[0].1) → (∀ j, j < L.length → BindAt s L j) → lfB s b L = true
  | [], _, _, _ => by rw [lfB]
  | x :: xs, b, h0, h => by
    rw [lfB_cons]
    obtain ⟨_, h1, h2, _⟩ := h 0 (by simp)
    simp only [List.getElem_cons_zero] at h1 h2
    have hb := h0 (by simp)
    simp only [List.getElem_cons_zero] at hb
    rw [h1, h2, decide_eq_true hb, lf_of s xs x.1 (fun h' => by
      obtain ⟨_, _, _, q⟩ := h 1 (by simpa using h')
      have := q (by omega)
      simpa using this) (fun j hj => by
      obtain ⟨_, q1, q2, q3⟩ := h (j + 1) (by simpa using hj)
      refine ⟨hj, by simpa using q1, by simpa using q2, fun hp => ?_⟩
      have q := q3 (by omega)
      obtain ⟨i, rfl⟩ : ∃ i, j = i + 1 := ⟨j - 1, by omega⟩
      simpa using q)]
    rfl

set_option maxRecDepth 100000 in
set_option maxHeartbeats 2000000 in
theorem Binds_any (s : Sg) (L : List (Int × Tm)) (n₀ : Nat) (w : World) (ac : Option Addr) (lc cc : Nat) (af : Option Addr) (lf cf : Nat) (a : Option Addr) (l c : Nat) (hS : IsSg n₀ w s ac lc cc af lf cf) (hA : IsBinds n₀ w L a l c) (hn : n₀ ≤ w.heap.size) :
    Calls Tryz.prog 27 #[.agg #[.slice ac lc cc, .slice af lf cf], .slice a l c] w fun e w' => ∃ b, e = .returned (.bool b) ∧ (b = true → lfB s (-1) L = true) ∧ Below w.heap.size w w' := by
  obtain ⟨rfl, ha1, ha2, hka⟩ := hA
  obtain ⟨w0, hw0⟩ : ∃ W, W = w.alloc (.cells #[.slice ac lc cc, .slice af lf cf] 24) := ⟨_, rfl⟩
  have hB0 : Below w.heap.size w w0 := by rw [hw0]; exact bal _ _
  have hz0 : w0.heap.size = w.heap.size + 1 := by rw [hw0]; simp
  have hbs : w0.heap[w.heap.size]? = some (.cells #[.slice ac lc cc, .slice af lf cf] 24 (0, 0)) := by rw [hw0]; exact heap_new'' _ _
  by_cases hlen : 20 < L.length
  · have o1 : (20 : Int) < (L.length : Int) := by omega
    replace hB0 := Lib.hid hB0
    rw [hw0] at hB0
    clear hka hS hbs hw0 hz0
    go_enter Tryz.func27, Tryz.ntmps27
    go_wp2_with fail
    go_ret
    exact ⟨false, rfl, (fun h => by cases h), hB0.out⟩
  have o0 : ¬ (20 : Int) < (L.length : Int) := by omega
  replace hS := Lib.hid hS
  replace hbs := Lib.hid hbs
  replace hB0 := Lib.hid hB0
  replace hz0 := Lib.hid hz0
  have hst0 : Hid (Below w0.heap.size w0 w0) := Lib.hid (Below.refl _ _)
  have hw0' := Lib.hid hw0
  rw [hw0] at hst0
  clear hw0
  go_enter Tryz.func27, Tryz.ntmps27
  go_wp2_with fail
  go_loopw [5] (fun i wi => ∃ k : Nat, k ≤ L.length ∧ i = .int .i64 k ∧ Hid (Below w0.heap.size w0 wi) ∧ Hid (∀ j, j < k → BindAt s L j)) (fun i _ => L.length - (intOf i).toNat)
  case atStart => exact ⟨0, by omega, rfl, by rw [hw0'.out]; exact hst0, Lib.hid (fun j h => by omega)⟩
  case round =>
    obtain ⟨k, hk, rfl, hb, hv⟩ := hrel
    have hz := hb.out.size
    have hbw := Lib.hid (Below.up hB0.out hb.out)
    by_cases hlt : k < L.length
    · have o1 : (k : Int) < (L.length : Int) := by omega
      rcases hka with hka | ⟨b1, off1, rfl, hbn1, hks1⟩
      · rw [hka] at hlt; simp at hlt
      obtain ⟨p0, a', l', c', p1, p2⟩ := hks1 k hlt
      have hbn := hbw.out.mono hn
      have p0' := (hbn.cell (p := ⟨b1, off1 + k * 4, none⟩) (by simpa using hbn1)).trans p0
      obtain ⟨x0, x1, x2⟩ := p1.below hbn hbn1
      have hbsw := (hb.out.block w.heap.size (by have := hz0.out; omega)).trans hbs.out
      obtain ⟨⟨y0, y1⟩, -⟩ := c2_cells hbsw
      have hIn := Lib.hid (fun dd os => ((in_any L[k].1 0 19 (grow (redrawn wr dd) os)).mono (R' := fun e w' => e = .returned (.bool (inB L[k].1 0 19)) ∧ Below (grow (redrawn wr dd) os).heap.size (grow (redrawn wr dd) os) w') (fun e w' h => ⟨h.1, by rw [← h.2]; exact Below.refl _ _⟩)).regrown_of)
      have hTm := Lib.hid (fun dd os => (Term_any s L[k].2 n₀ (grow (redrawn wr dd) os) ac lc cc af lf cf a' l' c' (hS.out.below ((Below.up hbw.out (below_regrown wr dd os)).mono hn)) (IsTm.below ((Below.up hbw.out (below_regrown wr dd os)).mono hn) _ p2) (by have := (below_regrown wr dd os).size; have := hz0.out; omega)).regrown_of)
      have d0 := fun dd os => cell_regrown p0' dd os
      have d2 := fun dd os => cell_regrown x0 dd os
      have d3 := fun dd os => cell_regrown x1 dd os
      have d4 := fun dd os => cell_regrown x2 dd os
      have d5 := fun dd os => cell_regrown y0 dd os
      have d6 := fun dd os => cell_regrown y1 dd os
      -- the binding before this one
      have hprev : ∀ h : 0 < k, wr.cell? ⟨b1, off1 + (k - 1) * 4, none⟩ = some (.int .i64 (L[k - 1]'(by omega)).1) := fun h => by
        obtain ⟨r0, -⟩ := hks1 (k - 1) (by omega)
        exact (hbn.cell (p := ⟨b1, off1 + (k - 1) * 4, none⟩) (by simpa using hbn1)).trans r0
      replace hprev := Lib.hid hprev
      replace hv := Lib.hid hv
      clear hks1 p0 p1 p2 p0' x0 x1 x2 y0 y1 hbsw hbn
      obtain ⟨v1, hv1⟩ : ∃ x, x = inB L[k].1 0 19 := ⟨_, rfl⟩
      obtain ⟨v2, hv2⟩ : ∃ x, x = formedB s L[k].2 := ⟨_, rfl⟩
      rw [← hv1] at hIn
      rw [← hv2] at hTm
      replace hv1 := Lib.hid hv1
      replace hv2 := Lib.hid hv2
      cases v1
      · go_wp2_with fail
        refine wp_region_quiet_below (by kernel_rfl) (by kernel_rfl) ?_
        iterate 5 (quiet_step (fail))
        quiet_step (exact hIn.out _ _)
        repeat (first | go_big_quiet_step (fail) | quiet_step (fail))
        refine wpQuiet_nil ?_
        rintro _ ⟨⟨dq, osq⟩, rfl⟩
        have hb3 := Lib.hid (below_regrown wr dq osq)
        clear d0 d2 d3 d4 d5 d6 hIn hTm
        go_wp2_with fail
        go_ret
        exact ⟨false, rfl, (fun h => by cases h), Below.up hbw.out hb3.out⟩
      by_cases hk0 : k = 0
      · subst hk0
        simp only [Nat.zero_mul, Nat.add_zero] at d0 d2 d3 d4
        have hpos : Hid (v2 = true → ∀ j, j < 0 + 1 → BindAt s L j) := Lib.hid (fun h j hj => by
          obtain rfl : j = 0 := by omega
          exact ⟨hlt, by rw [← hv1.out], by rw [← hv2.out, h], fun h => by omega⟩)
        cases v2
        all_goals
          go_wp2_with fail
          refine wp_region_quiet_below (by kernel_rfl) (by kernel_rfl) ?_
          iterate 5 (quiet_step (fail))
          quiet_step (exact hIn.out _ _)
          repeat (first | go_big_quiet_step (exact hTm.out _ _) | quiet_step (exact hTm.out _ _))
          refine wpQuiet_nil ?_
          rintro _ ⟨⟨dq, osq⟩, rfl⟩
          have hb3 := Lib.hid (below_regrown wr dq osq)
          clear d0 d2 d3 d4 d5 d6 hIn hTm
          go_wp2_with fail
        · go_ret
          exact ⟨false, rfl, (fun h => by cases h), Below.up hbw.out hb3.out⟩
        · go_roundw
          case rel => exact ⟨0 + 1, by omega, by go_num, Lib.hid (Below.up hb.out hb3.out), Lib.hid (hpos.out (by first | rfl | trivial))⟩
          case measure => simp [intOf]; omega
      · have hkp : 0 < k := by omega
        have o2 : (0 : Int) < (k : Int) := by omega
        have o3 : IntKind.i64.wrap ((k : Int) - 1) = ((k - 1 : Nat) : Int) := by rw [IntWalk.i64_in _ (by omega)]; omega
        have o4 : ((k - 1 : Nat) : Int) < (L.length : Int) := by omega
        have o5 : k - 1 < L.length := by omega
        have d7 := fun dd os => cell_regrown (hprev.out hkp) dd os
        obtain ⟨q, hq⟩ : ∃ x, x = (L[k - 1]'(by omega)).1 := ⟨_, rfl⟩
        rw [← hq] at d7
        obtain ⟨j, hj⟩ : ∃ j, j = k - 1 := ⟨_, rfl⟩
        rw [← hj] at d7 o3 o4 o5
        replace hq := Lib.hid hq
        replace hj := Lib.hid hj
        by_cases hle : L[k].1 ≤ q
        · have o6 : decide (L[k].1 ≤ q) = true := decide_eq_true hle
          go_wp2_with fail
          refine wp_region_quiet_below (by kernel_rfl) (by kernel_rfl) ?_
          iterate 5 (quiet_step (fail))
          quiet_step (exact hIn.out _ _)
          repeat (first | go_big_quiet_step (fail) | quiet_step (fail))
          refine wpQuiet_nil ?_
          rintro _ ⟨⟨dq, osq⟩, rfl⟩
          have hb3 := Lib.hid (below_regrown wr dq osq)
          clear d0 d2 d3 d4 d5 d6 d7 hIn hTm
          go_wp2_with fail
          go_ret
          exact ⟨false, rfl, (fun h => by cases h), Below.up hbw.out hb3.out⟩
        · have o6 : decide (L[k].1 ≤ q) = false := decide_eq_false hle
          have hpos : Hid (v2 = true → ∀ j, j < k + 1 → BindAt s L j) := Lib.hid (fun h j hj => by
            by_cases e : j = k
            · subst e
              exact ⟨hlt, by rw [← hv1.out], by rw [← hv2.out, h], fun _ => by have := hq.out; omega⟩
            · exact hv.out.out j (by omega))
          cases v2
          all_goals
            go_wp2_with fail
            refine wp_region_quiet_below (by kernel_rfl) (by kernel_rfl) ?_
            iterate 5 (quiet_step (fail))
            quiet_step (exact hIn.out _ _)
            repeat (first | go_big_quiet_step (exact hTm.out _ _) | quiet_step (exact hTm.out _ _))
            refine wpQuiet_nil ?_
            rintro _ ⟨⟨dq, osq⟩, rfl⟩
            have hb3 := Lib.hid (below_regrown wr dq osq)
            clear d0 d2 d3 d4 d5 d6 d7 hIn hTm
            go_wp2_with fail
          · go_ret
            exact ⟨false, rfl, (fun h => by cases h), Below.up hbw.out hb3.out⟩
          · go_roundw
            case rel => exact ⟨k + 1, by omega, by go_num, Lib.hid (Below.up hb.out hb3.out), Lib.hid (hpos.out (by first | rfl | trivial))⟩
            case measure => simp [intOf]; omega
    · have hke : k = L.length := by omega
      have hend : Hid (lfB s (-1) L = true) := Lib.hid (lf_of s L (-1) (fun h => by
        obtain ⟨_, q1, _, _⟩ := hv.out 0 (by omega)
        unfold inB at q1
        simp only [Bool.and_eq_true, decide_eq_true_eq] at q1
        omega) (fun j hj => hv.out j (by omega)))
      subst hke
      clear hka hv
      go_wp2_with fail
      go_ret
      exact ⟨true, rfl, (fun _ => hend.out), hbw.out⟩

end Go.Proofs.YtaieplfegngjnaaGreat
