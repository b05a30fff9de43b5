/- Own text, joined of: W6 W7 N2 N3 N4 N5 Z8 W3 W4 W5 X9 Y0 Y1 Y3 Y4. The reference's 'Binds'. · The reference's 'Binds', both ways. · 'put' gives up: a node, a let's wrapper. · 'putLet' gives up. · 'putList' gives up. · 'Subst' where 'put' gives up. · What 'Subst', 'Match' and 'Unify' answer of values and formed lists: the facts of the law's calls. · The law's 'small', 'given', 'values'. · The law's 'values', and TermSorts. · TermSorts, of arguments that lie in memory. · TermGeneral, of arguments that lie in memory: what the law's calls answer. · The weight of an expression in order. · Models of variants: an expression in order stays as it is; with variables put in for variables, one for one, an expression is a variant of what it was; an expression in order is formed. · Models of what is put in: the free variables; the variables' own terms. · Models of what is put in: which variables are wanted. -/
import Derived.Test.YthlegfegkopdkaaGreatGe23
import Derived.Test.YthlegfegkopdkaaGreatGe28
import Derived.Test.YthlegfegkopdkaaGreatGe29

namespace Go.Proofs.YthlegfegkopdkaaGreat
open Go.RowKit Go.Shelf Go.Sort

/-- What is asked of the binding j. -/
def BindAt (s : Sg) (L : List (Int × Tm)) (j : Nat) : Prop := ∃ h : j < L.length, inB L[j].1 0 19 = true ∧ formedB s L[j].2 = true ∧ (0 < j → (L[j - 1]'(by omega)).1 < L[j].1)
theorem lf_of (s : Sg) : ∀ (L : List (Int × Tm)) (b : Int), (∀ h : 0 < L.length, b < L[0].1) → (∀ j, j < L.length → BindAt s L j) → lfB s b L = true
  | [], _, _, _ => by rw [lfB]
  | x :: xs, b, h0, h => by
    rw [lfB_cons]
    obtain ⟨_, h1, h2, _⟩ := h 0 (by simp)
    simp only [List.getElem_cons_zero] at h1 h2
    have hb := h0 (by simp)
    simp only [List.getElem_cons_zero] at hb
    rw [h1, h2, decide_eq_true hb, lf_of s xs x.1 (fun h' => by
      obtain ⟨_, _, _, q⟩ := h 1 (by simpa using h')
      have := q (by omega)
      simpa using this) (fun j hj => by
      obtain ⟨_, q1, q2, q3⟩ := h (j + 1) (by simpa using hj)
      refine ⟨hj, by simpa using q1, by simpa using q2, fun hp => ?_⟩
      have q := q3 (by omega)
      obtain ⟨i, rfl⟩ : ∃ i, j = i + 1 := ⟨j - 1, by omega⟩
      simpa using q)]
    rfl

set_option maxRecDepth 100000 in
set_option maxHeartbeats 2000000 in
theorem Binds_any (s : Sg) (L : List (Int × Tm)) (n₀ : Nat) (w : World) (ac : Option Addr) (lc cc : Nat) (af : Option Addr) (lf cf : Nat) (a : Option Addr) (l c : Nat) (hS : IsSg n₀ w s ac lc cc af lf cf) (hA : IsBinds n₀ w L a l c) (hn : n₀ ≤ w.heap.size) :
    Calls Tryz.prog 27 #[.agg #[.slice ac lc cc, .slice af lf cf], .slice a l c] w fun e w' => ∃ b, e = .returned (.bool b) ∧ (b = true → lfB s (-1) L = true) ∧ Below w.heap.size w w' := by
  obtain ⟨rfl, ha1, ha2, hka⟩ := hA
  obtain ⟨w0, hw0⟩ : ∃ W, W = w.alloc (.cells #[.slice ac lc cc, .slice af lf cf] 24) := ⟨_, rfl⟩
  have hB0 : Below w.heap.size w w0 := by rw [hw0]; exact bal _ _
  have hz0 : w0.heap.size = w.heap.size + 1 := by rw [hw0]; simp
  have hbs : w0.heap[w.heap.size]? = some (.cells #[.slice ac lc cc, .slice af lf cf] 24 (0, 0)) := by rw [hw0]; exact heap_new'' _ _
  by_cases hlen : 20 < L.length
  · have o1 : (20 : Int) < (L.length : Int) := by omega
    replace hB0 := Lib.hid hB0
    rw [hw0] at hB0
    clear hka hS hbs hw0 hz0
    go_enter Tryz.func27, Tryz.ntmps27
    go_wp2_with fail
    go_ret
    exact ⟨false, rfl, (fun h => by cases h), hB0.out⟩
  have o0 : ¬ (20 : Int) < (L.length : Int) := by omega
  replace hS := Lib.hid hS
  replace hbs := Lib.hid hbs
  replace hB0 := Lib.hid hB0
  replace hz0 := Lib.hid hz0
  have hst0 : Hid (Below w0.heap.size w0 w0) := Lib.hid (Below.refl _ _)
  have hw0' := Lib.hid hw0
  rw [hw0] at hst0
  clear hw0
  go_enter Tryz.func27, Tryz.ntmps27
  go_wp2_with fail
  go_loopw [5] (fun i wi => ∃ k : Nat, k ≤ L.length ∧ i = .int .i64 k ∧ Hid (Below w0.heap.size w0 wi) ∧ Hid (∀ j, j < k → BindAt s L j)) (fun i _ => L.length - (intOf i).toNat)
  case atStart => exact ⟨0, by omega, rfl, by rw [hw0'.out]; exact hst0, Lib.hid (fun j h => by omega)⟩
  case round =>
    obtain ⟨k, hk, rfl, hb, hv⟩ := hrel
    have hz := hb.out.size
    have hbw := Lib.hid (Below.up hB0.out hb.out)
    by_cases hlt : k < L.length
    · have o1 : (k : Int) < (L.length : Int) := by omega
      rcases hka with hka | ⟨b1, off1, rfl, hbn1, hks1⟩
      · rw [hka] at hlt; simp at hlt
      obtain ⟨p0, a', l', c', p1, p2⟩ := hks1 k hlt
      have hbn := hbw.out.mono hn
      have p0' := (hbn.cell (p := ⟨b1, off1 + k * 4, none⟩) (by simpa using hbn1)).trans p0
      obtain ⟨x0, x1, x2⟩ := p1.below hbn hbn1
      have hbsw := (hb.out.block w.heap.size (by have := hz0.out; omega)).trans hbs.out
      obtain ⟨⟨y0, y1⟩, -⟩ := c2_cells hbsw
      have hIn := Lib.hid (fun dd os => ((in_any L[k].1 0 19 (grow (redrawn wr dd) os)).mono (R' := fun e w' => e = .returned (.bool (inB L[k].1 0 19)) ∧ Below (grow (redrawn wr dd) os).heap.size (grow (redrawn wr dd) os) w') (fun e w' h => ⟨h.1, by rw [← h.2]; exact Below.refl _ _⟩)).regrown_of)
      have hTm := Lib.hid (fun dd os => (Term_any s L[k].2 n₀ (grow (redrawn wr dd) os) ac lc cc af lf cf a' l' c' (hS.out.below ((Below.up hbw.out (below_regrown wr dd os)).mono hn)) (IsTm.below ((Below.up hbw.out (below_regrown wr dd os)).mono hn) _ p2) (by have := (below_regrown wr dd os).size; have := hz0.out; omega)).regrown_of)
      have d0 := fun dd os => cell_regrown p0' dd os
      have d2 := fun dd os => cell_regrown x0 dd os
      have d3 := fun dd os => cell_regrown x1 dd os
      have d4 := fun dd os => cell_regrown x2 dd os
      have d5 := fun dd os => cell_regrown y0 dd os
      have d6 := fun dd os => cell_regrown y1 dd os
      -- the binding before this one
      have hprev : ∀ h : 0 < k, wr.cell? ⟨b1, off1 + (k - 1) * 4, none⟩ = some (.int .i64 (L[k - 1]'(by omega)).1) := fun h => by
        obtain ⟨r0, -⟩ := hks1 (k - 1) (by omega)
        exact (hbn.cell (p := ⟨b1, off1 + (k - 1) * 4, none⟩) (by simpa using hbn1)).trans r0
      replace hprev := Lib.hid hprev
      replace hv := Lib.hid hv
      clear hks1 p0 p1 p2 p0' x0 x1 x2 y0 y1 hbsw hbn
      obtain ⟨v1, hv1⟩ : ∃ x, x = inB L[k].1 0 19 := ⟨_, rfl⟩
      obtain ⟨v2, hv2⟩ : ∃ x, x = formedB s L[k].2 := ⟨_, rfl⟩
      rw [← hv1] at hIn
      rw [← hv2] at hTm
      replace hv1 := Lib.hid hv1
      replace hv2 := Lib.hid hv2
      cases v1
      · go_wp2_with fail
        refine wp_region_quiet_below (by kernel_rfl) (by kernel_rfl) ?_
        iterate 5 (quiet_step (fail))
        quiet_step (exact hIn.out _ _)
        repeat (first | go_big_quiet_step (fail) | quiet_step (fail))
        refine wpQuiet_nil ?_
        rintro _ ⟨⟨dq, osq⟩, rfl⟩
        have hb3 := Lib.hid (below_regrown wr dq osq)
        clear d0 d2 d3 d4 d5 d6 hIn hTm
        go_wp2_with fail
        go_ret
        exact ⟨false, rfl, (fun h => by cases h), Below.up hbw.out hb3.out⟩
      by_cases hk0 : k = 0
      · subst hk0
        simp only [Nat.zero_mul, Nat.add_zero] at d0 d2 d3 d4
        have hpos : Hid (v2 = true → ∀ j, j < 0 + 1 → BindAt s L j) := Lib.hid (fun h j hj => by
          obtain rfl : j = 0 := by omega
          exact ⟨hlt, by rw [← hv1.out], by rw [← hv2.out, h], fun h => by omega⟩)
        cases v2
        all_goals
          go_wp2_with fail
          refine wp_region_quiet_below (by kernel_rfl) (by kernel_rfl) ?_
          iterate 5 (quiet_step (fail))
          quiet_step (exact hIn.out _ _)
          repeat (first | go_big_quiet_step (exact hTm.out _ _) | quiet_step (exact hTm.out _ _))
          refine wpQuiet_nil ?_
          rintro _ ⟨⟨dq, osq⟩, rfl⟩
          have hb3 := Lib.hid (below_regrown wr dq osq)
          clear d0 d2 d3 d4 d5 d6 hIn hTm
          go_wp2_with fail
        · go_ret
          exact ⟨false, rfl, (fun h => by cases h), Below.up hbw.out hb3.out⟩
        · go_roundw
          case rel => exact ⟨0 + 1, by omega, by go_num, Lib.hid (Below.up hb.out hb3.out), Lib.hid (hpos.out (by first | rfl | trivial))⟩
          case measure => simp [intOf]; omega
      · have hkp : 0 < k := by omega
        have o2 : (0 : Int) < (k : Int) := by omega
        have o3 : IntKind.i64.wrap ((k : Int) - 1) = ((k - 1 : Nat) : Int) := by rw [IntWalk.i64_in _ (by omega)]; omega
        have o4 : ((k - 1 : Nat) : Int) < (L.length : Int) := by omega
        have o5 : k - 1 < L.length := by omega
        have d7 := fun dd os => cell_regrown (hprev.out hkp) dd os
        obtain ⟨q, hq⟩ : ∃ x, x = (L[k - 1]'(by omega)).1 := ⟨_, rfl⟩
        rw [← hq] at d7
        obtain ⟨j, hj⟩ : ∃ j, j = k - 1 := ⟨_, rfl⟩
        rw [← hj] at d7 o3 o4 o5
        replace hq := Lib.hid hq
        replace hj := Lib.hid hj
        by_cases hle : L[k].1 ≤ q
        · have o6 : decide (L[k].1 ≤ q) = true := decide_eq_true hle
          go_wp2_with fail
          refine wp_region_quiet_below (by kernel_rfl) (by kernel_rfl) ?_
          iterate 5 (quiet_step (fail))
          quiet_step (exact hIn.out _ _)
          repeat (first | go_big_quiet_step (fail) | quiet_step (fail))
          refine wpQuiet_nil ?_
          rintro _ ⟨⟨dq, osq⟩, rfl⟩
          have hb3 := Lib.hid (below_regrown wr dq osq)
          clear d0 d2 d3 d4 d5 d6 d7 hIn hTm
          go_wp2_with fail
          go_ret
          exact ⟨false, rfl, (fun h => by cases h), Below.up hbw.out hb3.out⟩
        · have o6 : decide (L[k].1 ≤ q) = false := decide_eq_false hle
          have hpos : Hid (v2 = true → ∀ j, j < k + 1 → BindAt s L j) := Lib.hid (fun h j hj => by
            by_cases e : j = k
            · subst e
              exact ⟨hlt, by rw [← hv1.out], by rw [← hv2.out, h], fun _ => by have := hq.out; omega⟩
            · exact hv.out.out j (by omega))
          cases v2
          all_goals
            go_wp2_with fail
            refine wp_region_quiet_below (by kernel_rfl) (by kernel_rfl) ?_
            iterate 5 (quiet_step (fail))
            quiet_step (exact hIn.out _ _)
            repeat (first | go_big_quiet_step (exact hTm.out _ _) | quiet_step (exact hTm.out _ _))
            refine wpQuiet_nil ?_
            rintro _ ⟨⟨dq, osq⟩, rfl⟩
            have hb3 := Lib.hid (below_regrown wr dq osq)
            clear d0 d2 d3 d4 d5 d6 d7 hIn hTm
            go_wp2_with fail
          · go_ret
            exact ⟨false, rfl, (fun h => by cases h), Below.up hbw.out hb3.out⟩
          · go_roundw
            case rel => exact ⟨k + 1, by omega, by go_num, Lib.hid (Below.up hb.out hb3.out), Lib.hid (hpos.out (by first | rfl | trivial))⟩
            case measure => simp [intOf]; omega
    · have hke : k = L.length := by omega
      have hend : Hid (lfB s (-1) L = true) := Lib.hid (lf_of s L (-1) (fun h => by
        obtain ⟨_, q1, _, _⟩ := hv.out 0 (by omega)
        unfold inB at q1
        simp only [Bool.and_eq_true, decide_eq_true_eq] at q1
        omega) (fun j hj => hv.out j (by omega)))
      subst hke
      clear hka hv
      go_wp2_with fail
      go_ret
      exact ⟨true, rfl, (fun _ => hend.out), hbw.out⟩

end Go.Proofs.YthlegfegkopdkaaGreat

namespace Go.Proofs.YthlegfegkopdkaaGreat
open Go.RowKit Go.Shelf Go.Sort

theorem lf_all (s : Sg) : ∀ (L : List (Int × Tm)) (b : Int), lfB s b L = true → (∀ h : 0 < L.length, b < L[0].1) ∧ ∀ j, j < L.length → BindAt s L j
  | [], b, _ => ⟨fun h => by simp at h, fun j h => by simp at h⟩
  | x :: xs, b, h => by
    rw [lfB_cons] at h
    simp only [Bool.and_eq_true, decide_eq_true_eq] at h
    obtain ⟨h1, h2⟩ := lf_all s xs x.1 h.2
    refine ⟨fun _ => h.1.1.1, fun j hj => ?_⟩
    cases j with
    | zero => exact ⟨by simp, h.1.1.2, h.1.2, fun h => by omega⟩
    | succ j =>
      obtain ⟨g, g1, g2, g3⟩ := h2 j (by simpa using hj)
      refine ⟨by simpa using g, by simpa using g1, by simpa using g2, fun _ => ?_⟩
      cases j with
      | zero => simpa using h1 g
      | succ j => simpa using g3 (by omega)

set_option maxRecDepth 100000 in
set_option maxHeartbeats 2000000 in
theorem Binds_iff (s : Sg) (L : List (Int × Tm)) (n₀ : Nat) (w : World) (ac : Option Addr) (lc cc : Nat) (af : Option Addr) (lf cf : Nat) (a : Option Addr) (l c : Nat) (hS : IsSg n₀ w s ac lc cc af lf cf) (hA : IsBinds n₀ w L a l c) (hn : n₀ ≤ w.heap.size) :
    Calls Tryz.prog 27 #[.agg #[.slice ac lc cc, .slice af lf cf], .slice a l c] w fun e w' => ∃ b, e = .returned (.bool b) ∧ (b = true ↔ lfB s (-1) L = true) ∧ Below w.heap.size w w' := by
  obtain ⟨rfl, ha1, ha2, hka⟩ := hA
  obtain ⟨w0, hw0⟩ : ∃ W, W = w.alloc (.cells #[.slice ac lc cc, .slice af lf cf] 24) := ⟨_, rfl⟩
  have hB0 : Below w.heap.size w w0 := by rw [hw0]; exact bal _ _
  have hz0 : w0.heap.size = w.heap.size + 1 := by rw [hw0]; simp
  have hbs : w0.heap[w.heap.size]? = some (.cells #[.slice ac lc cc, .slice af lf cf] 24 (0, 0)) := by rw [hw0]; exact heap_new'' _ _
  by_cases hlen : 20 < L.length
  · have o1 : (20 : Int) < (L.length : Int) := by omega
    replace hB0 := Lib.hid hB0
    rw [hw0] at hB0
    clear hka hS hbs hw0 hz0
    go_enter Tryz.func27, Tryz.ntmps27
    go_wp2_with fail
    go_ret
    exact ⟨false, rfl, ⟨fun h => (by cases h), fun h => by have := (lfB_all h (by omega) (by omega)).1; omega⟩, hB0.out⟩
  have o0 : ¬ (20 : Int) < (L.length : Int) := by omega
  replace hS := Lib.hid hS
  replace hbs := Lib.hid hbs
  replace hB0 := Lib.hid hB0
  replace hz0 := Lib.hid hz0
  have hst0 : Hid (Below w0.heap.size w0 w0) := Lib.hid (Below.refl _ _)
  have hw0' := Lib.hid hw0
  rw [hw0] at hst0
  clear hw0
  go_enter Tryz.func27, Tryz.ntmps27
  go_wp2_with fail
  go_loopw [5] (fun i wi => ∃ k : Nat, k ≤ L.length ∧ i = .int .i64 k ∧ Hid (Below w0.heap.size w0 wi) ∧ Hid (∀ j, j < k → BindAt s L j)) (fun i _ => L.length - (intOf i).toNat)
  case atStart => exact ⟨0, by omega, rfl, by rw [hw0'.out]; exact hst0, Lib.hid (fun j h => by omega)⟩
  case round =>
    obtain ⟨k, hk, rfl, hb, hv⟩ := hrel
    have hz := hb.out.size
    have hbw := Lib.hid (Below.up hB0.out hb.out)
    by_cases hlt : k < L.length
    · have o1 : (k : Int) < (L.length : Int) := by omega
      rcases hka with hka | ⟨b1, off1, rfl, hbn1, hks1⟩
      · rw [hka] at hlt; simp at hlt
      obtain ⟨p0, a', l', c', p1, p2⟩ := hks1 k hlt
      have hbn := hbw.out.mono hn
      have p0' := (hbn.cell (p := ⟨b1, off1 + k * 4, none⟩) (by simpa using hbn1)).trans p0
      obtain ⟨x0, x1, x2⟩ := p1.below hbn hbn1
      have hbsw := (hb.out.block w.heap.size (by have := hz0.out; omega)).trans hbs.out
      obtain ⟨⟨y0, y1⟩, -⟩ := c2_cells hbsw
      have hIn := Lib.hid (fun dd os => ((in_any L[k].1 0 19 (grow (redrawn wr dd) os)).mono (R' := fun e w' => e = .returned (.bool (inB L[k].1 0 19)) ∧ Below (grow (redrawn wr dd) os).heap.size (grow (redrawn wr dd) os) w') (fun e w' h => ⟨h.1, by rw [← h.2]; exact Below.refl _ _⟩)).regrown_of)
      have hTm := Lib.hid (fun dd os => (Term_any s L[k].2 n₀ (grow (redrawn wr dd) os) ac lc cc af lf cf a' l' c' (hS.out.below ((Below.up hbw.out (below_regrown wr dd os)).mono hn)) (IsTm.below ((Below.up hbw.out (below_regrown wr dd os)).mono hn) _ p2) (by have := (below_regrown wr dd os).size; have := hz0.out; omega)).regrown_of)
      have d0 := fun dd os => cell_regrown p0' dd os
      have d2 := fun dd os => cell_regrown x0 dd os
      have d3 := fun dd os => cell_regrown x1 dd os
      have d4 := fun dd os => cell_regrown x2 dd os
      have d5 := fun dd os => cell_regrown y0 dd os
      have d6 := fun dd os => cell_regrown y1 dd os
      -- the binding before this one
      have hprev : ∀ h : 0 < k, wr.cell? ⟨b1, off1 + (k - 1) * 4, none⟩ = some (.int .i64 (L[k - 1]'(by omega)).1) := fun h => by
        obtain ⟨r0, -⟩ := hks1 (k - 1) (by omega)
        exact (hbn.cell (p := ⟨b1, off1 + (k - 1) * 4, none⟩) (by simpa using hbn1)).trans r0
      replace hprev := Lib.hid hprev
      replace hv := Lib.hid hv
      clear hks1 p0 p1 p2 p0' x0 x1 x2 y0 y1 hbsw hbn
      obtain ⟨v1, hv1⟩ : ∃ x, x = inB L[k].1 0 19 := ⟨_, rfl⟩
      obtain ⟨v2, hv2⟩ : ∃ x, x = formedB s L[k].2 := ⟨_, rfl⟩
      rw [← hv1] at hIn
      rw [← hv2] at hTm
      replace hv1 := Lib.hid hv1
      replace hv2 := Lib.hid hv2
      cases v1
      · go_wp2_with fail
        refine wp_region_quiet_below (by kernel_rfl) (by kernel_rfl) ?_
        iterate 5 (quiet_step (fail))
        quiet_step (exact hIn.out _ _)
        repeat (first | go_big_quiet_step (fail) | quiet_step (fail))
        refine wpQuiet_nil ?_
        rintro _ ⟨⟨dq, osq⟩, rfl⟩
        have hb3 := Lib.hid (below_regrown wr dq osq)
        clear d0 d2 d3 d4 d5 d6 hIn hTm
        go_wp2_with fail
        go_ret
        exact ⟨false, rfl, ⟨fun h => (by cases h), fun h => by obtain ⟨_, q1, _, _⟩ := (lf_all s L (-1) h).2 k hlt; have := hv1.out; rw [q1] at this; cases this⟩, Below.up hbw.out hb3.out⟩
      by_cases hk0 : k = 0
      · subst hk0
        simp only [Nat.zero_mul, Nat.add_zero] at d0 d2 d3 d4
        have hpos : Hid (v2 = true → ∀ j, j < 0 + 1 → BindAt s L j) := Lib.hid (fun h j hj => by
          obtain rfl : j = 0 := by omega
          exact ⟨hlt, by rw [← hv1.out], by rw [← hv2.out, h], fun h => by omega⟩)
        cases v2
        all_goals
          go_wp2_with fail
          refine wp_region_quiet_below (by kernel_rfl) (by kernel_rfl) ?_
          iterate 5 (quiet_step (fail))
          quiet_step (exact hIn.out _ _)
          repeat (first | go_big_quiet_step (exact hTm.out _ _) | quiet_step (exact hTm.out _ _))
          refine wpQuiet_nil ?_
          rintro _ ⟨⟨dq, osq⟩, rfl⟩
          have hb3 := Lib.hid (below_regrown wr dq osq)
          clear d0 d2 d3 d4 d5 d6 hIn hTm
          go_wp2_with fail
        · go_ret
          exact ⟨false, rfl, ⟨fun h => (by cases h), fun h => by obtain ⟨_, _, q2, _⟩ := (lf_all s L (-1) h).2 0 hlt; have := hv2.out; rw [q2] at this; cases this⟩, Below.up hbw.out hb3.out⟩
        · go_roundw
          case rel => exact ⟨0 + 1, by omega, by go_num, Lib.hid (Below.up hb.out hb3.out), Lib.hid (hpos.out (by first | rfl | trivial))⟩
          case measure => simp [intOf]; omega
      · have hkp : 0 < k := by omega
        have o2 : (0 : Int) < (k : Int) := by omega
        have o3 : IntKind.i64.wrap ((k : Int) - 1) = ((k - 1 : Nat) : Int) := by rw [IntWalk.i64_in _ (by omega)]; omega
        have o4 : ((k - 1 : Nat) : Int) < (L.length : Int) := by omega
        have o5 : k - 1 < L.length := by omega
        have d7 := fun dd os => cell_regrown (hprev.out hkp) dd os
        obtain ⟨q, hq⟩ : ∃ x, x = (L[k - 1]'(by omega)).1 := ⟨_, rfl⟩
        rw [← hq] at d7
        obtain ⟨j, hj⟩ : ∃ j, j = k - 1 := ⟨_, rfl⟩
        rw [← hj] at d7 o3 o4 o5
        replace hq := Lib.hid hq
        replace hj := Lib.hid hj
        by_cases hle : L[k].1 ≤ q
        · have o6 : decide (L[k].1 ≤ q) = true := decide_eq_true hle
          go_wp2_with fail
          refine wp_region_quiet_below (by kernel_rfl) (by kernel_rfl) ?_
          iterate 5 (quiet_step (fail))
          quiet_step (exact hIn.out _ _)
          repeat (first | go_big_quiet_step (fail) | quiet_step (fail))
          refine wpQuiet_nil ?_
          rintro _ ⟨⟨dq, osq⟩, rfl⟩
          have hb3 := Lib.hid (below_regrown wr dq osq)
          clear d0 d2 d3 d4 d5 d6 d7 hIn hTm
          go_wp2_with fail
          go_ret
          exact ⟨false, rfl, ⟨fun h => (by cases h), fun h => by obtain ⟨_, _, _, q3⟩ := (lf_all s L (-1) h).2 k hlt; have := q3 hkp; have := hq.out; omega⟩, Below.up hbw.out hb3.out⟩
        · have o6 : decide (L[k].1 ≤ q) = false := decide_eq_false hle
          have hpos : Hid (v2 = true → ∀ j, j < k + 1 → BindAt s L j) := Lib.hid (fun h j hj => by
            by_cases e : j = k
            · subst e
              exact ⟨hlt, by rw [← hv1.out], by rw [← hv2.out, h], fun _ => by have := hq.out; omega⟩
            · exact hv.out.out j (by omega))
          cases v2
          all_goals
            go_wp2_with fail
            refine wp_region_quiet_below (by kernel_rfl) (by kernel_rfl) ?_
            iterate 5 (quiet_step (fail))
            quiet_step (exact hIn.out _ _)
            repeat (first | go_big_quiet_step (exact hTm.out _ _) | quiet_step (exact hTm.out _ _))
            refine wpQuiet_nil ?_
            rintro _ ⟨⟨dq, osq⟩, rfl⟩
            have hb3 := Lib.hid (below_regrown wr dq osq)
            clear d0 d2 d3 d4 d5 d6 d7 hIn hTm
            go_wp2_with fail
          · go_ret
            exact ⟨false, rfl, ⟨fun h => (by cases h), fun h => by obtain ⟨_, _, q2, _⟩ := (lf_all s L (-1) h).2 k hlt; have := hv2.out; rw [q2] at this; cases this⟩, Below.up hbw.out hb3.out⟩
          · go_roundw
            case rel => exact ⟨k + 1, by omega, by go_num, Lib.hid (Below.up hb.out hb3.out), Lib.hid (hpos.out (by first | rfl | trivial))⟩
            case measure => simp [intOf]; omega
    · have hke : k = L.length := by omega
      have hend : Hid (lfB s (-1) L = true) := Lib.hid (lf_of s L (-1) (fun h => by
        obtain ⟨_, q1, _, _⟩ := hv.out 0 (by omega)
        unfold inB at q1
        simp only [Bool.and_eq_true, decide_eq_true_eq] at q1
        omega) (fun j hj => hv.out j (by omega)))
      subst hke
      clear hka hv
      go_wp2_with fail
      go_ret
      exact ⟨true, rfl, ⟨fun _ => hend.out, fun _ => rfl⟩, hbw.out⟩

end Go.Proofs.YthlegfegkopdkaaGreat

namespace Go.Proofs.YthlegfegkopdkaaGreat
open Go.RowKit Go.Shelf Go.Sort

theorem mapM_none {α β : Type} {f : α → Option β} : ∀ {l : List α}, l.mapM f = none → ∃ k, ∃ h : k < l.length, f l[k] = none ∧ ∀ j (hj : j < k), ∃ x, f (l[j]'(by omega)) = some x
  | [], h => by simp at h
  | a :: l, h => by
    cases ha : f a with
    | none => exact ⟨0, by simp, ha, fun j hj => by omega⟩
    | some x =>
      rw [List.mapM_cons, ha] at h
      cases hl : l.mapM f with
      | some s => simp [hl] at h
      | none =>
        obtain ⟨k, hk, h1, h2⟩ := mapM_none hl
        refine ⟨k + 1, by simpa using hk, by simpa using h1, fun j hj => ?_⟩
        cases j with
        | zero => exact ⟨x, ha⟩
        | succ j => obtain ⟨y, hy⟩ := h2 j (by omega); exact ⟨y, by simpa using hy⟩

def PutGone (F : Int → Option DT) (st : Nat → Bool) (bm nb : Nat) (N : Nat) : Prop := ∀ (d : DT) (n₀ : Nat) (w : World) (g : Nat → Bool), putF F st N g d.tm = none → d.size ≤ N → Lies n₀ w d → n₀ ≤ w.heap.size → 1 + d.size ≤ 1000000 → OkV d.tm → TMap w bm nb F → PutOk n₀ w F →
  Calls Tryz.prog 97 #[.agg (psA bm st g), dv d] w (Gone w)
def PutLetGone (F : Int → Option DT) (st : Nat → Bool) (bm nb : Nat) (N : Nat) : Prop := ∀ (d : DT) (n₀ : Nat) (w : World) (g : Nat → Bool), putF F st N g d.tm = none → d.size ≤ N → d.op = 8 → Lies n₀ w d → n₀ ≤ w.heap.size → 1 + d.size ≤ 1000000 → OkV d.tm → TMap w bm nb F → PutOk n₀ w F →
  Calls Tryz.prog 120 #[.agg (psA bm st g), dv d] w (Gone w)

set_option maxRecDepth 100000 in
set_option maxHeartbeats 1000000 in
theorem put_node_gone (F : Int → Option DT) (st : Nat → Bool) (bm nb N : Nat) (ih : PutSpec F st bm nb N) (ihg : PutGone F st bm nb N) (d : DT) (n₀ : Nat) (w : World) (g : Nat → Bool) (hT : putF F st (N + 1) g d.tm = none) (hN : d.size ≤ N + 1) (hL : Lies n₀ w d) (hn : n₀ ≤ w.heap.size) (hsz : 1 + d.size ≤ 1000000) (hO : OkV d.tm) (hm : TMap w bm nb F) (hE : PutOk n₀ w F)
    (h1 : d.op ≠ 1) (h8 : d.op ≠ 8) : Calls Tryz.prog 97 #[.agg (psA bm st g), dv d] w (Gone w) := by
  obtain ⟨f1, f2, f3, f4, f5⟩ := put0_facts w bm st g d
  have hds := dsize_eq d
  have hL0 := hL.below (f5.mono hn)
  have hlen : d.kids.length ≤ dsizes d.kids := by
    have h1 := length_le_sizes (tms d.kids); rw [sizes_tms, tms_map, List.length_map] at h1; exact h1
  have hOk : OkVs d.tm.kids := hO.open.2.2.2
  have hts : d.tm.kids.mapM (putF F st N g) = none := by
    rw [show d.tm = .mk d.op d.n d.tm.kids by cases d; simp [DT.tm, DT.op, DT.n, Tm.kids], putF_node _ _ _ _ _ _ _ h1 h8] at hT
    cases hq : d.tm.kids.mapM (putF F st N g) with
    | none => rfl
    | some ts => rw [hq] at hT; cases hT
  obtain ⟨k0, hk0, hg0, hs0⟩ := mapM_none hts
  have hkl : d.tm.kids.length = d.kids.length := by rw [DT.tm_kids, List.length_map]
  have hke : ∀ k (h : k < d.kids.length) (h' : k < d.tm.kids.length), d.tm.kids[k] = d.kids[k].tm := fun k h h' => by simp only [DT.tm_kids, List.getElem_map]
  have hk0' : k0 < d.kids.length := by omega
  have hC := rebuild_gone d 97 #[.agg (psA bm st g)] #[] (enters_of Tryz.func97 (by kernel_rfl) rfl) (fun k => ((d.kids[k]?).bind fun x => putF F st N g x.tm).getD (.mk 0 0 [])) (fun _ W => Below (put0 w bm st g d).heap.size (put0 w bm st g d) W) n₀ (put0 w bm st g d) k0 hk0' (by omega) (by omega) hL0
    (fun k W W' hI hBl => hI.trans hBl)
    (fun k hk hlt W hI hT => by
      have hsk := dsize_kid d.kids k hk
      have hkt : k < d.tm.kids.length := by omega
      have hOkk : OkV d.kids[k].tm := by rw [← hke k hk hkt]; exact OkVs_get _ k hkt hOk
      obtain ⟨x, hx⟩ := hs0 k hlt
      rw [hke k hk hkt] at hx
      have hbw : Below w.heap.size w W := f5.trans (hI.mono (by omega))
      have hgd : ((d.kids[k]?).bind fun x => putF F st N g x.tm).getD (.mk 0 0 []) = x := by rw [List.getElem?_eq_getElem hk]; simp [hx]
      refine (ih d.kids[k] n₀ W g _ hx ((hL0.kids_lie _ (List.getElem_mem hk)).below (hI.mono (by omega))) (by have := hI.size; omega) (by omega) hOkk (hm.same (hbw.block _ hm.lt)) (hE.below (hbw.mono hn))).mono ?_
      rintro e W' ⟨a, l, c, rfl, hF, -, hT'⟩
      rw [hgd]
      exact ⟨a, l, c, rfl, hF, hI.trans (hT'.b0.mono hI.size), hT'⟩)
    (fun W hI hT => by
      have hsk := dsize_kid d.kids k0 hk0'
      have hOkk : OkV d.kids[k0].tm := by rw [← hke k0 hk0' hk0]; exact OkVs_get _ k0 hk0 hOk
      rw [hke k0 hk0' hk0] at hg0
      have hbw : Below w.heap.size w W := f5.trans (hI.mono (by omega))
      exact ihg d.kids[k0] n₀ W g hg0 (by omega) ((hL0.kids_lie _ (List.getElem_mem hk0')).below (hI.mono (by omega))) (by have := hI.size; omega) (by omega) hOkk (hm.same (hbw.block _ hm.lt)) (hE.below (hbw.mono hn)))
    (Below.refl _ _)
  have e1 : (d.op == 1) = false := by simpa using h1
  have e8 : (d.op == 8) = false := by simpa using h8
  replace hC := Lib.hid hC
  replace f1 := Lib.hid f1
  replace f3 := Lib.hid f3
  replace f5 := Lib.hid f5
  clear f2 ih ihg hL hL0 hO hOk hlen hm hE hT hts hkl h1 h8 hds hke hg0 hs0
  go_enter Tryz.func97, Tryz.ntmps97
  go_upto_region 8 with fail
  go_wp2_with (first | refine load_ps (.tmp 2) f1.out rfl rfl rfl ?_)
  refine (hC.out).mono ?_
  rintro e w1 ⟨rfl, hb1⟩
  exact ⟨rfl, Gone.mk (Below.up f5.out hb1)⟩

set_option maxRecDepth 100000 in
set_option maxHeartbeats 1000000 in
theorem put_let_gone (F : Int → Option DT) (st : Nat → Bool) (bm nb N : Nat) (ihl : PutLetGone F st bm nb (N + 1)) (d : DT) (n₀ : Nat) (w : World) (g : Nat → Bool) (hT : putF F st (N + 1) g d.tm = none) (hN : d.size ≤ N + 1) (hL : Lies n₀ w d) (hn : n₀ ≤ w.heap.size) (hsz : 1 + d.size ≤ 1000000) (hO : OkV d.tm) (hm : TMap w bm nb F) (hE : PutOk n₀ w F)
    (h8 : d.op = 8) : Calls Tryz.prog 97 #[.agg (psA bm st g), dv d] w (Gone w) := by
  obtain ⟨f1, f2, f3, f4, f5⟩ := put0_facts w bm st g d
  have hC := ihl d n₀ (put0 w bm st g d) g hT hN h8 (hL.below (f5.mono hn)) (by omega) hsz hO (hm.same (f5.block _ hm.lt)) (hE.below (f5.mono hn))
  have e1 : (d.op == 1) = false := by simp; omega
  have e8 : (d.op == 8) = true := by simpa using h8
  replace h8 := Lib.hid h8
  replace hC := Lib.hid hC
  replace f1 := Lib.hid f1
  replace f3 := Lib.hid f3
  replace f5 := Lib.hid f5
  clear f2 ihl hL hO hm hE hT
  go_enter Tryz.func97, Tryz.ntmps97
  go_upto_region 7 with fail
  go_wp2_with (first | refine load_ps (.tmp 2) f1.out rfl rfl rfl ?_)
  refine (hC.out).mono ?_
  rintro e w1 ⟨rfl, hb1⟩
  exact ⟨rfl, Gone.mk (Below.up f5.out hb1)⟩

end Go.Proofs.YthlegfegkopdkaaGreat

namespace Go.Proofs.YthlegfegkopdkaaGreat
open Go.RowKit Go.Shelf Go.Sort

theorem leastN_all {f : Nat → Bool} (h : leastN f = none) : ∀ j, j < 20 → f j = true := fun j hj => by
  unfold leastN at h
  rw [List.find?_eq_none] at h
  simpa using h j (List.mem_range.2 hj)

set_option maxRecDepth 100000 in
set_option maxHeartbeats 1000000 in
theorem leastOutside_gone (f : Nat → Bool) (w : World) (hv : leastN f = none) :
    Calls Tryz.prog 143 #[.agg (vs f)] w (Gone w) := by
  have hB0 : Below w.heap.size w (w.alloc (.cells (vs f) 79)) := (Below.refl _ _).alloc (Nat.le_refl _) _
  have hc := fun k (hk : k < 20) => vs_get f hk
  have ha := leastN_all hv
  clear hv
  replace ha := Lib.hid ha
  replace hc := Lib.hid hc
  go_enter Tryz.func143, Tryz.ntmps143
  go_wp2_with fail
  go_loop [3, 4] (fun _ i => ∃ k : Nat, k ≤ 20 ∧ i = .int .i64 k) (fun _ i => 20 - (intOf i).toNat)
  case atStart => exact ⟨0, by omega, rfl⟩
  case round =>
    obtain ⟨k, hk, rfl⟩ := hrel
    by_cases hlt : k < 20
    · have o1 : (k : Int) < 20 := by omega
      have c1 := hc.out k hlt
      have hf := ha.out k hlt
      rw [hf] at c1
      replace hf := Lib.hid hf
      go_wp2_with fail
      go_round
      case rel => exact ⟨k + 1, by omega, by go_num⟩
      case measure => simp [intOf]; omega
    · have : k = 20 := by omega
      subst this
      go_wp2_with fail
      exact ⟨rfl, Gone.mk hB0⟩

def LetGone (F : Int → Option DT) (st g : Nat → Bool) (N : Nat) (x : DT) (w w0 : World) (s5 : Value) (W : World) : Prop :=
  ∃ (m : Nat) (Y : DT), m < 20 ∧ s5 = .int .i64 m ∧ W.heap[w.heap.size + 1 + 1 + 1]? = some (bx Y) ∧ Lies W.heap.size W Y ∧ 1 + Y.size ≤ 1000000 ∧ OkV Y.tm ∧ Below w0.heap.size w0 W ∧
    Y.size ≤ N ∧ (putF F st N g x.tm = none ∨ putF F st N (setB g m true) Y.tm = none)

set_option maxRecDepth 100000 in
set_option maxHeartbeats 4000000 in
theorem putLet_gone (F : Int → Option DT) (st : Nat → Bool) (bm nb N : Nat) (ih : PutSpec F st bm nb N) (ihg : PutGone F st bm nb N) : PutLetGone F st bm nb (N + 1) := by
  intro d n₀ w g hT hN h8 hL hn hsz hO hm hE
  obtain ⟨f1, f2, f3, f4, f5⟩ := put0_facts w bm st g d
  obtain ⟨o1, -, o3, o4⟩ := hO.open
  rw [DT.tm_op, DT.tm_n] at o1
  rw [DT.tm_op] at o3
  obtain ⟨hn0, hn20⟩ := o1 (.inr h8)
  obtain ⟨v, hv⟩ : ∃ v : Nat, d.n = v := ⟨d.n.toNat, by omega⟩
  have hv20 : v < 20 := by omega
  obtain ⟨x, y, b, off, hxy, hsx, hl, ha, hbn, ⟨g1, g2⟩, ⟨g3, g4⟩⟩ := two_kids (hL.below (f5.mono hn)) (by have := o3 h8; rwa [DT.tm_kids, List.length_map] at this)
  have hdt : d.tm.kids = [x.tm, y.tm] := by rw [DT.tm_kids, hxy]; rfl
  rw [hdt] at o4
  simp only [OkVs] at o4
  have hbz : b < w.heap.size := by omega
  obtain ⟨w0, hw0⟩ : ∃ w0, w0 = put0 w bm st g d := ⟨_, rfl⟩
  rw [← hw0] at f1 f2 f3 f4 f5 g1 g2 g3 g4
  obtain ⟨⟨b0, b1, b2⟩, -⟩ := c3_cells f2
  rw [ha] at b2
  obtain ⟨y0, y1, y2⟩ := g3
  have hl2 : (1 : Int) < (d.l : Int) := by omega
  have hl0 : 0 < d.l := by omega
  have hl1 : 1 < d.l := by omega
  rw [hv] at b1
  rw [hw0] at b0 b1 b2 y0 y1 y2
  replace hw0 := Lib.hid hw0
  replace ha := Lib.hid ha
  replace hl := Lib.hid hl
  replace h8 := Lib.hid h8
  replace hv := Lib.hid hv
  replace f1 := Lib.hid f1
  replace f2 := Lib.hid f2
  replace f3 := Lib.hid f3
  replace f5 := Lib.hid f5
  replace hm := Lib.hid hm
  replace hE := Lib.hid hE
  replace ih := Lib.hid ih
  replace ihg := Lib.hid ihg
  replace hT := Lib.hid hT
  replace g1 := Lib.hid g1
  have hdt' := Lib.hid hdt
  have hLd := Lib.hid hL
  have hOd := Lib.hid hO
  clear hL hO o1 o3 hxy hdt
  go_enter Tryz.func120, Tryz.ntmps120
  go_upto_region 1 with fail
  go_region_held3 (fun W' => (W'.cell? ⟨w.heap.size + 1, 1, none⟩ = some (.int .i64 (v : Nat)) ∧ W'.cell? ⟨w.heap.size + 1, 2, none⟩ = some (.slice (some ⟨b, off, none⟩) d.l d.c)) ∧ (W'.cell? ⟨b, off + 3, none⟩ = some (.int .i64 y.op) ∧ W'.cell? ⟨b, off + 3 + 1, none⟩ = some (.int .i64 y.n) ∧ W'.cell? ⟨b, off + 3 + 2, none⟩ = some (.slice y.a y.l y.c)))
    (go_keep) (fail)
  go_upto_region 2 with fail
  obtain ⟨W1, hW1⟩ : ∃ W1, W1 = (((((w.alloc (.cells (psA bm st g) 125)).alloc (.cells #[.int .i64 d.op, .int .i64 d.n, .slice d.a d.l d.c] 28)).alloc (.cells #[.int .i64 0, .int .i64 0, .slice none 0 0] 28)).alloc (.cells #[.int .i64 y.op, .int .i64 y.n, .slice y.a y.l y.c] 28)).drew) := ⟨_, rfl⟩
  rw [← hW1]
  have hB1 : Below w0.heap.size w0 W1 := by rw [hW1, hw0.out]; exact ((Below.refl _ _).alloc (Nat.le_refl _) _).drew
  have hy6 : W1.heap[w.heap.size + 1 + 1 + 1]? = some (bx y) := by rw [hW1]; exact heap_new' _ (by simp)
  have hz1 : W1.heap.size = w.heap.size + 4 := by rw [hW1]; simp [World.drew]
  have p1 : PsAt W1 w.heap.size bm st g := (hB1.block _ (by omega)).trans f1.out
  have hbw1 : Below w.heap.size w W1 := f5.out.trans (hB1.mono (by omega))
  replace hW1 := Lib.hid hW1
  clear b0 b1 b2 y0 y1 y2
  have hIn := Lib.hid (fun dd os => (pinside_any (grow (redrawn W1 dd) os) bm st g v hv20).regrown_of)
  have hCt := Lib.hid (fun dd os => (catches_any (grow (redrawn W1 dd) os) bm nb n₀ F st (setB g v true) v y hv20 (hm.out.same (((below_regrown W1 dd os).block _ (by have := hm.out.lt; omega)).trans (hbw1.block _ hm.out.lt))) (fun i z hz => ((hE.out.below (hbw1.mono hn)).below ((below_regrown W1 dd os).mono (by omega)) i z hz).1) (by have := (below_regrown W1 dd os).size; omega) ((g4.below (hB1.mono (by omega))).below ((below_regrown W1 dd os).mono (by omega))) o4.2.1).regrown_of)
  obtain ⟨⟨z0, z1, z2⟩, -⟩ := c3_cells hy6
  have d0 := fun dd os => cell_regrown z0 dd os
  have d1 := fun dd os => cell_regrown z1 dd os
  have d2 := fun dd os => cell_regrown z2 dd os
  have hps : ∀ w', (∃ p : Regrown, w' = grow (redrawn W1 p.d) p.os) → w'.heap[w.heap.size]? = some (.cells (psA bm st g) 125 (0, 0)) := fun w' ⟨q, hq⟩ => by
    subst hq; exact ((below_regrown W1 q.d q.os).block _ (by omega)).trans p1
  replace hps := Lib.hid hps
  replace p1 := Lib.hid p1
  replace hy6 := Lib.hid hy6
  replace hB1 := Lib.hid hB1
  replace hbw1 := Lib.hid hbw1
  -- what is to be made
  have hT' : (if catchB F (setB g v true) v y.tm = true then
          match leastN (orSet (stT d.tm (fun _ => false)) st) with
          | none => none
          | some m => (putF F st N g x.tm).bind fun a' => (putF F st N (setB g m true) (renT v m y.tm)).map fun b' => Tm.mk 8 m [a', b']
        else (putF F st N g x.tm).bind fun a' => (putF F st N (setB g v true) y.tm).map fun b' => Tm.mk 8 v [a', b']) = none := by
    have h := hT.out
    have hd : d.tm = .mk 8 v [x.tm, y.tm] := by
      cases hd' : d.tm with
      | mk op n ks =>
        have e1 : d.tm.op = op := by rw [hd']; rfl
        have e2 : d.tm.n = n := by rw [hd']; rfl
        have e3 : d.tm.kids = ks := by rw [hd']; rfl
        rw [DT.tm_op, h8.out] at e1
        rw [DT.tm_n, hv.out] at e2
        rw [hdt'.out] at e3
        rw [← e1, ← e2, ← e3]
    rw [hd, putF_let] at h
    simp only [Int.toNat_natCast] at h
    rw [hd]
    exact h
  replace hT' := Lib.hid hT'
  obtain ⟨c, hcb⟩ : ∃ c, c = catchB F (setB g v true) v y.tm := ⟨_, rfl⟩
  rw [← hcb] at hCt
  replace hcb := Lib.hid hcb
  refine wp_region_quiet_below (by kernel_rfl) (by kernel_rfl) ?_
  refine quiet_row rfl 125 (.tmp 2) rfl w.heap.size rfl 125 _ (0, 0) _ hps.out Tryz.underlying125 rfl (i125 _ _ _) ?_
  quiet_step (fail)
  quiet_step (exact hIn.out _ _)
  quiet_step (fail)
  quiet_step (fail)
  quiet_step (exact hCt.out _ _)
  refine wpQuiet_nil ?_
  rintro _ ⟨⟨dq, osq⟩, rfl⟩
  have hb2 := below_regrown W1 dq osq
  obtain ⟨W2, hW2⟩ : ∃ W2, W2 = grow (redrawn W1 dq) osq := ⟨_, rfl⟩
  rw [← hW2] at hb2 ⊢
  clear d0 d1 d2 hCt hIn hps z0 z1 z2
  replace hW2 := Lib.hid hW2
  go_upto_if 20 with (fail)
  go_cut [5] from 21 to 32 (fun s5 W => LetGone F st g N x w w0 s5 W)
  case first =>
    have hB2 : Below w0.heap.size w0 W2 := hB1.out.trans (hb2.mono (by omega))
    have hz2 := hb2.size
    have hbw2 : Below w.heap.size w W2 := f5.out.trans (hB2.mono (by omega))
    have hy62 := (hb2.block _ (by omega)).trans hy6.out
    have hLy : Lies W2.heap.size W2 y := (g4.below (hB2.mono (by omega))).wider (by omega)
    cases c
    · have hrel : Hid (LetGone F st g N x w w0 (.int .i64 (v : Nat)) W2) := by
        have h := hT'.out
        rw [← hcb.out, if_neg (by simp)] at h
        refine ⟨v, y, hv20, rfl, hy62, hLy, by omega, o4.2.1, hB2, by omega, ?_⟩
        cases hA : putF F st N g x.tm with
        | none => exact .inl rfl
        | some A =>
          cases hB : putF F st N (setB g v true) y.tm with
          | none => exact .inr rfl
          | some B => rw [hA, hB] at h; cases h
      clear hy62 hLy hbw2 hB2 hb2
      go_wp2_with fail
      go_meet
      case rel => exact hrel.out
    · have hp2 : PsAt W2 w.heap.size bm st g := (hb2.block _ (by omega)).trans p1.out
      have hbd2 : W2.heap[w.heap.size + 1]? = some (bx d) := (hB2.block _ (by omega)).trans f2.out
      cases hl : leastN (orSet (stT d.tm (fun _ => false)) st) with
      | none =>
        have hS1 := Lib.hid (fun W (hb : Below W2.heap.size W2 W) => (standing_any d n₀ W hsz (by have := hb.size; omega) (hLd.out.below ((Below.up hbw2 hb).mono hn)) hOd.out).mono (R' := fun e w1 => e = .returned (.agg (vs (stT d.tm (fun _ => false)))) ∧ Hid (Below W2.heap.size W2 w1)) (by
          rintro e w1 ⟨rfl, h⟩; exact ⟨rfl, Lib.hid (Below.up hb h)⟩))
        have hW1' := Lib.hid (fun W (hb : Below W2.heap.size W2 W) => (with_any (stT d.tm (fun _ => false)) st W).mono (R' := fun e w1 => e = .returned (.agg (vs (orSet (stT d.tm (fun _ => false)) st))) ∧ Hid (Below W2.heap.size W2 w1)) (by
          rintro e w1 ⟨rfl, h⟩; exact ⟨rfl, Lib.hid (Below.up hb h)⟩))
        have hL1 := Lib.hid (fun W (hb : Below W2.heap.size W2 W) => (leastOutside_gone (orSet (stT d.tm (fun _ => false)) st) W hl).mono (R' := fun e w1 => e = gaveLong ∧ Hid (Below W2.heap.size W2 w1)) (by
          rintro e w1 ⟨rfl, h⟩; exact ⟨rfl, Lib.hid (Below.up hb h)⟩))
        have hK1 := Lib.hid (fun W (hb : Below W2.heap.size W2 W) => And.intro (PsAt.range (show PsAt W w.heap.size bm st g from (hb.block _ (by omega)).trans hp2)) (c3_cells ((hb.block _ (by omega)).trans hbd2)).1)
        replace hp2 := Lib.hid hp2
        replace hbd2 := Lib.hid hbd2
        replace hB2 := Lib.hid hB2
        replace hbw2 := Lib.hid hbw2
        replace hy62 := Lib.hid hy62
        replace hb2 := Lib.hid hb2
        replace hLy := Lib.hid hLy
        go_upto_region 3 with fail
        refine wp_region_held (S := fun W' => Below W2.heap.size W2 W') (by kernel_rfl) ?_
        have hS0 : (fun W' : World => Below W2.heap.size W2 W') { W2 with drawn := W2.drawn + 1 } := (Below.refl _ _).drew
        have bdr := Lib.hid (show Below W2.heap.size W2 W2.drew from (Below.refl _ _).drew)
        refine takeH 0 21 (dv d) rfl rfl (by kernel_rfl) (by kernel_rfl) (by kernel_rfl) (fun _ _ _ h => h) (by rfl) (by intro W hSw; obtain ⟨-, j1, j2, j3⟩ := hK1.out W hSw; clear hSw; go_simp) hS0 ?_
        try simp only [List.setIfInBounds_toArray, List.set_cons_zero, List.set_cons_succ]
        refine takeH 2 23 (.pointer (some ⟨w.heap.size, 0, none⟩)) rfl rfl (by kernel_rfl) (by kernel_rfl) (by kernel_rfl) (fun _ _ _ h => h) (by rfl) (by intro W hSw; clear hSw; go_simp) hS0 ?_
        try simp only [List.setIfInBounds_toArray, List.set_cons_zero, List.set_cons_succ]
        refine takeH 3 24 (.pointer (some ⟨w.heap.size, 1, none⟩)) rfl rfl (by kernel_rfl) (by kernel_rfl) (by kernel_rfl) (fun _ _ _ h => h) (by rfl) (by intro W hSw; clear hSw; go_simp) hS0 ?_
        try simp only [List.setIfInBounds_toArray, List.set_cons_zero, List.set_cons_succ]
        refine takeH 4 25 (.agg (vs st).toList.toArray) rfl rfl (by kernel_rfl) (by kernel_rfl) (by kernel_rfl) (fun _ _ _ h => h) (by rfl) (fun W hSw => mid_yield rfl w.heap.size 1 rfl (hK1.out W hSw).1 u79 rfl (by rw [Array.length_toList, vs_size]; exact i79')) hS0 ?_
        rw [Array.toArray_toList]
        try simp only [List.setIfInBounds_toArray, List.set_cons_zero, List.set_cons_succ]
        refine wpAnyH_ready (rs := [1]) (by kernel_rfl) (by simp) ?_
        refine AllReadyH.cons rfl (fun K hKc => ?_) AllReadyH.nil
        go_simp
        go_at_call 96
        refine (hS1.out _ bdr.out).mono ?_
        rintro e w3 ⟨rfl, hb3⟩
        refine hKc _ _ hb3.out (fun _ => ?_)
        clear hKc K
        try simp only [List.setIfInBounds_toArray, List.set_cons_zero, List.set_cons_succ]
        refine wpAnyH_ready (rs := [5]) (by kernel_rfl) (by simp) ?_
        refine AllReadyH.cons rfl (fun K hKc => ?_) AllReadyH.nil
        go_simp
        go_at_call 89
        refine (hW1'.out _ hb3.out).mono ?_
        rintro e w4 ⟨rfl, hb4⟩
        refine hKc _ _ hb4.out (fun _ => ?_)
        clear hKc K
        try simp only [List.setIfInBounds_toArray, List.set_cons_zero, List.set_cons_succ]
        refine wpAnyH_ready (rs := [6]) (by kernel_rfl) (by simp) ?_
        refine AllReadyH.cons rfl (fun K hKc => ?_) AllReadyH.nil
        go_simp
        go_at_call 143
        refine (hL1.out _ hb4.out).mono ?_
        rintro e w5 ⟨rfl, hb5⟩
        exact ⟨rfl, Gone.mk (Below.up hbw2.out hb5.out)⟩
      | some m =>
      have hm1 := hl
      have hm2 : ((putF F st N g x.tm).bind fun a' => (putF F st N (setB g m true) (renT v m y.tm)).map fun b' => Tm.mk 8 m [a', b']) = none := by
        have h := hT'.out
        rw [← hcb.out, if_pos rfl, hl] at h
        exact h
      have hm20 := leastN_lt hm1
      have hSt := Lib.hid (fun dd os => (standing_any d n₀ (grow (redrawn W2 dd) os) hsz (by have := (below_regrown W2 dd os).size; omega) (hLd.out.below ((hbw2.trans ((below_regrown W2 dd os).mono (by omega))).mono hn)) hOd.out).regrown_of)
      have hWi := Lib.hid (fun dd os => (with_any (stT d.tm (fun _ => false)) st (grow (redrawn W2 dd) os)).regrown_of)
      have hLo := Lib.hid (fun dd os => (leastOutside_any (orSet (stT d.tm (fun _ => false)) st) m (grow (redrawn W2 dd) os) hm1).regrown_of)
      obtain ⟨⟨z0, z1, z2⟩, -⟩ := c3_cells hbd2
      have d0 := fun dd os => cell_regrown z0 dd os
      have d1 := fun dd os => cell_regrown z1 dd os
      have d2 := fun dd os => cell_regrown z2 dd os
      have hrg : ∀ w', (∃ p : Regrown, w' = grow (redrawn W2 p.d) p.os) → w'.rangeAt w.heap.size 1 (vs st).toList := fun w' ⟨q, hq⟩ => by
        subst hq
        exact PsAt.range (show PsAt _ w.heap.size bm st g from ((below_regrown W2 q.d q.os).block _ (by omega)).trans hp2)
      replace hrg := Lib.hid hrg
      replace hp2 := Lib.hid hp2
      replace hbd2 := Lib.hid hbd2
      replace hB2 := Lib.hid hB2
      replace hbw2 := Lib.hid hbw2
      replace hy62 := Lib.hid hy62
      replace hm1 := Lib.hid hm1
      replace hm2 := Lib.hid hm2
      replace hb2 := Lib.hid hb2
      replace hLy := Lib.hid hLy
      go_upto_region 3 with fail
      refine wp_region_quiet_below (by kernel_rfl) (by kernel_rfl) ?_
      quiet_step (fail)
      quiet_step (exact hSt.out _ _)
      quiet_step (fail)
      quiet_step (fail)
      refine quiet_mid rfl 79 (.tmp 24) rfl w.heap.size 1 rfl (vs st).toList _ hrg.out u79 rfl (by rw [Array.length_toList, vs_size]; exact i79') ?_
      rw [Array.toArray_toList]
      quiet_step (exact hWi.out _ _)
      quiet_step (exact hLo.out _ _)
      quiet_step (fail)
      refine wpQuiet_nil ?_
      rintro _ ⟨⟨dq3, osq3⟩, rfl⟩
      have hb3 := below_regrown W2 dq3 osq3
      obtain ⟨W3, hW3⟩ : ∃ W3, W3 = grow (redrawn W2 dq3) osq3 := ⟨_, rfl⟩
      rw [← hW3] at hb3 ⊢
      clear d0 d1 d2 hSt hWi hLo hrg z0 z1 z2
      replace hW3 := Lib.hid hW3
      have hB3 : Below w0.heap.size w0 W3 := hB2.out.trans (hb3.mono (by omega))
      have hbd3 := (hb3.block _ (by omega)).trans hbd2.out
      have hy63 := (hb3.block _ (by omega)).trans hy62.out
      obtain ⟨⟨z0, z1, z2⟩, -⟩ := c3_cells hbd3
      rw [hv.out] at z1
      obtain ⟨⟨r0, r1, r2⟩, r3, r4, r5⟩ := c3_cells hy63
      have hRn := rename_any y.size (by omega) y W2.heap.size W3 (v : Nat) (m : Nat) (Nat.le_refl _) (hLy.out.below hb3) hb3.size o4.2.1
      have hRo := renT_ok (v : Nat) (m : Nat) (by omega) y.tm o4.2.1
      have hRs := renT_size (v : Nat) (m : Nat) y.tm o4.2.1
      obtain ⟨U, hU⟩ : ∃ U, U = renT (v : Nat) (m : Nat) y.tm := ⟨_, rfl⟩
      rw [← hU] at hRn hRo hRs
      replace hU := Lib.hid hU
      replace hRs := Lib.hid hRs
      replace hRn := Lib.hid hRn
      replace hB3 := Lib.hid hB3
      replace hb3 := Lib.hid hb3
      replace hbd3 := Lib.hid hbd3
      replace hy63 := Lib.hid hy63
      go_upto_region 4 with fail
      go_wp2_with fail
      refine (hRn.out).mono ?_
      rintro e W4 ⟨a1, l1, k1, rfl, hF4, -, hT4⟩
      have hb4 := hT4.b0
      have hz3 := hb3.out.size
      have hz4 := hb4.size
      have hy64 := (hb4.block _ (by omega)).trans hy63.out
      obtain ⟨⟨q0, q1, q2⟩, q3, q4, q5⟩ := c3_cells hy64
      obtain ⟨W5, e5, k5, -, s5, t5⟩ := stored3 (.int .i64 U.op) (.int .i64 U.n) (.slice a1 l1 k1) hy64
      obtain ⟨Y, hYl, hYt, hY1, hY2, hY3, hY4, hY5⟩ := (hF4.up (w := W3) (W := W5) (Nat.le_refl _) (fun j h1 _ => s5 j (by omega)) t5.size).is.placed
      have hYs5 : Y.size = U.size := by rw [← hYt, size_tm]
      have hrel : Hid (LetGone F st g N x w w0 (.int .i64 (m : Nat)) W5) := by
        have h := hm2.out
        refine ⟨m, Y, hm20, rfl, ?_, ?_, ?_, by rw [hYt]; exact hRo, ?_, ?_, ?_⟩
        · rw [k5]; unfold bx; rw [hY1, hY2, hY3, hY4, hY5]
        · exact hYl
        · rw [hYs5, hRs.out, size_tm]; omega
        · exact hB3.out.trans ((hb4.mono (by omega)).trans (t5.mono (by omega)))
        · rw [hYs5, hRs.out, size_tm]; omega
        · rw [hYt]
          cases hA : putF F st N g x.tm with
          | none => exact .inl rfl
          | some A =>
            cases hB : putF F st N (setB g m true) U with
            | none => exact .inr rfl
            | some B => rw [hA, ← hU.out, hB] at h; cases h
      replace e5 := Lib.hid e5
      clear hy64 hYl hYt hY1 hY2 hY3 hY4 hY5 hYs5 k5 s5 t5 hT4 hF4 z0 z1 z2 r0 r1 r2 r3 r4 r5
      go_wp2_with fail
      rw [← e5.out]
      go_meet
      case rel => exact hrel.out
  case rest =>
    obtain ⟨wx, rfl⟩ : ∃ wx : World, wx = wc := ⟨_, rfl⟩
    obtain ⟨m, Y, hm20, rfl, hwY, hYl, hYs, hYo, hBc, hYN, hAB⟩ := hcut
    clear hb2
    have hbwc : Below w.heap.size w wx := f5.out.trans (hBc.mono (by omega))
    have hzc := hBc.size
    have hpc : PsAt wx w.heap.size bm st g := (hBc.block _ (by omega)).trans f1.out
    have hbdc : wx.heap[w.heap.size + 1]? = some (bx d) := (hBc.block _ (by omega)).trans f2.out
    have hrc : wx.heap[w.heap.size + 1 + 1]? = some zer3 := (hBc.block _ (by omega)).trans f3.out
    obtain ⟨⟨t0, t1, t2⟩, -⟩ := c3_cells hbdc
    rw [ha.out] at t2
    obtain ⟨x0, x1, x2⟩ := g1.out.below hBc (by omega)
    have hmc := hm.out.same (hbwc.block _ hm.out.lt)
    have hEc := hE.out.below (hbwc.mono hn)
    have hK := Lib.hid (show ∀ W, Below wx.heap.size wx W → W.rangeAt w.heap.size 0 (psA bm st g).toList ∧ W.cell? ⟨w.heap.size + 1, 2, none⟩ = some (.slice (some ⟨b, off, none⟩) d.l d.c) ∧ (W.cell? ⟨b, off, none⟩ = some (.int .i64 x.op) ∧ W.cell? ⟨b, off + 1, none⟩ = some (.int .i64 x.n) ∧ W.cell? ⟨b, off + 2, none⟩ = some (.slice x.a x.l x.c)) from fun W hb =>
      ⟨World.rangeAt_of_block' ((hb.block _ (by omega)).trans hpc), (hb.cell (p := ⟨w.heap.size + 1, 2, none⟩) (by simp; omega)).trans t2, (hb.cell (p := ⟨b, off, none⟩) (by simp; omega)).trans x0, (hb.cell (p := ⟨b, off + 1, none⟩) (by simp; omega)).trans x1, (hb.cell (p := ⟨b, off + 2, none⟩) (by simp; omega)).trans x2⟩)
    have hXg := fun (hA : putF F st N g x.tm = none) => Lib.hid (show ∀ W, Below wx.heap.size wx W → Calls Tryz.prog 97 #[.agg (psA bm st g), dv x] W fun e w1 => e = gaveLong ∧ Hid (Below wx.heap.size wx w1) from fun W hb =>
      (ihg.out x n₀ W g hA (by omega) (g2.below ((hBc.trans (hb.mono hzc)).mono (by omega))) (by have := hb.size; omega) (by omega) o4.1 (hmc.same (hb.block _ hmc.lt)) (hEc.below (hb.mono (by omega)))).mono (by
        rintro e w1 ⟨rfl, h⟩
        exact ⟨rfl, Below.up hb h⟩))
    have hXa := fun (A : Tm) (hA : putF F st N g x.tm = some A) => Lib.hid (show ∀ W, Below wx.heap.size wx W → Calls Tryz.prog 97 #[.agg (psA bm st g), dv x] W fun e w1 => ∃ a l c, e = .returned (.agg #[.int .i64 A.op, .int .i64 A.n, .slice a l c]) ∧ Hid (Fresh W w1 A a l c ∧ Below W.heap.size W w1) ∧ Hid (Below wx.heap.size wx w1) ∧ wx.heap.size ≤ w1.heap.size from fun W hb =>
      (ih.out x n₀ W g A hA (g2.below ((hBc.trans (hb.mono hzc)).mono (by omega))) (by have := hb.size; omega) (by omega) o4.1 (hmc.same (hb.block _ hmc.lt)) (hEc.below (hb.mono (by omega)))).mono (by
        rintro e w1 ⟨a, l, c, rfl, hF, -, hT⟩
        exact ⟨a, l, c, rfl, ⟨hF, hT.b0⟩, hb.trans (hT.b0.mono hb.size), (hb.trans (hT.b0.mono hb.size)).size⟩))
    obtain ⟨k0, k1, k2, k3, k4⟩ := hK.out wx (Below.refl _ _)
    have hu125 := Tryz.underlying125
    have hi125 : (Tryz.prog.info? 125).map (·.size) = some (psA bm st g).toList.length := by rw [Array.length_toList]; exact i125 _ _ _
    have hz4 : w.heap.size + 4 ≤ wx.heap.size := by have := (Array.getElem?_eq_some_iff.1 hwY).1; omega
    replace hwY := Lib.hid hwY
    replace hBc := Lib.hid hBc
    replace hbwc := Lib.hid hbwc
    replace hpc := Lib.hid hpc
    replace hbdc := Lib.hid hbdc
    replace hrc := Lib.hid hrc
    replace hmc := Lib.hid hmc
    replace hEc := Lib.hid hEc
    clear t0 t1 t2 x0 x1 x2 hT' hcb
    cases hA : putF F st N g x.tm with
    | none =>
      replace hXg := hXg hA
      clear hXa
      go_upto_region 5 with fail
      refine wp_region_held (S := fun W' => Below wx.heap.size wx W') (by kernel_rfl) ?_
      have hS0 : (fun W' : World => Below wx.heap.size wx W') { wx with drawn := wx.drawn + 1 } := (Below.refl _ _).drew
      refine takeH 0 33 (.agg (psA bm st g)) rfl rfl (by kernel_rfl) (by kernel_rfl) (by kernel_rfl) (fun _ _ _ h => h) (by rfl) (fun W hSw => row_yield (t := 125) (fr := (0, 0)) rfl w.heap.size rfl ((hSw.block _ (by omega)).trans hpc.out) hu125 rfl (i125 _ _ _)) hS0 ?_
      try simp only [List.setIfInBounds_toArray, List.set_cons_zero, List.set_cons_succ]
      refine takeH 1 34 (.pointer (some ⟨w.heap.size + 1, 2, none⟩)) rfl rfl (by kernel_rfl) (by kernel_rfl) (by kernel_rfl) (fun _ _ _ h => h) (by rfl) (by intro W hSw; clear hSw; go_simp) hS0 ?_
      try simp only [List.setIfInBounds_toArray, List.set_cons_zero, List.set_cons_succ]
      refine takeH 2 35 (.slice (some ⟨b, off, none⟩) d.l d.c) rfl rfl (by kernel_rfl) (by kernel_rfl) (by kernel_rfl) (fun _ _ _ h => h) (by rfl) (by intro W hSw; obtain ⟨-, j1, j2, j3, j4⟩ := hK.out W hSw; clear hSw; go_simp) hS0 ?_
      try simp only [List.setIfInBounds_toArray, List.set_cons_zero, List.set_cons_succ]
      refine takeH 3 36 (.pointer (some ⟨b, off, none⟩)) rfl rfl (by kernel_rfl) (by kernel_rfl) (by kernel_rfl) (fun _ _ _ h => h) (by rfl) (by intro W hSw; clear hSw; go_simp) hS0 ?_
      try simp only [List.setIfInBounds_toArray, List.set_cons_zero, List.set_cons_succ]
      refine takeH 4 37 (dv x) rfl rfl (by kernel_rfl) (by kernel_rfl) (by kernel_rfl) (fun _ _ _ h => h) (by rfl) (by intro W hSw; obtain ⟨-, j1, j2, j3, j4⟩ := hK.out W hSw; clear hSw; go_simp) hS0 ?_
      try simp only [List.setIfInBounds_toArray, List.set_cons_zero, List.set_cons_succ]
      have bdr := Lib.hid (show Below wx.heap.size wx wx.drew from (Below.refl _ _).drew)
      have bal := Lib.hid (show Below wx.heap.size wx (wx.alloc zer3).drew from ((Below.refl _ _).alloc (Nat.le_refl _) _).drew)
      have hSd : (fun W' : World => Below wx.heap.size wx W') wx.drew := (Below.refl _ _).drew
      refine wpAnyH_ready (rs := [5, 6]) (by kernel_rfl) (by simp) ?_
      refine AllReadyH.cons rfl (fun K hKc => ?_) (AllReadyH.cons rfl (fun K hKc => ?_) AllReadyH.nil)
      · go_simp
        go_at_call 97
        refine (hXg.out _ bdr.out).mono ?_
        rintro e w1 ⟨rfl, hb1⟩
        exact ⟨rfl, Gone.mk (Below.up hbwc.out hb1.out)⟩
      · go_simp
        refine hKc _ _ bal.out (fun _ => ?_)
        clear hKc K
        try simp only [Act.put, List.setIfInBounds_toArray, List.set_cons_zero, List.set_cons_succ]
        refine wpAnyH_ready (rs := [5]) (by kernel_rfl) (by simp) ?_
        refine AllReadyH.cons rfl (fun K hKc => ?_) AllReadyH.nil
        go_simp
        go_at_call 97
        refine (hXg.out _ bal.out).mono ?_
        rintro e w1 ⟨rfl, hb1⟩
        exact ⟨rfl, Gone.mk (Below.up hbwc.out hb1.out)⟩
    | some A =>
    have hB : putF F st N (setB g m true) Y.tm = none := by
      rcases hAB with h | h
      · rw [hA] at h; cases h
      · exact h
    have hXc := hXa A hA
    clear hXa hXg
    replace hA := Lib.hid hA
    replace hB := Lib.hid hB
    go_upto_region 5 with fail
    go_cut [7] from 33 to 38 (fun s7 W => Slot3 (w.heap.size + 4) A s7 W ∧ Below wx.heap.size wx W)
    case first =>
      refine wp_region_held (S := fun W' => Below wx.heap.size wx W') (by kernel_rfl) ?_
      have hS0 : (fun W' : World => Below wx.heap.size wx W') { wx with drawn := wx.drawn + 1 } := (Below.refl _ _).drew
      refine takeH 0 33 (.agg (psA bm st g)) rfl rfl (by kernel_rfl) (by kernel_rfl) (by kernel_rfl) (fun _ _ _ h => h) (by rfl) (fun W hSw => row_yield (t := 125) (fr := (0, 0)) rfl w.heap.size rfl ((hSw.block _ (by omega)).trans hpc.out) hu125 rfl (i125 _ _ _)) hS0 ?_
      try simp only [List.setIfInBounds_toArray, List.set_cons_zero, List.set_cons_succ]
      refine takeH 1 34 (.pointer (some ⟨w.heap.size + 1, 2, none⟩)) rfl rfl (by kernel_rfl) (by kernel_rfl) (by kernel_rfl) (fun _ _ _ h => h) (by rfl) (by intro W hSw; clear hSw; go_simp) hS0 ?_
      try simp only [List.setIfInBounds_toArray, List.set_cons_zero, List.set_cons_succ]
      refine takeH 2 35 (.slice (some ⟨b, off, none⟩) d.l d.c) rfl rfl (by kernel_rfl) (by kernel_rfl) (by kernel_rfl) (fun _ _ _ h => h) (by rfl) (by intro W hSw; obtain ⟨-, j1, j2, j3, j4⟩ := hK.out W hSw; clear hSw; go_simp) hS0 ?_
      try simp only [List.setIfInBounds_toArray, List.set_cons_zero, List.set_cons_succ]
      refine takeH 3 36 (.pointer (some ⟨b, off, none⟩)) rfl rfl (by kernel_rfl) (by kernel_rfl) (by kernel_rfl) (fun _ _ _ h => h) (by rfl) (by intro W hSw; clear hSw; go_simp) hS0 ?_
      try simp only [List.setIfInBounds_toArray, List.set_cons_zero, List.set_cons_succ]
      refine takeH 4 37 (dv x) rfl rfl (by kernel_rfl) (by kernel_rfl) (by kernel_rfl) (fun _ _ _ h => h) (by rfl) (by intro W hSw; obtain ⟨-, j1, j2, j3, j4⟩ := hK.out W hSw; clear hSw; go_simp) hS0 ?_
      try simp only [List.setIfInBounds_toArray, List.set_cons_zero, List.set_cons_succ]
      have bdr := Lib.hid (show Below wx.heap.size wx wx.drew from (Below.refl _ _).drew)
      have bal := Lib.hid (show Below wx.heap.size wx (wx.alloc zer3).drew from ((Below.refl _ _).alloc (Nat.le_refl _) _).drew)
      have hSd : (fun W' : World => Below wx.heap.size wx W') wx.drew := (Below.refl _ _).drew
      refine wpAnyH_ready (rs := [5, 6]) (by kernel_rfl) (by simp) ?_
      refine AllReadyH.cons rfl (fun K hKc => ?_) (AllReadyH.cons rfl (fun K hKc => ?_) AllReadyH.nil)
      · go_simp
        go_at_call 97
        refine (hXc.out _ bdr.out).mono ?_
        rintro e w1 ⟨a1, l1, c1', rfl, hF1, hb1, hz1'⟩
        refine hKc _ _ hb1.out (fun _ => ?_)
        clear hKc K
        try simp only [Act.put, List.setIfInBounds_toArray, List.set_cons_zero, List.set_cons_succ]
        refine wpAnyH_ready (rs := [6]) (by kernel_rfl) (by simp) ?_
        refine AllReadyH.cons rfl (fun K hKc => ?_) AllReadyH.nil
        go_simp
        refine hKc _ _ (hb1.out.alloc hz1' _) (fun _ => ?_)
        clear hKc K
        try simp only [Act.put, List.setIfInBounds_toArray, List.set_cons_zero, List.set_cons_succ]
        refine wpAnyH_ready (rs := [7]) (by kernel_rfl) (by simp) ?_
        refine AllReadyH.cons rfl (fun K hKc => ?_) AllReadyH.nil
        go_simp
        refine hKc _ _ (hb1.out.alloc hz1' _) (fun _ => ?_)
        clear hKc K
        try simp only [Act.put, List.setIfInBounds_toArray, List.set_cons_zero, List.set_cons_succ]
        refine wpAnyH_done (by kernel_rfl) ?_ _
        have hs3 := Lib.hid (Slot3.behind (lo := w.heap.size + 4) (B := w1.heap.size) (W := wx.drew) rfl (by show _ ≤ wx.heap.size; omega) (by show wx.heap.size ≤ _; exact hz1') hF1.out.1)
        go_wp2_with fail
        go_meet
        case rel => exact ⟨hs3.out, hb1.out.alloc hz1' _⟩
      · go_simp
        refine hKc _ _ bal.out (fun _ => ?_)
        clear hKc K
        try simp only [Act.put, List.setIfInBounds_toArray, List.set_cons_zero, List.set_cons_succ]
        refine wpAnyH_ready (rs := [5]) (by kernel_rfl) (by simp) ?_
        refine AllReadyH.cons rfl (fun K hKc => ?_) AllReadyH.nil
        go_simp
        go_at_call 97
        refine (hXc.out _ bal.out).mono ?_
        rintro e w1 ⟨a1, l1, c1', rfl, hF1, hb1, hz1'⟩
        have zz := zer_keep hF1.out.2 (new_drew wx zer3)
        obtain ⟨⟨z0, z1, z2⟩, z3, z4, z5⟩ := c3_cells zz
        replace zz := Lib.hid zz
        refine hKc _ _ hb1.out (fun _ => ?_)
        clear hKc K
        try simp only [Act.put, List.setIfInBounds_toArray, List.set_cons_zero, List.set_cons_succ]
        refine wpAnyH_ready (rs := [7]) (by kernel_rfl) (by simp) ?_
        refine AllReadyH.cons rfl (fun K hKc => ?_) AllReadyH.nil
        go_simp
        refine hKc _ _ (hb1.out.trans (set3_below _ _ _ (Nat.le_refl _))) (fun _ => ?_)
        clear hKc K z0 z1 z2 z3 z4 z5
        try simp only [Act.put, List.setIfInBounds_toArray, List.set_cons_zero, List.set_cons_succ]
        refine wpAnyH_done (by kernel_rfl) ?_ _
        have hs3 := Lib.hid (Slot3.before (lo := w.heap.size + 4) (B := wx.heap.size) zz.out (by omega) (by simp [World.drew]) hF1.out.1)
        go_wp2_with fail
        go_meet
        case rel => exact ⟨hs3.out, hb1.out.trans (set3_below _ _ _ (Nat.le_refl _))⟩
    case rest =>
      obtain ⟨hx3, hbx⟩ := hcut
      obtain ⟨wy, rfl⟩ : ∃ wy : World, wy = wc := ⟨_, rfl⟩
      have hzy := hbx.size
      have hbwy : Below w.heap.size w wy := hbwc.out.trans (hbx.mono (by omega))
      have hpy : PsAt wy w.heap.size bm st g := (hbx.block _ (by omega)).trans hpc.out
      have hry := (hbx.block _ (by omega)).trans hrc.out
      have hYy := (hbx.block _ (by omega)).trans hwY.out
      obtain ⟨⟨y0, y1, y2⟩, -⟩ := c3_cells hYy
      have hIc := Lib.hid (show ∀ W, Below wy.heap.size wy W → Calls Tryz.prog 141 #[.agg (psA bm st g), .int .i64 (m : Nat)] W fun e w1 => e = .returned (.agg (psA bm st (setB g m true))) ∧ Hid (Below W.heap.size W w1) ∧ Hid (Below wy.heap.size wy w1) ∧ wy.heap.size ≤ w1.heap.size from fun W hb => (pinside_any W bm st g m hm20).mono (by
        rintro e w1 ⟨rfl, hB⟩
        exact ⟨rfl, hB, hb.trans (hB.mono hb.size), (hb.trans (hB.mono hb.size)).size⟩))
      have hYc := Lib.hid (show ∀ W, Below wy.heap.size wy W → Calls Tryz.prog 97 #[.agg (psA bm st (setB g m true)), dv Y] W fun e w1 => e = gaveLong ∧ Hid (Below wy.heap.size wy w1) from fun W hb =>
        (ihg.out Y wx.heap.size W (setB g m true) hB.out hYN (hYl.below ((hbx.trans (hb.mono hzy)))) (by have := hb.size; omega) hYs hYo (hm.out.same ((hb.block _ (by have := hm.out.lt; omega)).trans (hbwy.block _ hm.out.lt))) ((hE.out.below ((hbwy.trans (hb.mono hbwy.size)).mono hn)).wider (by omega))).mono (by
          rintro e w1 ⟨rfl, h⟩
          exact ⟨rfl, Below.up hb h⟩))
      have hK2 := Lib.hid (show ∀ W, Below wy.heap.size wy W → W.cell? ⟨w.heap.size + 1 + 1 + 1, 0, none⟩ = some (.int .i64 Y.op) ∧ W.cell? ⟨w.heap.size + 1 + 1 + 1, 1, none⟩ = some (.int .i64 Y.n) ∧ W.cell? ⟨w.heap.size + 1 + 1 + 1, 2, none⟩ = some (.slice Y.a Y.l Y.c) from fun W hb => (c3_cells ((hb.block _ (by omega)).trans hYy)).1)
      replace hx3 := Lib.hid hx3
      replace hbx := Lib.hid hbx
      replace hbwy := Lib.hid hbwy
      replace hpy := Lib.hid hpy
      replace hry := Lib.hid hry
      replace hYy := Lib.hid hYy
      clear k0 k1 k2 k3 k4 hXc hK
      go_upto_region 6 with fail
      refine wp_region_held (S := fun W' => Below wy.heap.size wy W') (by kernel_rfl) ?_
      have hS0 : (fun W' : World => Below wy.heap.size wy W') { wy with drawn := wy.drawn + 1 } := (Below.refl _ _).drew
      refine takeH 0 39 (.agg (psA bm st g)) rfl rfl (by kernel_rfl) (by kernel_rfl) (by kernel_rfl) (fun _ _ _ h => h) (by rfl) (fun W hSw => row_yield (t := 125) (fr := (0, 0)) rfl w.heap.size rfl ((hSw.block _ (by omega)).trans hpy.out) hu125 rfl (i125 _ _ _)) hS0 ?_
      try simp only [List.setIfInBounds_toArray, List.set_cons_zero, List.set_cons_succ]
      refine takeH 1 40 (.int .i64 (m : Nat)) rfl rfl (by kernel_rfl) (by kernel_rfl) (by kernel_rfl) (fun _ _ _ h => h) (by rfl) (by intro W hSw; clear hSw; go_simp) hS0 ?_
      try simp only [List.setIfInBounds_toArray, List.set_cons_zero, List.set_cons_succ]
      refine takeH 3 42 (dv Y) rfl rfl (by kernel_rfl) (by kernel_rfl) (by kernel_rfl) (fun _ _ _ h => h) (by rfl) (by intro W hSw; obtain ⟨j1, j2, j3⟩ := hK2.out W hSw; clear hSw; go_simp) hS0 ?_
      try simp only [List.setIfInBounds_toArray, List.set_cons_zero, List.set_cons_succ]
      have bdr := Lib.hid (show Below wy.heap.size wy wy.drew from (Below.refl _ _).drew)
      have bal := Lib.hid (show Below wy.heap.size wy (wy.alloc zer3).drew from ((Below.refl _ _).alloc (Nat.le_refl _) _).drew)
      have hSd : (fun W' : World => Below wy.heap.size wy W') wy.drew := (Below.refl _ _).drew
      refine wpAnyH_ready (rs := [2, 5]) (by kernel_rfl) (by simp) ?_
      refine AllReadyH.cons rfl (fun K hKc => ?_) (AllReadyH.cons rfl (fun K hKc => ?_) AllReadyH.nil)
      · go_simp
        go_at_call 141
        refine (hIc.out _ bdr.out).mono ?_
        rintro e w1 ⟨rfl, hI1, hb1, hz1'⟩
        refine hKc _ _ hb1.out (fun _ => ?_)
        clear hKc K
        try simp only [Act.put, List.setIfInBounds_toArray, List.set_cons_zero, List.set_cons_succ]
        refine wpAnyH_ready (rs := [4, 5]) (by kernel_rfl) (by simp) ?_
        refine AllReadyH.cons rfl (fun K hKc => ?_) (AllReadyH.cons rfl (fun K hKc => ?_) AllReadyH.nil)
        · go_simp
          go_at_call 97
          refine (hYc.out _ hb1.out).mono ?_
          rintro e w2 ⟨rfl, hb2⟩
          exact ⟨rfl, Gone.mk (Below.up hbwy.out hb2.out)⟩
        · go_simp
          have bw1 := Lib.hid (hb1.out.alloc hz1' zer3)
          refine hKc _ _ bw1.out (fun _ => ?_)
          clear hKc K
          try simp only [Act.put, List.setIfInBounds_toArray, List.set_cons_zero, List.set_cons_succ]
          refine wpAnyH_ready (rs := [4]) (by kernel_rfl) (by simp) ?_
          refine AllReadyH.cons rfl (fun K hKc => ?_) AllReadyH.nil
          go_simp
          go_at_call 97
          refine (hYc.out _ bw1.out).mono ?_
          rintro e w2 ⟨rfl, hb2⟩
          exact ⟨rfl, Gone.mk (Below.up hbwy.out hb2.out)⟩
      · go_simp
        refine hKc _ _ bal.out (fun _ => ?_)
        clear hKc K
        try simp only [Act.put, List.setIfInBounds_toArray, List.set_cons_zero, List.set_cons_succ]
        refine wpAnyH_ready (rs := [2]) (by kernel_rfl) (by simp) ?_
        refine AllReadyH.cons rfl (fun K hKc => ?_) AllReadyH.nil
        go_simp
        go_at_call 141
        refine (hIc.out _ bal.out).mono ?_
        rintro e w1 ⟨rfl, hI1, hb1, hz1'⟩
        have zz1 := Lib.hid (zer_keep hI1.out (new_drew wy zer3))
        refine hKc _ _ hb1.out (fun _ => ?_)
        clear hKc K
        try simp only [Act.put, List.setIfInBounds_toArray, List.set_cons_zero, List.set_cons_succ]
        refine wpAnyH_ready (rs := [4]) (by kernel_rfl) (by simp) ?_
        refine AllReadyH.cons rfl (fun K hKc => ?_) AllReadyH.nil
        go_simp
        go_at_call 97
        refine (hYc.out _ hb1.out).mono ?_
        rintro e w2 ⟨rfl, hb2⟩
        exact ⟨rfl, Gone.mk (Below.up hbwy.out hb2.out)⟩

end Go.Proofs.YthlegfegkopdkaaGreat

namespace Go.Proofs.YthlegfegkopdkaaGreat
open Go.RowKit Go.Shelf Go.Sort

theorem put_gone (F : Int → Option DT) (st : Nat → Bool) (bm nb N : Nat) : PutGone F st bm nb N := by
  induction N with
  | zero => intro d _ _ _ _ h; have := size_pos d.tm; rw [size_tm] at this; omega
  | succ N ih =>
    intro d n₀ w g hT hN hL hn hsz hO hm hE
    have hp := put_any F st bm nb (fun N ih => putLet_any _ _ _ _ N ih) N
    by_cases h1 : d.op = 1
    · rw [show d.tm = .mk d.op d.n d.tm.kids by cases d; simp [DT.tm, DT.op, DT.n, Tm.kids], putF_var _ _ _ _ _ _ _ h1] at hT
      cases hT
    · by_cases h8 : d.op = 8
      · exact put_let_gone F st bm nb N (putLet_gone F st bm nb N hp ih) d n₀ w g hT hN hL hn hsz hO hm hE h8
      · exact put_node_gone F st bm nb N hp ih d n₀ w g hT hN hL hn hsz hO hm hE h1 h8

theorem catch95_pan (B C : Nat) (k n : Int) (older : List PanicEntry) (w : World) (hx : w.heap[B]? = some zer3) (hy : w.heap[C]? = some (.cells #[.int .i64 k] 31 (0, 0))) (hne : B ≠ C) (hB : B < w.heap.size) (hC : C < w.heap.size) :
    CallsD Tryz.prog 95 #[.pointer (some ⟨B, 0, none⟩), .pointer (some ⟨C, 0, none⟩)] (.panicking ({ v := .iface 120 (.agg #[.int .i64 n]), recovered := false } :: older)) w fun e u' w' =>
      e = .returned (.tuple #[]) ∧ u' = .panicking ({ v := .iface 120 (.agg #[.int .i64 n]), recovered := true } :: older) ∧
      Below (min B C) w w' ∧ w'.heap[B]? = some (.cells #[.int .i64 0, .int .i64 0, .slice none 0 0] 28 (0, 0)) ∧ w'.heap[C]? = some (.cells #[.int .i64 n] 31 (0, 0)) := by
  have ha := assert_gave
  refine callsD_of_wpS Tryz.func95 rfl fun c₀ cs hu => ?_
  apply wpS_seq
  apply wpS_region
  simp [wpOpsS, go_sem, recoverD, hu, Tryz.ntmps95, Exit.thenS, ha]
  apply wpS_seq
  apply wpS_region
  simp [wpOpsS, go_sem, Exit.thenS]
  refine wpS_cond (t := true) (by simp [Act.eval, Array.replicate]) ?_
  simp only [if_true]
  refine wpS_of_wp ?_
  obtain ⟨W, hW⟩ : ∃ W, W = w.alloc (Obj.cells #[Value.int IntKind.i64 n] 120) := ⟨_, rfl⟩
  have hn0 : W.cell? ⟨w.heap.size, 0, none⟩ = some (.int .i64 n) := by rw [hW]; simp [go_sem]
  have hxW : W.heap[B]? = some zer3 := by rw [hW]; exact heap_old hx
  have hyW : W.heap[C]? = some (.cells #[.int .i64 k] 31 (0, 0)) := by rw [hW]; exact heap_old hy
  obtain ⟨⟨e0, e1, e2⟩, e3, e4, e5⟩ := c3_cells hxW
  have e6 : W.cell? ⟨C, 0, none⟩ = some (.int .i64 k) := by rw [cell_of_row W _ 0 _ 31 (0, 0) hyW]; rfl
  have e7 : W.frozen? ⟨C, 0, none⟩ = false := frozen_of_row W _ 0 _ 31 hyW
  have q1 : ¬ w.heap.size = B := by omega
  have q2 : ¬ w.heap.size = C := by omega
  have q3 : ¬ C = B := fun h => hne h.symm
  have q4 : ¬ B = C := hne
  obtain ⟨V, hV⟩ : ∃ V, V = ((W.setCell ⟨B, 0, none⟩ (.int .i64 0)).setCell ⟨B, 1, none⟩ (.int .i64 0)).setCell ⟨B, 2, none⟩ (.slice none 0 0) := ⟨_, rfl⟩
  have v3 : V.heap[B]? = some (.cells #[.int .i64 0, .int .i64 0, .slice none 0 0] 28 (0, 0)) := by rw [hV]; exact set3 _ _ _ hxW
  have v31 : V.heap[C]? = some (.cells #[.int .i64 k] 31 (0, 0)) := by rw [hV]; exact (set3_other (B := B) _ _ _ q3).trans hyW
  have hbel : Hid (Below (min B C) w (V.setCell ⟨C, 0, none⟩ (.int .i64 n)).drew ∧ (V.setCell ⟨C, 0, none⟩ (.int .i64 n)).drew.heap[B]? = some (.cells #[.int .i64 0, .int .i64 0, .slice none 0 0] 28 (0, 0)) ∧ (V.setCell ⟨C, 0, none⟩ (.int .i64 n)).drew.heap[C]? = some (.cells #[.int .i64 n] 31 (0, 0))) := Lib.hid (by
    refine ⟨?_, ?_, ?_⟩
    · have h0 : Below (min B C) w W := by rw [hW]; exact (Below.refl _ _).alloc (by omega) _
      have h1 : Below (min B C) W V := by rw [hV]; exact set3_below (B := B) _ _ _ (by omega)
      exact ((h0.trans h1).setCell (p := ⟨C, 0, none⟩) (by simp; omega) _).drew
    · exact (heap_setCell_other V ⟨C, 0, none⟩ _ _ q4).trans v3
    · show (V.setCell ⟨C, 0, none⟩ (.int .i64 n)).heap[C]? = _
      rw [heap_setCell_same V C 0 _ 31 _ v31]; rfl)
  rw [← hW]
  rw [hV] at hbel
  replace hW := Lib.hid hW
  clear ha hV v3 v31 hxW hyW hx hy
  go_region
  all_goals
    cases c₀
    simp [bodyPostS, results, Tryz.results95]
    exact hbel.out

set_option maxRecDepth 100000 in
set_option maxHeartbeats 4000000 in
theorem putList_gone (bs : List PB) (d : DT) (n₀ : Nat) (w : World) (N : Nat) (a : Option Addr) (l c : Nat) (hT : putF (bindK bs bs.length) (stK bs bs.length) N (fun _ => false) d.tm = none) (hN : d.size ≤ N)
    (hs1 : 1 + d.size ≤ 1000000) (hs2 : ∀ x ∈ bs, 1 + x.d.size ≤ 1000000) (hlen : bs.length ≤ 1000000) (hn : n₀ ≤ w.heap.size) (hL : Lies n₀ w d) (hO : OkV d.tm) (hB : LiesB n₀ w bs a l c) (hv : ∀ x ∈ bs, 0 ≤ x.v ∧ x.v < 20) (hOb : ∀ x ∈ bs, OkV x.d.tm) :
    Calls Tryz.prog 64 #[dv d, .slice a l c] w fun e w' => e = .returned (.tuple #[.agg #[.int .i64 0, .int .i64 0, .slice none 0 0], .int .i64 3]) ∧ Below w.heap.size w w' := by
  obtain ⟨rfl, h1, h2, h3'⟩ := hB
  have hmf : ∀ (fn : Fn) (first cap : Array Value) (w : World), (Instr.makeFunc fn first cap).run Tryz.prog w = .ok (.func fn first cap) w := fun _ _ _ _ => rfl
  have hmm := @run_makeMap Tryz.prog
  replace hT := Lib.hid hT
  replace hL := Lib.hid hL
  replace hs2 := Lib.hid hs2
  replace hv := Lib.hid hv
  replace hOb := Lib.hid hOb
  go_enter_defers Tryz.func64, Tryz.ntmps64
  go_wp2_with (refine store_ls (.tmp 6) (.tmp 11) (B := w.heap.size + 1 + 1 + 1 + 1) (bm := w.heap.size + 1 + 1 + 1) (f := fun _ => false) (heap_new' _ (by simp)) rfl rfl rfl rfl (congrArg Value.agg (lsA_none _).symm) ?_)
  obtain ⟨w0, hw0⟩ : ∃ w0, w0 = (pl0 w d).setRow (w.heap.size + 1 + 1 + 1 + 1) (lsA (w.heap.size + 1 + 1 + 1) (fun _ => false)) := ⟨_, rfl⟩
  rw [← hw0]
  have hB0 : Below w.heap.size w w0 := by rw [hw0]; exact below_row (by go_grown) (by omega) _
  have hz0 : w0.heap.size = w.heap.size + 1 + 1 + 1 + 1 + 1 := by rw [hw0]; simp
  have k0 : LsAt w0 (w.heap.size + 1 + 1 + 1 + 1) (w.heap.size + 1 + 1 + 1) (fun _ => false) := by rw [hw0]; exact setRow_heap _ _ _ _ 123 (0, 0) (heap_new' _ (by simp))
  have k1 : TMap w0 (w.heap.size + 1 + 1 + 1) 0 (fun _ => none) := by
    have := TMap.made (((w.alloc (bx d)).alloc zer3).alloc (.cells #[.int .i64 0] 31))
    simp only [World.size_alloc] at this
    refine this.same ?_
    rw [hw0, setRow_other _ _ _ _ (by omega)]
    exact Below.heap_alloc _ _ _ (by simp)
  have k2 : w0.heap[w.heap.size]? = some (bx d) := by rw [hw0, setRow_other _ _ _ _ (by omega)]; exact heap_old (heap_old (heap_old (heap_old (heap_new' _ rfl))))
  have k3 : w0.heap[w.heap.size + 1]? = some zer3 := by rw [hw0, setRow_other _ _ _ _ (by omega)]; exact heap_old (heap_old (heap_old (heap_new' _ (by simp))))
  have k4 : w0.heap[w.heap.size + 1 + 1]? = some (.cells #[.int .i64 0] 31 (0, 0)) := by rw [hw0, setRow_other _ _ _ _ (by omega)]; exact heap_old (heap_old (heap_new' _ (by simp)))
  have hP0 : PL w w0 bs 0 w0 := ⟨by unfold bindK; simpa using k1, by unfold stK; simpa using k0, hB0, fun _ _ => rfl⟩
  replace hP0 := Lib.hid hP0
  replace k0 := Lib.hid k0
  replace k1 := Lib.hid k1
  replace k2 := Lib.hid k2
  replace k3 := Lib.hid k3
  replace k4 := Lib.hid k4
  replace hw0 := Lib.hid hw0
  replace hB0 := Lib.hid hB0
  replace hz0 := Lib.hid hz0
  go_loopw [8, 14] (fun _ i wr => ∃ k : Nat, k ≤ bs.length ∧ i = .int .i64 k ∧ Hid (PL w w0 bs k wr)) (fun _ i _ => bs.length - (intOf i).toNat)
  case atStart => exact ⟨0, by omega, rfl, hP0⟩
  case round =>
    obtain ⟨k, hk, rfl, hI⟩ := hrel
    by_cases hlt : k < bs.length
    · have o1 : (k : Int) < (bs.length : Int) := by omega
      rcases h3' with h3' | ⟨b, off, rfl, hbn, hks⟩
      · rw [h3'] at hlt; simp at hlt
      obtain ⟨g1, g2⟩ := hks k hlt
      have hbl := hI.out.bel
      obtain ⟨c0, c1, c2, c3⟩ := g1.below hbl (by omega)
      have hvk := hv.out _ (List.getElem_mem hlt)
      obtain ⟨v, hvv⟩ : ∃ v : Nat, bs[k].v = v := ⟨bs[k].v.toNat, by omega⟩
      rw [hvv] at c0 hvk
      have hv20 : v < 20 := by omega
      obtain ⟨wb, hwb⟩ : ∃ wb, wb = wr.alloc (.cells #[.int .i64 (v : Nat), .int .i64 bs[k].d.op, .int .i64 bs[k].d.n, .slice bs[k].d.a bs[k].d.l bs[k].d.c] 70) := ⟨_, rfl⟩
      have hls := hI.out.ls
      have hlt0 := hls.lt
      have m1 := fun o => alloc_cell (o := o) hls.map
      have ki := keyI (i := (v : Int)) ⟨by omega, by omega⟩
      have hz := hbl.size
      obtain ⟨g, hmg, hg⟩ := hI.out.map
      have hmb : MapV Tryz.prog 3 wb (w.heap.size + 1 + 1 + 1) k g := by rw [hwb]; exact hmg.alloc _
      rw [hwb] at hmb
      clear hks hmg
      replace hmb := Lib.hid hmb
      replace hg := Lib.hid hg
      replace g1 := Lib.hid g1
      replace g2 := Lib.hid g2
      replace hls := Lib.hid hls
      replace hvv := Lib.hid hvv
      replace hbl := Lib.hid hbl
      replace hwb := Lib.hid hwb
      go_upto_region 7 with (first | (at_mapUpdate; refine wpList_mapStore _ rfl _ _ _ 99 rfl lawI und99 (w.heap.size + 1 + 1 + 1) k _ rfl hmb.out (by unfold maxLen; omega) _ _ _ rfl rfl ki trivial ?_; intro w2 hm2 hg2))
      have hbw : Below wr.heap.size wr wb := by rw [hwb.out]; exact (Below.refl _ _).alloc (Nat.le_refl _) _
      have hzb : wb.heap.size = wr.heap.size + 1 := by rw [hwb.out]; simp
      rw [← hwb.out] at hg2
      have hz2 := hg2.size
      have hls2 : LsAt w2 (w.heap.size + 1 + 1 + 1 + 1) (w.heap.size + 1 + 1 + 1) (stK bs k) := (hg2.block _ (by omega) (by simp)).trans ((hbw.block _ hlt0).trans hls.out)
      have hbx : w2.heap[wr.heap.size]? = some (.cells #[.int .i64 (v : Nat), .int .i64 bs[k].d.op, .int .i64 bs[k].d.n, .slice bs[k].d.a bs[k].d.l bs[k].d.c] 70 (0, 0)) := (hg2.block _ (by omega) (by simp; omega)).trans (by rw [hwb.out]; exact heap_new' _ rfl)
      have hm3 : TMap w2 (w.heap.size + 1 + 1 + 1) (k + 1) (bindK bs (k + 1)) := by
        rw [bindK_succ _ _ hlt, hvv.out]
        exact TMap.store hg.out hm2
      have hb2 : Below w.heap.size w w2 := (hbl.out.trans (hbw.mono hz)).grown hg2 (by omega) (fun q hq => by cases hq; omega)
      have hlow2 : ∀ j, j < w.heap.size + 1 + 1 + 1 → w2.heap[j]? = w0.heap[j]? := fun j hj => (hg2.block j (by omega) (by simp; omega)).trans ((hbw.block j (by omega)).trans (hI.out.low j hj))
      replace hm3 := Lib.hid hm3
      replace hls2 := Lib.hid hls2
      replace hbx := Lib.hid hbx
      replace hb2 := Lib.hid hb2
      replace hlow2 := Lib.hid hlow2
      clear hm2 hg2 m1
      have hSt := Lib.hid (show ∀ W, Below w2.heap.size w2 W → Calls Tryz.prog 96 #[dv bs[k].d] W fun e w1 => e = .returned (.agg (vs (stT bs[k].d.tm (fun _ => false)))) ∧ Hid (Below w2.heap.size w2 w1) ∧ w2.heap.size ≤ w1.heap.size from fun W hb =>
        (standing_any bs[k].d n₀ W (hs2.out _ (List.getElem_mem hlt)) (by have := hb.size; omega) ((g2.out.below (hb2.out.mono hn)).below (hb.mono (by omega))) (hOb.out _ (List.getElem_mem hlt))).mono (by
          rintro e w1 ⟨rfl, hB⟩
          exact ⟨rfl, hb.trans (hB.mono hb.size), (hb.trans (hB.mono hb.size)).size⟩))
      have hWi := Lib.hid (show ∀ W, Below w2.heap.size w2 W → Calls Tryz.prog 89 #[.agg (vs (stK bs k)), .agg (vs (stT bs[k].d.tm (fun _ => false)))] W fun e w1 => e = .returned (.agg (vs (orSet (stK bs k) (stT bs[k].d.tm (fun _ => false))))) ∧ Hid (Below w2.heap.size w2 w1) ∧ w2.heap.size ≤ w1.heap.size from fun W hb =>
        (with_any (stK bs k) (stT bs[k].d.tm (fun _ => false)) W).mono (by
          rintro e w1 ⟨rfl, hB⟩
          exact ⟨rfl, hb.trans (hB.mono hb.size), (hb.trans (hB.mono hb.size)).size⟩))
      have hK := Lib.hid (show ∀ W, Below w2.heap.size w2 W → W.rangeAt (w.heap.size + 1 + 1 + 1 + 1) 1 (vs (stK bs k)).toList ∧ W.cell? ⟨wr.heap.size, 1, none⟩ = some (.int .i64 bs[k].d.op) ∧ W.cell? ⟨wr.heap.size, 2, none⟩ = some (.int .i64 bs[k].d.n) ∧ W.cell? ⟨wr.heap.size, 3, none⟩ = some (.slice bs[k].d.a bs[k].d.l bs[k].d.c) from fun W hb => by
        have h := (hb.block _ (by omega)).trans hbx.out
        have h' : LsAt W (w.heap.size + 1 + 1 + 1 + 1) (w.heap.size + 1 + 1 + 1) (stK bs k) := (hb.block _ hls2.out.lt).trans hls2.out
        exact ⟨h'.range, by rw [cell_of_row W _ 1 _ 70 (0, 0) h]; rfl, by rw [cell_of_row W _ 2 _ 70 (0, 0) h]; rfl, by rw [cell_of_row W _ 3 _ 70 (0, 0) h]; rfl⟩)
      obtain ⟨F, hF⟩ : ∃ F, F = orSet (stK bs k) (stT bs[k].d.tm (fun _ => false)) := ⟨_, rfl⟩
      rw [← hF] at hWi
      obtain ⟨G, hG⟩ : ∃ G, G = stT bs[k].d.tm (fun _ => false) := ⟨_, rfl⟩
      rw [← hG] at hWi hSt
      replace hF := Lib.hid hF
      replace hG := Lib.hid hG
      refine onlyN ?_
      have hz2' : wr.heap.size < w2.heap.size := by omega
      refine wp_region_held (S := fun W' => Turns (fun b => b = w.heap.size + 1 + 1 + 1 + 1) w2 W') (by kernel_rfl) ?_
      have bdr := Lib.hid (show Below w2.heap.size w2 w2.drew from (Below.refl _ _).drew)
      have hS0 : (fun W' : World => Turns (fun b => b = w.heap.size + 1 + 1 + 1 + 1) w2 W') { w2 with drawn := w2.drawn + 1 } := Turns.of0' bdr.out
      have hK3 := Lib.hid (show ∀ W, Turns (fun b => b = w.heap.size + 1 + 1 + 1 + 1) w2 W → W.cell? ⟨wr.heap.size, 1, none⟩ = some (.int .i64 bs[k].d.op) ∧ W.cell? ⟨wr.heap.size, 2, none⟩ = some (.int .i64 bs[k].d.n) ∧ W.cell? ⟨wr.heap.size, 3, none⟩ = some (.slice bs[k].d.a bs[k].d.l bs[k].d.c) from fun W hb => by
        have h := (hb.block wr.heap.size (by omega) (by omega)).trans hbx.out
        exact ⟨by rw [cell_of_row W _ 1 _ 70 (0, 0) h]; rfl, by rw [cell_of_row W _ 2 _ 70 (0, 0) h]; rfl, by rw [cell_of_row W _ 3 _ 70 (0, 0) h]; rfl⟩)
      refine takeH 0 24 (.pointer (some ⟨w.heap.size + 1 + 1 + 1 + 1, 1, none⟩)) rfl rfl (by kernel_rfl) (by kernel_rfl) (by kernel_rfl) (fun _ _ _ h => h) (by rfl) (by intro W hSw; clear hSw; go_simp) hS0 ?_
      try simp only [List.setIfInBounds_toArray, List.set_cons_zero, List.set_cons_succ]
      refine takeH 2 26 (.pointer (some ⟨wr.heap.size, 1, none⟩)) rfl rfl (by kernel_rfl) (by kernel_rfl) (by kernel_rfl) (fun _ _ _ h => h) (by rfl) (by intro W hSw; clear hSw; go_simp) hS0 ?_
      try simp only
      refine takeH 3 27 (dv bs[k].d) rfl rfl (by kernel_rfl) (by kernel_rfl) (by kernel_rfl) (fun _ _ _ h => h) (by rfl) (by intro W hSw; obtain ⟨j1, j2, j3⟩ := hK3.out W hSw; clear hSw; go_simp) hS0 ?_
      try simp only
      refine wpAnyH_ready (rs := [1, 4]) (by kernel_rfl) (by simp) ?_
      refine AllReadyH.cons rfl (fun K hKc => ?_) (AllReadyH.cons rfl (fun K hKc => ?_) AllReadyH.nil)
      · rw [if_pos (by rfl)]
        refine wp_load_mid 79 (.tmp 24) rfl (w.heap.size + 1 + 1 + 1 + 1) 1 rfl (vs (stK bs k)).toList _ (hK.out _ bdr.out).1 u79 rfl (by rw [Array.length_toList, vs_size]; exact i79') ?_
        rw [Array.toArray_toList]
        refine hKc _ _ (Turns.of0' bdr.out) (fun _ => ?_)
        clear hKc K
        try simp only [List.setIfInBounds_toArray, List.set_cons_zero, List.set_cons_succ]
        refine wpAnyH_ready (rs := [4]) (by kernel_rfl) (by simp) ?_
        refine AllReadyH.cons rfl (fun K hKc => ?_) AllReadyH.nil
        go_simp
        go_at_call 96
        refine (hSt.out _ bdr.out).mono ?_
        rintro e w3 ⟨rfl, hb3, hz3⟩
        refine hKc _ _ (Turns.of0' hb3.out) (fun _ => ?_)
        clear hKc K
        try simp only [List.setIfInBounds_toArray, List.set_cons_zero, List.set_cons_succ]
        refine wpAnyH_ready (rs := [5]) (by kernel_rfl) (by simp) ?_
        refine AllReadyH.cons rfl (fun K hKc => ?_) AllReadyH.nil
        go_simp
        go_at_call 89
        refine (hWi.out _ hb3.out).mono ?_
        rintro e w4 ⟨rfl, hb4, hz4⟩
        refine hKc _ _ (Turns.of0' hb4.out) (fun hS4 => ?_)
        clear hKc K
        try simp only [List.setIfInBounds_toArray, List.set_cons_zero, List.set_cons_succ]
        refine takeH 6 30 (.pointer (some ⟨w.heap.size + 1 + 1 + 1 + 1, 1, none⟩)) rfl rfl (by kernel_rfl) (by kernel_rfl) (by kernel_rfl) (fun _ _ _ h => h) (by rfl) (by intro W hSw; clear hSw; go_simp) hS4 ?_
        try simp only [List.setIfInBounds_toArray, List.set_cons_zero, List.set_cons_succ]
        refine wpAnyH_ready (rs := [7]) (by kernel_rfl) (by simp) ?_
        refine AllReadyH.cons rfl (fun K hKc => ?_) AllReadyH.nil
        rw [if_pos (by rfl)]
        have hls4 : LsAt w4 (w.heap.size + 1 + 1 + 1 + 1) (w.heap.size + 1 + 1 + 1) (stK bs k) := (hb4.out.block _ hls2.out.lt).trans hls2.out
        have hth : w4.there (w.heap.size + 1 + 1 + 1 + 1) 1 (vs F).size := by rw [vs_size]; exact hls4.there
        have hiF := i79 F
        have hoF := vs_one F
        with_reducible refine wp_store_mid (P := Tryz.prog) 79 (.tmp 30) (.tmp 29) ?q1 ?q2 ?q3 ?q4 ?q5 ?q6 ?q7 ?q8 ?q9 ?q10
        case q1 => rfl
        case q5 => rfl
        case q6 => rfl
        case q7 => exact hth
        case q8 => exact hiF
        case q9 => exact hoF
        case' q10 => clear hth hiF hoF
        have hls5 := hls4.stores F
        obtain ⟨w5, hw5⟩ : ∃ w5, w5 = w4.setCells (w.heap.size + 1 + 1 + 1 + 1) 1 (vs F).toList := ⟨_, rfl⟩
        have hT5 : Turns (fun b => b = w.heap.size + 1 + 1 + 1 + 1) w4 w5 := by rw [hw5]; exact setCells_turns _ 1
        rw [← hw5] at hls5 ⊢
        refine hKc _ _ (hS4.trans hT5) (fun _ => ?_)
        clear hKc K
        have hT25 : Turns (fun b => b = w.heap.size + 1 + 1 + 1 + 1) w2 w5 := hS4.trans hT5
        have hb5 : Below w.heap.size w w5 := hb2.out.trans ((hb4.out.mono (by omega)).trans (hT5.below (by omega) (fun j hj e => by omega)))
        have hP5 : Hid (PL w w0 bs (k + 1) (w5.setCell ⟨w.heap.size + 1 + 1 + 1 + 1, 1 + v, none⟩ (.bool true))) := pl_step hlt hvv.out hv20 hm3.out hls5 (by rw [hF.out]) hT25 hb5 hlow2.out (by omega)
        have hc5 := hls5.cell hv20
        have hf5 := hls5.frozen (1 + v)
        have hbx5 := (hT25.block wr.heap.size (by omega) (by omega)).trans hbx.out
        have d5 : w5.cell? ⟨wr.heap.size, 0, none⟩ = some (.int .i64 (v : Nat)) := by rw [cell_of_row w5 _ 0 _ 70 (0, 0) hbx5]; rfl
        replace hT25 := Lib.hid hT25
        replace hb5 := Lib.hid hb5
        replace hls5 := Lib.hid hls5
        clear hbx5 hT5 hS4 hw5 hls4
        try simp only [List.setIfInBounds_toArray, List.set_cons_zero, List.set_cons_succ]
        refine wpAnyH_done (by kernel_rfl) ?_ _
        refine onlyN_out ?_
        go_wp2_with fail
        go_roundw
        case rel => exact ⟨k + 1, by omega, by go_num, hP5⟩
        case measure => simp [intOf]; omega
      · go_simp
        go_at_call 96
        refine (hSt.out _ bdr.out).mono ?_
        rintro e w3 ⟨rfl, hb3, hz3⟩
        refine hKc _ _ (Turns.of0' hb3.out) (fun _ => ?_)
        clear hKc K
        try simp only [List.setIfInBounds_toArray, List.set_cons_zero, List.set_cons_succ]
        refine wpAnyH_ready (rs := [1]) (by kernel_rfl) (by simp) ?_
        refine AllReadyH.cons rfl (fun K hKc => ?_) AllReadyH.nil
        rw [if_pos (by rfl)]
        refine wp_load_mid 79 (.tmp 24) rfl (w.heap.size + 1 + 1 + 1 + 1) 1 rfl (vs (stK bs k)).toList _ (hK.out _ hb3.out).1 u79 rfl (by rw [Array.length_toList, vs_size]; exact i79') ?_
        rw [Array.toArray_toList]
        refine hKc _ _ (Turns.of0' hb3.out) (fun _ => ?_)
        clear hKc K
        try simp only [List.setIfInBounds_toArray, List.set_cons_zero, List.set_cons_succ]
        refine wpAnyH_ready (rs := [5]) (by kernel_rfl) (by simp) ?_
        refine AllReadyH.cons rfl (fun K hKc => ?_) AllReadyH.nil
        go_simp
        go_at_call 89
        refine (hWi.out _ hb3.out).mono ?_
        rintro e w4 ⟨rfl, hb4, hz4⟩
        refine hKc _ _ (Turns.of0' hb4.out) (fun hS4 => ?_)
        clear hKc K
        try simp only [List.setIfInBounds_toArray, List.set_cons_zero, List.set_cons_succ]
        refine takeH 6 30 (.pointer (some ⟨w.heap.size + 1 + 1 + 1 + 1, 1, none⟩)) rfl rfl (by kernel_rfl) (by kernel_rfl) (by kernel_rfl) (fun _ _ _ h => h) (by rfl) (by intro W hSw; clear hSw; go_simp) hS4 ?_
        try simp only [List.setIfInBounds_toArray, List.set_cons_zero, List.set_cons_succ]
        refine wpAnyH_ready (rs := [7]) (by kernel_rfl) (by simp) ?_
        refine AllReadyH.cons rfl (fun K hKc => ?_) AllReadyH.nil
        rw [if_pos (by rfl)]
        have hls4 : LsAt w4 (w.heap.size + 1 + 1 + 1 + 1) (w.heap.size + 1 + 1 + 1) (stK bs k) := (hb4.out.block _ hls2.out.lt).trans hls2.out
        have hth : w4.there (w.heap.size + 1 + 1 + 1 + 1) 1 (vs F).size := by rw [vs_size]; exact hls4.there
        have hiF := i79 F
        have hoF := vs_one F
        with_reducible refine wp_store_mid (P := Tryz.prog) 79 (.tmp 30) (.tmp 29) ?p1 ?p2 ?p3 ?p4 ?p5 ?p6 ?p7 ?p8 ?p9 ?p10
        case p1 => rfl
        case p5 => rfl
        case p6 => rfl
        case p7 => exact hth
        case p8 => exact hiF
        case p9 => exact hoF
        case' p10 => clear hth hiF hoF
        have hls5 := hls4.stores F
        obtain ⟨w5, hw5⟩ : ∃ w5, w5 = w4.setCells (w.heap.size + 1 + 1 + 1 + 1) 1 (vs F).toList := ⟨_, rfl⟩
        have hT5 : Turns (fun b => b = w.heap.size + 1 + 1 + 1 + 1) w4 w5 := by rw [hw5]; exact setCells_turns _ 1
        rw [← hw5] at hls5 ⊢
        refine hKc _ _ (hS4.trans hT5) (fun _ => ?_)
        clear hKc K
        have hT25 : Turns (fun b => b = w.heap.size + 1 + 1 + 1 + 1) w2 w5 := hS4.trans hT5
        have hb5 : Below w.heap.size w w5 := hb2.out.trans ((hb4.out.mono (by omega)).trans (hT5.below (by omega) (fun j hj e => by omega)))
        have hP5 : Hid (PL w w0 bs (k + 1) (w5.setCell ⟨w.heap.size + 1 + 1 + 1 + 1, 1 + v, none⟩ (.bool true))) := pl_step hlt hvv.out hv20 hm3.out hls5 (by rw [hF.out]) hT25 hb5 hlow2.out (by omega)
        have hc5 := hls5.cell hv20
        have hf5 := hls5.frozen (1 + v)
        have hbx5 := (hT25.block wr.heap.size (by omega) (by omega)).trans hbx.out
        have d5 : w5.cell? ⟨wr.heap.size, 0, none⟩ = some (.int .i64 (v : Nat)) := by rw [cell_of_row w5 _ 0 _ 70 (0, 0) hbx5]; rfl
        replace hT25 := Lib.hid hT25
        replace hb5 := Lib.hid hb5
        replace hls5 := Lib.hid hls5
        clear hbx5 hT5 hS4 hw5 hls4
        try simp only [List.setIfInBounds_toArray, List.set_cons_zero, List.set_cons_succ]
        refine wpAnyH_done (by kernel_rfl) ?_ _
        refine onlyN_out ?_
        go_wp2_with fail
        go_roundw
        case rel => exact ⟨k + 1, by omega, by go_num, hP5⟩
        case measure => simp [intOf]; omega
    · have : k = bs.length := by omega
      subst this
      have hbl := hI.out.bel
      have hz := hbl.size
      have hls := hI.out.ls
      have hlt0 := hls.lt
      have h28 := (hI.out.low _ (by omega)).trans k2.out
      have h3 := (hI.out.low _ (by omega)).trans k3.out
      have h31 := (hI.out.low _ (by omega)).trans k4.out
      obtain ⟨⟨b0, b1, b2⟩, -⟩ := c3_cells h28
      have hE : PutOk n₀ wr (bindK bs bs.length) := bindK_els (fun x hx => by
        rcases h3' with h3' | ⟨b, off, ha, hbn, hks⟩
        · rw [h3'] at hx; cases hx
        · obtain ⟨i, hi, rfl⟩ := List.getElem_of_mem hx
          exact ⟨⟨(hks i hi).2.below (hbl.mono hn), hOb.out _ hx⟩, by have := hs2.out _ hx; omega⟩) _
      have hC := put_gone (bindK bs bs.length) (stK bs bs.length) (w.heap.size + 1 + 1 + 1) bs.length N d n₀ wr (fun _ => false) hT.out hN (hL.out.below (hbl.mono hn)) (by omega) hs1 hO hI.out.map hE
      replace hC := Lib.hid hC
      replace hls := Lib.hid hls
      replace hbl := Lib.hid hbl
      replace h28 := Lib.hid h28
      replace h3 := Lib.hid h3
      replace h31 := Lib.hid h31
      clear hE h3' hP0
      go_wp2_with (first | refine load_ls (.tmp 6) hls.out rfl rfl rfl ?_ | refine build_ls (.tmp 36) rfl rfl rfl ?_)
      refine (hC.out).mono ?_
      rintro e w1 ⟨rfl, hB1⟩
      have hz1 := hB1.size
      have hr3 := (hB1.block _ (by omega)).trans h3.out
      have hr31 := (hB1.block _ (by omega)).trans h31.out
      simp only []
      refine leaves_cons (f := 95) (args := #[.pointer (some ⟨w.heap.size + 1, 0, none⟩), .pointer (some ⟨w.heap.size + 1 + 1, 0, none⟩)]) (by simp) (by simp [go_sem]) ?_
      refine (catch95_pan (w.heap.size + 1) (w.heap.size + 1 + 1) 0 3 [] w1 hr3 hr31 (by omega) (by omega) (by omega)).mono ?_
      rintro e u' w5 ⟨rfl, rfl, hB5, g3, g31⟩
      obtain ⟨⟨x0, x1, x2⟩, -⟩ := c3_cells g3
      have x3 : w5.cell? ⟨w.heap.size + 1 + 1, 0, none⟩ = some (.int .i64 3) := by rw [cell_of_row w5 _ 0 _ 31 (0, 0) g31]; rfl
      have hbf : Below w.heap.size w w5 := Below.trans (Below.up hbl.out hB1) (hB5.mono (by omega))
      clear hB5 g3 g31 hr3 hr31 hB1
      simp [Leaves, settle, results, Tryz.results64, go_sem, x0, x1, x2, x3]
      exact hbf

end Go.Proofs.YthlegfegkopdkaaGreat

namespace Go.Proofs.YthlegfegkopdkaaGreat
open Go.RowKit Go.Shelf Go.Sort

set_option maxRecDepth 100000 in
set_option maxHeartbeats 1000000 in
theorem Subst_gone (s : Sg) (d : DT) (bs' : List PB) (N : Nat) (n₀ : Nat) (w : World) (ac : Option Addr) (lc cc : Nat) (af : Option Addr) (lf cf : Nat) (a : Option Addr) (l c : Nat) (hs1 : 1 + d.size ≤ 1000000) (hs2 : ∀ x ∈ bs', 1 + x.d.size ≤ 1000000) (hn : n₀ ≤ w.heap.size) (hS : IsSg n₀ w s ac lc cc af lf cf) (hL : Lies n₀ w d) (hB : LiesB n₀ w bs' a l c)
    (hv : checkB s [d] = true) (hf : lfB s (-1) (pbs bs') = true) (hN : putF (bindK bs' bs'.length) (stK bs' bs'.length) N (fun _ => false) d.tm = none) (hNs : d.size ≤ N) :
    Calls Tryz.prog 26 #[.agg #[.slice ac lc cc, .slice af lf cf], dv d, .slice a l c] w (SubstEnd w (.mk 0 0 [], 3)) := by
  obtain ⟨W0, hW0⟩ : ∃ W0, W0 = ((w.alloc (bs 24 ac lc cc af lf cf)).alloc (bx d)).alloc zer3 := ⟨_, rfl⟩
  have hB0 : Below w.heap.size w W0 := by rw [hW0]; go_grown
  have hz0 : W0.heap.size = w.heap.size + 1 + 1 + 1 := by rw [hW0]; simp
  have hl1 := hL.below (hB0.mono hn)
  have hS1 := hS.below (hB0.mono hn)
  have hlB := hB.below (hB0.mono hn)
  have hC := Check_any s d n₀ W0 ac lc cc af lf cf hs1 (by omega) hS1 hl1
  have hbx : W0.heap[w.heap.size + 1]? = some (bx d) := by rw [hW0]; exact heap_old (heap_new' _ (by simp))
  have hrs : W0.heap[w.heap.size + 1 + 1]? = some zer3 := by rw [hW0]; exact heap_new' _ (by simp)
  have hsg : W0.heap[w.heap.size]? = some (bs 24 ac lc cc af lf cf) := by rw [hW0]; exact heap_old (heap_old (heap_new' _ rfl))
  have hO := OkV.checked hv (List.mem_singleton.2 rfl)
  have hLf := fun (W : World) (hb : Below W0.heap.size W0 W) => listFormed_any s bs' n₀ W ac lc cc af lf cf a l c hs2 (by have := hb.size; omega) (hS1.below (hb.mono (by omega))) (hlB.below (hb.mono (by omega)))
  rw [hv] at hC
  have he : errOf true = 0 := rfl
  obtain ⟨hlen, hall⟩ := lfB_all hf (by omega) (by omega)
  have hmem : ∀ x ∈ bs', (0 ≤ x.v ∧ x.v < 20) ∧ formedB s x.d.tm = true := fun x hx => hall (x.v, x.d.tm) (List.mem_map.2 ⟨x, hx, rfl⟩)
  have hlen' : bs'.length ≤ 20 := by simp [pbs] at hlen; omega
  have hfs : formedB s d.tm = true := by
    unfold checkB at hv
    rw [Bool.and_eq_true, List.all_eq_true] at hv
    exact hv.2 d (List.mem_singleton.2 rfl)
  have hP := fun (W : World) (hb : Below W0.heap.size W0 W) => putList_gone bs' d n₀ W N a l c hN hNs hs1 hs2 (by omega) (by have := hb.size; omega) (hl1.below (hb.mono (by omega))) hO (hlB.below (hb.mono (by omega))) (fun x hx => (hmem x hx).1) (fun x hx => OkV.formed (hmem x hx).2)
  rw [hf] at hLf
  rw [hW0] at hC
  replace hC := Lib.hid hC
  replace hLf := Lib.hid hLf
  replace hP := Lib.hid hP
  clear hl1 hL hS hv hS1 hlB hB hf hO hall hmem hfs hN
  go_enter Tryz.func26, Tryz.ntmps26
  go_wp2_with fail
  refine (hC.out).mono ?_
  rintro e w1 ⟨rfl, hbe⟩
  rw [← hW0] at hbe
  obtain ⟨⟨b0, b1⟩, -⟩ := c2_cells ((hbe.block w.heap.size (by omega)).trans hsg)
  have hLw := Lib.hid (hLf.out w1 hbe)
  have hz1 := hbe.size
  replace hbe := Lib.hid hbe
  go_wp2_with fail
  refine (hLw.out).mono ?_
  rintro e w2 ⟨rfl, hB2⟩
  have hz2 := hB2.size
  have hbe2 : Below W0.heap.size W0 w2 := hbe.out.trans (hB2.mono (by omega))
  obtain ⟨⟨y0, y1, y2⟩, -⟩ := c3_cells ((hbe2.block (w.heap.size + 1) (by omega)).trans hbx)
  have hPw := Lib.hid (hP.out w2 hbe2)
  replace hbe2 := Lib.hid hbe2
  replace hB2 := Lib.hid hB2
  clear b0 b1
  go_wp2_with fail
  refine (hPw.out).mono ?_
  rintro e w3 ⟨rfl, hB3⟩
  have hz3 := hB3.size
  have hb3 : Below W0.heap.size W0 w3 := hbe2.out.trans (hB3.mono (by omega))
  have q1 := heap_old (o := .cells #[.int .i64 0, .int .i64 0, .slice none 0 0] 28) ((hb3.block (w.heap.size + 1 + 1) (by omega)).trans hrs)
  obtain ⟨⟨p0, p1, p2⟩, p3, p4, p5⟩ := c3_cells q1
  obtain ⟨W3, e3, -, ⟨g0, g1, g2⟩, t2, t3⟩ := stored3 (.int .i64 0) (.int .i64 0) (.slice none 0 0) q1
  have hbf : Below w.heap.size w (w3.alloc (.cells #[.int .i64 0, .int .i64 0, .slice none 0 0] 28)) := (Below.up hB0 hb3).alloc (by have := hB0.size; omega) _
  replace e3 := Lib.hid e3
  replace g0 := Lib.hid g0
  replace g1 := Lib.hid g1
  replace g2 := Lib.hid g2
  replace hB3 := Lib.hid hB3
  replace hb3 := Lib.hid hb3
  replace hbf := Lib.hid hbf
  replace t3 := Lib.hid t3
  clear q1 y0 y1 y2 t2
  go_wp2_with fail
  rw [← e3.out]
  have h0 := g0.out
  have h1 := g1.out
  have h2 := g2.out
  exact bodyPost_ret (v := .tuple #[.agg #[.int .i64 0, .int .i64 0, .slice none 0 0], .int .i64 3]) (by simp [results, Tryz.f26, go_sem, h0, h1, h2]) rfl ⟨none, 0, 0, rfl, Fresh.nil _ _ _ _, hbf.out.trans (t3.out.mono (by omega))⟩

end Go.Proofs.YthlegfegkopdkaaGreat

namespace Go.Proofs.YthlegfegkopdkaaGreat
open Go.RowKit Go.Shelf Go.Sort

mutual
/-- A value, laid nowhere. -/
def toD : Tm → DT | .mk op n ks => .mk op n none 0 0 (toDs ks)
def toDs : List Tm → List DT | [] => [] | t :: ts => toD t :: toDs ts
end
mutual
theorem toD_tm : ∀ t : Tm, (toD t).tm = t
  | .mk op n ks => by rw [toD, DT.tm, toDs_tm ks]
theorem toDs_tm : ∀ ts : List Tm, tms (toDs ts) = ts
  | [] => by rw [toDs, tms]
  | t :: ts => by rw [toDs, tms, toD_tm t, toDs_tm ts]
end

/-- What a list of bindings puts in for a variable. -/
def subL (L : List (Int × Tm)) (v : Int) : Tm := match L.find? (fun x => decide (x.1 = v)) with | some x => x.2 | none => .mk 1 v []
theorem subL_mem {L : List (Int × Tm)} {v : Int} : (∃ x ∈ L, x.1 = v ∧ subL L v = x.2) ∨ ((∀ x ∈ L, x.1 ≠ v) ∧ subL L v = .mk 1 v []) := by
  unfold subL
  cases h : L.find? (fun x => decide (x.1 = v)) with
  | some x => exact .inl ⟨x, List.mem_of_find?_eq_some h, by have := List.find?_some h; simpa using this, rfl⟩
  | none => exact .inr ⟨fun x hx e => by have := List.find?_eq_none.1 h x hx; simp [e] at this, rfl⟩
theorem subL_eq {s : Sg} {bs : List PB} {b : Int} (h : lfB s b (pbs bs) = true) : subF (bindK bs bs.length) = subL (pbs bs) := by
  funext v
  rcases subL_mem (L := pbs bs) (v := v) with ⟨x, hx, e, h2⟩ | ⟨h1, h2⟩
  · rw [h2]
    exact subF_some h (by rw [← e]; exact hx)
  · rw [h2]
    exact subF_none h1
/-- What a formed list puts in for a variable is formed. -/
theorem subL_formed {s : Sg} {L : List (Int × Tm)} (h : lfB s (-1) L = true) {v : Int} (hv : 0 ≤ v ∧ v < 20) : formedB s (subL L v) = true := by
  rcases subL_mem (L := L) (v := v) with ⟨x, hx, -, h2⟩ | ⟨-, h2⟩
  · rw [h2]
    exact ((lfB_all h (by omega) (by omega)).2 x hx).2
  · rw [h2, formedB_eq, Bool.and_eq_true, decide_eq_true_eq]
    refine ⟨(weigh_iff _ 40 12 (by omega)).1.2 ⟨by simp [Tm.size, sizes], by simp [deepOk, deepOks]⟩, ?_⟩
    rw [nodesOk, nodeOk_1]; simp [nodesOks, inB]; omega

/-- What 'Subst' answers of a value. -/
noncomputable def subV (s : Sg) (L : List (Int × Tm)) (t : Tm) : Tm × Int := if formedB s (sb (subL L) t) = true then (sb (subL L) t, 0) else (.mk 0 0 [], 3)
theorem formed_dsize {s : Sg} {d : DT} (h : formedB s d.tm = true) : 1 + d.size ≤ 1000000 := by
  have := formed_size h; rw [size_tm] at this; omega
theorem check_formed {s : Sg} {d : DT} (h : checkB s [d] = true) : sigB s = true ∧ formedB s d.tm = true := by
  unfold checkB at h; simpa using h
theorem Subst_val (s : Sg) (d : DT) (L : List (Int × Tm)) (n₀ : Nat) (w : World) (ac : Option Addr) (lc cc : Nat) (af : Option Addr) (lf cf : Nat) (a : Option Addr) (l c : Nat) (hn : n₀ ≤ w.heap.size) (hS : IsSg n₀ w s ac lc cc af lf cf) (hL : Lies n₀ w d) (hI : IsBinds n₀ w L a l c)
    (hc : checkB s [d] = true) (hv : isVal d.tm = true) (hlf : lfB s (-1) L = true) :
    Calls Tryz.prog 26 #[.agg #[.slice ac lc cc, .slice af lf cf], dv d, .slice a l c] w (SubstEnd w (subV s L d.tm)) := by
  obtain ⟨bs, hB, hp⟩ := hI.placed
  subst hp
  have hO := OkV.checked hc (List.mem_singleton.2 rfl)
  have hbz : ∀ y ∈ bs, 1 + y.d.size ≤ 1000000 := fun y hy => formed_dsize ((lfB_all hlf (by omega) (by omega)).2 (y.v, y.d.tm) (List.mem_map.2 ⟨y, hy, rfl⟩)).2
  have hT := putF_sb (bindK bs bs.length) (stK bs bs.length) d.tm.size d.tm (Nat.le_refl _) hO hv
  have := Subst_any s d bs _ n₀ w ac lc cc af lf cf a l c (formed_dsize (check_formed hc).2) hbz hn hS hL hB (fun _ _ => ⟨_, hT⟩)
  unfold substA at this
  rw [if_pos hc, if_pos hlf, subL_eq hlf] at this
  exact this

/-- 'Match' of values: none, or a formed list that puts the second for the first. -/
theorem match_ans (s : Sg) (d x : DT) (hv : checkV s [d, x] = true) : ((matchA s d x).2 = 5) ∨ ((matchA s d x).2 = 0 ∧ lfB s (-1) (matchA s d x).1 = true ∧ subV s (matchA s d x).1 d.tm = (x.tm, 0)) := by
  have hc : checkB s [d, x] = true := by unfold checkV at hv; rw [Bool.and_eq_true] at hv; exact hv.1
  have hO := OkV.checked hc (by simp : d ∈ [d, x])
  have hx : formedB s x.tm = true := by unfold checkB at hc; simp at hc; exact hc.2.2
  unfold matchA
  rw [if_pos hv]
  by_cases hm : (matchD noB d x).1 = true
  · rw [if_pos hm]
    obtain ⟨h1, h2⟩ := match_total s d x hO hx hm
    refine .inr ⟨rfl, h1, ?_⟩
    obtain ⟨bs, hbs⟩ : ∃ bs : List PB, pbs bs = listB (matchD noB d x).2 20 := by
      refine ⟨(List.range 20).filterMap fun v : Nat => ((matchD noB d x).2 v).map fun d => ⟨(v : Int), d⟩, ?_⟩
      unfold pbs listB
      rw [List.map_filterMap]
      congr 1
      funext v
      cases (matchD noB d x).2 (v : Int) <;> rfl
    have h3 := h2 bs hbs
    rw [← hbs] at h1 ⊢
    rw [subL_eq h1] at h3
    unfold subV
    simp only
    rw [h3, if_pos hx]
  · rw [if_neg hm]; exact .inl rfl

/-- 'Unify' of values, as the law asks it. -/
theorem unify_ans (s : Sg) (d x : DT) (hd : nodesOk s d.tm = true ∧ isVal d.tm = true) (hx : nodesOk s x.tm = true ∧ isVal x.tm = true) : ∃ M err, UniAll d x M err ∧
    ((err = 5 ∧ M = [] ∧ ∀ L, sb (subL L) d.tm ≠ sb (subL L) x.tm) ∨ (err = 3 ∧ M = []) ∨
     (err = 0 ∧ lfB s (-1) M = true ∧ (∀ y ∈ M, isVal y.2 = true) ∧ subV s M d.tm = subV s M x.tm ∧ (∀ y ∈ M, ∀ z ∈ M, ∀ i : Nat, fvT y.2 i = true → z.1 ≠ (i : Int)) ∧
      ∀ L, lfB s (-1) L = true → sb (subL L) d.tm = sb (subL L) x.tm → ∀ y ∈ M, subV s L (.mk 1 y.1 []) = (subL L y.1, 0) ∧ subV s L y.2 = (subL L y.1, 0))) := by
  obtain ⟨M, err, hU, h⟩ := unify_total s d x hd hx
  refine ⟨M, err, hU, ?_⟩
  rcases h with ⟨h1, h2, h3⟩ | h | ⟨h0, hl, hv, θ, ht, hs, hm, hf⟩
  · exact .inl ⟨h1, h2, fun L => h3 (subL L)⟩
  · exact .inr (.inl h)
  · refine .inr (.inr ⟨h0, hl, hv, ?_, hf, fun L hL e y hy => ?_⟩)
    · have hθ : ∀ v : Int, 0 ≤ v ∧ v < 20 → subL M v = θ v := fun v hv' => by
        have hpb : ∃ bs : List PB, pbs bs = M := by
          have key : ∀ l : List (Int × Tm), ∃ bs : List PB, pbs bs = l := fun l => by
            have hdt : ∀ t : Tm, ∃ D : DT, D.tm = t := fun t => ⟨toD t, toD_tm t⟩
            induction l with
            | nil => exact ⟨[], rfl⟩
            | cons p l ih =>
              obtain ⟨bs, hbs⟩ := ih
              obtain ⟨D, hD⟩ := hdt p.2
              exact ⟨⟨p.1, D⟩ :: bs, by simp only [pbs, List.map_cons, hD]; rw [← hbs]; rfl⟩
          exact key M
        obtain ⟨bs, hbs⟩ := hpb
        have := ht bs hbs v hv'
        rw [subL_eq (s := s) (b := -1) (by rw [hbs]; exact hl), hbs] at this
        exact this
      have e1 := sb_congr hθ _ d.tm (Nat.le_refl _) (okV_of _ hd.1)
      have e2 := sb_congr hθ _ x.tm (Nat.le_refl _) (okV_of _ hx.1)
      unfold subV
      rw [e1, e2, hs]
    · have hy1 := ((lfB_all hl (by omega) (by omega)).2 y hy).1
      have hfo := subL_formed hL hy1
      have e3 := hm (subL L) e y hy
      refine ⟨?_, ?_⟩
      · unfold subV
        rw [sb, if_pos rfl, if_pos hfo]
      · unfold subV
        rw [← e3, if_pos hfo]

end Go.Proofs.YthlegfegkopdkaaGreat

namespace Go.Proofs.YthlegfegkopdkaaGreat
open Go.RowKit Go.Shelf Go.Sort

theorem three_lies {n₀ : Nat} {w : World} {d x y : DT} (h1 : Lies n₀ w d) (h2 : Lies n₀ w x) (h3 : Lies n₀ w y) (hn : n₀ ≤ w.heap.size) :
    LiesAll (w.heap.size + 1) (w.alloc (.cells #[.int .i64 d.op, .int .i64 d.n, .slice d.a d.l d.c, .int .i64 x.op, .int .i64 x.n, .slice x.a x.l x.c, .int .i64 y.op, .int .i64 y.n, .slice y.a y.l y.c] 28)) [d, x, y] w.heap.size 0 := by
  have hb : Below n₀ w (w.alloc (.cells #[.int .i64 d.op, .int .i64 d.n, .slice d.a d.l d.c, .int .i64 x.op, .int .i64 x.n, .slice x.a x.l x.c, .int .i64 y.op, .int .i64 y.n, .slice y.a y.l y.c] 28)) := (Below.refl _ _).alloc hn _
  simp only [LiesAll]
  exact ⟨⟨⟨by go_cell, by go_cell, by go_cell⟩, (h1.below hb).wider (by omega)⟩, ⟨⟨by go_cell, by go_cell, by go_cell⟩, (h2.below hb).wider (by omega)⟩, ⟨⟨by go_cell, by go_cell, by go_cell⟩, (h3.below hb).wider (by omega)⟩, trivial⟩
theorem two_lies' {n₀ : Nat} {w : World} {d x : DT} (h1 : Lies n₀ w d) (h2 : Lies n₀ w x) (hn : n₀ ≤ w.heap.size) :
    LiesAll (w.heap.size + 1) (w.alloc (.cells #[.int .i64 d.op, .int .i64 d.n, .slice d.a d.l d.c, .int .i64 x.op, .int .i64 x.n, .slice x.a x.l x.c] 28)) [d, x] w.heap.size 0 := by
  have hb : Below n₀ w (w.alloc (.cells #[.int .i64 d.op, .int .i64 d.n, .slice d.a d.l d.c, .int .i64 x.op, .int .i64 x.n, .slice x.a x.l x.c] 28)) := (Below.refl _ _).alloc hn _
  simp only [LiesAll]
  exact ⟨⟨⟨by go_cell, by go_cell, by go_cell⟩, (h1.below hb).wider (by omega)⟩, ⟨⟨by go_cell, by go_cell, by go_cell⟩, (h2.below hb).wider (by omega)⟩, trivial⟩
theorem one_lies' {n₀ : Nat} {w : World} {d : DT} (h1 : Lies n₀ w d) (hn : n₀ ≤ w.heap.size) :
    LiesAll (w.heap.size + 1) (w.alloc (.cells #[.int .i64 d.op, .int .i64 d.n, .slice d.a d.l d.c] 28)) [d] w.heap.size 0 := by
  have hb : Below n₀ w (w.alloc (.cells #[.int .i64 d.op, .int .i64 d.n, .slice d.a d.l d.c] 28)) := (Below.refl _ _).alloc hn _
  simp only [LiesAll]
  exact ⟨⟨⟨by go_cell, by go_cell, by go_cell⟩, (h1.below hb).wider (by omega)⟩, trivial⟩

def smallDs (ds : List DT) : Bool := ds.all fun d => smallT d.tm
def formedDs (s : Sg) (ds : List DT) : Bool := ds.all fun d => formedB s d.tm
theorem all_no {ds : List DT} {f : DT → Bool} {k : Nat} (h : k < ds.length) (hf : f ds[k] = false) : ds.all f = false := List.all_eq_false.2 ⟨ds[k], List.getElem_mem h, by simp [hf]⟩
theorem all_yes {ds : List DT} {f : DT → Bool} (h : ∀ k (hk : k < ds.length), f ds[k] = true) : ds.all f = true := by
  rw [List.all_eq_true]
  intro x hx
  obtain ⟨k, hk, rfl⟩ := List.getElem_of_mem hx
  exact h k hk

/-- The box of the signature. -/
theorem box_sig {w W : World} {ac : Option Addr} {lc cc : Nat} {af : Option Addr} {lf cf : Nat} (h : Below (w.heap.size + 1) (w.alloc (.cells #[.slice ac lc cc, .slice af lf cf] 24)) W) :
    W.cell? ⟨w.heap.size, 0, none⟩ = some (.slice ac lc cc) ∧ W.cell? ⟨w.heap.size, 1, none⟩ = some (.slice af lf cf) ∧ Below w.heap.size w W ∧ w.heap.size + 1 ≤ W.heap.size := by
  refine ⟨?_, ?_, ((Below.refl _ w).alloc (Nat.le_refl _) _).trans (h.mono (Nat.le_succ _)), by have := h.size; simpa using this⟩
  · rw [h.cell (by simp)]; go_cell
  · rw [h.cell (by simp)]; go_cell

set_option maxRecDepth 100000 in
set_option maxHeartbeats 1000000 in
theorem small_any (s : Sg) (ds : List DT) (n₀ : Nat) (w : World) (ac : Option Addr) (lc cc : Nat) (af : Option Addr) (lf cf : Nat) (b off c : Nat) (hs : IsSg n₀ w s ac lc cc af lf cf) (hL : LiesAll n₀ w ds b off) (hbn : b < n₀) (hc : ds.length ≤ c ∧ c ≤ 1000) (hn : n₀ ≤ w.heap.size) :
    Calls Tryz.prog 11 #[.agg #[.slice ac lc cc, .slice af lf cf], .slice (some ⟨b, off, none⟩) ds.length c] w fun e w' => e = .returned (.bool (smallDs ds && smallB s)) ∧ Below w.heap.size w w' := by
  replace hs := Lib.hid hs
  replace hL := Lib.hid hL
  go_enter Tryz.func11, Tryz.ntmps11
  go_wp2_with fail
  go_loopw [5] (fun i wi => ∃ k : Nat, k ≤ ds.length ∧ i = .int .i64 k ∧ Hid (Below (w.heap.size + 1) (w.alloc (.cells #[.slice ac lc cc, .slice af lf cf] 24)) wi) ∧ Hid (∀ j (hj : j < ds.length), j < k → smallT ds[j].tm = true)) (fun i _ => ds.length - (intOf i).toNat)
  case atStart => exact ⟨0, by omega, rfl, Lib.hid (Below.refl _ _), Lib.hid (fun j h h0 => by omega)⟩
  case round =>
    obtain ⟨k, hkk, rfl, hb, hall⟩ := hrel
    obtain ⟨s0, s1, hbw, hz⟩ := box_sig hb.out
    replace hbw := Lib.hid hbw
    by_cases hp : k < ds.length
    · have o1 : (k : Int) < (ds.length : Int) := by omega
      obtain ⟨q2, q3⟩ := LiesAll.get _ (LiesAll.below (hbw.out.mono hn) _ hbn hL.out) k hp
      obtain ⟨p0, p1, p2⟩ := q2
      have hC := Small_any ds[k].tm n₀ wr ds[k].a ds[k].l ds[k].c (Lies.isTm _ q3) (by omega)
      rw [show decide (0 ≤ weigh ds[k].tm 50 14) = smallT ds[k].tm from rfl, DT.tm_op, DT.tm_n] at hC
      clear q3
      cases he : smallT ds[k].tm
      · have hv : Hid (smallDs ds = false) := Lib.hid (all_no hp he)
        rw [he] at hC
        replace hC := Lib.hid hC
        clear hall he
        go_wp2_with (go_at_call 31; refine (hC.out).mono ?_; rintro e w1 ⟨rfl, hbe⟩)
        go_ret
        exact ⟨by rw [hv.out]; rfl, hbw.out.trans (hbe.mono (by omega))⟩
      · have hall' : Hid (∀ j (hj : j < ds.length), j < k + 1 → smallT ds[j].tm = true) := Lib.hid (fun j hj h => by
          by_cases e : j = k
          · subst e; exact he
          · exact hall.out j hj (by omega))
        rw [he] at hC
        replace hC := Lib.hid hC
        clear hall he
        go_wp2_with (go_at_call 31; refine (hC.out).mono ?_; rintro e w1 ⟨rfl, hbe⟩)
        go_roundw
        case rel => exact ⟨k + 1, by omega, by go_num, Lib.hid (hb.out.trans (hbe.mono (by omega))), hall'⟩
        case measure => simp [intOf]; omega
    · have o1 : ¬ (k : Int) < (ds.length : Int) := by omega
      have hv : Hid (smallDs ds = true) := Lib.hid (all_yes fun j hj => hall.out j hj (by omega))
      have hC := SmallSig_any s n₀ wr ac lc cc af lf cf (hs.out.below (hbw.out.mono hn)) (by omega)
      replace hC := Lib.hid hC
      clear hall
      go_wp2_with (go_at_call 47; refine (hC.out).mono ?_; rintro e w1 ⟨rfl, hbe⟩)
      go_ret
      exact ⟨by rw [hv.out]; rfl, hbw.out.trans (hbe.mono (by omega))⟩

set_option maxRecDepth 100000 in
set_option maxHeartbeats 1000000 in
theorem given_any (s : Sg) (ds : List DT) (n₀ : Nat) (w : World) (ac : Option Addr) (lc cc : Nat) (af : Option Addr) (lf cf : Nat) (b off c : Nat) (hs : IsSg n₀ w s ac lc cc af lf cf) (hL : LiesAll n₀ w ds b off) (hbn : b < n₀) (hc : ds.length ≤ c ∧ c ≤ 1000) (hn : n₀ ≤ w.heap.size) :
    Calls Tryz.prog 19 #[.agg #[.slice ac lc cc, .slice af lf cf], .slice (some ⟨b, off, none⟩) ds.length c] w fun e w' => e = .returned (.bool (sigB s && formedDs s ds)) ∧ Below w.heap.size w w' := by
  have hb1 : Below w.heap.size w (w.alloc (.cells #[.slice ac lc cc, .slice af lf cf] 24)) := (Below.refl _ _).alloc (Nat.le_refl _) _
  have hSg := Sig_any s n₀ (w.alloc (.cells #[.slice ac lc cc, .slice af lf cf] 24)) ac lc cc af lf cf (hs.below (hb1.mono hn)) (by simp; omega)
  replace hs := Lib.hid hs
  replace hL := Lib.hid hL
  cases hsb : sigB s
  · rw [hsb] at hSg
    replace hSg := Lib.hid hSg
    go_enter Tryz.func19, Tryz.ntmps19
    go_wp2_with (go_at_call 18; refine (hSg.out).mono ?_; rintro e w1 ⟨rfl, hbe⟩)
    go_ret
    exact ⟨rfl, hb1.trans (hbe.mono (by simp))⟩
  rw [hsb] at hSg
  replace hSg := Lib.hid hSg
  go_enter Tryz.func19, Tryz.ntmps19
  go_wp2_with (go_at_call 18; refine (hSg.out).mono ?_; rintro e w1 ⟨rfl, hbe⟩)
  go_loopw [5] (fun i wi => ∃ k : Nat, k ≤ ds.length ∧ i = .int .i64 k ∧ Hid (Below (w.heap.size + 1) (w.alloc (.cells #[.slice ac lc cc, .slice af lf cf] 24)) wi) ∧ Hid (∀ j (hj : j < ds.length), j < k → formedB s ds[j].tm = true)) (fun i _ => ds.length - (intOf i).toNat)
  case atStart => exact ⟨0, by omega, rfl, Lib.hid (by simpa using hbe), Lib.hid (fun j h h0 => by omega)⟩
  case round =>
    obtain ⟨k, hkk, rfl, hb, hall⟩ := hrel
    clear hbe hb1
    have hbw := Lib.hid (box_sig hb.out).2.2.1
    have hz := (box_sig hb.out).2.2.2
    by_cases hp : k < ds.length
    · have o1 : (k : Int) < (ds.length : Int) := by omega
      have hX : Hid (∀ W, Below (w.heap.size + 1) (w.alloc (.cells #[.slice ac lc cc, .slice af lf cf] 24)) W → W.cell? ⟨w.heap.size, 0, none⟩ = some (.slice ac lc cc) ∧ W.cell? ⟨w.heap.size, 1, none⟩ = some (.slice af lf cf) ∧ Cells3 W b (off + k * 3) ds[k].op ds[k].n ds[k].a ds[k].l ds[k].c) := Lib.hid (fun W h => by
        obtain ⟨x0, x1, x2, x3⟩ := box_sig h
        exact ⟨x0, x1, (LiesAll.get _ (LiesAll.below (x2.mono hn) _ hbn hL.out) k hp).1⟩)
      have hC := fun W (h : Below (w.heap.size + 1) (w.alloc (.cells #[.slice ac lc cc, .slice af lf cf] 24)) W) => by
        obtain ⟨x0, x1, x2, x3⟩ := box_sig h
        have hC := Term_any s ds[k].tm n₀ W ac lc cc af lf cf ds[k].a ds[k].l ds[k].c (hs.out.below (x2.mono hn)) (Lies.isTm _ (LiesAll.get _ (LiesAll.below (x2.mono hn) _ hbn hL.out) k hp).2) (by omega)
        rw [DT.tm_op, DT.tm_n] at hC
        exact hC
      go_wp2_with fail
      refine region_named (S := fun W' => Below (w.heap.size + 1) (w.alloc (.cells #[.slice ac lc cc, .slice af lf cf] 24)) W') (by kernel_rfl) (fun W hW => ?_)
      have hq : Hid (Below (w.heap.size + 1) (w.alloc (.cells #[.slice ac lc cc, .slice af lf cf] 24)) W) := Lib.hid (by rw [hW]; exact hb.out.drew)
      have hzW := (box_sig hq.out).2.2.2
      have hCW := hC W hq.out
      clear hW hC hb hbw hz
      refine takeH 0 15 (.agg #[.slice ac lc cc, .slice af lf cf]) rfl rfl (by kernel_rfl) (by kernel_rfl) (by kernel_rfl) (fun _ _ _ h => h) (by rfl) (by intro W hSw; obtain ⟨j1, j2, j3⟩ := hX.out W hSw; clear hSw j3; go_simp) hq.out ?_
      try simp only [List.setIfInBounds_toArray, List.set_cons_zero, List.set_cons_succ]
      refine takeH 1 16 (.slice (some ⟨b, off, none⟩) ds.length c) rfl rfl (by kernel_rfl) (by kernel_rfl) (by kernel_rfl) (fun _ _ _ h => h) (by rfl) (by intro W hSw; clear hSw; go_simp) hq.out ?_
      try simp only [List.setIfInBounds_toArray, List.set_cons_zero, List.set_cons_succ]
      refine takeH 2 17 (.int .i64 k) rfl rfl (by kernel_rfl) (by kernel_rfl) (by kernel_rfl) (fun _ _ _ h => h) (by rfl) (by intro W hSw; clear hSw; go_simp) hq.out ?_
      try simp only [List.setIfInBounds_toArray, List.set_cons_zero, List.set_cons_succ]
      refine takeH 3 18 (.pointer (some ⟨b, off + k * 3, none⟩)) rfl rfl (by kernel_rfl) (by kernel_rfl) (by kernel_rfl) (fun _ _ _ h => h) (by rfl) (by intro W hSw; clear hSw; go_simp) hq.out ?_
      try simp only [List.setIfInBounds_toArray, List.set_cons_zero, List.set_cons_succ]
      refine takeH 4 19 (.agg #[.int .i64 ds[k].op, .int .i64 ds[k].n, .slice ds[k].a ds[k].l ds[k].c]) rfl rfl (by kernel_rfl) (by kernel_rfl) (by kernel_rfl) (fun _ _ _ h => h) (by rfl) (by intro W hSw; obtain ⟨-, -, ⟨j1, j2, j3⟩⟩ := hX.out W hSw; clear hSw; go_simp) hq.out ?_
      try simp only [List.setIfInBounds_toArray, List.set_cons_zero, List.set_cons_succ]
      refine wpAnyH_ready (rs := [5]) (by kernel_rfl) (by simp) ?_
      refine AllReadyH.cons rfl (fun K hKc => ?_) AllReadyH.nil
      go_simp
      refine hCW.mono ?_
      rintro e w1 ⟨rfl, hbe⟩
      replace hq := Lib.hid (hq.out.trans (hbe.mono hzW))
      refine hKc _ _ hq.out (fun _ => ?_)
      clear hKc K hbe hCW
      try simp only [List.setIfInBounds_toArray, List.set_cons_zero, List.set_cons_succ]
      refine takeH 6 21 (.bool (!formedB s ds[k].tm)) rfl rfl (by kernel_rfl) (by kernel_rfl) (by kernel_rfl) (fun _ _ _ h => h) (by rfl) (by intro W hSw; clear hSw; go_simp) hq.out ?_
      try simp only [List.setIfInBounds_toArray, List.set_cons_zero, List.set_cons_succ]
      refine wpAnyH_done (by kernel_rfl) ?_ _
      cases he : formedB s ds[k].tm
      · have hv : Hid (formedDs s ds = false) := Lib.hid (all_no hp he)
        clear hall he
        go_wp2_with fail
        go_ret
        exact ⟨by rw [hv.out]; rfl, (box_sig hq.out).2.2.1⟩
      · have hall' : Hid (∀ j (hj : j < ds.length), j < k + 1 → formedB s ds[j].tm = true) := Lib.hid (fun j hj h => by
          by_cases e : j = k
          · subst e; exact he
          · exact hall.out j hj (by omega))
        clear hall he
        go_wp2_with fail
        go_roundw
        case rel => exact ⟨k + 1, by omega, by go_num, hq, hall'⟩
        case measure => simp [intOf]; omega
    · have o1 : ¬ (k : Int) < (ds.length : Int) := by omega
      have hv : Hid (formedDs s ds = true) := Lib.hid (all_yes fun j hj => hall.out j hj (by omega))
      clear hall
      go_wp2_with fail
      go_ret
      exact ⟨by rw [hv.out]; rfl, hbw.out⟩

end Go.Proofs.YthlegfegkopdkaaGreat

namespace Go.Proofs.YthlegfegkopdkaaGreat
open Go.RowKit Go.Shelf Go.Sort

noncomputable def valB (s : Sg) (d x : DT) : Bool := ((sigB s && formedDs s [d, x]) && isVal d.tm) && isVal x.tm

abbrev bs1 (w : World) (ac : Option Addr) (lc cc : Nat) (af : Option Addr) (lf cf : Nat) : World := w.alloc (.cells #[.slice ac lc cc, .slice af lf cf] 24)
abbrev bt1 (w : World) (d : DT) : World := w.alloc (.cells #[.int .i64 d.op, .int .i64 d.n, .slice d.a d.l d.c] 28)

theorem given2 (s : Sg) (d x : DT) (n₀ : Nat) (w : World) (ac : Option Addr) (lc cc : Nat) (af : Option Addr) (lf cf : Nat) (hs : IsSg n₀ w s ac lc cc af lf cf) (h1 : Lies n₀ w d) (h2 : Lies n₀ w x) (hn : n₀ ≤ w.heap.size) :
    Calls Tryz.prog 19 #[.agg #[.slice ac lc cc, .slice af lf cf], .slice (some ⟨w.heap.size, 0, none⟩) 2 2] (w.alloc (.cells #[.int .i64 d.op, .int .i64 d.n, .slice d.a d.l d.c, .int .i64 x.op, .int .i64 x.n, .slice x.a x.l x.c] 28))
      fun e w' => e = .returned (.bool (sigB s && formedDs s [d, x])) ∧ Below w.heap.size w w' := by
  have hb := bal w (.cells #[.int .i64 d.op, .int .i64 d.n, .slice d.a d.l d.c, .int .i64 x.op, .int .i64 x.n, .slice x.a x.l x.c] 28)
  refine (given_any s [d, x] (w.heap.size + 1) _ ac lc cc af lf cf w.heap.size 0 2 ((hs.below (hb.mono hn)).wider (by omega)) (two_lies' h1 h2 hn) (by omega) ⟨by simp, by omega⟩ (by simp)).mono ?_
  rintro e w' ⟨he, h⟩
  exact ⟨he, hb.trans (h.mono (by simp))⟩
theorem small3 (s : Sg) (d x y : DT) (n₀ : Nat) (w : World) (ac : Option Addr) (lc cc : Nat) (af : Option Addr) (lf cf : Nat) (hs : IsSg n₀ w s ac lc cc af lf cf) (h1 : Lies n₀ w d) (h2 : Lies n₀ w x) (h3 : Lies n₀ w y) (hn : n₀ ≤ w.heap.size) :
    Calls Tryz.prog 11 #[.agg #[.slice ac lc cc, .slice af lf cf], .slice (some ⟨w.heap.size, 0, none⟩) 3 3] (w.alloc (.cells #[.int .i64 d.op, .int .i64 d.n, .slice d.a d.l d.c, .int .i64 x.op, .int .i64 x.n, .slice x.a x.l x.c, .int .i64 y.op, .int .i64 y.n, .slice y.a y.l y.c] 28))
      fun e w' => e = .returned (.bool (smallDs [d, x, y] && smallB s)) ∧ Below w.heap.size w w' := by
  have hb := bal w (.cells #[.int .i64 d.op, .int .i64 d.n, .slice d.a d.l d.c, .int .i64 x.op, .int .i64 x.n, .slice x.a x.l x.c, .int .i64 y.op, .int .i64 y.n, .slice y.a y.l y.c] 28)
  refine (small_any s [d, x, y] (w.heap.size + 1) _ ac lc cc af lf cf w.heap.size 0 3 ((hs.below (hb.mono hn)).wider (by omega)) (three_lies h1 h2 h3 hn) (by omega) ⟨by simp, by omega⟩ (by simp)).mono ?_
  rintro e w' ⟨he, h⟩
  exact ⟨he, hb.trans (h.mono (by simp))⟩

theorem box_t {w W : World} {k : Nat} {d : DT} {w1 : World} (hw : w1 = bt1 w d) (hk : w1.heap.size ≤ k) (h : Below k w1 W) :
    W.cell? ⟨w.heap.size, 0, none⟩ = some (.int .i64 d.op) ∧ W.cell? ⟨w.heap.size, 1, none⟩ = some (.int .i64 d.n) ∧ W.cell? ⟨w.heap.size, 2, none⟩ = some (.slice d.a d.l d.c) := by
  subst hw
  have hk' : w.heap.size < k := by simp at hk; omega
  exact ⟨by rw [h.cell hk']; go_cell, by rw [h.cell hk']; go_cell, by rw [h.cell hk']; go_cell⟩
theorem box_s {w W : World} {k : Nat} {ac : Option Addr} {lc cc : Nat} {af : Option Addr} {lf cf : Nat} {w1 : World} (hw : w1 = bs1 w ac lc cc af lf cf) (hk : w1.heap.size ≤ k) (h : Below k w1 W) :
    W.cell? ⟨w.heap.size, 0, none⟩ = some (.slice ac lc cc) ∧ W.cell? ⟨w.heap.size, 1, none⟩ = some (.slice af lf cf) := by
  subst hw
  have hk' : w.heap.size < k := by simp at hk; omega
  exact ⟨by rw [h.cell hk']; go_cell, by rw [h.cell hk']; go_cell⟩

set_option maxRecDepth 100000 in
set_option maxHeartbeats 1000000 in
theorem values_any (s : Sg) (d x : DT) (n₀ : Nat) (w : World) (ac : Option Addr) (lc cc : Nat) (af : Option Addr) (lf cf : Nat) (hs : IsSg n₀ w s ac lc cc af lf cf) (h1 : Lies n₀ w d) (h2 : Lies n₀ w x) (hn : n₀ ≤ w.heap.size) :
    Calls Tryz.prog 40 #[.agg #[.slice ac lc cc, .slice af lf cf], .agg #[.int .i64 d.op, .int .i64 d.n, .slice d.a d.l d.c], .agg #[.int .i64 x.op, .int .i64 x.n, .slice x.a x.l x.c]] w
      fun e w' => e = .returned (.bool (valB s d x)) ∧ Below w.heap.size w w' := by
  obtain ⟨wa, hwa⟩ : ∃ W, W = bs1 w ac lc cc af lf cf := ⟨_, rfl⟩
  obtain ⟨wb, hwb⟩ : ∃ W, W = bt1 wa d := ⟨_, rfl⟩
  obtain ⟨W0, hW0⟩ : ∃ W, W = bt1 wb x := ⟨_, rfl⟩
  have hza : wa.heap.size = w.heap.size + 1 := by rw [hwa]; simp
  have hzb : wb.heap.size = w.heap.size + 1 + 1 := by rw [hwb]; simp [hza]
  have hz0 : W0.heap.size = w.heap.size + 1 + 1 + 1 := by rw [hW0]; simp [hzb]
  have ba : Below w.heap.size w wa := by rw [hwa]; exact bal _ _
  have bb : Below wa.heap.size wa wb := by rw [hwb]; exact bal _ _
  have bc : Below wb.heap.size wb W0 := by rw [hW0]; exact bal _ _
  have hB0 : Below w.heap.size w W0 := Below.up ba (Below.up bb bc)
  have hcells : Hid (∀ W, Below W0.heap.size W0 W → (W.cell? ⟨w.heap.size + 1, 0, none⟩ = some (.int .i64 d.op) ∧ W.cell? ⟨w.heap.size + 1, 1, none⟩ = some (.int .i64 d.n) ∧ W.cell? ⟨w.heap.size + 1, 2, none⟩ = some (.slice d.a d.l d.c)) ∧ (W.cell? ⟨w.heap.size + 1 + 1, 0, none⟩ = some (.int .i64 x.op) ∧ W.cell? ⟨w.heap.size + 1 + 1, 1, none⟩ = some (.int .i64 x.n) ∧ W.cell? ⟨w.heap.size + 1 + 1, 2, none⟩ = some (.slice x.a x.l x.c))) := Lib.hid (fun W h => by
    have e1 := box_t hwb (Nat.le_refl _) (Below.up bc h)
    have e2 := box_t hW0 (Nat.le_refl _) h
    rw [hza] at e1; rw [hzb] at e2
    exact ⟨e1, e2⟩)
  have hG := given2 s d x n₀ W0 ac lc cc af lf cf (hs.below (hB0.mono hn)) (h1.below (hB0.mono hn)) (h2.below (hB0.mono hn)) (by omega)
  have hV1 := fun W (h : Below W0.heap.size W0 W) => Value_any d.tm.size d.tm n₀ W d.a d.l d.c (Nat.le_refl _) (Lies.isTm _ (h1.below ((Below.up hB0 h).mono hn))) (by have := h.size; omega)
  have hV2 := fun W (h : Below W0.heap.size W0 W) => Value_any x.tm.size x.tm n₀ W x.a x.l x.c (Nat.le_refl _) (Lies.isTm _ (h2.below ((Below.up hB0 h).mono hn))) (by have := h.size; omega)
  simp only [DT.tm_op, DT.tm_n] at hV1 hV2
  have hb0 : Hid (∀ W, Below (w.heap.size + 1 + 1 + 1) (bt1 (bt1 (bs1 w ac lc cc af lf cf) d) x) W → Below W0.heap.size W0 W) := Lib.hid (fun W h => by rw [hz0, hW0, hwb, hwa]; exact h)
  rw [hz0, hW0, hwb, hwa] at hG
  have hv : Hid (valB s d x = (((sigB s && formedDs s [d, x]) && isVal d.tm) && isVal x.tm)) := Lib.hid rfl
  obtain ⟨g, hg⟩ : ∃ g, g = (sigB s && formedDs s [d, x]) := ⟨_, rfl⟩
  obtain ⟨u, hu⟩ : ∃ u, u = isVal d.tm := ⟨_, rfl⟩
  obtain ⟨v, hv'⟩ : ∃ u, u = isVal x.tm := ⟨_, rfl⟩
  rw [← hg, ← hu, ← hv'] at hv
  rw [← hg] at hG
  rw [← hu] at hV1
  rw [← hv'] at hV2
  replace hG := Lib.hid hG
  replace hV1 := Lib.hid hV1
  replace hV2 := Lib.hid hV2
  replace hB0 := Lib.hid hB0
  clear hs h1 h2 ba bb bc hW0 hz0 hza hzb hwa hwb hg hu hv'
  go_enter Tryz.func40, Tryz.ntmps40
  go_upto_region 3 with fail
  refine (hG.out).mono ?_
  rintro e w1 ⟨rfl, hbe⟩
  replace hbe := Lib.hid (hb0.out _ hbe)
  clear hG
  cases g
  · go_wp2_with fail
    go_ret
    exact ⟨by rw [hv.out]; rfl, Below.up hB0.out hbe.out⟩
  obtain ⟨⟨p0, p1, p2⟩, -⟩ := hcells.out _ hbe.out
  have hC1 := Lib.hid (hV1.out _ hbe.out)
  cases u
  · go_wp2_with (go_at_call 20; refine (hC1.out).mono ?_; rintro e w2 ⟨rfl, hbe2⟩)
    go_ret
    exact ⟨by rw [hv.out]; rfl, Below.up hB0.out (Below.up hbe.out hbe2)⟩
  go_upto_region 9 with fail
  refine (hC1.out).mono ?_
  rintro e w2 ⟨rfl, hbe2⟩
  clear hC1 p0 p1 p2
  replace hbe := Lib.hid (Below.up hbe.out hbe2)
  obtain ⟨-, ⟨p0, p1, p2⟩⟩ := hcells.out _ hbe.out
  have hC1 := Lib.hid (hV2.out _ hbe.out)
  go_wp2_with (go_at_call 20; refine (hC1.out).mono ?_; rintro e w2 ⟨rfl, hbe2⟩)
  go_ret
  exact ⟨by rw [hv.out]; rfl, Below.up hB0.out (Below.up hbe.out hbe2)⟩

end Go.Proofs.YthlegfegkopdkaaGreat

namespace Go.Proofs.YthlegfegkopdkaaGreat
open Go.RowKit Go.Shelf Go.Sort

theorem small_size {d : DT} (h : smallT d.tm = true) : 1 + d.size ≤ 1000000 := by
  unfold smallT at h
  have h1 : 0 ≤ weigh d.tm 50 14 := by simpa using h
  have h2 := ((weigh_iff d.tm 50 14 (by omega)).1.1 h1).1
  rw [size_tm] at h2
  omega
theorem valB_yes {s : Sg} {d x : DT} (h : valB s d x = true) : checkV s [d, x] = true := by
  unfold valB formedDs at h
  simp only [Bool.and_eq_true] at h
  unfold checkV checkB
  rw [h.1.1.1, h.1.1.2]
  simp only [List.all_cons, List.all_nil, ← isVal_allN, h.1.2, h.2]
  rfl
theorem valB_swap (s : Sg) (d x : DT) : valB s x d = valB s d x := by
  unfold valB formedDs
  simp only [List.all_cons, List.all_nil, Bool.and_true]
  cases sigB s <;> cases formedB s d.tm <;> cases formedB s x.tm <;> cases isVal d.tm <;> cases isVal x.tm <;> rfl
theorem valB_ends {s : Sg} {d x y : DT} (h : valB s d x = true) (h2 : valB s x y = true) : valB s d y = true := by
  unfold valB formedDs at *
  simp only [List.all_cons, List.all_nil, Bool.and_true, Bool.and_eq_true] at *
  exact ⟨⟨⟨h.1.1.1, h.1.1.2.1, h2.1.1.2.2⟩, h.1.2⟩, h2.2⟩
theorem compare_of {s : Sg} {d x : DT} {n₀ : Nat} {w : World} {ac : Option Addr} {lc cc : Nat} {af : Option Addr} {lf cf : Nat} (hv : valB s d x = true) (h1 : smallT d.tm = true) (h2 : smallT x.tm = true) (hn : n₀ ≤ w.heap.size) (hS : IsSg n₀ w s ac lc cc af lf cf) (hL1 : Lies n₀ w d) (hL2 : Lies n₀ w x) :
    Calls Tryz.prog 39 #[.agg #[.slice ac lc cc, .slice af lf cf], .agg #[.int .i64 d.op, .int .i64 d.n, .slice d.a d.l d.c], .agg #[.int .i64 x.op, .int .i64 x.n, .slice x.a x.l x.c]] w fun e w' =>
      e = .returned (.tuple #[.int .i64 (cmpT d.tm x.tm), .int .i64 0]) ∧ Below w.heap.size w w' :=
  (Compare_any s d x n₀ w ac lc cc af lf cf (small_size h1) (small_size h2) hn hS hL1 hL2).mono fun e w' ⟨he, hb⟩ => by
    unfold cmpV at he
    rw [valB_yes hv, if_pos rfl] at he
    exact ⟨he, hb⟩
theorem same_cmp (t u : Tm) : sameB t u = decide (cmpT t u = 0) := by
  by_cases h : t = u
  · subst h; rw [sameB_refl, cmpT_self]; rfl
  · rw [Bool.eq_false_iff.2 (fun e => h (sameB_of _ _ e)), decide_eq_false (fun e => h (cmpT_zero _ _ e))]

set_option maxRecDepth 100000 in
set_option maxHeartbeats 4000000 in
theorem TermSorts_any (s : Sg) (d x y : DT) (n₀ : Nat) (w : World) (ac : Option Addr) (lc cc : Nat) (af : Option Addr) (lf cf : Nat) (hs : IsSg n₀ w s ac lc cc af lf cf) (h1 : Lies n₀ w d) (h2 : Lies n₀ w x) (h3 : Lies n₀ w y) (hn : n₀ ≤ w.heap.size) :
    Calls Tryz.prog 10 #[.agg #[.slice ac lc cc, .slice af lf cf], .agg #[.int .i64 d.op, .int .i64 d.n, .slice d.a d.l d.c], .agg #[.int .i64 x.op, .int .i64 x.n, .slice x.a x.l x.c], .agg #[.int .i64 y.op, .int .i64 y.n, .slice y.a y.l y.c]] w
      fun e w' => e = .returned (.bool true) ∧ Below w.heap.size w w' := by
  obtain ⟨wa, hwa⟩ : ∃ W, W = bs1 w ac lc cc af lf cf := ⟨_, rfl⟩
  obtain ⟨wb, hwb⟩ : ∃ W, W = bt1 wa d := ⟨_, rfl⟩
  obtain ⟨wc, hwc⟩ : ∃ W, W = bt1 wb x := ⟨_, rfl⟩
  obtain ⟨W0, hW0⟩ : ∃ W, W = bt1 wc y := ⟨_, rfl⟩
  have hza : wa.heap.size = w.heap.size + 1 := by rw [hwa]; simp
  have hzb : wb.heap.size = w.heap.size + 1 + 1 := by rw [hwb]; simp [hza]
  have hzc : wc.heap.size = w.heap.size + 1 + 1 + 1 := by rw [hwc]; simp [hzb]
  have hz0 : W0.heap.size = w.heap.size + 1 + 1 + 1 + 1 := by rw [hW0]; simp [hzc]
  have ba : Below w.heap.size w wa := by rw [hwa]; exact bal _ _
  have bb : Below wa.heap.size wa wb := by rw [hwb]; exact bal _ _
  have bc : Below wb.heap.size wb wc := by rw [hwc]; exact bal _ _
  have bd : Below wc.heap.size wc W0 := by rw [hW0]; exact bal _ _
  have hB0 : Below w.heap.size w W0 := Below.up ba (Below.up bb (Below.up bc bd))
  have hcells : Hid (∀ W, Below W0.heap.size W0 W → (W.cell? ⟨w.heap.size, 0, none⟩ = some (.slice ac lc cc) ∧ W.cell? ⟨w.heap.size, 1, none⟩ = some (.slice af lf cf)) ∧ (W.cell? ⟨w.heap.size + 1, 0, none⟩ = some (.int .i64 d.op) ∧ W.cell? ⟨w.heap.size + 1, 1, none⟩ = some (.int .i64 d.n) ∧ W.cell? ⟨w.heap.size + 1, 2, none⟩ = some (.slice d.a d.l d.c)) ∧ (W.cell? ⟨w.heap.size + 1 + 1, 0, none⟩ = some (.int .i64 x.op) ∧ W.cell? ⟨w.heap.size + 1 + 1, 1, none⟩ = some (.int .i64 x.n) ∧ W.cell? ⟨w.heap.size + 1 + 1, 2, none⟩ = some (.slice x.a x.l x.c)) ∧ (W.cell? ⟨w.heap.size + 1 + 1 + 1, 0, none⟩ = some (.int .i64 y.op) ∧ W.cell? ⟨w.heap.size + 1 + 1 + 1, 1, none⟩ = some (.int .i64 y.n) ∧ W.cell? ⟨w.heap.size + 1 + 1 + 1, 2, none⟩ = some (.slice y.a y.l y.c))) := Lib.hid (fun W h => by
    have e0 := box_s hwa (Nat.le_refl _) (Below.up bb (Below.up bc (Below.up bd h)))
    have e1 := box_t hwb (Nat.le_refl _) (Below.up bc (Below.up bd h))
    have e2 := box_t hwc (Nat.le_refl _) (Below.up bd h)
    have e3 := box_t hW0 (Nat.le_refl _) h
    rw [hza] at e1; rw [hzb] at e2; rw [hzc] at e3
    exact ⟨e0, e1, e2, e3⟩)
  have hlie : Hid (∀ W, Below W0.heap.size W0 W → n₀ ≤ W.heap.size ∧ IsSg n₀ W s ac lc cc af lf cf ∧ Lies n₀ W d ∧ Lies n₀ W x ∧ Lies n₀ W y) := Lib.hid (fun W h => by
    have hb := (Below.up hB0 h).mono hn
    exact ⟨by have := h.size; omega, hs.below hb, h1.below hb, h2.below hb, h3.below hb⟩)
  have hG : Calls Tryz.prog 11 #[.agg #[.slice ac lc cc, .slice af lf cf], .slice (some ⟨W0.heap.size, 0, none⟩) 3 3] (W0.alloc (.cells #[.int .i64 d.op, .int .i64 d.n, .slice d.a d.l d.c, .int .i64 x.op, .int .i64 x.n, .slice x.a x.l x.c, .int .i64 y.op, .int .i64 y.n, .slice y.a y.l y.c] 28))
      fun e w' => e = .returned (.bool (smallDs [d, x, y] && smallB s)) ∧ Below W0.heap.size W0 w' := by
    obtain ⟨q0, q1, q2, q3, q4⟩ := hlie.out W0 (Below.refl _ _)
    exact small3 s d x y n₀ W0 ac lc cc af lf cf q1 q2 q3 q4 q0
  have hb0 : Hid (∀ W, Below (w.heap.size + 1 + 1 + 1 + 1) (bt1 (bt1 (bt1 (bs1 w ac lc cc af lf cf) d) x) y) W → Below W0.heap.size W0 W) := Lib.hid (fun W h => by rw [hz0, hW0, hwc, hwb, hwa]; exact h)
  rw [hz0, hW0, hwc, hwb, hwa] at hG
  have hsm : Hid ((smallDs [d, x, y] && smallB s) = true → smallT d.tm = true ∧ smallT x.tm = true ∧ smallT y.tm = true) := Lib.hid (fun h => by
    simp only [smallDs, List.all_cons, List.all_nil, Bool.and_true, Bool.and_eq_true] at h
    exact h.1)
  obtain ⟨g, hg⟩ : ∃ g, g = (smallDs [d, x, y] && smallB s) := ⟨_, rfl⟩
  rw [← hg] at hG hsm
  have hKn := fun W => known_any W
  have hV1 := fun W (h : Below W0.heap.size W0 W) => values_any s d x n₀ W ac lc cc af lf cf (hlie.out W h).2.1 (hlie.out W h).2.2.1 (hlie.out W h).2.2.2.1 (hlie.out W h).1
  have hV2 := fun W (h : Below W0.heap.size W0 W) => values_any s x y n₀ W ac lc cc af lf cf (hlie.out W h).2.1 (hlie.out W h).2.2.2.1 (hlie.out W h).2.2.2.2 (hlie.out W h).1
  obtain ⟨u, hu⟩ : ∃ u, u = valB s d x := ⟨_, rfl⟩
  obtain ⟨v, hv⟩ : ∃ u, u = valB s x y := ⟨_, rfl⟩
  rw [← hu] at hV1
  rw [← hv] at hV2
  replace hu := Lib.hid hu
  replace hv := Lib.hid hv
  replace hG := Lib.hid hG
  replace hV1 := Lib.hid hV1
  replace hV2 := Lib.hid hV2
  replace hKn := Lib.hid hKn
  replace hB0 := Lib.hid hB0
  clear hs h1 h2 h3 ba bb bc bd hW0 hz0 hza hzb hzc hwa hwb hwc hg
  go_enter Tryz.func10, Tryz.ntmps10
  go_upto_region 9 with fail
  refine (hG.out).mono ?_
  rintro e w1 ⟨rfl, hbe⟩
  replace hbe := Lib.hid (hb0.out _ hbe)
  clear hG
  cases g
  · go_wp2_with (go_at_call 12; refine (hKn.out _).mono ?_; rintro e w2 ⟨rfl, hbe2⟩)
    go_ret
    exact ⟨rfl, Below.up hB0.out (Below.up hbe.out hbe2)⟩
  obtain ⟨sm1, sm2, sm3⟩ := hsm.out rfl
  replace sm1 := Lib.hid sm1
  replace sm2 := Lib.hid sm2
  replace sm3 := Lib.hid sm3
  clear hsm
  obtain ⟨⟨s0, s1⟩, ⟨p0, p1, p2⟩, ⟨p3, p4, p5⟩, ⟨p6, p7, p8⟩⟩ := hcells.out _ hbe.out
  have hC1 := Lib.hid (hV1.out _ hbe.out)
  go_upto_region 9 with fail
  refine (hC1.out).mono ?_
  rintro e w2 ⟨rfl, hbe2⟩
  clear hC1 s0 s1 p0 p1 p2 p3 p4 p5 p6 p7 p8 hV1
  replace hbe := Lib.hid (Below.up hbe.out hbe2)
  cases u
  · go_wp2_with (go_at_call 12; refine (hKn.out _).mono ?_; rintro e w3 ⟨rfl, hbe2⟩)
    go_ret
    exact ⟨rfl, Below.up hB0.out (Below.up hbe.out hbe2)⟩
  obtain ⟨⟨s0, s1⟩, ⟨p0, p1, p2⟩, ⟨p3, p4, p5⟩, ⟨p6, p7, p8⟩⟩ := hcells.out _ hbe.out
  have hC1 := Lib.hid (hV2.out _ hbe.out)
  go_upto_region 9 with fail
  refine (hC1.out).mono ?_
  rintro e w3 ⟨rfl, hbe3⟩
  clear hC1 s0 s1 p0 p1 p2 p3 p4 p5 p6 p7 p8 hV2 hbe2
  replace hbe := Lib.hid (Below.up hbe.out hbe3)
  clear hbe3
  cases v
  · go_wp2_with (go_at_call 12; refine (hKn.out _).mono ?_; rintro e w3 ⟨rfl, hbe2⟩)
    go_ret
    exact ⟨rfl, Below.up hB0.out (Below.up hbe.out hbe2)⟩
  obtain ⟨p, hp⟩ : ∃ p, p = cmpT d.tm x.tm := ⟨_, rfl⟩
  obtain ⟨q, hq⟩ : ∃ p, p = cmpT x.tm y.tm := ⟨_, rfl⟩
  obtain ⟨t, ht⟩ : ∃ p, p = cmpT d.tm y.tm := ⟨_, rfl⟩
  have hpr : Hid ((p = -1 ∨ p = 0 ∨ p = 1) ∧ (q = -1 ∨ q = 0 ∨ q = 1) ∧ (t = -1 ∨ t = 0 ∨ t = 1) ∧ (p ≤ 0 → q ≤ 0 → t ≤ 0) ∧ (0 ≤ p → 0 ≤ q → 0 ≤ t)) := Lib.hid (by
    have r1 := cmpT_range d.tm x.tm
    have r2 := cmpT_range x.tm y.tm
    have r3 := cmpT_range d.tm y.tm
    have r4 := cmpT_trans d.tm x.tm y.tm
    have r5 := cmpT_trans y.tm x.tm d.tm
    have r6 := cmpT_neg d.tm x.tm
    have r7 := cmpT_neg x.tm y.tm
    have r8 := cmpT_neg d.tm y.tm
    rw [r6, r7, r8] at r5
    rw [← hp] at r1 r4 r5
    rw [← hq] at r2 r4 r5
    rw [← ht] at r3 r4 r5
    exact ⟨by omega, by omega, by omega, r4, fun a b => by have := r5 (by omega) (by omega); omega⟩)
  have hneg : Hid (cmpT x.tm d.tm = -p) := Lib.hid (by rw [hp]; exact cmpT_neg _ _)
  have hsame : Hid (sameB d.tm x.tm = decide (p = 0)) := Lib.hid (by rw [hp]; exact same_cmp _ _)
  replace hp := Lib.hid hp
  replace hq := Lib.hid hq
  replace ht := Lib.hid ht
  obtain ⟨⟨s0, s1⟩, ⟨p0, p1, p2⟩, ⟨p3, p4, p5⟩, ⟨p6, p7, p8⟩⟩ := hcells.out _ hbe.out
  have hC1 : Hid (Calls Tryz.prog 39 #[.agg #[.slice ac lc cc, .slice af lf cf], .agg #[.int .i64 d.op, .int .i64 d.n, .slice d.a d.l d.c], .agg #[.int .i64 x.op, .int .i64 x.n, .slice x.a x.l x.c]] w3 fun e w' =>
      e = .returned (.tuple #[.int .i64 (p), .int .i64 0]) ∧ Below w3.heap.size w3 w') := Lib.hid (by
    obtain ⟨q0, q1, q2, q3, q4⟩ := hlie.out _ hbe.out
    have := compare_of (hu.out.symm) sm1.out sm2.out q0 q1 q2 q3
    rw [← hp.out] at this
    exact this)
  go_upto_region 9 with fail
  refine (hC1.out).mono ?_
  rintro e w4 ⟨rfl, hbe3⟩
  clear hC1 s0 s1 p0 p1 p2 p3 p4 p5 p6 p7 p8
  replace hbe := Lib.hid (Below.up hbe.out hbe3)
  clear hbe3
  obtain ⟨⟨s0, s1⟩, ⟨p0, p1, p2⟩, ⟨p3, p4, p5⟩, ⟨p6, p7, p8⟩⟩ := hcells.out _ hbe.out
  have hC1 : Hid (Calls Tryz.prog 39 #[.agg #[.slice ac lc cc, .slice af lf cf], .agg #[.int .i64 x.op, .int .i64 x.n, .slice x.a x.l x.c], .agg #[.int .i64 d.op, .int .i64 d.n, .slice d.a d.l d.c]] w4 fun e w' =>
      e = .returned (.tuple #[.int .i64 (-p), .int .i64 0]) ∧ Below w4.heap.size w4 w') := Lib.hid (by
    obtain ⟨q0, q1, q2, q3, q4⟩ := hlie.out _ hbe.out
    have := compare_of (by rw [valB_swap]; exact hu.out.symm) sm2.out sm1.out q0 q1 q3 q2
    rw [hneg.out] at this
    exact this)
  go_upto_region 9 with fail
  refine (hC1.out).mono ?_
  rintro e w5 ⟨rfl, hbe3⟩
  clear hC1 s0 s1 p0 p1 p2 p3 p4 p5 p6 p7 p8
  replace hbe := Lib.hid (Below.up hbe.out hbe3)
  clear hbe3
  obtain ⟨⟨s0, s1⟩, ⟨p0, p1, p2⟩, ⟨p3, p4, p5⟩, ⟨p6, p7, p8⟩⟩ := hcells.out _ hbe.out
  have hC1 : Hid (Calls Tryz.prog 39 #[.agg #[.slice ac lc cc, .slice af lf cf], .agg #[.int .i64 x.op, .int .i64 x.n, .slice x.a x.l x.c], .agg #[.int .i64 y.op, .int .i64 y.n, .slice y.a y.l y.c]] w5 fun e w' =>
      e = .returned (.tuple #[.int .i64 (q), .int .i64 0]) ∧ Below w5.heap.size w5 w') := Lib.hid (by
    obtain ⟨q0, q1, q2, q3, q4⟩ := hlie.out _ hbe.out
    have := compare_of (hv.out.symm) sm2.out sm3.out q0 q1 q3 q4
    rw [← hq.out] at this
    exact this)
  go_upto_region 9 with fail
  refine (hC1.out).mono ?_
  rintro e w6 ⟨rfl, hbe3⟩
  clear hC1 s0 s1 p0 p1 p2 p3 p4 p5 p6 p7 p8
  replace hbe := Lib.hid (Below.up hbe.out hbe3)
  clear hbe3
  obtain ⟨⟨s0, s1⟩, ⟨p0, p1, p2⟩, ⟨p3, p4, p5⟩, ⟨p6, p7, p8⟩⟩ := hcells.out _ hbe.out
  have hC1 : Hid (Calls Tryz.prog 39 #[.agg #[.slice ac lc cc, .slice af lf cf], .agg #[.int .i64 d.op, .int .i64 d.n, .slice d.a d.l d.c], .agg #[.int .i64 y.op, .int .i64 y.n, .slice y.a y.l y.c]] w6 fun e w' =>
      e = .returned (.tuple #[.int .i64 (t), .int .i64 0]) ∧ Below w6.heap.size w6 w') := Lib.hid (by
    obtain ⟨q0, q1, q2, q3, q4⟩ := hlie.out _ hbe.out
    have := compare_of (valB_ends hu.out.symm hv.out.symm) sm1.out sm3.out q0 q1 q2 q4
    rw [← ht.out] at this
    exact this)
  go_upto_region 9 with fail
  refine (hC1.out).mono ?_
  rintro e w7 ⟨rfl, hbe3⟩
  clear hC1 s0 s1 p0 p1 p2 p3 p4 p5 p6 p7 p8
  replace hbe := Lib.hid (Below.up hbe.out hbe3)
  clear hbe3
  obtain ⟨-, ⟨p0, p1, p2⟩, ⟨p3, p4, p5⟩, -⟩ := hcells.out _ hbe.out
  have hS : Hid (Calls Tryz.prog 32 #[.agg #[.int .i64 d.op, .int .i64 d.n, .slice d.a d.l d.c], .agg #[.int .i64 x.op, .int .i64 x.n, .slice x.a x.l x.c]] w7 fun e w' => e = .returned (.bool (decide (p = 0))) ∧ Below w7.heap.size w7 w') := Lib.hid (by
    obtain ⟨q0, q1, q2, q3, q4⟩ := hlie.out _ hbe.out
    have := Same_any d.tm.size d.tm x.tm n₀ w7 d.a d.l d.c x.a x.l x.c (Nat.le_refl _) (Lies.isTm _ q2) (Lies.isTm _ q3) q0
    rw [DT.tm_op, DT.tm_n, DT.tm_op, DT.tm_n, hsame.out] at this
    exact this)
  clear hcells hlie hp hq ht hneg hsame
  obtain ⟨rp, rq, rt, r4, r5⟩ := hpr.out
  clear hpr
  rcases rp with rfl | rfl | rfl
  all_goals
    go_upto_region 9 with fail
    refine (hS.out).mono ?_
    rintro e w8 ⟨rfl, hbe8⟩
    replace hbe := Lib.hid (Below.up hbe.out hbe8)
    clear hbe8 hS p0 p1 p2 p3 p4 p5
    go_upto_region 9 with fail
    rcases rq with rfl | rfl | rfl <;> rcases rt with rfl | rfl | rfl <;> first
      | (exfalso; revert r4 r5; decide)
      | (clear r4 r5
         go_wp2_with (go_at_call 12; refine (hKn.out _).mono ?_; rintro e w9 ⟨rfl, hbe2⟩)
         go_ret
         exact ⟨rfl, Below.up hB0.out (Below.up hbe.out hbe2)⟩)

end Go.Proofs.YthlegfegkopdkaaGreat

namespace Go.Proofs.YthlegfegkopdkaaGreat
open Go.RowKit Go.Shelf Go.Sort

theorem small2g (s : Sg) (d x : DT) (n₀ : Nat) (w : World) (ac : Option Addr) (lc cc : Nat) (af : Option Addr) (lf cf : Nat) (hs : IsSg n₀ w s ac lc cc af lf cf) (h1 : Lies n₀ w d) (h2 : Lies n₀ w x) (hn : n₀ ≤ w.heap.size) :
    Calls Tryz.prog 11 #[.agg #[.slice ac lc cc, .slice af lf cf], .slice (some ⟨w.heap.size, 0, none⟩) 2 2] (w.alloc (.cells #[.int .i64 d.op, .int .i64 d.n, .slice d.a d.l d.c, .int .i64 x.op, .int .i64 x.n, .slice x.a x.l x.c] 28))
      fun e w' => e = .returned (.bool (smallDs [d, x] && smallB s)) ∧ Below w.heap.size w w' := by
  have hb := bal w (.cells #[.int .i64 d.op, .int .i64 d.n, .slice d.a d.l d.c, .int .i64 x.op, .int .i64 x.n, .slice x.a x.l x.c] 28)
  refine (small_any s [d, x] (w.heap.size + 1) _ ac lc cc af lf cf w.heap.size 0 2 ((hs.below (hb.mono hn)).wider (by omega)) (two_lies' h1 h2 hn) (by omega) ⟨by simp, by omega⟩ (by simp)).mono ?_
  rintro e w' ⟨he, h⟩
  exact ⟨he, hb.trans (h.mono (by simp))⟩
theorem check_pairg (s : Sg) (d x : DT) : checkB s [d, x] = (checkB s [d] && checkB s [x]) := by
  unfold checkB
  simp only [List.all_cons, List.all_nil, Bool.and_true]
  cases sigB s <;> cases formedB s d.tm <;> cases formedB s x.tm <;> rfl
/-- A term as a value of the program. -/
abbrev tvG (Z : Tm) (a : Option Addr) (l c : Nat) : Value := .agg #[.int .i64 Z.op, .int .i64 Z.n, .slice a l c]

/-- What the law's calls answer, in every world behind the boxes. -/
structure GenAt (s : Sg) (d x : DT) (L : List (Int × Tm)) (al : Option Addr) (ll cl : Nat) (ac : Option Addr) (lc cc : Nat) (af : Option Addr) (lf cf : Nat) (M1 M2 : List (Int × Tm)) (E1 E2 : Int) (W0 : World) : Prop where
  k37 : ∀ W, Below W0.heap.size W0 W → Calls Tryz.prog 37 #[.agg #[.slice ac lc cc, .slice af lf cf], dv d, dv x] W fun e w' => ∃ va vl vc, e = .returned (.tuple #[.slice va vl vc, .int .i64 E1]) ∧ IsBinds w'.heap.size w' M1 va vl vc ∧ Below W.heap.size W w'
  k38 : ∀ W, Below W0.heap.size W0 W → Calls Tryz.prog 38 #[.agg #[.slice ac lc cc, .slice af lf cf], dv d, dv x] W (MgEnd W M2 E2)
  k26 : ∀ W a l c M, Below W0.heap.size W0 W → IsBinds W.heap.size W M a l c → lfB s (-1) M = true → Calls Tryz.prog 26 #[.agg #[.slice ac lc cc, .slice af lf cf], dv d, .slice a l c] W (SubstEnd W (subV s M d.tm)) ∧ Calls Tryz.prog 26 #[.agg #[.slice ac lc cc, .slice af lf cf], dv x, .slice a l c] W (SubstEnd W (subV s M x.tm))
  k26z : ∀ Z, formedB s Z = true → isVal Z = true → ∀ W a l c, Below W0.heap.size W0 W → IsTm W.heap.size W Z a l c → Calls Tryz.prog 26 #[.agg #[.slice ac lc cc, .slice af lf cf], tvG Z a l c, .slice al ll cl] W (SubstEnd W (subV s L Z))
  k17 : ∀ Z, formedB s Z = true → ∀ W a l c, Below W0.heap.size W0 W → IsTm W.heap.size W Z a l c → Calls Tryz.prog 17 #[.agg #[.slice ac lc cc, .slice af lf cf], tvG Z a l c] W fun e w' => ∃ v, e = .returned (.tuple #[v, .int .i64 0]) ∧ Hid (w'.ownsRow W.heap.size 3 1 v (listTo (fvT Z) 20).length (natVals (listTo (fvT Z) 20))) ∧ Below W.heap.size W w'
  k27 : ∀ W a l c M, Below W0.heap.size W0 W → IsBinds W.heap.size W M a l c → lfB s (-1) M = true → Calls Tryz.prog 27 #[.agg #[.slice ac lc cc, .slice af lf cf], .slice a l c] W fun e w' => e = .returned (.bool true) ∧ Below W.heap.size W w'
  own : ∀ W, Below W0.heap.size W0 W → IsBinds W.heap.size W L al ll cl

theorem gen_at {s : Sg} {d x : DT} {L : List (Int × Tm)} {n₀ : Nat} {W0 : World} {al : Option Addr} {ll cl : Nat} {ac : Option Addr} {lc cc : Nat} {af : Option Addr} {lf cf : Nat} (hs : IsSg n₀ W0 s ac lc cc af lf cf) (h1 : Lies n₀ W0 d) (h2 : Lies n₀ W0 x) (hB : IsBinds n₀ W0 L al ll cl) (hn : n₀ ≤ W0.heap.size)
    (hc : checkB s [d, x] = true) (hv1 : isVal d.tm = true) (hv2 : isVal x.tm = true) (hlf : lfB s (-1) L = true) {M2 : List (Int × Tm)} {E2 : Int} (hU : UniAll d x M2 E2) :
    GenAt s d x L al ll cl ac lc cc af lf cf (matchA s d x).1 M2 (matchA s d x).2 E2 W0 := by
  have hlie : ∀ W, Below W0.heap.size W0 W → n₀ ≤ W.heap.size ∧ IsSg W.heap.size W s ac lc cc af lf cf ∧ Lies W.heap.size W d ∧ Lies W.heap.size W x ∧ IsBinds n₀ W L al ll cl := fun W h => by
    have hb := h.mono hn
    have hz : n₀ ≤ W.heap.size := by have := h.size; omega
    exact ⟨hz, (hs.below hb).wider hz, (h1.below hb).wider hz, (h2.below hb).wider hz, hB.below hb⟩
  have hcd : checkB s [d] = true ∧ checkB s [x] = true := by
    rw [check_pairg, Bool.and_eq_true] at hc; exact hc
  have hsg := (check_formed hcd.1).1
  have hz1 := formed_dsize (check_formed hcd.1).2
  have hz2 := formed_dsize (check_formed hcd.2).2
  have hck : ∀ D : DT, formedB s D.tm = true → checkB s [D] = true ∧ 1 + D.size ≤ 1000000 := fun D h => by
    refine ⟨by unfold checkB; simp [hsg, h], formed_dsize h⟩
  have hkv : checkV s [d, x] = true := by
    unfold checkV
    rw [hc]
    simp only [List.all_cons, List.all_nil, Bool.true_and, Bool.and_true]
    rw [← isVal_allN, ← isVal_allN, hv1, hv2]
    rfl
  have hdv : ∀ (D : DT) (Z : Tm) (a : Option Addr) (l c : Nat), D.op = Z.op → D.n = Z.n → D.a = a → D.l = l → D.c = c → dv D = tvG Z a l c := fun D Z a l c e1 e2 e3 e4 e5 => by
    show Value.agg #[.int .i64 D.op, .int .i64 D.n, .slice D.a D.l D.c] = _
    rw [e1, e2, e3, e4, e5]
  have wide : ∀ {W : World} {n m : Nat} {M : List (Int × Tm)} {a : Option Addr} {l c : Nat}, n ≤ m → IsBinds n W M a l c → IsBinds m W M a l c := fun hnm h => by
    obtain ⟨g1, g2, g3, g4⟩ := h
    refine ⟨g1, g2, g3, ?_⟩
    rcases g4 with g4 | ⟨b, off, ga, gb, gk⟩
    · exact .inl g4
    · refine .inr ⟨b, off, ga, by omega, fun k hk => ?_⟩
      obtain ⟨q0, a', l', c', q1, q2⟩ := gk k hk
      exact ⟨q0, a', l', c', q1, q2.wider hnm⟩
  refine ⟨fun W hW => ?_, fun W hW => ?_, fun W a l c M hW hI hM => ?_, fun Z hZ hvZ W a l c hW hI => ?_, fun Z hZ W a l c hW hI => ?_, fun W a l c M hW hI hM => ?_, fun W hW => ?_⟩
  · obtain ⟨q0, q1, q2, q3, q4⟩ := hlie W hW
    exact Match_any s d x W.heap.size W ac lc cc af lf cf hz1 hz2 (Nat.le_refl _) q1 q2 q3
  · obtain ⟨q0, q1, q2, q3, q4⟩ := hlie W hW
    exact Unify_all s d x W.heap.size W ac lc cc af lf cf M2 E2 hz1 hz2 (Nat.le_refl _) q1 q2 q3 (fun _ => hU) (fun h => by rw [hkv] at h; cases h)
  · obtain ⟨q0, q1, q2, q3, q4⟩ := hlie W hW
    exact ⟨Subst_val s d M W.heap.size W ac lc cc af lf cf a l c (Nat.le_refl _) q1 q2 hI hcd.1 hv1 hM, Subst_val s x M W.heap.size W ac lc cc af lf cf a l c (Nat.le_refl _) q1 q3 hI hcd.2 hv2 hM⟩
  · obtain ⟨q0, q1, q2, q3, q4⟩ := hlie W hW
    obtain ⟨D, D1, D2, D3, D4, D5, D6, D7⟩ := hI.placed
    have := Subst_val s D L W.heap.size W ac lc cc af lf cf al ll cl (Nat.le_refl _) q1 D1 (wide q0 q4) (hck D (by rw [D2]; exact hZ)).1 (by rw [D2]; exact hvZ) hlf
    rw [D2, hdv D Z a l c D3 D4 D5 D6 D7] at this
    exact this
  · obtain ⟨q0, q1, q2, q3, q4⟩ := hlie W hW
    obtain ⟨D, D1, D2, D3, D4, D5, D6, D7⟩ := hI.placed
    obtain ⟨c1, c2⟩ := hck D (by rw [D2]; exact hZ)
    have := Vars_any s D W.heap.size W ac lc cc af lf cf c2 (Nat.le_refl _) q1 D1
    unfold varsL at this
    rw [c1, if_pos rfl, D2] at this
    rw [← hdv D Z a l c D3 D4 D5 D6 D7]
    refine this.mono ?_
    rintro e w' ⟨v, he, hr, -, hb⟩
    exact ⟨v, he, Lib.hid hr, hb⟩
  · obtain ⟨q0, q1, q2, q3, q4⟩ := hlie W hW
    refine (Binds_iff s M W.heap.size W ac lc cc af lf cf a l c q1 hI (Nat.le_refl _)).mono ?_
    rintro e w' ⟨b, he, hb, hB'⟩
    have : b = true := hb.2 hM
    exact ⟨by rw [he, this], hB'⟩
  · obtain ⟨q0, q1, q2, q3, q4⟩ := hlie W hW
    exact wide q0 q4

end Go.Proofs.YthlegfegkopdkaaGreat

namespace Go.Proofs.YthlegfegkopdkaaGreat
open Go.RowKit Go.Shelf Go.Sort

/-! The weight of an expression in order -/
mutual
theorem weigh_ord : ∀ (t : Tm) (fb : Int → Option Int) (s : OS) (left depth : Int), OkV t → weigh (ordT fb s t).1 left depth = weigh t left depth
  | .mk op n ks, fb, s, left, depth, hO => by
    rw [OkV] at hO
    rw [ordT]
    split
    · next h1 => rw [hO.2.1 h1, weigh, weigh]
    · split
      · rw [weigh, weigh, weighs_ordL ks fb _ s.next (left - 1) (depth - 1) hO.2.2.2]
      · rw [weigh, weigh, weighs_ord ks fb s (left - 1) (depth - 1) hO.2.2.2]
theorem weighs_ord : ∀ (ks : List Tm) (fb : Int → Option Int) (s : OS) (left depth : Int), OkVs ks → weighs (ordTs fb s ks).1 left depth = weighs ks left depth
  | [], fb, s, left, depth, _ => by rw [ordTs]
  | t :: ts, fb, s, left, depth, hO => by
    rw [OkVs] at hO
    rw [ordTs, weighs, weighs, weigh_ord t fb s left depth hO.1, weighs_ord ts fb _ _ depth hO.2]
theorem weighs_ordL : ∀ (ks : List Tm) (fb fi : Int → Option Int) (s : OS) (left depth : Int), OkVs ks → weighs (ordL fb fi s ks).1 left depth = weighs ks left depth
  | [], fb, fi, s, left, depth, _ => by rw [ordL]
  | t :: ts, fb, fi, s, left, depth, hO => by
    rw [OkVs] at hO
    rw [ordL, weighs, weighs, weigh_ord t fb s left depth hO.1, weighs_ord ts fi _ _ depth hO.2]
end
theorem small_ordE {t : Tm} (hO : OkV t) (h : smallT t = true) : decide (0 ≤ weigh (ordE t).1 50 14) = true := by
  unfold ordE
  rw [weigh_ord t _ _ 50 14 hO]
  exact h

/-! The count only grows -/
theorem numO_le (fb : Int → Option Int) (s : OS) (v : Int) : s.count ≤ (numO fb s v).2.count := by
  unfold numO
  split
  · exact Nat.le_refl _
  · split
    · exact Nat.le_refl _
    · exact Nat.le_succ _
mutual
theorem ordT_le : ∀ (t : Tm) (fb : Int → Option Int) (s : OS), s.count ≤ (ordT fb s t).2.count
  | .mk op n ks, fb, s => by
    rw [ordT]
    split
    · exact numO_le fb s n
    · split
      · exact Nat.le_trans (Nat.le_succ _) (ordL_le ks fb _ s.next)
      · exact ordTs_le ks fb s
theorem ordTs_le : ∀ (ks : List Tm) (fb : Int → Option Int) (s : OS), s.count ≤ (ordTs fb s ks).2.count
  | [], _, s => by rw [ordTs]; exact Nat.le_refl _
  | t :: ts, fb, s => by rw [ordTs]; exact Nat.le_trans (ordT_le t fb s) (ordTs_le ts fb _)
theorem ordL_le : ∀ (ks : List Tm) (fb fi : Int → Option Int) (s : OS), s.count ≤ (ordL fb fi s ks).2.count
  | [], _, _, s => by rw [ordL]; exact Nat.le_refl _
  | t :: ts, fb, fi, s => by rw [ordL]; exact Nat.le_trans (ordT_le t fb s) (ordTs_le ts fi _)
end

end Go.Proofs.YthlegfegkopdkaaGreat

namespace Go.Proofs.YthlegfegkopdkaaGreat
open Go.RowKit Go.Shelf Go.Sort

/-! Free variables -/
theorem fvKs_acc (op n : Int) : ∀ (ks : List Tm) (k : Nat) (acc : Nat → Bool) (v : Nat), acc v = true → fvKs op n ks k acc v = true
  | [], _, _, _, h => by rw [fvKs]; exact h
  | t :: ts, k, acc, v, h => by rw [fvKs]; exact fvKs_acc op n ts (k + 1) _ v (by unfold orSet; rw [h]; rfl)
theorem fvKs_mem {op n : Int} (h8 : op ≠ 8) : ∀ (ks : List Tm) (k : Nat) (acc : Nat → Bool) (t : Tm) (v : Nat), t ∈ ks → fvT t v = true → fvKs op n ks k acc v = true
  | [], _, _, _, _, hm, _ => by cases hm
  | x :: ts, k, acc, t, v, hm, h => by
    rw [fvKs]
    rcases List.mem_cons.1 hm with rfl | hm
    · refine fvKs_acc op n ts (k + 1) _ v ?_
      rw [if_neg (fun e => h8 e.1)]; unfold orSet; rw [h]; simp
    · exact fvKs_mem h8 ts (k + 1) _ t v hm h
theorem fv_kid {op n : Int} {ks : List Tm} {t : Tm} {v : Nat} (h8 : op ≠ 8) (hm : t ∈ ks) (h : fvT t v = true) : fvT (.mk op n ks) v = true := by
  rw [fvT]; exact fvKs_mem h8 ks 0 _ t v hm h
theorem fv_let1 {n : Int} {a b : Tm} {v : Nat} (h : fvT a v = true) : fvT (.mk 8 n [a, b]) v = true := by
  rw [fvT, fvKs]
  refine fvKs_acc _ _ _ _ _ _ ?_
  simp [orSet, h]
theorem fv_let2 {n : Int} {a b : Tm} {v : Nat} (h : fvT b v = true) (hn : v ≠ n.toNat) : fvT (.mk 8 n [a, b]) v = true := by
  rw [fvT, fvKs, fvKs, fvKs]
  simp [orSet, setB, h, hn]
theorem fv_var {v : Nat} : fvT (.mk 1 v []) v = true := by rw [fvT, fvKs]; simp

theorem ordT_let (fb : Int → Option Int) (s : OS) (n : Int) (a b : Tm) : ordT fb s (.mk 8 n [a, b]) = (.mk 8 s.count [(ordT fb s.next a).1, (ordT (updI fb n s.count) (ordT fb s.next a).2 b).1], (ordT (updI fb n s.count) (ordT fb s.next a).2 b).2) := by
  rw [ordT, if_neg (by decide), if_pos rfl]; simp only [ordL, ordTs]
theorem ordT_var (fb : Int → Option Int) (s : OS) (n : Int) (ks : List Tm) : ordT fb s (.mk 1 n ks) = (.mk 1 (numO fb s n).1 [], (numO fb s n).2) := by
  rw [ordT, if_pos rfl]

/-! Variables for variables -/
structure RenAt (ρ : Nat → Nat) (g : Nat → Bool) (fb fb' : Int → Option Int) (v : Nat) : Prop where
  yes : g v = true → fb' (v : Int) = fb (v : Int) ∧ ∃ m, fb (v : Int) = some m
  no : g v = false → fb (v : Int) = none ∧ fb' ((ρ v : Nat) : Int) = none
structure RenS (ρ : Nat → Nat) (s s' : OS) : Prop where
  free : ∀ v : Nat, v < 20 → s'.free ((ρ v : Nat) : Int) = s.free (v : Int)
  count : s'.count = s.count

theorem ren_num {ρ : Nat → Nat} (hρ : ∀ a b, a < 20 → b < 20 → ρ a = ρ b → a = b) {fb fb' : Int → Option Int} {s s' : OS} {v : Nat} (hv : v < 20) (h1 : fb (v : Int) = none) (h2 : fb' ((ρ v : Nat) : Int) = none) (hs : RenS ρ s s') :
    (numO fb' s' ((ρ v : Nat) : Int)).1 = (numO fb s (v : Int)).1 ∧ RenS ρ (numO fb s (v : Int)).2 (numO fb' s' ((ρ v : Nat) : Int)).2 := by
  unfold numO
  rw [h1, h2]
  simp only
  rw [hs.free v hv]
  cases h : s.free (v : Int) with
  | some m => exact ⟨rfl, hs⟩
  | none =>
    refine ⟨by simp [hs.count], fun u hu => ?_, by simp [hs.count]⟩
    simp only [updI]
    by_cases e : u = v
    · subst e; simp [hs.count]
    · rw [if_neg (fun e' => e (hρ u v hu hv (by omega))), if_neg (fun e' => e (by omega))]
      exact hs.free u hu

def RnSpec (F : Int → Option DT) (st : Nat → Bool) (ρ : Nat → Nat) (N : Nat) : Prop := ∀ (g : Nat → Bool) (t z : Tm) (fb fb' : Int → Option Int) (s s' : OS), OkV t → putF F st N g t = some z →
  (∀ v, v < 20 → fvT t v = true → RenAt ρ g fb fb' v) → RenS ρ s s' → (ordT fb' s' z).1 = (ordT fb s t).1 ∧ RenS ρ (ordT fb s t).2 (ordT fb' s' z).2

theorem ren_list {F : Int → Option DT} {st : Nat → Bool} {ρ : Nat → Nat} {N : Nat} (ih : RnSpec F st ρ N) (g : Nat → Bool) (fb fb' : Int → Option Int) : ∀ (ks zs : List Tm) (s s' : OS), OkVs ks → zs.length = ks.length →
    (∀ k (h : k < ks.length) (h' : k < zs.length), putF F st N g ks[k] = some zs[k]) → (∀ t ∈ ks, ∀ v, v < 20 → fvT t v = true → RenAt ρ g fb fb' v) → RenS ρ s s' → (ordTs fb' s' zs).1 = (ordTs fb s ks).1 ∧ RenS ρ (ordTs fb s ks).2 (ordTs fb' s' zs).2
  | [], [], s, s', _, _, _, _, hs => by rw [ordTs, ordTs]; exact ⟨rfl, hs⟩
  | [], _ :: _, _, _, _, h, _, _, _ => by simp at h
  | _ :: _, [], _, _, _, h, _, _, _ => by simp at h
  | x :: ks, z :: zs, s, s', hO, hl, hp, hf, hs => by
    rw [OkVs] at hO
    rw [ordTs, ordTs]
    obtain ⟨e1, e2⟩ := ih g x z fb fb' s s' hO.1 (hp 0 (by simp) (by simp)) (hf x (by simp)) hs
    obtain ⟨e3, e4⟩ := ren_list ih g fb fb' ks zs _ _ hO.2 (by simpa using hl) (fun k h h' => hp (k + 1) (by simpa using h) (by simpa using h')) (fun t ht => hf t (by simp [ht])) e2
    exact ⟨by simp only [e1, e3], e4⟩

theorem ren_ord {F : Int → Option DT} {st : Nat → Bool} {ρ : Nat → Nat} (hF : ∀ v : Nat, v < 20 → ∃ d : DT, F (v : Int) = some d ∧ d.tm = .mk 1 ((ρ v : Nat) : Int) []) (hρ : ∀ a b, a < 20 → b < 20 → ρ a = ρ b → a = b) (hst : ∀ v : Nat, v < 20 → st v = true) : ∀ N, RnSpec F st ρ N
  | 0 => fun _ _ _ _ _ _ _ _ h => by cases h
  | N + 1 => fun g t z fb fb' s s' hO h hp hs => by
    have ih := ren_ord hF hρ hst N
    obtain ⟨op, n, ks⟩ := t
    obtain ⟨o1, o2, o3, o4⟩ := hO.open
    simp only [Tm.op, Tm.n, Tm.kids] at o1 o2 o3 o4
    by_cases h1 : op = 1
    · obtain rfl := h1
      obtain rfl := o2 rfl
      obtain ⟨v, rfl⟩ : ∃ v : Nat, n = v := ⟨n.toNat, by have := o1 (.inl rfl); omega⟩
      have hv : v < 20 := by have := o1 (.inl rfl); omega
      obtain ⟨d, hd, hdt⟩ := hF v hv
      have hr := hp v hv fv_var
      rw [putF_var _ _ _ _ _ _ _ rfl, Option.some.injEq] at h
      simp only [Int.toNat_natCast, findD, hd] at h
      cases hg : g v with
      | true =>
        rw [hg] at h
        simp only [Bool.not_true, Bool.false_eq_true, if_false] at h
        subst h
        obtain ⟨e1, m, e2⟩ := hr.yes hg
        rw [ordT_var, ordT_var]
        unfold numO
        rw [e1, e2]
        exact ⟨rfl, hs⟩
      | false =>
        rw [hg] at h
        simp only [Bool.not_false, if_true] at h
        rw [hdt] at h
        subst h
        obtain ⟨e1, e2⟩ := hr.no hg
        rw [ordT_var, ordT_var]
        obtain ⟨e3, e4⟩ := ren_num hρ hv e1 e2 hs
        exact ⟨by simp only [e3], e4⟩
    · by_cases h8 : op = 8
      · obtain rfl := h8
        match ks, o3 rfl, o4, h with
        | [a, b], _, o4, h =>
          simp only [OkVs] at o4
          obtain ⟨v, rfl⟩ : ∃ v : Nat, n = v := ⟨n.toNat, by have := o1 (.inr rfl); omega⟩
          have hv : v < 20 := by have := o1 (.inr rfl); omega
          rw [putF_let] at h
          rw [leastN_none (fun j hj => by unfold orSet; rw [hst j hj]; simp)] at h
          simp only [Int.toNat_natCast] at h
          cases hc : catchB F (setB g v true) v b with
          | true => rw [hc] at h; cases h
          | false =>
            rw [hc] at h
            simp only [Bool.false_eq_true, if_false] at h
            cases hA : putF F st N g a with
            | none => rw [hA] at h; cases h
            | some A =>
              cases hB : putF F st N (setB g v true) b with
              | none => rw [hA, hB] at h; cases h
              | some B =>
                rw [hA, hB] at h
                simp only [Option.bind_some, Option.map_some, Option.some.injEq] at h
                subst h
                rw [ordT_let, ordT_let]
                have hsn : RenS ρ s.next s'.next := ⟨hs.free, by simp [OS.next, hs.count]⟩
                obtain ⟨e1, e2⟩ := ih g a A fb fb' s.next s'.next o4.1 hA (fun u hu hf => hp u hu (fv_let1 hf)) hsn
                have hb : ∀ u, u < 20 → fvT b u = true → RenAt ρ (setB g v true) (updI fb v s.count) (updI fb' v s'.count) u := fun u hu hf => by
                  by_cases e : u = v
                  · subst e
                    refine ⟨fun _ => ⟨by simp [updI, hs.count], ⟨s.count, by simp [updI]⟩⟩, fun h => by simp [setB] at h⟩
                  · have hr := hp u hu (fv_let2 (a := a) hf (by simpa using e))
                    have e' : ¬ ((u : Nat) : Int) = (v : Int) := fun h => e (by omega)
                    refine ⟨fun hg => ?_, fun hg => ?_⟩
                    · obtain ⟨x1, m, x2⟩ := hr.yes (by simpa [setB, e] using hg)
                      simp only [updI]
                      rw [if_neg e', if_neg e']
                      exact ⟨x1, m, x2⟩
                    · have hg' : g u = false := by simpa [setB, e] using hg
                      obtain ⟨x1, x2⟩ := hr.no hg'
                      obtain ⟨d, hd, hdt⟩ := hF u hu
                      have hne : ρ u ≠ v := fun e2 => by
                        unfold catchB at hc
                        rw [List.any_eq_false] at hc
                        have := hc u (List.mem_filter.2 ⟨List.mem_range.2 hu, hf⟩)
                        simp only [findD, hd] at this
                        rw [hg, hdt, ← e2, fv_var] at this
                        simp at this
                      simp only [updI]
                      rw [if_neg e', if_neg (fun h => hne (by omega))]
                      exact ⟨x1, x2⟩
                obtain ⟨e3, e4⟩ := ih (setB g v true) b B (updI fb v s.count) (updI fb' v s'.count) _ _ o4.2.1 hB hb e2
                refine ⟨?_, e4⟩
                simp only [e1, e3]
                rw [hs.count]
      · rw [putF_node _ _ _ _ _ _ _ h1 h8] at h
        cases hm : ks.mapM (putF F st N g) with
        | none => rw [hm] at h; cases h
        | some zs =>
          rw [hm] at h
          simp only [Option.map_some, Option.some.injEq] at h
          subst h
          obtain ⟨hl, hk⟩ := mapM_some hm
          rw [ordT, ordT, if_neg h1, if_neg h1, if_neg h8, if_neg h8]
          obtain ⟨e1, e2⟩ := ren_list ih g fb fb' ks zs s s' o4 hl hk (fun t ht v hv hf => hp v hv (fv_kid h8 ht hf)) hs
          exact ⟨by simp only [e1], e2⟩

/-- With variables put in for variables, one for one, an expression is in order what it was. -/
theorem ren_ordE {F : Int → Option DT} {st : Nat → Bool} {ρ : Nat → Nat} (hF : ∀ v : Nat, v < 20 → ∃ d : DT, F (v : Int) = some d ∧ d.tm = .mk 1 ((ρ v : Nat) : Int) []) (hρ : ∀ a b, a < 20 → b < 20 → ρ a = ρ b → a = b) (hst : ∀ v : Nat, v < 20 → st v = true)
    {N : Nat} {t z : Tm} (hO : OkV t) (h : putF F st N (fun _ => false) t = some z) : (ordE z).1 = (ordE t).1 :=
  (ren_ord hF hρ hst N _ t z _ _ _ _ hO h (fun _ _ _ => ⟨fun h => (by cases h), fun _ => ⟨rfl, rfl⟩⟩) ⟨fun _ _ => rfl, rfl⟩).1

/-! An expression in order stays as it is -/
theorem numO_new {fb : Int → Option Int} {s : OS} {v u m : Int} (h : (numO fb s v).2.free u = some m) : s.free u = some m ∨ (s.count : Int) ≤ m := by
  unfold numO at h
  split at h
  · exact .inl h
  · split at h
    · exact .inl h
    · simp only [updI] at h
      split at h
      · simp only [Option.some.injEq] at h; exact .inr (by omega)
      · exact .inl h
mutual
theorem ordT_new : ∀ (t : Tm) (fb : Int → Option Int) (s : OS) (u m : Int), (ordT fb s t).2.free u = some m → s.free u = some m ∨ (s.count : Int) ≤ m
  | .mk op n ks, fb, s, u, m, h => by
    rw [ordT] at h
    split at h
    · exact numO_new h
    · split at h
      · rcases ordL_new ks _ _ _ u m h with h | h
        · exact .inl h
        · exact .inr (by simp only [OS.next] at h; omega)
      · exact ordTs_new ks _ _ u m h
theorem ordTs_new : ∀ (ks : List Tm) (fb : Int → Option Int) (s : OS) (u m : Int), (ordTs fb s ks).2.free u = some m → s.free u = some m ∨ (s.count : Int) ≤ m
  | [], _, _, _, _, h => by rw [ordTs] at h; exact .inl h
  | t :: ts, fb, s, u, m, h => by
    rw [ordTs] at h
    rcases ordTs_new ts fb _ u m h with h | h
    · exact ordT_new t fb s u m h
    · exact .inr (by have := ordT_le t fb s; omega)
theorem ordL_new : ∀ (ks : List Tm) (fb fi : Int → Option Int) (s : OS) (u m : Int), (ordL fb fi s ks).2.free u = some m → s.free u = some m ∨ (s.count : Int) ≤ m
  | [], _, _, _, _, _, h => by rw [ordL] at h; exact .inl h
  | t :: ts, fb, fi, s, u, m, h => by
    rw [ordL] at h
    rcases ordTs_new ts fi _ u m h with h | h
    · exact ordT_new t fb s u m h
    · exact .inr (by have := ordT_le t fb s; omega)
end

/-- How the numbers stand when an expression in order is put in order again. -/
structure Again (fb fb' : Int → Option Int) (s s' : OS) : Prop where
  count : s'.count = s.count
  bound : ∀ v m, fb v = some m → fb' m = some m ∧ m < s.count
  free : ∀ v m, s.free v = some m → s'.free m = some m ∧ fb' m = none ∧ m < s.count
  fresh : ∀ m, (s.count : Int) ≤ m → fb' m = none ∧ s'.free m = none
theorem again_num {fb fb' : Int → Option Int} {s s' : OS} (h : Again fb fb' s s') (v : Int) : (numO fb' s' (numO fb s v).1).1 = (numO fb s v).1 ∧ Again fb fb' (numO fb s v).2 (numO fb' s' (numO fb s v).1).2 := by
  cases h1 : fb v with
  | some m =>
    have e : numO fb s v = (m, s) := by unfold numO; rw [h1]
    have e' : numO fb' s' m = (m, s') := by unfold numO; rw [(h.bound v m h1).1]
    rw [e]; simp only; rw [e']
    exact ⟨rfl, h⟩
  | none =>
    cases h2 : s.free v with
    | some m =>
      have e : numO fb s v = (m, s) := by unfold numO; rw [h1]; simp only; rw [h2]
      obtain ⟨x1, x2, x3⟩ := h.free v m h2
      have e' : numO fb' s' m = (m, s') := by unfold numO; rw [x2]; simp only; rw [x1]
      rw [e]; simp only; rw [e']
      exact ⟨rfl, h⟩
    | none =>
      have e : numO fb s v = ((s.count : Int), ⟨updI s.free v s.count, s.count + 1⟩) := by unfold numO; rw [h1]; simp only; rw [h2]
      obtain ⟨x1, x2⟩ := h.fresh s.count (Int.le_refl _)
      have e' : numO fb' s' s.count = ((s.count : Int), ⟨updI s'.free s.count s.count, s.count + 1⟩) := by unfold numO; rw [x1]; simp only; rw [x2, h.count]
      rw [e]; simp only; rw [e']
      refine ⟨rfl, rfl, fun u m hm => ⟨(h.bound u m hm).1, by have := (h.bound u m hm).2; simp only; omega⟩, fun u m hm => ?_, fun m hm => ?_⟩
      · simp only [updI] at hm ⊢
        split at hm
        · simp only [Option.some.injEq] at hm; subst hm; exact ⟨if_pos rfl, x1, by omega⟩
        · obtain ⟨y1, y2, y3⟩ := h.free u m hm
          exact ⟨by rw [if_neg (by omega)]; exact y1, y2, by omega⟩
      · simp only at hm
        obtain ⟨y1, y2⟩ := h.fresh m (by omega)
        exact ⟨y1, by simp only [updI]; rw [if_neg (by omega)]; exact y2⟩
mutual
theorem again_ord : ∀ (t : Tm) (fb fb' : Int → Option Int) (s s' : OS), OkV t → Again fb fb' s s' → (ordT fb' s' (ordT fb s t).1).1 = (ordT fb s t).1 ∧ Again fb fb' (ordT fb s t).2 (ordT fb' s' (ordT fb s t).1).2
  | .mk op n ks, fb, fb', s, s', hO, h => by
    obtain ⟨o1, o2, o3, o4⟩ := hO.open
    simp only [Tm.op, Tm.n, Tm.kids] at o1 o2 o3 o4
    by_cases h1 : op = 1
    · have e : ordT fb s (.mk op n ks) = (.mk 1 (numO fb s n).1 [], (numO fb s n).2) := by rw [ordT, if_pos h1]
      rw [e]; simp only
      rw [ordT, if_pos rfl]
      obtain ⟨e1, e2⟩ := again_num h n
      exact ⟨by simp only [e1], e2⟩
    · by_cases h8 : op = 8
      · obtain rfl := h8
        match ks, o3 rfl, o4 with
        | [a, b], _, o4 =>
          simp only [OkVs] at o4
          have hn : Again fb fb' s.next s'.next := ⟨by simp [OS.next, h.count], fun v m hm => ⟨(h.bound v m hm).1, by have := (h.bound v m hm).2; simp only [OS.next]; omega⟩, fun v m hm => by
            obtain ⟨y1, y2, y3⟩ := h.free v m hm
            exact ⟨y1, y2, by simp only [OS.next]; omega⟩, fun m hm => h.fresh m (by simp only [OS.next] at hm; omega)⟩
          obtain ⟨e1, e2⟩ := again_ord a fb fb' s.next s'.next o4.1 hn
          have hb : Again (updI fb n s.count) (updI fb' s.count s.count) (ordT fb s.next a).2 (ordT fb' s'.next (ordT fb s.next a).1).2 := by
            have hm0 : s.count + 1 ≤ (ordT fb s.next a).2.count := ordT_le a fb s.next
            refine ⟨e2.count, fun v m hm => ?_, fun v m hm => ?_, fun m hm => ?_⟩
            · simp only [updI] at hm ⊢
              split at hm
              · simp only [Option.some.injEq] at hm; subst hm; exact ⟨if_pos rfl, by omega⟩
              · obtain ⟨y1, y2⟩ := e2.bound v m hm
                refine ⟨?_, y2⟩
                split
                · rename_i e; rw [e]
                · exact y1
            · obtain ⟨y1, y2, y3⟩ := e2.free v m hm
              have hne : m ≠ s.count := fun e => by
                rcases ordT_new a fb s.next v m hm with hx | hx
                · have := (h.free v m hx).2.2; omega
                · simp only [OS.next] at hx; omega
              exact ⟨y1, by simp only [updI]; rw [if_neg hne]; exact y2, y3⟩
            · obtain ⟨y1, y2⟩ := e2.fresh m hm
              exact ⟨by simp only [updI]; rw [if_neg (by omega)]; exact y1, y2⟩
          obtain ⟨e3, e4⟩ := again_ord b _ _ _ _ o4.2.1 hb
          rw [ordT_let]; simp only
          rw [ordT_let]
          rw [h.count, e1, e3]
          refine ⟨rfl, e4.count, fun v m hm => ?_, fun v m hm => ?_, fun m hm => ?_⟩
          · obtain ⟨y1, y2⟩ := h.bound v m hm
            refine ⟨y1, ?_⟩
            have z1 : s.count + 1 ≤ (ordT fb s.next a).2.count := ordT_le a fb s.next
            have z2 := ordT_le b (updI fb n s.count) (ordT fb s.next a).2
            omega
          · obtain ⟨y1, y2, y3⟩ := e4.free v m hm
            refine ⟨y1, ?_, y3⟩
            simp only [updI] at y2
            split at y2
            · cases y2
            · exact y2
          · obtain ⟨y1, y2⟩ := e4.fresh m hm
            refine ⟨?_, y2⟩
            simp only [updI] at y1
            split at y1
            · cases y1
            · exact y1
      · have e : ordT fb s (.mk op n ks) = (.mk op n (ordTs fb s ks).1, (ordTs fb s ks).2) := by rw [ordT, if_neg h1, if_neg h8]
        rw [e]; simp only
        rw [ordT, if_neg h1, if_neg h8]
        obtain ⟨e1, e2⟩ := again_ords ks fb fb' s s' o4 h
        exact ⟨by simp only [e1], e2⟩
theorem again_ords : ∀ (ks : List Tm) (fb fb' : Int → Option Int) (s s' : OS), OkVs ks → Again fb fb' s s' → (ordTs fb' s' (ordTs fb s ks).1).1 = (ordTs fb s ks).1 ∧ Again fb fb' (ordTs fb s ks).2 (ordTs fb' s' (ordTs fb s ks).1).2
  | [], fb, fb', s, s', _, h => by simp only [ordTs]; exact ⟨trivial, h⟩
  | t :: ts, fb, fb', s, s', hO, h => by
    rw [OkVs] at hO
    obtain ⟨e1, e2⟩ := again_ord t fb fb' s s' hO.1 h
    obtain ⟨e3, e4⟩ := again_ords ts fb fb' _ _ hO.2 e2
    simp only [ordTs]
    exact ⟨by rw [e1, e3], e4⟩
end
/-- An expression in order, put in order, stays as it is. -/
theorem ord_again {t : Tm} (hO : OkV t) : (ordE (ordE t).1).1 = (ordE t).1 :=
  (again_ord t _ _ _ _ hO ⟨rfl, fun _ _ h => by simp at h, fun _ _ h => by simp at h, fun _ _ => ⟨rfl, rfl⟩⟩).1

end Go.Proofs.YthlegfegkopdkaaGreat

namespace Go.Proofs.YthlegfegkopdkaaGreat
open Go.RowKit Go.Shelf Go.Sort

/-! Free variables of a node, of a let -/
theorem fvKs_iff {op n : Int} (h8 : op ≠ 8) : ∀ (ks : List Tm) (k : Nat) (acc : Nat → Bool) (v : Nat), fvKs op n ks k acc v = true ↔ acc v = true ∨ ∃ t ∈ ks, fvT t v = true
  | [], _, acc, v => by rw [fvKs]; simp
  | x :: ts, k, acc, v => by
    rw [fvKs, fvKs_iff h8 ts, if_neg (fun e => h8 e.1)]
    unfold orSet
    simp only [Bool.or_eq_true, List.mem_cons, exists_eq_or_imp]
    exact or_assoc
theorem fv_node {op n : Int} {ks : List Tm} {v : Nat} (h1 : op ≠ 1) (h8 : op ≠ 8) : fvT (.mk op n ks) v = true ↔ ∃ t ∈ ks, fvT t v = true := by
  rw [fvT, fvKs_iff h8]
  simp [h1]
theorem fv_let {n : Int} {a b : Tm} {v : Nat} : fvT (.mk 8 n [a, b]) v = true ↔ fvT a v = true ∨ (fvT b v = true ∧ v ≠ n.toNat) := by
  rw [fvT, fvKs, fvKs, fvKs]
  by_cases h : v = n.toNat
  · simp [orSet, setB, h]
  · simp [orSet, setB, h]
theorem fv_of_var {n : Int} {v : Nat} : fvT (.mk 1 n []) v = true ↔ (v : Int) = n := by
  rw [fvT, fvKs]; simp

/-! What is free stands there -/
mutual
theorem stT_met : ∀ (t : Tm) (met : Nat → Bool) (v : Nat), met v = true → stT t met v = true
  | .mk op n ks, met, v, h => by
    rw [stT]
    refine stKs_met ks _ v ?_
    unfold standN
    split
    · unfold setB; split
      · rfl
      · exact h
    · exact h
theorem stKs_met : ∀ (ks : List Tm) (met : Nat → Bool) (v : Nat), met v = true → stKs ks met v = true
  | [], _, _, h => by rw [stKs]; exact h
  | t :: ts, met, v, h => by rw [stKs]; exact stKs_met ts _ v (stT_met t met v h)
end
theorem stKs_mem : ∀ (ks : List Tm) (met : Nat → Bool) (t : Tm) (v : Nat), t ∈ ks → (∀ met, stT t met v = true) → stKs ks met v = true
  | [], _, _, _, h, _ => by cases h
  | x :: ts, met, t, v, h, hs => by
    rw [stKs]
    rcases List.mem_cons.1 h with rfl | h
    · exact stKs_met ts _ v (hs met)
    · exact stKs_mem ts _ t v h hs
mutual
theorem fv_stands : ∀ (t : Tm) (v : Nat), OkV t → fvT t v = true → ∀ met, stT t met v = true
  | .mk op n ks, v, hO, h, met => by
    obtain ⟨o1, o2, o3, o4⟩ := hO.open
    simp only [Tm.op, Tm.n, Tm.kids] at o1 o2 o3 o4
    rw [stT]
    by_cases h1 : op = 1
    · obtain rfl := h1
      obtain rfl := o2 rfl
      rw [fv_of_var] at h
      rw [stKs]
      unfold standN
      rw [if_pos (.inl rfl)]
      unfold setB
      rw [if_pos (by omega)]
    · by_cases h8 : op = 8
      · obtain rfl := h8
        match ks, o3 rfl, o4, h with
        | [a, b], _, o4, h =>
          simp only [OkVs] at o4
          rcases fv_let.1 h with h | h
          · exact stKs_mem _ _ a v (by simp) (fv_stands a v o4.1 h)
          · exact stKs_mem _ _ b v (by simp) (fv_stands b v o4.2.1 h.1)
      · obtain ⟨t, ht, hf⟩ := (fv_node h1 h8).1 h
        obtain ⟨x, hx, hs⟩ := fvs_stands ks v o4 ⟨t, ht, hf⟩
        exact stKs_mem _ _ x v hx hs
theorem fvs_stands : ∀ (ks : List Tm) (v : Nat), OkVs ks → (∃ t ∈ ks, fvT t v = true) → ∃ t ∈ ks, ∀ met, stT t met v = true
  | [], _, _, h => by obtain ⟨t, h, -⟩ := h; cases h
  | x :: ts, v, hO, h => by
    rw [OkVs] at hO
    obtain ⟨t, ht, hf⟩ := h
    rcases List.mem_cons.1 ht with e | ht
    · rw [e] at hf; exact ⟨x, by simp, fv_stands x v hO.1 hf⟩
    · obtain ⟨y, hy, hs⟩ := fvs_stands ts v hO.2 ⟨t, ht, hf⟩
      exact ⟨y, by simp [hy], hs⟩
end
/-- What stands in a kid stands in the node. -/
theorem st_kid {op n : Int} {ks : List Tm} {t : Tm} {m : Nat} (h : stT (.mk op n ks) (fun _ => false) m = false) (ht : t ∈ ks) : ∃ met, stT t met m = false := by
  refine Classical.byContradiction fun hc => ?_
  have : ∀ met, stT t met m = true := fun met => by
    cases e : stT t met m with
    | true => rfl
    | false => exact absurd ⟨met, e⟩ hc
  rw [stT, stKs_mem ks _ t m ht this] at h
  cases h
theorem st_none {t : Tm} {m : Nat} {met : Nat → Bool} (h : stT t met m = false) : met m = false := by
  cases e : met m with
  | false => rfl
  | true => rw [stT_met t met m e] at h; cases h

/-! A variable in place of a free one -/
/-- m stands nowhere in the term. -/
def NoSt (m : Nat) (t : Tm) : Prop := ∃ met, stT t met m = false
theorem NoSt.kid {m : Nat} {op n : Int} {ks : List Tm} (h : NoSt m (.mk op n ks)) : ∀ t ∈ ks, NoSt m t := fun t ht => by
  obtain ⟨met, h⟩ := h
  refine Classical.byContradiction fun hc => ?_
  have : ∀ met, stT t met m = true := fun met => by
    cases e : stT t met m with
    | true => rfl
    | false => exact absurd ⟨met, e⟩ hc
  rw [stT, stKs_mem ks _ t m ht this] at h
  cases h
theorem NoSt.own {m : Nat} {op n : Int} {ks : List Tm} (h : NoSt m (.mk op n ks)) (ho : op = 1 ∨ op = 8) : m ≠ n.toNat := fun e => by
  obtain ⟨met, h⟩ := h
  rw [stT] at h
  have : standN met op n m = true := by unfold standN; rw [if_pos ho]; unfold setB; rw [if_pos e]
  rw [stKs_met ks _ m this] at h
  cases h
theorem NoSt.free {m : Nat} {t : Tm} (h : NoSt m t) (hO : OkV t) : fvT t m = false := by
  cases e : fvT t m with
  | false => rfl
  | true => obtain ⟨met, h⟩ := h; rw [fv_stands t m hO e met] at h; cases h
mutual
theorem fv_ren (u m : Nat) (hu : u < 20) : ∀ (t : Tm) (v : Nat), OkV t → NoSt m t → (fvT (renT u m t) v = true ↔ (v = m ∧ fvT t u = true) ∨ (v ≠ u ∧ fvT t v = true))
  | .mk op n ks, v, hO, hm => by
    have hfm := hm.free hO
    obtain ⟨o1, o2, o3, o4⟩ := hO.open
    simp only [Tm.op, Tm.n, Tm.kids] at o1 o2 o3 o4
    by_cases h1 : op = 1
    · obtain rfl := h1
      obtain rfl := o2 rfl
      by_cases hn : n = u
      · rw [renT, if_pos ⟨rfl, hn⟩, fv_of_var, fv_of_var, fv_of_var, hn]
        constructor
        · intro h; exact .inl ⟨by omega, rfl⟩
        · rintro (⟨h, -⟩ | ⟨h, h'⟩) <;> omega
      · rw [renT, if_neg (fun e => hn e.2), if_neg (fun e => by omega), renTs, fv_of_var, fv_of_var]
        constructor
        · intro h; exact .inr ⟨by omega, h⟩
        · rintro (⟨h, h'⟩ | ⟨h, h'⟩) <;> omega
    · by_cases h8 : op = 8
      · obtain rfl := h8
        match ks, o3 rfl, o4, hm with
        | [a, b], _, o4, hm =>
          simp only [OkVs] at o4
          have hma := hm.kid a (by simp)
          have hmb := hm.kid b (by simp)
          have hmn := hm.own (.inr rfl)
          have ia := fv_ren u m hu a v o4.1 hma
          have ib := fv_ren u m hu b v o4.2.1 hmb
          have hn := o1 (.inr rfl)
          by_cases hnu : n = u
          · rw [renT, if_neg (fun e => by omega), if_pos ⟨rfl, hnu⟩, renH, fv_let, fv_let, fv_let, ia]
            constructor
            · rintro ((⟨h, h'⟩ | ⟨h, h'⟩) | ⟨h, h'⟩)
              · exact .inl ⟨h, .inl h'⟩
              · exact .inr ⟨h, .inl h'⟩
              · exact .inr ⟨by omega, .inr ⟨h, h'⟩⟩
            · rintro (⟨h, h' | ⟨h', h''⟩⟩ | ⟨h, h' | ⟨h', h''⟩⟩)
              · exact .inl (.inl ⟨h, h'⟩)
              · exact absurd (by omega : u = n.toNat) h''
              · exact .inl (.inr ⟨h, h'⟩)
              · exact .inr ⟨h', h''⟩
          · rw [renT, if_neg (fun e => by omega), if_neg (fun e => hnu e.2), renTs, renTs, renTs, fv_let, fv_let, fv_let, ia, ib]
            constructor
            · rintro ((⟨h, h'⟩ | ⟨h, h'⟩) | ⟨⟨h, h'⟩ | ⟨h, h'⟩, h''⟩)
              · exact .inl ⟨h, .inl h'⟩
              · exact .inr ⟨h, .inl h'⟩
              · exact .inl ⟨h, .inr ⟨h', by omega⟩⟩
              · exact .inr ⟨h, .inr ⟨h', h''⟩⟩
            · rintro (⟨h, h' | ⟨h', h''⟩⟩ | ⟨h, h' | ⟨h', h''⟩⟩)
              · exact .inl (.inl ⟨h, h'⟩)
              · exact .inr ⟨.inl ⟨h, h'⟩, by omega⟩
              · exact .inl (.inr ⟨h, h'⟩)
              · exact .inr ⟨.inr ⟨h, h'⟩, h''⟩
      · rw [renT, if_neg (fun e => h1 e.1), if_neg (fun e => h8 e.1), fv_node h1 h8, fv_node h1 h8, fv_node h1 h8, fvs_ren u m hu ks v o4 hm.kid]
theorem fvs_ren (u m : Nat) (hu : u < 20) : ∀ (ks : List Tm) (v : Nat), OkVs ks → (∀ t ∈ ks, NoSt m t) → ((∃ t ∈ renTs u m ks, fvT t v = true) ↔ (v = m ∧ ∃ t ∈ ks, fvT t u = true) ∨ (v ≠ u ∧ ∃ t ∈ ks, fvT t v = true))
  | [], v, _, _ => by simp [renTs]
  | x :: ts, v, hO, hm => by
    rw [OkVs] at hO
    rw [renTs]
    simp only [List.mem_cons, exists_eq_or_imp]
    rw [fv_ren u m hu x v hO.1 (hm x (by simp)), fvs_ren u m hu ts v hO.2 (fun t ht => hm t (by simp [ht]))]
    constructor
    · rintro ((⟨h, h'⟩ | ⟨h, h'⟩) | ⟨h, h'⟩ | ⟨h, h'⟩)
      · exact .inl ⟨h, .inl h'⟩
      · exact .inr ⟨h, .inl h'⟩
      · exact .inl ⟨h, .inr h'⟩
      · exact .inr ⟨h, .inr h'⟩
    · rintro (⟨h, h' | h'⟩ | ⟨h, h' | h'⟩)
      · exact .inl (.inl ⟨h, h'⟩)
      · exact .inr (.inl ⟨h, h'⟩)
      · exact .inl (.inr ⟨h, h'⟩)
      · exact .inr (.inr ⟨h, h'⟩)
end

/-! The free variables of what was put in -/
/-- The variables that stand for v behind the list. -/
def Img (F : Int → Option DT) (g : Nat → Bool) (v u : Nat) : Prop := if (findD F g v).2 = true then fvT (findD F g v).1.tm u = true else u = v
theorem findD_set {F : Int → Option DT} {g : Nat → Bool} {k v : Nat} (h : v ≠ k) : findD F (setB g k true) v = findD F g v := by
  unfold findD setB; rw [if_neg h]
theorem findD_own {F : Int → Option DT} {g : Nat → Bool} {k : Nat} : (findD F (setB g k true) k).2 = false := by
  unfold findD setB
  cases F (k : Int) with
  | some d => simp
  | none => rfl
def FvSpec (F : Int → Option DT) (st : Nat → Bool) (N : Nat) : Prop := ∀ (g : Nat → Bool) (t z : Tm), OkV t → putF F st N g t = some z → ∀ u, u < 20 → (fvT z u = true ↔ ∃ v, v < 20 ∧ fvT t v = true ∧ Img F g v u)
theorem fv_puts {F : Int → Option DT} {st : Nat → Bool} {N : Nat} (ih : FvSpec F st N) (g : Nat → Bool) : ∀ (ks zs : List Tm), OkVs ks → zs.length = ks.length → (∀ k (h : k < ks.length) (h' : k < zs.length), putF F st N g ks[k] = some zs[k]) → ∀ u, u < 20 → ((∃ z ∈ zs, fvT z u = true) ↔ ∃ v, v < 20 ∧ (∃ t ∈ ks, fvT t v = true) ∧ Img F g v u)
  | [], [], _, _, _, u, _ => by simp
  | [], _ :: _, _, h, _, _, _ => by simp at h
  | _ :: _, [], _, h, _, _, _ => by simp at h
  | x :: ks, z :: zs, hO, hl, hp, u, hu => by
    rw [OkVs] at hO
    have h1 := ih g x z hO.1 (hp 0 (by simp) (by simp)) u hu
    have h2 := fv_puts ih g ks zs hO.2 (by simpa using hl) (fun k h h' => hp (k + 1) (by simpa using h) (by simpa using h')) u hu
    simp only [List.mem_cons, exists_eq_or_imp]
    rw [h1, h2]
    constructor
    · rintro (⟨v, a, b, c⟩ | ⟨v, a, b, c⟩)
      · exact ⟨v, a, .inl b, c⟩
      · exact ⟨v, a, .inr b, c⟩
    · rintro ⟨v, a, b | b, c⟩
      · exact .inl ⟨v, a, b, c⟩
      · exact .inr ⟨v, a, b, c⟩
theorem fv_put {F : Int → Option DT} {st : Nat → Bool} (hF : ∀ (v : Nat) (d : DT), F (v : Int) = some d → OkV d.tm ∧ ∀ u, fvT d.tm u = true → st u = true) : ∀ N, FvSpec F st N
  | 0 => fun _ _ _ _ h => by cases h
  | N + 1 => fun g t z hO h u hu => by
    have ih := fv_put hF N
    obtain ⟨op, n, ks⟩ := t
    have hO' := hO
    obtain ⟨o1, o2, o3, o4⟩ := hO.open
    simp only [Tm.op, Tm.n, Tm.kids] at o1 o2 o3 o4
    by_cases h1 : op = 1
    · obtain rfl := h1
      obtain rfl := o2 rfl
      obtain ⟨v, rfl⟩ : ∃ v : Nat, n = v := ⟨n.toNat, by have := o1 (.inl rfl); omega⟩
      have hv : v < 20 := by have := o1 (.inl rfl); omega
      rw [putF_var _ _ _ _ _ _ _ rfl, Option.some.injEq] at h
      simp only [Int.toNat_natCast] at h
      subst h
      have hI : (∃ v', v' < 20 ∧ fvT (.mk 1 (v : Int) []) v' = true ∧ Img F g v' u) ↔ Img F g v u := by
        constructor
        · rintro ⟨v', -, a, b⟩
          rw [fv_of_var] at a
          obtain rfl : v' = v := by omega
          exact b
        · intro b; exact ⟨v, hv, fv_of_var.2 rfl, b⟩
      rw [hI]
      unfold Img
      split
      · rfl
      · rw [fv_of_var]; omega
    · by_cases h8 : op = 8
      · obtain rfl := h8
        match ks, o3 rfl, o4, h, hO' with
        | [a, b], _, o4, h, hO' =>
          simp only [OkVs] at o4
          obtain ⟨w, rfl⟩ : ∃ v : Nat, n = v := ⟨n.toNat, by have := o1 (.inr rfl); omega⟩
          have hw : w < 20 := by have := o1 (.inr rfl); omega
          rw [putF_let] at h
          simp only [Int.toNat_natCast] at h
          have hlet : (∃ v, v < 20 ∧ fvT (.mk 8 (w : Int) [a, b]) v = true ∧ Img F g v u) ↔ (∃ v, v < 20 ∧ fvT a v = true ∧ Img F g v u) ∨ ∃ v, v < 20 ∧ fvT b v = true ∧ v ≠ w ∧ Img F g v u := by
            constructor
            · rintro ⟨v, p, q, r⟩
              rcases fv_let.1 q with q | ⟨q, q'⟩
              · exact .inl ⟨v, p, q, r⟩
              · exact .inr ⟨v, p, q, by simpa using q', r⟩
            · rintro (⟨v, p, q, r⟩ | ⟨v, p, q, q', r⟩)
              · exact ⟨v, p, fv_let.2 (.inl q), r⟩
              · exact ⟨v, p, fv_let.2 (.inr ⟨q, by simpa using q'⟩), r⟩
          rw [hlet]
          cases hc : catchB F (setB g w true) w b with
          | false =>
            rw [hc] at h
            simp only [Bool.false_eq_true, if_false] at h
            cases hA : putF F st N g a with
            | none => rw [hA] at h; cases h
            | some A =>
              cases hB : putF F st N (setB g w true) b with
              | none => rw [hA, hB] at h; cases h
              | some B =>
                rw [hA, hB] at h
                simp only [Option.bind_some, Option.map_some, Option.some.injEq] at h
                subst h
                rw [fv_let, ih g a A o4.1 hA u hu, ih (setB g w true) b B o4.2.1 hB u hu]
                simp only [Int.toNat_natCast]
                have hne : ∀ v, v < 20 → fvT b v = true → v ≠ w → Img F g v u → u ≠ w := fun v p q r i e => by
                  subst e
                  unfold Img at i
                  split at i
                  · rename_i hf
                    unfold catchB at hc
                    rw [List.any_eq_false] at hc
                    have := hc v (List.mem_filter.2 ⟨List.mem_range.2 p, q⟩)
                    rw [findD_set r, hf, i] at this
                    simp at this
                  · exact r i.symm
                constructor
                · rintro (l | ⟨⟨v, p, q, i⟩, e⟩)
                  · exact .inl l
                  · by_cases r : v = w
                    · subst r
                      unfold Img at i
                      rw [findD_own] at i
                      simp only [Bool.false_eq_true, if_false] at i
                      exact absurd i e
                    · refine .inr ⟨v, p, q, r, ?_⟩
                      unfold Img at i ⊢
                      rw [findD_set r] at i
                      exact i
                · rintro (l | ⟨v, p, q, r, i⟩)
                  · exact .inl l
                  · refine .inr ⟨⟨v, p, q, ?_⟩, hne v p q r i⟩
                    unfold Img at i ⊢
                    rw [findD_set r]
                    exact i
          | true =>
            rw [hc] at h
            simp only [if_true] at h
            cases hl : leastN (orSet (stT (.mk 8 (w : Int) [a, b]) (fun _ => false)) st) with
            | none => rw [hl] at h; cases h
            | some m =>
              rw [hl] at h
              simp only at h
              have hm20 := leastN_lt hl
              have hmf : orSet (stT (.mk 8 (w : Int) [a, b]) (fun _ => false)) st m = false := by
                unfold leastN at hl
                have := List.find?_some hl
                simpa using this
              have hm1 : stT (.mk 8 (w : Int) [a, b]) (fun _ => false) m = false ∧ st m = false := by
                unfold orSet at hmf; simpa using hmf
              have hNo : NoSt m (.mk 8 (w : Int) [a, b]) := ⟨_, hm1.1⟩
              have hmb := hNo.kid b (by simp)
              have hmw : m ≠ w := by simpa using hNo.own (.inr rfl)
              have hob := renT_ok (w : Int) (m : Int) ⟨by omega, by omega⟩ b o4.2.1
              cases hA : putF F st N g a with
              | none => rw [hA] at h; cases h
              | some A =>
                cases hB : putF F st N (setB g m true) (renT w m b) with
                | none => rw [hA, hB] at h; cases h
                | some B =>
                  rw [hA, hB] at h
                  simp only [Option.bind_some, Option.map_some, Option.some.injEq] at h
                  subst h
                  rw [fv_let, ih g a A o4.1 hA u hu, ih (setB g m true) _ B hob hB u hu]
                  simp only [Int.toNat_natCast]
                  have hr := fun v => fv_ren w m hw b v o4.2.1 hmb
                  have hfm := hmb.free o4.2.1
                  have hne : ∀ v, fvT b v = true → Img F g v u → u ≠ m := fun v q i e => by
                    subst e
                    unfold Img at i
                    split at i
                    · rename_i hf
                      have := (hF v _ (findD_some hf)).2 u i
                      rw [hm1.2] at this; cases this
                    · subst i; rw [hfm] at q; cases q
                  constructor
                  · rintro (l | ⟨⟨v, p, q, i⟩, e⟩)
                    · exact .inl l
                    · by_cases r : v = m
                      · subst r
                        unfold Img at i
                        rw [findD_own] at i
                        simp only [Bool.false_eq_true, if_false] at i
                        exact absurd i e
                      · rcases (hr v).1 q with ⟨q1, -⟩ | ⟨q1, q2⟩
                        · exact absurd q1 r
                        · refine .inr ⟨v, p, q2, q1, ?_⟩
                          unfold Img at i ⊢
                          rw [findD_set r] at i
                          exact i
                  · rintro (l | ⟨v, p, q, r, i⟩)
                    · exact .inl l
                    · have hvm : v ≠ m := fun e => by subst e; rw [hfm] at q; cases q
                      refine .inr ⟨⟨v, p, (hr v).2 (.inr ⟨r, q⟩), ?_⟩, hne v q i⟩
                      unfold Img at i ⊢
                      rw [findD_set hvm]
                      exact i
      · rw [putF_node _ _ _ _ _ _ _ h1 h8] at h
        cases hm : ks.mapM (putF F st N g) with
        | none => rw [hm] at h; cases h
        | some zs =>
          rw [hm] at h
          simp only [Option.map_some, Option.some.injEq] at h
          subst h
          obtain ⟨hl, hk⟩ := mapM_some hm
          rw [fv_node h1 h8, fv_puts ih g ks zs o4 hl hk u hu]
          constructor
          · rintro ⟨v, p, q, i⟩; exact ⟨v, p, (fv_node h1 h8).2 q, i⟩
          · rintro ⟨v, p, q, i⟩; exact ⟨v, p, (fv_node h1 h8).1 q, i⟩

/-! The variables' own terms -/
theorem own_put {F : Int → Option DT} {st : Nat → Bool} : ∀ (N : Nat) (g : Nat → Bool) (t : Tm), OkV t → t.size ≤ N → (∀ v : Nat, v < 20 → (findD F g v).2 = true → (findD F g v).1.tm = .mk 1 (v : Int) []) → putF F st N g t = some t
  | 0, _, t, _, h, _ => by have := size_pos t; omega
  | N + 1, g, .mk op n ks, hO, hs, hf => by
    obtain ⟨o1, o2, o3, o4⟩ := hO.open
    simp only [Tm.op, Tm.n, Tm.kids] at o1 o2 o3 o4
    rw [Tm.size] at hs
    by_cases h1 : op = 1
    · obtain rfl := h1
      obtain rfl := o2 rfl
      obtain ⟨v, rfl⟩ : ∃ v : Nat, n = v := ⟨n.toNat, by have := o1 (.inl rfl); omega⟩
      have hv : v < 20 := by have := o1 (.inl rfl); omega
      rw [putF_var _ _ _ _ _ _ _ rfl]
      simp only [Int.toNat_natCast]
      split
      · rename_i hq; rw [hf v hv hq]
      · rfl
    · by_cases h8 : op = 8
      · obtain rfl := h8
        match ks, o3 rfl, o4, hs with
        | [a, b], _, o4, hs =>
          simp only [OkVs] at o4
          obtain ⟨w, rfl⟩ : ∃ v : Nat, n = v := ⟨n.toNat, by have := o1 (.inr rfl); omega⟩
          simp only [sizes] at hs
          have hf' : ∀ v : Nat, v < 20 → (findD F (setB g w true) v).2 = true → (findD F (setB g w true) v).1.tm = .mk 1 (v : Int) [] := fun v hv hq => by
            by_cases e : v = w
            · subst e; rw [findD_own] at hq; cases hq
            · rw [findD_set e] at hq ⊢; exact hf v hv hq
          have hc : catchB F (setB g w true) w b = false := by
            unfold catchB
            rw [List.any_eq_false]
            intro v hv
            have hv20 := List.mem_range.1 (List.mem_filter.1 hv).1
            cases hq : (findD F (setB g w true) v).2 with
            | false => simp
            | true =>
              have e : v ≠ w := fun e => by subst e; rw [findD_own] at hq; cases hq
              rw [hf' v hv20 hq]
              have : fvT (.mk 1 (v : Int) []) w = false := by
                cases h : fvT (.mk 1 (v : Int) []) w with
                | false => rfl
                | true => rw [fv_of_var] at h; omega
              rw [this]; simp
          have ia := own_put (F := F) (st := st) N g a o4.1 (by omega) hf
          have ib := own_put (F := F) (st := st) N (setB g w true) b o4.2.1 (by omega) hf'
          rw [putF_let]
          simp only [Int.toNat_natCast]
          rw [hc, ia, ib]
          rfl
      · rw [putF_node _ _ _ _ _ _ _ h1 h8, own_puts N g ks o4 (by omega) hf]
        rfl
where
  own_puts {F : Int → Option DT} {st : Nat → Bool} (N : Nat) (g : Nat → Bool) : ∀ (ks : List Tm), OkVs ks → sizes ks ≤ N → (∀ v : Nat, v < 20 → (findD F g v).2 = true → (findD F g v).1.tm = .mk 1 (v : Int) []) → ks.mapM (putF F st N g) = some ks
  | [], _, _, _ => rfl
  | t :: ts, hO, hs, hf => by
    rw [OkVs] at hO
    rw [sizes] at hs
    rw [List.mapM_cons, own_put N g t hO.1 (by omega) hf, own_puts N g ts hO.2 (by omega) hf]
    rfl

end Go.Proofs.YthlegfegkopdkaaGreat

namespace Go.Proofs.YthlegfegkopdkaaGreat
open Go.RowKit Go.Shelf Go.Sort

theorem lf_incr {s : Sg} : ∀ (L : List (Int × Tm)) (b : Int), lfB s b L = true → (∀ j (h : j < L.length), b < L[j].1) ∧ ∀ i j (h : i < j) (h' : j < L.length), (L[i]'(by omega)).1 < L[j].1
  | [], _, _ => ⟨fun j h => by simp at h, fun i j h h' => by simp at h'⟩
  | x :: xs, b, h => by
    rw [lfB_cons, Bool.and_eq_true, Bool.and_eq_true, Bool.and_eq_true] at h
    obtain ⟨⟨⟨h3, h4⟩, h5⟩, h6⟩ := h
    have hb : b < x.1 := by simpa using h3
    obtain ⟨g1, g2⟩ := lf_incr xs x.1 h6
    refine ⟨fun j hj => ?_, fun i j hij hj => ?_⟩
    · cases j with
      | zero => exact hb
      | succ j => have := g1 j (by simpa using hj); simp only [List.getElem_cons_succ]; omega
    · obtain ⟨j, rfl⟩ : ∃ k, j = k + 1 := ⟨j - 1, by omega⟩
      cases i with
      | zero => exact g1 j (by simpa using hj)
      | succ i => exact g2 i j (by omega) (by simpa using hj)

theorem bind_none {bs : List PB} {v : Int} : ∀ k, k ≤ bs.length → (∀ j (h : j < bs.length), j < k → bs[j].v ≠ v) → bindK bs k v = none
  | 0, _, _ => by simp [bindK]
  | k + 1, hk, h => by
    rw [bindK_succ bs k (by omega)]
    unfold updI
    rw [if_neg (fun e => h k (by omega) (by omega) e.symm)]
    exact bind_none k (by omega) (fun j hj hjk => h j hj (by omega))
theorem bind_some {bs : List PB} {v : Int} : ∀ k, k ≤ bs.length → ∀ j (h : j < bs.length), j < k → bs[j].v = v → (∀ i (h : i < bs.length), i < k → bs[i].v = v → i = j) → bindK bs k v = some bs[j].d
  | 0, _, j, _, h, _, _ => by omega
  | k + 1, hk, j, hj, hjk, hv, hu => by
    rw [bindK_succ bs k (by omega)]
    unfold updI
    by_cases e : bs[k].v = v
    · obtain rfl := hu k (by omega) (by omega) e
      rw [if_pos e.symm]
    · rw [if_neg (fun e' => e e'.symm)]
      have : j ≠ k := fun e' => by subst e'; exact e hv
      exact bind_some k (by omega) j hj (by omega) hv (fun i hi hik => hu i hi (by omega))
theorem stK_mono {bs : List PB} {u : Nat} : ∀ k m, k ≤ m → m ≤ bs.length → stK bs k u = true → stK bs m u = true
  | k, m, h, hm, hs => by
    induction m with
    | zero => obtain rfl : k = 0 := by omega
              exact hs
    | succ m ih =>
      by_cases e : k = m + 1
      · subst e; exact hs
      · rw [stK_succ bs m (by omega)]
        unfold setB orSet
        split
        · rfl
        · rw [ih (by omega) (by omega)]; rfl
theorem stK_free {bs : List PB} (hO : ∀ x ∈ bs, OkV x.d.tm) : ∀ x ∈ bs, ∀ u, fvT x.d.tm u = true → stK bs bs.length u = true := by
  intro x hx u hu
  obtain ⟨j, hj, rfl⟩ := List.getElem_of_mem hx
  refine stK_mono (j + 1) bs.length (by omega) (Nat.le_refl _) ?_
  rw [stK_succ bs j hj]
  unfold setB orSet
  split
  · rfl
  · rw [fv_stands _ u (hO _ hx) hu]; simp

/-- The place of the first binding of v; the list's length, if there is none. -/
def findL (L : List (Int × Tm)) (v : Nat) : Nat := L.findIdx fun x => x.1 == (v : Int)
/-- Whether u is wanted for v. -/
def imgB (L : List (Int × Tm)) (v u : Nat) : Bool := match L[findL L v]? with | some x => fvT x.2 u | none => u == v
def wantF (L : List (Int × Tm)) (G : List Nat) (u : Nat) : Bool := G.any fun v => imgB L v u
theorem wantF_snoc (L : List (Int × Tm)) (G : List Nat) (v : Nat) : wantF L (G ++ [v]) = orSet (wantF L G) (imgB L v) := by
  funext u; unfold wantF orSet; simp
theorem findL_le (L : List (Int × Tm)) (v : Nat) : findL L v ≤ L.length := List.findIdx_le_length
theorem findL_ne (L : List (Int × Tm)) (v k : Nat) (h : k < findL L v) : (L[k]'(by have := findL_le L v; omega)).1 ≠ (v : Int) := by
  have := List.not_of_lt_findIdx (p := fun x : Int × Tm => x.1 == (v : Int)) (xs := L) h
  simpa using this
theorem findL_at (L : List (Int × Tm)) (v : Nat) (h : findL L v < L.length) : L[findL L v].1 = (v : Int) := by
  have := List.findIdx_getElem (p := fun x : Int × Tm => x.1 == (v : Int)) (xs := L) (w := h)
  simp only [beq_iff_eq] at this
  exact this
theorem findL_of (L : List (Int × Tm)) (v k : Nat) (hk : k < L.length) (h1 : L[k].1 = (v : Int)) (h2 : ∀ j (h : j < k), (L[j]'(by omega)).1 ≠ (v : Int)) : findL L v = k := by
  rcases Nat.lt_trichotomy (findL L v) k with h | h | h
  · exact absurd (findL_at L v (by omega)) (h2 _ h)
  · exact h
  · exact absurd h1 (findL_ne L v k h)

/-- The free variables behind a list that is put in are just those that are wanted. -/
theorem capture {s : Sg} {bs : List PB} {L : List (Int × Tm)} (hp : pbs bs = L) (hlf : lfB s (-1) L = true) {N : Nat} {t Z : Tm} (hO : OkV t) (h : putF (bindK bs bs.length) (stK bs bs.length) N (fun _ => false) t = some Z) :
    ∀ u, u < 20 → fvT Z u = wantF L (listTo (fvT t) 20) u := by
  obtain ⟨-, hall⟩ := lfB_all hlf (by omega) (by omega)
  obtain ⟨-, hinc⟩ := lf_incr L (-1) hlf
  have hl : bs.length = L.length := by rw [← hp]; simp [pbs]
  have hget : ∀ j (h : j < bs.length) (h' : j < L.length), L[j] = (bs[j].v, bs[j].d.tm) := fun j h h' => by
    have : (pbs bs)[j]? = L[j]? := by rw [hp]
    rw [List.getElem?_eq_getElem (by simpa [pbs] using h), List.getElem?_eq_getElem h', Option.some.injEq] at this
    rw [← this]; simp [pbs]
  have hOb : ∀ x ∈ bs, OkV x.d.tm := fun x hx => by
    obtain ⟨j, hj, rfl⟩ := List.getElem_of_mem hx
    have := (hall L[j] (List.getElem_mem (by omega))).2
    rw [hget j hj (by omega)] at this
    exact OkV.formed this
  have hF : ∀ (v : Nat) (d : DT), bindK bs bs.length (v : Int) = some d → OkV d.tm ∧ ∀ u, fvT d.tm u = true → stK bs bs.length u = true := fun v d hd =>
    bindK_els (P := fun d => OkV d.tm ∧ ∀ u, fvT d.tm u = true → stK bs bs.length u = true) (fun x hx => ⟨hOb x hx, stK_free hOb x hx⟩) _ _ _ hd
  have himg : ∀ v u : Nat, Img (bindK bs bs.length) (fun _ => false) v u ↔ imgB L v u = true := fun v u => by
    unfold Img imgB findD
    by_cases hk : findL L v < L.length
    · have hv := findL_at L v hk
      rw [hget _ (by omega) hk] at hv
      have hb : bindK bs bs.length (v : Int) = some (bs[findL L v]'(by omega)).d := bind_some _ (Nat.le_refl _) _ (by omega) (by omega) hv (fun i hi _ he => by
        rcases Nat.lt_trichotomy i (findL L v) with h | h | h
        · have := hinc i _ h hk
          rw [hget i hi (by omega), hget _ (by omega) hk] at this
          simp only at this hv; omega
        · exact h
        · have := hinc _ i h (by omega)
          rw [hget i hi (by omega), hget _ (by omega) hk] at this
          simp only at this hv; omega)
      rw [hb, List.getElem?_eq_getElem hk, hget _ (by omega) hk]
      simp
    · have hb : bindK bs bs.length (v : Int) = none := bind_none _ (Nat.le_refl _) (fun j hj _ he => by
        have hne := findL_ne L v j (by omega)
        rw [hget j hj (by omega)] at hne
        exact hne he)
      rw [hb, List.getElem?_eq_none (by omega)]
      simp
  intro u hu
  have hf := fv_put hF N (fun _ => false) t Z hO h u hu
  rw [Bool.eq_iff_iff, hf]
  unfold wantF listTo
  rw [List.any_eq_true]
  constructor
  · rintro ⟨v, a, b, c⟩
    exact ⟨v, List.mem_filter.2 ⟨List.mem_range.2 a, b⟩, (himg v u).1 c⟩
  · rintro ⟨v, a, c⟩
    obtain ⟨a, b⟩ := List.mem_filter.1 a
    exact ⟨v, List.mem_range.1 a, b, (himg v u).2 c⟩

/-! The variables' own terms, as a list -/
def ownV (v : Nat) : Int × Tm := ((v : Int), .mk 1 (v : Int) [])
theorem ownV_formed (s : Sg) (v : Nat) (hv : v < 20) : formedB s (ownV v).2 = true := by
  unfold formedB ownV
  rw [nodesOk, nodeOk_1]
  simp [weigh, weighs, nodesOks, inB]
  omega
theorem own_lf (s : Sg) : ∀ (G : List Nat) (b : Int), (∀ v ∈ G, b < (v : Int)) → G.Pairwise (· < ·) → (∀ v ∈ G, v < 20) → lfB s b (G.map ownV) = true
  | [], _, _, _, _ => by rw [List.map_nil, lfB]
  | v :: G, b, hb, hp, h20 => by
    rw [List.map_cons, lfB_cons]
    rw [List.pairwise_cons] at hp
    have hf := ownV_formed s v (h20 v (by simp))
    have e : (ownV v).1 = (v : Int) := rfl
    rw [hf, e, own_lf s G v (fun u hu => by have := hp.1 u hu; omega) hp.2 (fun u hu => h20 u (by simp [hu]))]
    have h1 := hb v (by simp)
    have h2 := h20 v (by simp)
    simp [inB, h1]
    omega
theorem listTo_pair (f : Nat → Bool) (k : Nat) : (listTo f k).Pairwise (· < ·) := List.Pairwise.filter _ (List.pairwise_lt_range)
theorem listTo_mem {f : Nat → Bool} {k v : Nat} (h : v ∈ listTo f k) : v < k ∧ f v = true := by
  obtain ⟨a, b⟩ := List.mem_filter.1 h; exact ⟨List.mem_range.1 a, b⟩
theorem own_all {bs : List PB} {G : List Nat} (hp : pbs bs = G.map ownV) {t : Tm} {N : Nat} (hO : OkV t) (hN : t.size ≤ N) : putF (bindK bs bs.length) (stK bs bs.length) N (fun _ => false) t = some t := by
  refine own_put N _ t hO hN (fun v hv hq => ?_)
  have hd := findD_some hq
  have : Els (fun d => ∀ x ∈ bs, x.d = d → d.tm = .mk 1 x.v []) (bindK bs bs.length) := bindK_els (fun x hx y hy e => by
    have hy' : (y.v, y.d.tm) ∈ pbs bs := List.mem_map.2 ⟨y, hy, rfl⟩
    rw [hp] at hy'
    obtain ⟨u, -, hu⟩ := List.mem_map.1 hy'
    simp only [ownV, Prod.mk.injEq] at hu
    rw [← e, ← hu.2, ← hu.1]) _
  -- the binding of v is one of the list, of the variable v
  have hex : ∀ k, k ≤ bs.length → ∀ d, bindK bs k (v : Int) = some d → ∃ x ∈ bs, x.v = (v : Int) ∧ x.d = d := by
    intro k
    induction k with
    | zero => intro _ d h; simp [bindK] at h
    | succ k ih =>
      intro hk d h
      rw [bindK_succ bs k (by omega)] at h
      unfold updI at h
      split at h
      · rename_i e; rw [Option.some.injEq] at h; exact ⟨bs[k], List.getElem_mem _, e.symm, h⟩
      · exact ih (by omega) d h
  obtain ⟨x, hx, hxv, hxd⟩ := hex _ (Nat.le_refl _) _ hd
  have := this _ _ hd x hx hxd
  rw [this, hxv]

/-! Counting through a list of numbers -/
theorem listTo_take (f : Nat → Bool) : ∀ (k n : Nat), k ≤ n → (listTo f n).take (listTo f k).length = listTo f k
  | k, n, h => by
    induction n with
    | zero => obtain rfl : k = 0 := by omega
              simp [listTo]
    | succ n ih =>
      by_cases e : k = n + 1
      · subst e; rw [List.take_length]
      · have hi := ih (by omega)
        have hle : (listTo f k).length ≤ (listTo f n).length := by rw [← hi, List.length_take]; omega
        cases hf : f n with
        | true => rw [listTo_yes hf, List.take_append_of_le_length hle]; exact hi
        | false => rw [listTo_no hf]; exact hi
theorem listTo_at {f : Nat → Bool} {k n : Nat} (h : k < n) (hf : f k = true) : (listTo f n)[(listTo f k).length]? = some k := by
  have h1 := listTo_take f (k + 1) n (by omega)
  rw [listTo_yes hf] at h1
  have h2 := congrArg (fun l => l[(listTo f k).length]?) h1
  simp only [List.length_append, List.length_cons, List.length_nil] at h2
  rw [List.getElem?_take_of_lt (by omega)] at h2
  rw [h2]; simp
theorem listTo_congr {f g : Nat → Bool} {k : Nat} (h : ∀ u, u < k → f u = g u) : listTo f k = listTo g k := by
  unfold listTo
  exact List.filter_congr (fun u hu => h u (List.mem_range.1 hu))

end Go.Proofs.YthlegfegkopdkaaGreat
