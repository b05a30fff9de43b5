/- Own text, joined of: L2. 'listFormed'. -/
import Derived.Test.YthlegfegkopdkaaGreatGe22

namespace Go.Proofs.YthlegfegkopdkaaGreat
open Go.RowKit Go.Shelf

abbrev one3 (v : Int) : Obj := .cells #[.int .i64 v] 3
theorem one3_cell {w : World} {B : Nat} {v : Int} (h : w.heap[B]? = some (one3 v)) : w.cell? ⟨B, 0, none⟩ = some (.int .i64 v) ∧ w.frozen? ⟨B, 0, none⟩ = false :=
  ⟨by rw [cell_of_row w B 0 _ 3 (0, 0) h]; rfl, frozen_of_row w B 0 _ 3 h⟩

set_option maxRecDepth 100000 in
set_option maxHeartbeats 1000000 in
theorem lf1_any (s : Sg) (x : PB) (n₀ : Nat) (W : World) (Bb Bs : Nat) (before : Int) (ac : Option Addr) (lc cc : Nat) (af : Option Addr) (lf cf : Nat) (hs : 1 + x.d.size ≤ 1000000) (hn : n₀ ≤ W.heap.size) (hb0 : n₀ ≤ Bb) (hb : W.heap[Bb]? = some (one3 before)) (hsb : W.heap[Bs]? = some (bs 24 ac lc cc af lf cf)) (hS : IsSg n₀ W s ac lc cc af lf cf) (hL : Lies n₀ W x.d) :
    Calls Tryz.prog 93 #[.agg #[.int .i64 x.v, .int .i64 x.d.op, .int .i64 x.d.n, .slice x.d.a x.d.l x.d.c], .pointer (some ⟨Bb, 0, none⟩), .pointer (some ⟨Bs, 0, none⟩)] W fun e W' =>
      e = .returned (.bool ((decide (before < x.v) && inB x.v 0 19) && formedB s x.d.tm)) ∧ Turns (fun b => b = Bb) W W' ∧ W'.heap[Bb]? = some (one3 x.v) := by
  obtain ⟨c0, c1⟩ := one3_cell hb
  obtain ⟨⟨s0, s1⟩, -⟩ := c2_cells hsb
  have hne : Bs ≠ Bb := fun e => by subst e; rw [hb] at hsb; cases hsb
  have hlt := (Array.getElem?_eq_some_iff.1 hb).1
  have hlts := (Array.getElem?_eq_some_iff.1 hsb).1
  obtain ⟨w1, hw1⟩ : ∃ w1, w1 = (W.setCell ⟨Bb, 0, none⟩ (.int .i64 x.v)).alloc (.cells #[.int .i64 x.v, .int .i64 x.d.op, .int .i64 x.d.n, .slice x.d.a x.d.l x.d.c] 70) := ⟨_, rfl⟩
  have hT1 : Turns (fun b => b = Bb) W w1 := by rw [hw1]; exact ((Turns.refl (fun b => b = Bb) W).setCell (p := ⟨Bb, 0, none⟩) (fun _ => rfl) _).alloc _
  have hb1 : w1.heap[Bb]? = some (one3 x.v) := by rw [hw1]; exact heap_old ((heap_setCell_same W Bb 0 _ 3 (.int .i64 x.v) hb).trans rfl)
  have hBl : Below n₀ W w1 := hT1.below hn (fun k hk e => by omega)
  have hF := formed_any s x.d n₀ w1 ac lc cc af lf cf hs (by have := hT1.size; omega) (hS.below hBl) (hL.below hBl)
  have hV := fun w => isVar_any x.v w
  have d0 : ∀ o v, ((W.setCell ⟨Bb, 0, none⟩ v).alloc o).cell? ⟨Bs, 0, none⟩ = some (.slice ac lc cc) := fun o v => alloc_cell (by rw [World.cell?_of_block (heap_setCell_other W ⟨Bb, 0, none⟩ Bs v hne)]; exact s0)
  have d1 : ∀ o v, ((W.setCell ⟨Bb, 0, none⟩ v).alloc o).cell? ⟨Bs, 1, none⟩ = some (.slice af lf cf) := fun o v => alloc_cell (by rw [World.cell?_of_block (heap_setCell_other W ⟨Bb, 0, none⟩ Bs v hne)]; exact s1)
  have d2 : ∀ o, (W.alloc o).cell? ⟨Bb, 0, none⟩ = some (.int .i64 before) := fun o => alloc_cell c0
  have d3 : ∀ o, (W.alloc o).frozen? ⟨Bb, 0, none⟩ = false := fun o => (one3_cell (heap_old (o := o) hb)).2
  obtain ⟨i, hi⟩ : ∃ i, i = decide (before < x.v) := ⟨_, rfl⟩
  obtain ⟨v, hv⟩ : ∃ v, v = inB x.v 0 19 := ⟨_, rfl⟩
  obtain ⟨f, hf⟩ : ∃ f, f = formedB s x.d.tm := ⟨_, rfl⟩
  rw [← hv] at hV
  rw [← hf] at hF
  rw [← hi, ← hv, ← hf]
  have q0 : ¬ W.heap.size = Bb := by omega
  replace hv := Lib.hid hv
  replace hf := Lib.hid hf
  rw [hw1] at hF
  replace hF := Lib.hid hF
  replace hV := Lib.hid hV
  replace hw1 := Lib.hid hw1
  replace hT1 := Lib.hid hT1
  replace hb1 := Lib.hid hb1
  clear hS hL hb hsb s0 s1 hBl
  cases i
  · have o1 : ¬ before < x.v := by simpa using hi.symm
    clear hi
    go_enter Tryz.func93, Tryz.ntmps93
    go_wp2_with fail
    go_ret
    rw [← hw1.out]
    exact ⟨rfl, hT1.out, hb1.out⟩
  · have o1 : before < x.v := by simpa using hi.symm
    clear hi
    cases v
    · go_enter Tryz.func93, Tryz.ntmps93
      go_wp2_with fail
      refine (hV.out _).mono ?_
      rintro e w2 ⟨rfl, rfl⟩
      go_wp2_with fail
      go_ret
      rw [← hw1.out]
      exact ⟨rfl, hT1.out, hb1.out⟩
    · go_enter Tryz.func93, Tryz.ntmps93
      go_wp2_with fail
      refine (hV.out _).mono ?_
      rintro e w2 ⟨rfl, rfl⟩
      go_wp2_with fail
      refine (hF.out).mono ?_
      rintro e w2 ⟨rfl, hB2⟩
      rw [← hw1.out] at hB2
      replace hB2 := Lib.hid hB2
      go_wp2_with fail
      go_ret
      have hlt1 := (Array.getElem?_eq_some_iff.1 hb1.out).1
      refine ⟨rfl, hT1.out.then (hB2.out.mono hT1.out.size), (hB2.out.block _ hlt1).trans hb1.out⟩

theorem lfB_cons (s : Sg) (b : Int) (x : Int × Tm) (xs : List (Int × Tm)) : lfB s b (x :: xs) = ((decide (b < x.1) && inB x.1 0 19) && formedB s x.2 && lfB s x.1 xs) := rfl

set_option maxRecDepth 100000 in
set_option maxHeartbeats 1000000 in
/-- 'listFormed'. -/
theorem listFormed_any (s : Sg) (ds : List PB) (n₀ : Nat) (w : World) (ac : Option Addr) (lc cc : Nat) (af : Option Addr) (lf cf : Nat) (a : Option Addr) (l c : Nat) (hs : ∀ x ∈ ds, 1 + x.d.size ≤ 1000000) (hn : n₀ ≤ w.heap.size) (hS : IsSg n₀ w s ac lc cc af lf cf) (hL : LiesB n₀ w ds a l c) :
    Calls Tryz.prog 63 #[.agg #[.slice ac lc cc, .slice af lf cf], .slice a l c] w fun e w' => e = .returned (.bool (lfB s (-1) (pbs ds))) ∧ Below w.heap.size w w' := by
  obtain ⟨rfl, h1, h2, h3⟩ := hL
  obtain ⟨w0, hw0⟩ : ∃ w0, w0 = (w.alloc (bs 24 ac lc cc af lf cf)).alloc (one3 (-1)) := ⟨_, rfl⟩
  have hB0 : Below w.heap.size w w0 := by rw [hw0]; go_grown
  have hz0 : w0.heap.size = w.heap.size + 1 + 1 := by rw [hw0]; simp
  have f1 : w0.heap[w.heap.size]? = some (bs 24 ac lc cc af lf cf) := by rw [hw0]; exact heap_old (heap_new' _ rfl)
  have f2 : w0.heap[w.heap.size + 1]? = some (one3 (-1)) := by rw [hw0]; exact heap_new' _ (by simp)
  have hC : Calls Tryz.prog 92 #[.slice a ds.length c, .func (.func 93) #[] #[.pointer (some ⟨w.heap.size + 1, 0, none⟩), .pointer (some ⟨w.heap.size, 0, none⟩)]] w0 fun e w' => e = .returned (.bool (lfB s (-1) (pbs ds))) ∧ Below w.heap.size w w' := by
    refine (allB_any 93 #[.pointer (some ⟨w.heap.size + 1, 0, none⟩), .pointer (some ⟨w.heap.size, 0, none⟩)] (enters_of Tryz.func93 (by kernel_rfl) rfl) ds a c h1 h2
      (fun k W => Below w.heap.size w W ∧ W.heap[w.heap.size]? = some (bs 24 ac lc cc af lf cf) ∧ w.heap.size + 2 ≤ W.heap.size ∧ ∃ b, W.heap[w.heap.size + 1]? = some (one3 b) ∧ lfB s (-1) (pbs ds) = lfB s b (pbs (ds.drop k)))
      (fun W => Below w.heap.size w W ∧ lfB s (-1) (pbs ds) = false)
      (fun k W o hI => by
        obtain ⟨g1, g2, g3, b, g4, g5⟩ := hI
        exact ⟨g1.alloc g1.size o, heap_old g2, by simp; omega, b, heap_old g4, g5⟩)
      (fun k W h hI => by
        rcases h3 with h3 | ⟨b, off, ha, hb, hk⟩
        · rw [h3] at h; simp at h
        · exact ⟨b, off, ha, (hk k h).1.below (hI.1.mono hn) hb⟩)
      (fun k h W hI => by
        obtain ⟨g1, g2, g3, b, g4, g5⟩ := hI
        have hLk : Lies n₀ W ds[k].d := by
          rcases h3 with h3 | ⟨b, off, ha, hb, hk⟩
          · rw [h3] at h; simp at h
          · exact (hk k h).2.below (g1.mono hn)
        refine (lf1_any s ds[k] n₀ W (w.heap.size + 1) w.heap.size b ac lc cc af lf cf (hs _ (List.getElem_mem h)) (by omega) (by omega) g4 g2 (hS.below (g1.mono hn)) hLk).mono ?_
        rintro e W' ⟨rfl, hT, hb'⟩
        have hB' : Below w.heap.size w W' := g1.trans (hT.below (by omega) (fun j hj e => by omega))
        have hd : pbs (ds.drop k) = (ds[k].v, ds[k].d.tm) :: pbs (ds.drop (k + 1)) := by rw [List.drop_eq_getElem_cons h]; rfl
        rw [hd, lfB_cons] at g5
        cases hr : ((decide (b < ds[k].v) && inB ds[k].v 0 19) && formedB s ds[k].d.tm)
        · refine .inr ⟨rfl, hB', ?_⟩
          rw [g5]; simp only [hr, Bool.false_and]
        · refine .inl ⟨rfl, hB', (hT.block _ (by omega) (by omega)).trans g2, by have := hT.size; omega, ds[k].v, hb', ?_⟩
          rw [g5]; simp only [hr, Bool.true_and])
      w0 ⟨hB0, f1, by omega, -1, f2, by simp⟩).mono ?_
    rintro e W' (⟨rfl, g1, g2, g3, b, g4, g5⟩ | ⟨rfl, g1, g5⟩)
    · rw [List.drop_eq_nil_of_le (Nat.le_refl _)] at g5
      exact ⟨by rw [g5]; rfl, g1⟩
    · exact ⟨by rw [g5], g1⟩
  obtain ⟨r, hr⟩ : ∃ r, r = lfB s (-1) (pbs ds) := ⟨_, rfl⟩
  rw [← hr] at hC ⊢
  rw [hw0] at hC
  replace hC := Lib.hid hC
  have hmf : ∀ (fn : Fn) (first cap : Array Value) (w : World), (Instr.makeFunc fn first cap).run Tryz.prog w = .ok (.func fn first cap) w := fun _ _ _ _ => rfl
  clear hr hS h3 f1 f2 hs
  go_enter Tryz.func63, Tryz.ntmps63
  go_wp2_with fail
  refine (hC.out).mono ?_
  rintro e w1 ⟨rfl, hb⟩
  replace hb := Lib.hid hb
  go_wp2_with fail
  go_ret
  exact ⟨rfl, hb.out⟩

end Go.Proofs.YthlegfegkopdkaaGreat
