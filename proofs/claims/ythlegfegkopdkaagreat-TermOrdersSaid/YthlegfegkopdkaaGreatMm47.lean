/- Own text, joined of: R10 Rv R11. The reference's 'ordered': a variable. · The reference's 'ordered': a variable. · The reference's 'ordered': what stands while the kids of a node are made. -/
import Derived.Test.YthlegfegkopdkaaGreatMm38

namespace Go.Proofs.YthlegfegkopdkaaGreat
open Go.RowKit Go.Shelf Go.Sort

theorem wp_call1 {P : Program} {o : Oper} {a : Act} {w : World} {K : Act → World → Prop} {Q : Exit → Act → World → Prop} {x : Operand} {f : FuncId} {ts : Array TypeId} {u : Value} {d : Tmp}
    (ho : o.op = .call { callee := .value (.func f), args := #[x], argTypes := ts }) (hd : o.dst = some d) (hf : (callFunc f #[u]).run P w = .ok (.enter f #[u]) w) (hx : a.eval x = u)
    (h : Calls P f #[u] w fun e w' => ∃ r, e = .returned r ∧ K { tmps := a.tmps.setIfInBounds d r, defers := a.defers } w') : o.wp P a w K Q := by
  have e : (execOp a.eval o).run P w = .ok (.enter f #[u]) w := by
    unfold execOp
    unfold Act.eval at hx
    simp only [ho, resolve, invoke, Deferred.ofValue, Act.eval, Sem.run_bind, Sem.run_pure, Result.andThen_ok, List.map_toArray, List.map_cons, List.map_nil, hx, Array.append_empty]
    exact hf
  unfold Oper.wp
  rw [e, Oper.upon_enter, hd]
  refine h.mono ?_
  rintro e w' ⟨r, rfl, hk⟩
  exact hk

abbrev scB (vb vf : Value) (k : Int) : Obj := .cells #[vb, vf, .int .i64 k] 96
abbrev zT : Obj := .cells #[.int .i64 0, .int .i64 0, .slice none 0 0] 28
abbrev zS : Obj := .cells #[.slice none 0 0, .slice none 0 0, .int .i64 0] 96
theorem ord_boxes {w w0 : World} {x2 x3 : Obj} (h : w0 = (((w.alloc x2).alloc x3).alloc zT).alloc zS) :
    w0.heap[w.heap.size]? = some x2 ∧ w0.heap[w.heap.size + 1]? = some x3 ∧ w0.heap[w.heap.size + 1 + 1]? = some zT ∧ w0.heap[w.heap.size + 1 + 1 + 1]? = some zS ∧ w0.heap.size = w.heap.size + 4 ∧ Below w.heap.size w w0 := by
  subst h
  refine ⟨heap_old (heap_old (heap_old (heap_new' _ rfl))), heap_old (heap_old (heap_new' _ (by simp))), heap_old (heap_new' _ (by simp)), heap_new' _ (by simp), by simp, by go_grown⟩
theorem PRow.far {x W : World} {b B : Nat} {ty : TypeId} {fr : Nat × Nat} {cs : Array Value} {v : Value} {l : Prs} (h : PRow x b v l) (hB : x.heap[B]? = some (.cells cs ty fr)) (hty : ty ≠ 145) (hW : ∀ k, k ≠ B → W.heap[k]? = x.heap[k]?) : PRow W b v l := by
  refine ⟨h.1, ?_⟩
  rcases h.2 with h2 | ⟨g, cap, cur, h2, h3, h4, h5, h6, h7⟩
  · exact .inl h2
  · refine .inr ⟨g, cap, cur, h2, h3, (hW g (fun e => ?_)).trans h4, h5, h6, h7⟩
    subst e
    rw [h4] at hB
    simp only [Option.some.injEq, Obj.cells.injEq] at hB
    exact hty hB.2.1.symm
theorem PRow.slice {w : World} {b : Nat} {v : Value} {l : Prs} (h : PRow w b v l) : ∃ a k c, v = .slice a k c := by
  obtain ⟨a, c, h1, _⟩ := h.form
  exact ⟨a, _, c, h1⟩
theorem Fresh.leaf (w w' : World) (op n : Int) : Fresh w w' (.mk op n []) none 0 0 := by
  simp only [Fresh, TmP]; exact ⟨rfl, by omega, by omega, .inl trivial⟩

end Go.Proofs.YthlegfegkopdkaaGreat

namespace Go.Proofs.YthlegfegkopdkaaGreat
open Go.RowKit Go.Shelf Go.Sort

set_option maxRecDepth 100000 in
set_option maxHeartbeats 8000000 in
theorem ordered_var (t : Tm) (bound free : Prs) (next : Nat) (w : World) (a : Option Addr) (c : Nat) (vb vf : Value) (_hO : OkV t) (hb : PRow w 0 vb bound) (hf : PRow w 0 vf free) (_hbl : bound.length ≤ next) (hfl : free.length ≤ next) (hnx : next + 1 ≤ 1000000) (h1 : t.op = 1) :
    Calls Tryz.prog 72 #[.agg #[.int .i64 t.op, .int .i64 t.n, .slice a 0 c], .agg #[vb, vf, .int .i64 (next : Nat)]] w (OrdEnd w vb (ordT (lookP bound) ⟨lookP free, next⟩ t).1 (ordT (lookP bound) ⟨lookP free, next⟩ t).2) := by
  obtain ⟨ab, lb, cb, rfl⟩ := hb.slice
  obtain ⟨af, lf, cf, rfl⟩ := hf.slice
  obtain ⟨n, hn⟩ : ∃ n, n = t.n := ⟨_, rfl⟩
  have hT : ordT (lookP bound) ⟨lookP free, next⟩ t = (.mk 1 (numO (lookP bound) ⟨lookP free, next⟩ n).1 [], (numO (lookP bound) ⟨lookP free, next⟩ n).2) := by rw [ordT_eq, if_pos h1, hn]
  rw [hT, h1, ← hn]
  clear hT
  show Calls _ _ _ _ (OrdEnd w (.slice ab lb cb) (.mk 1 (numO (lookP bound) ⟨lookP free, next⟩ n).1 []) (numO (lookP bound) ⟨lookP free, next⟩ n).2)
  obtain ⟨w0, hw0⟩ : ∃ W, W = (((w.alloc (.cells #[.int .i64 1, .int .i64 n, .slice a 0 c] 28)).alloc (scB (.slice ab lb cb) (.slice af lf cf) next)).alloc zT).alloc zS := ⟨_, rfl⟩
  obtain ⟨h2, h3, h4, h5, hz, hB⟩ := ord_boxes hw0
  have hN1 := rnumber_any bound n w0 0 (.slice ab lb cb) (hb.up hB (Nat.le_refl _))
  have hN2 := rnumber_any free n w0 0 (.slice af lf cf) (hf.up hB (Nat.le_refl _))
  rw [hw0] at hN1 hN2
  replace h2 := Lib.hid h2
  replace h3 := Lib.hid h3
  replace h4 := Lib.hid h4
  replace h5 := Lib.hid h5
  replace hz := Lib.hid hz
  replace hB := Lib.hid hB
  replace hb := Lib.hid hb
  replace hf := Lib.hid hf
  replace hw0 := Lib.hid hw0
  replace hn := Lib.hid hn
  clear _hO h1
  cases hlb : lookP bound n with
  | some m =>
    rw [hlb] at hN1
    simp only [Option.getD_some, Option.isSome_some] at hN1
    replace hN1 := Lib.hid hN1
    clear hN2
    have hR : Hid (numO (lookP bound) ⟨lookP free, next⟩ n = (m, ⟨lookP free, next⟩)) := Lib.hid (by unfold numO; rw [hlb])
    rw [hR.out]
    show Calls _ _ _ _ (OrdEnd w (.slice ab lb cb) (.mk 1 m []) ⟨lookP free, next⟩)
    clear hlb
    go_enter Tryz.func72, Tryz.ntmps72
    go_upto_region 2 with fail
    go_upto_region 99 with fail
    refine (hN1.out).mono ?_
    rintro e w' ⟨rfl, rfl⟩
    go_upto_region 9 with fail
    rw [← hw0.out]
    go_upto_region 9 with fail
    refine region_named (S := fun W' => W'.heap[w.heap.size + 1]? = some (.cells #[(.slice ab lb cb), (.slice af lf cf), .int .i64 (next : Nat)] 96 (0, 0))) (by kernel_rfl) (fun x1 hx1 => ?_)
    replace h3 := Lib.hid (show x1.heap[w.heap.size + 1]? = some (.cells #[(.slice ab lb cb), (.slice af lf cf), .int .i64 (next : Nat)] 96 (0, 0)) by rw [hx1]; exact h3.out)
    replace h4 := Lib.hid (show x1.heap[w.heap.size + 1 + 1]? = some (zT) by rw [hx1]; exact h4.out)
    replace h5 := Lib.hid (show x1.heap[w.heap.size + 1 + 1 + 1]? = some (zS) by rw [hx1]; exact h5.out)
    have hq := h3
    replace hB : Hid (Below w.heap.size w x1) := Lib.hid (by rw [hx1]; exact hB.out.drew)
    clear hx1
    refine takeH 0 53 (.int .i64 m) rfl rfl (by kernel_rfl) (by kernel_rfl) (by kernel_rfl) (fun _ _ _ h => h) (by rfl) (by intro W hSw; clear hSw; go_simp) hq.out ?_
    try simp only [List.setIfInBounds_toArray, List.set_cons_zero, List.set_cons_succ]
    refine takeH 2 55 (.agg #[(.slice ab lb cb), (.slice af lf cf), .int .i64 (next : Nat)]) rfl rfl (by kernel_rfl) (by kernel_rfl) (by kernel_rfl) (fun _ _ _ h => h) (by rfl) (by intro W hSw; obtain ⟨⟨j0, j1, j2⟩, -⟩ := c3_cells hSw; clear hSw; go_simp) hq.out ?_
    try simp only [List.setIfInBounds_toArray, List.set_cons_zero, List.set_cons_succ]
    refine wpAnyH_ready (rs := [1]) (by kernel_rfl) (by simp) ?_
    refine AllReadyH.cons rfl (fun K hKc => ?_) AllReadyH.nil
    rw [if_pos (by rfl)]
    refine wp_call1 (f := 82) (d := 54) rfl rfl (enters_of Tryz.func82 (by kernel_rfl) rfl _ _) rfl ((Var_mk m x1).mono ?_)
    rintro e x2 ⟨rfl, hb1⟩
    refine ⟨_, rfl, ?_⟩
    replace h3 := Lib.hid ((hb1.block _ (Array.getElem?_eq_some_iff.1 h3.out).1).trans h3.out)
    replace h4 := Lib.hid ((hb1.block _ (Array.getElem?_eq_some_iff.1 h4.out).1).trans h4.out)
    replace h5 := Lib.hid ((hb1.block _ (Array.getElem?_eq_some_iff.1 h5.out).1).trans h5.out)
    replace hq := h3
    replace hB := Lib.hid (Below.up hB.out hb1)
    clear hb1
    refine hKc _ _ hq.out (fun _ => ?_)
    clear hKc K
    try simp only [List.setIfInBounds_toArray, List.set_cons_zero, List.set_cons_succ]
    refine wpAnyH_ready (rs := [3]) (by kernel_rfl) (by simp) ?_
    refine AllReadyH.cons rfl (fun K hKc => ?_) AllReadyH.nil
    obtain ⟨⟨q0, q1, q2⟩, q3, q4, q5⟩ := c3_cells h4.out
    go_simp
    clear q0 q1 q2 q3 q4 q5
    obtain ⟨x3, hx3⟩ : ∃ Z, Z = (((x2.setCell ⟨w.heap.size + 1 + 1, 0, none⟩ (.int .i64 1)).setCell ⟨w.heap.size + 1 + 1, 1, none⟩ (.int .i64 m)).setCell ⟨w.heap.size + 1 + 1, 2, none⟩ (.slice none 0 0)) := ⟨_, rfl⟩
    rw [← hx3]
    have hs := set3 (.int .i64 1) (.int .i64 m) (.slice none 0 0) h4.out
    have ho := fun k (hk : k ≠ w.heap.size + 1 + 1) => set3_other (w := x2) (B := w.heap.size + 1 + 1) (.int .i64 1) (.int .i64 m) (.slice none 0 0) hk
    have hbs := set3_below (w := x2) (B := w.heap.size + 1 + 1) (n := w.heap.size) (.int .i64 1) (.int .i64 m) (.slice none 0 0) (by omega)
    rw [← hx3] at hs ho hbs
    replace h3 := Lib.hid ((ho _ (by omega)).trans h3.out)
    replace h5 := Lib.hid ((ho _ (by omega)).trans h5.out)
    replace hB := Lib.hid (hB.out.trans hbs)
    replace h4 := Lib.hid hs
    clear hs ho hbs hx3
    replace hq := h3
    refine hKc _ _ hq.out (fun _ => ?_)
    clear hKc K
    try simp only [List.setIfInBounds_toArray, List.set_cons_zero, List.set_cons_succ]
    refine wpAnyH_ready (rs := [4]) (by kernel_rfl) (by simp) ?_
    refine AllReadyH.cons rfl (fun K hKc => ?_) AllReadyH.nil
    obtain ⟨⟨q0, q1, q2⟩, q3, q4, q5⟩ := c3_cells h5.out
    go_simp
    clear q0 q1 q2 q3 q4 q5
    obtain ⟨x4, hx4⟩ : ∃ Z, Z = (((x3.setCell ⟨w.heap.size + 1 + 1 + 1, 0, none⟩ ((.slice ab lb cb))).setCell ⟨w.heap.size + 1 + 1 + 1, 1, none⟩ ((.slice af lf cf))).setCell ⟨w.heap.size + 1 + 1 + 1, 2, none⟩ (.int .i64 (next : Nat))) := ⟨_, rfl⟩
    rw [← hx4]
    have hs := set3 ((.slice ab lb cb)) ((.slice af lf cf)) (.int .i64 (next : Nat)) h5.out
    have ho := fun k (hk : k ≠ w.heap.size + 1 + 1 + 1) => set3_other (w := x3) (B := w.heap.size + 1 + 1 + 1) ((.slice ab lb cb)) ((.slice af lf cf)) (.int .i64 (next : Nat)) hk
    have hbs := set3_below (w := x3) (B := w.heap.size + 1 + 1 + 1) (n := w.heap.size) ((.slice ab lb cb)) ((.slice af lf cf)) (.int .i64 (next : Nat)) (by omega)
    rw [← hx4] at hs ho hbs
    replace h3 := Lib.hid ((ho _ (by omega)).trans h3.out)
    replace h4 := Lib.hid ((ho _ (by omega)).trans h4.out)
    replace hB := Lib.hid (hB.out.trans hbs)
    replace h5 := Lib.hid hs
    clear hs ho hbs hx4
    replace hq := h3
    refine hKc _ _ hq.out (fun _ => ?_)
    clear hKc K
    try simp only [List.setIfInBounds_toArray, List.set_cons_zero, List.set_cons_succ]
    refine wpAnyH_done (by kernel_rfl) ?_ _
    go_wp2_with fail
    obtain ⟨⟨r0, r1, r2⟩, -⟩ := c3_cells h4.out
    obtain ⟨⟨r3, r4, r5⟩, -⟩ := c3_cells h5.out
    refine bodyPost_ret (v := .tuple #[.agg #[.int .i64 1, .int .i64 m, .slice none 0 0], .agg #[(.slice ab lb cb), (.slice af lf cf), .int .i64 (next : Nat)]]) (by simp [results, Tryz.f72, go_sem, r0, r1, r2, r3, r4, r5]) rfl ?_
    exact ⟨none, 0, 0, (.slice af lf cf), free, rfl, Fresh.leaf _ _ _ _, hf.out.up hB.out (Nat.le_refl _), rfl, hfl, hB.out⟩
  | none =>
    rw [hlb] at hN1
    simp only [Option.getD_none, Option.isSome_none] at hN1
    replace hN1 := Lib.hid hN1
    cases hlf : lookP free n with
    | some m =>
      rw [hlf] at hN2
      simp only [Option.getD_some, Option.isSome_some] at hN2
      replace hN2 := Lib.hid hN2
      have hR : Hid (numO (lookP bound) ⟨lookP free, next⟩ n = (m, ⟨lookP free, next⟩)) := Lib.hid (by unfold numO; rw [hlb]; simp only [hlf])
      rw [hR.out]
      show Calls _ _ _ _ (OrdEnd w (.slice ab lb cb) (.mk 1 m []) ⟨lookP free, next⟩)
      clear hlb hlf
      go_enter Tryz.func72, Tryz.ntmps72
      go_upto_region 2 with fail
      go_upto_region 99 with fail
      refine (hN1.out).mono ?_
      rintro e w' ⟨rfl, rfl⟩
      go_upto_region 99 with fail
      refine (hN2.out).mono ?_
      rintro e w' ⟨rfl, rfl⟩
      go_upto_region 9 with fail
      rw [← hw0.out]
      go_upto_region 9 with fail
      refine region_named (S := fun W' => W'.heap[w.heap.size + 1]? = some (.cells #[(.slice ab lb cb), (.slice af lf cf), .int .i64 (next : Nat)] 96 (0, 0))) (by kernel_rfl) (fun x5 hx5 => ?_)
      replace h3 := Lib.hid (show x5.heap[w.heap.size + 1]? = some (.cells #[(.slice ab lb cb), (.slice af lf cf), .int .i64 (next : Nat)] 96 (0, 0)) by rw [hx5]; exact h3.out)
      replace h4 := Lib.hid (show x5.heap[w.heap.size + 1 + 1]? = some (zT) by rw [hx5]; exact h4.out)
      replace h5 := Lib.hid (show x5.heap[w.heap.size + 1 + 1 + 1]? = some (zS) by rw [hx5]; exact h5.out)
      have hq := h3
      replace hB : Hid (Below w.heap.size w x5) := Lib.hid (by rw [hx5]; exact hB.out.drew)
      clear hx5
      refine takeH 0 53 (.int .i64 m) rfl rfl (by kernel_rfl) (by kernel_rfl) (by kernel_rfl) (fun _ _ _ h => h) (by rfl) (by intro W hSw; clear hSw; go_simp) hq.out ?_
      try simp only [List.setIfInBounds_toArray, List.set_cons_zero, List.set_cons_succ]
      refine takeH 2 55 (.agg #[(.slice ab lb cb), (.slice af lf cf), .int .i64 (next : Nat)]) rfl rfl (by kernel_rfl) (by kernel_rfl) (by kernel_rfl) (fun _ _ _ h => h) (by rfl) (by intro W hSw; obtain ⟨⟨j0, j1, j2⟩, -⟩ := c3_cells hSw; clear hSw; go_simp) hq.out ?_
      try simp only [List.setIfInBounds_toArray, List.set_cons_zero, List.set_cons_succ]
      refine wpAnyH_ready (rs := [1]) (by kernel_rfl) (by simp) ?_
      refine AllReadyH.cons rfl (fun K hKc => ?_) AllReadyH.nil
      rw [if_pos (by rfl)]
      refine wp_call1 (f := 82) (d := 54) rfl rfl (enters_of Tryz.func82 (by kernel_rfl) rfl _ _) rfl ((Var_mk m x5).mono ?_)
      rintro e x6 ⟨rfl, hb1⟩
      refine ⟨_, rfl, ?_⟩
      replace h3 := Lib.hid ((hb1.block _ (Array.getElem?_eq_some_iff.1 h3.out).1).trans h3.out)
      replace h4 := Lib.hid ((hb1.block _ (Array.getElem?_eq_some_iff.1 h4.out).1).trans h4.out)
      replace h5 := Lib.hid ((hb1.block _ (Array.getElem?_eq_some_iff.1 h5.out).1).trans h5.out)
      replace hq := h3
      replace hB := Lib.hid (Below.up hB.out hb1)
      clear hb1
      refine hKc _ _ hq.out (fun _ => ?_)
      clear hKc K
      try simp only [List.setIfInBounds_toArray, List.set_cons_zero, List.set_cons_succ]
      refine wpAnyH_ready (rs := [3]) (by kernel_rfl) (by simp) ?_
      refine AllReadyH.cons rfl (fun K hKc => ?_) AllReadyH.nil
      obtain ⟨⟨q0, q1, q2⟩, q3, q4, q5⟩ := c3_cells h4.out
      go_simp
      clear q0 q1 q2 q3 q4 q5
      obtain ⟨x7, hx7⟩ : ∃ Z, Z = (((x6.setCell ⟨w.heap.size + 1 + 1, 0, none⟩ (.int .i64 1)).setCell ⟨w.heap.size + 1 + 1, 1, none⟩ (.int .i64 m)).setCell ⟨w.heap.size + 1 + 1, 2, none⟩ (.slice none 0 0)) := ⟨_, rfl⟩
      rw [← hx7]
      have hs := set3 (.int .i64 1) (.int .i64 m) (.slice none 0 0) h4.out
      have ho := fun k (hk : k ≠ w.heap.size + 1 + 1) => set3_other (w := x6) (B := w.heap.size + 1 + 1) (.int .i64 1) (.int .i64 m) (.slice none 0 0) hk
      have hbs := set3_below (w := x6) (B := w.heap.size + 1 + 1) (n := w.heap.size) (.int .i64 1) (.int .i64 m) (.slice none 0 0) (by omega)
      rw [← hx7] at hs ho hbs
      replace h3 := Lib.hid ((ho _ (by omega)).trans h3.out)
      replace h5 := Lib.hid ((ho _ (by omega)).trans h5.out)
      replace hB := Lib.hid (hB.out.trans hbs)
      replace h4 := Lib.hid hs
      clear hs ho hbs hx7
      replace hq := h3
      refine hKc _ _ hq.out (fun _ => ?_)
      clear hKc K
      try simp only [List.setIfInBounds_toArray, List.set_cons_zero, List.set_cons_succ]
      refine wpAnyH_ready (rs := [4]) (by kernel_rfl) (by simp) ?_
      refine AllReadyH.cons rfl (fun K hKc => ?_) AllReadyH.nil
      obtain ⟨⟨q0, q1, q2⟩, q3, q4, q5⟩ := c3_cells h5.out
      go_simp
      clear q0 q1 q2 q3 q4 q5
      obtain ⟨x8, hx8⟩ : ∃ Z, Z = (((x7.setCell ⟨w.heap.size + 1 + 1 + 1, 0, none⟩ ((.slice ab lb cb))).setCell ⟨w.heap.size + 1 + 1 + 1, 1, none⟩ ((.slice af lf cf))).setCell ⟨w.heap.size + 1 + 1 + 1, 2, none⟩ (.int .i64 (next : Nat))) := ⟨_, rfl⟩
      rw [← hx8]
      have hs := set3 ((.slice ab lb cb)) ((.slice af lf cf)) (.int .i64 (next : Nat)) h5.out
      have ho := fun k (hk : k ≠ w.heap.size + 1 + 1 + 1) => set3_other (w := x7) (B := w.heap.size + 1 + 1 + 1) ((.slice ab lb cb)) ((.slice af lf cf)) (.int .i64 (next : Nat)) hk
      have hbs := set3_below (w := x7) (B := w.heap.size + 1 + 1 + 1) (n := w.heap.size) ((.slice ab lb cb)) ((.slice af lf cf)) (.int .i64 (next : Nat)) (by omega)
      rw [← hx8] at hs ho hbs
      replace h3 := Lib.hid ((ho _ (by omega)).trans h3.out)
      replace h4 := Lib.hid ((ho _ (by omega)).trans h4.out)
      replace hB := Lib.hid (hB.out.trans hbs)
      replace h5 := Lib.hid hs
      clear hs ho hbs hx8
      replace hq := h3
      refine hKc _ _ hq.out (fun _ => ?_)
      clear hKc K
      try simp only [List.setIfInBounds_toArray, List.set_cons_zero, List.set_cons_succ]
      refine wpAnyH_done (by kernel_rfl) ?_ _
      go_wp2_with fail
      obtain ⟨⟨r0, r1, r2⟩, -⟩ := c3_cells h4.out
      obtain ⟨⟨r3, r4, r5⟩, -⟩ := c3_cells h5.out
      refine bodyPost_ret (v := .tuple #[.agg #[.int .i64 1, .int .i64 m, .slice none 0 0], .agg #[(.slice ab lb cb), (.slice af lf cf), .int .i64 (next : Nat)]]) (by simp [results, Tryz.f72, go_sem, r0, r1, r2, r3, r4, r5]) rfl ?_
      exact ⟨none, 0, 0, (.slice af lf cf), free, rfl, Fresh.leaf _ _ _ _, hf.out.up hB.out (Nat.le_refl _), rfl, hfl, hB.out⟩
    | none =>
      rw [hlf] at hN2
      simp only [Option.getD_none, Option.isSome_none] at hN2
      replace hN2 := Lib.hid hN2
      have hR : Hid (numO (lookP bound) ⟨lookP free, next⟩ n = ((next : Int), (⟨updI (lookP free) n next, next + 1⟩ : OS))) := Lib.hid (by unfold numO; rw [hlb]; simp only [hlf])
      rw [hR.out]
      show Calls _ _ _ _ (OrdEnd w (.slice ab lb cb) (.mk 1 (next : Int) []) ⟨updI (lookP free) n next, next + 1⟩)
      clear hlb hlf
      obtain ⟨i0, hi, hz0, hz1, hz2⟩ := info_parts inf145
      go_enter Tryz.func72, Tryz.ntmps72
      go_upto_region 2 with fail
      go_upto_region 99 with fail
      refine (hN1.out).mono ?_
      rintro e w' ⟨rfl, rfl⟩
      go_upto_region 99 with fail
      refine (hN2.out).mono ?_
      rintro e w' ⟨rfl, rfl⟩
      go_upto_region 7 with fail
      rw [← hw0.out]
      refine region_named (S := fun W' => Below (w.heap.size + 1) w0 W') (by kernel_rfl) (fun x hx => ?_)
      have hk : Hid (Below (w.heap.size + 4) w0 x) := Lib.hid (by rw [hx]; exact (Below.refl _ _).drew)
      have hq : Hid (Below (w.heap.size + 1) w0 x) := Lib.hid (hk.out.mono (by omega))
      have hzx : w.heap.size + 4 ≤ x.heap.size := by rw [hx]; show _ ≤ w0.heap.size; rw [hz.out]; exact Nat.le_refl _
      clear hx
      refine takeH 0 39 (.pointer (some ⟨w.heap.size + 1, 1, none⟩)) rfl rfl (by kernel_rfl) (by kernel_rfl) (by kernel_rfl) (fun _ _ _ h => h) (by rfl) (by intro W hSw; clear hSw; go_simp) hq.out ?_
      try simp only [List.setIfInBounds_toArray, List.set_cons_zero, List.set_cons_succ]
      refine takeH 3 42 (.pointer (some ⟨w.heap.size, 1, none⟩)) rfl rfl (by kernel_rfl) (by kernel_rfl) (by kernel_rfl) (fun _ _ _ h => h) (by rfl) (by intro W hSw; clear hSw; go_simp) hq.out ?_
      try simp only [List.setIfInBounds_toArray, List.set_cons_zero, List.set_cons_succ]
      refine takeH 4 43 (.int .i64 n) rfl rfl (by kernel_rfl) (by kernel_rfl) (by kernel_rfl) (fun _ _ _ h => h) (by rfl) (by intro W hSw; obtain ⟨⟨j0, j1, j2⟩, -⟩ := c3_cells ((hSw.block w.heap.size (by omega)).trans h2.out); clear hSw; go_simp) hq.out ?_
      try simp only [List.setIfInBounds_toArray, List.set_cons_zero, List.set_cons_succ]
      refine takeH 5 44 (.int .i64 (next : Nat)) rfl rfl (by kernel_rfl) (by kernel_rfl) (by kernel_rfl) (fun _ _ _ h => h) (by rfl) (by intro W hSw; clear hSw; go_simp) hq.out ?_
      try simp only [List.setIfInBounds_toArray, List.set_cons_zero, List.set_cons_succ]
      refine takeH 6 45 (.agg #[.int .i64 n, .int .i64 (next : Nat)]) rfl rfl (by kernel_rfl) (by kernel_rfl) (by kernel_rfl) (fun _ _ _ h => h) (by rfl) (by intro W hSw; clear hSw; go_simp) hq.out ?_
      try simp only [List.setIfInBounds_toArray, List.set_cons_zero, List.set_cons_succ]
      refine wpAnyH_ready (rs := [1, 7]) (by kernel_rfl) (by simp) ?_
      refine AllReadyH.cons rfl (fun K hKc => ?_) (AllReadyH.cons rfl (fun K hKc => ?_) AllReadyH.nil)
      · obtain ⟨⟨q0, q1, q2⟩, -⟩ := c3_cells ((hk.out.block (w.heap.size + 1) (by omega)).trans h3.out)
        go_simp
        clear q0 q1 q2
        refine hKc _ _ hq.out (fun _ => ?_)
        clear hKc K
        try simp only [List.setIfInBounds_toArray, List.set_cons_zero, List.set_cons_succ]
        refine wpAnyH_ready (rs := [2, 7]) (by kernel_rfl) (by simp) ?_
        refine AllReadyH.cons rfl (fun K hKc => ?_) (AllReadyH.cons rfl (fun K hKc => ?_) AllReadyH.nil)
        · rw [if_pos (by rfl)]
          obtain ⟨v1, x1, hr3, ho1, hg1⟩ := appP_run (x) 0 (.slice af lf cf) free (by omega) (hf.out.up (Below.trans hB.out (hk.out.mono (by omega))) (Nat.le_refl _))
          refine wp_builtin_append rfl rfl rfl hr3 ?_
          replace hk := Lib.hid (hk.out.grown hg1 (by first | omega | (simp; omega)) (fun q hq => by cases hq))
          replace hq := Lib.hid (show Below (w.heap.size + 1) w0 _ from hk.out.mono (by omega))
          have hz1' : (x).heap.size ≤ x1.heap.size := hg1.size
          clear hr3
          refine hKc _ _ hq.out (fun _ => ?_)
          clear hKc K
          try simp only [List.setIfInBounds_toArray, List.set_cons_zero, List.set_cons_succ]
          refine wpAnyH_ready (rs := [7]) (by kernel_rfl) (by simp) ?_
          refine AllReadyH.cons rfl (fun K hKc => ?_) AllReadyH.nil
          go_simp
          replace hk := Lib.hid (hk.out.alloc (by omega) (.cells #[.int .i64 n, .int .i64 (next : Nat)] 145))
          replace hq := Lib.hid (show Below (w.heap.size + 1) w0 _ from hk.out.mono (by omega))
          refine hKc _ _ hq.out (fun _ => ?_)
          clear hKc K
          try simp only [List.setIfInBounds_toArray, List.set_cons_zero, List.set_cons_succ]
          refine wpAnyH_ready (rs := [8]) (by kernel_rfl) (by simp) ?_
          refine AllReadyH.cons rfl (fun K hKc => ?_) AllReadyH.nil
          rw [if_pos (by rfl)]
          refine wp_append_own _ _ _ 94 rfl (x.heap.size) 145 i0 (.agg #[.int .i64 0, .int .i64 0]) 2 16 und94 hi hz0 hz1 hz2 rfl (by decide) v1 free.length (pairVals free) rfl (ho1.alloc _) ⟨x1.heap.size, 0, none⟩ 1 1 [.int .i64 n, .int .i64 (next : Nat)] rfl rfl (cell_two_new x1 _ _ 145) (fun x hx => by simp at hx; rcases hx with rfl | rfl <;> rfl) (by unfold maxLen; omega) (by omega) (by first | omega | (simp; omega)) ?_
          intro v2 x2 ho2 hg2 _
          replace hk := Lib.hid (hk.out.grown hg2 (by first | omega | (simp; omega)) (fun q hq => by have := (ho1.lt q hq).1; first | omega | (simp at this; omega)))
          replace hq := Lib.hid (show Below (w.heap.size + 1) w0 _ from hk.out.mono (by omega))
          have hrow : Hid (PRow x2 0 v2 (free ++ [(n, (next : Int))])) := Lib.hid (snoc_row ho2 (Nat.zero_le _))
          obtain ⟨a3, l3, c3, rfl⟩ := hrow.out.slice
          clear hg2 ho2 hg1 ho1
          refine hKc _ _ hq.out (fun _ => ?_)
          clear hKc K
          try simp only [List.setIfInBounds_toArray, List.set_cons_zero, List.set_cons_succ]
          refine takeH 9 48 (.pointer (some ⟨w.heap.size + 1, 1, none⟩)) rfl rfl (by kernel_rfl) (by kernel_rfl) (by kernel_rfl) (fun _ _ _ h => h) (by rfl) (by intro W hSw; clear hSw; go_simp) hq.out ?_
          try simp only [List.setIfInBounds_toArray, List.set_cons_zero, List.set_cons_succ]
          refine wpAnyH_ready (rs := [10]) (by kernel_rfl) (by simp) ?_
          refine AllReadyH.cons rfl (fun K hKc => ?_) AllReadyH.nil
          have g3 : Hid (x2.heap[w.heap.size + 1]? = some (scB (.slice ab lb cb) (.slice af lf cf) next)) := Lib.hid ((hk.out.block (w.heap.size + 1) (by omega)).trans h3.out)
          obtain ⟨⟨q0, q1, q2⟩, q3, q4, q5⟩ := c3_cells g3.out
          go_simp
          clear q0 q1 q2 q3 q4 q5
          obtain ⟨x3, hx3⟩ : ∃ X, X = x2.setCell ⟨w.heap.size + 1, 1, none⟩ (.slice a3 l3 c3) := ⟨_, rfl⟩
          rw [← hx3]
          replace hq := Lib.hid (show Below (w.heap.size + 1) w0 x3 by rw [hx3]; exact hq.out.setCell (p := ⟨w.heap.size + 1, 1, none⟩) (Nat.le_refl _) (.slice a3 l3 c3))
          replace h3 := Lib.hid (show x3.heap[w.heap.size + 1]? = some (scB (.slice ab lb cb) (.slice a3 l3 c3) next) by rw [hx3, heap_setCell_same x2 (w.heap.size + 1) 1 _ 96 (.slice a3 l3 c3) g3.out]; rfl)
          replace h4 := Lib.hid (show x3.heap[w.heap.size + 1 + 1]? = some zT by rw [hx3, heap_setCell_other _ _ _ _ (by first | (simp; done) | (simp; omega))]; exact (hk.out.block (w.heap.size + 1 + 1) (by omega)).trans h4.out)
          replace h5 := Lib.hid (show x3.heap[w.heap.size + 1 + 1 + 1]? = some zS by rw [hx3, heap_setCell_other _ _ _ _ (by first | (simp; done) | (simp; omega))]; exact (hk.out.block (w.heap.size + 1 + 1 + 1) (by omega)).trans h5.out)
          replace hB := Lib.hid (show Below w.heap.size w x3 by rw [hx3]; exact (hB.out.trans (hk.out.mono (by omega))).setCell (p := ⟨w.heap.size + 1, 1, none⟩) (by simp) (.slice a3 l3 c3))
          replace hrow : Hid (PRow x3 0 (.slice a3 l3 c3) (free ++ [(n, (next : Int))])) := Lib.hid (by rw [hx3]; exact hrow.out.far g3.out (by decide) (fun k hk => heap_setCell_other _ _ _ _ hk))
          clear hk g3 hx3
          refine hKc _ _ hq.out (fun _ => ?_)
          clear hKc K
          try simp only [List.setIfInBounds_toArray, List.set_cons_zero, List.set_cons_succ]
          refine wpAnyH_done (by kernel_rfl) ?_ _
          obtain ⟨⟨q0, q1, q2⟩, q3, q4, q5⟩ := c3_cells h3.out
          go_upto_region 9 with fail
          clear q0 q1 q2 q3 q4 q5
          obtain ⟨x4, hx4⟩ : ∃ X, X = x3.setCell ⟨w.heap.size + 1, 2, none⟩ (.int .i64 ((next : Int) + 1)) := ⟨_, rfl⟩
          rw [← hx4]
          have h3' := h3
          replace h4 := Lib.hid (show x4.heap[w.heap.size + 1 + 1]? = some zT by rw [hx4, heap_setCell_other _ _ _ _ (by first | (simp; done) | (simp; omega))]; exact h4.out)
          replace h5 := Lib.hid (show x4.heap[w.heap.size + 1 + 1 + 1]? = some zS by rw [hx4, heap_setCell_other _ _ _ _ (by first | (simp; done) | (simp; omega))]; exact h5.out)
          replace hB := Lib.hid (show Below w.heap.size w x4 by rw [hx4]; exact hB.out.setCell (p := ⟨w.heap.size + 1, 2, none⟩) (by simp) _)
          replace hrow : Hid (PRow x4 0 (.slice a3 l3 c3) (free ++ [(n, (next : Int))])) := Lib.hid (by rw [hx4]; exact hrow.out.far h3'.out (by decide) (fun k hk => heap_setCell_other _ _ _ _ hk))
          replace h3 := Lib.hid (show x4.heap[w.heap.size + 1]? = some (scB (.slice ab lb cb) (.slice a3 l3 c3) ((next : Int) + 1)) by rw [hx4, heap_setCell_same x3 (w.heap.size + 1) 2 _ 96 _ h3'.out]; rfl)
          clear h3' hx4
          go_upto_region 9 with fail
          refine region_named (S := fun W' => W'.heap[w.heap.size + 1]? = some (.cells #[(.slice ab lb cb), (.slice a3 l3 c3), .int .i64 ((next : Int) + 1)] 96 (0, 0))) (by kernel_rfl) (fun x9 hx9 => ?_)
          replace h3 := Lib.hid (show x9.heap[w.heap.size + 1]? = some (.cells #[(.slice ab lb cb), (.slice a3 l3 c3), .int .i64 ((next : Int) + 1)] 96 (0, 0)) by rw [hx9]; exact h3.out)
          replace h4 := Lib.hid (show x9.heap[w.heap.size + 1 + 1]? = some (zT) by rw [hx9]; exact h4.out)
          replace h5 := Lib.hid (show x9.heap[w.heap.size + 1 + 1 + 1]? = some (zS) by rw [hx9]; exact h5.out)
          have hq := h3
          replace hB : Hid (Below w.heap.size w x9) := Lib.hid (by rw [hx9]; exact hB.out.drew)
          replace hrow := Lib.hid (show PRow x9 0 (.slice a3 l3 c3) _ by rw [hx9]; exact hrow.out.up ((Below.refl _ _).drew) (Nat.le_refl _))
          clear hx9
          refine takeH 0 53 (.int .i64 (next : Nat)) rfl rfl (by kernel_rfl) (by kernel_rfl) (by kernel_rfl) (fun _ _ _ h => h) (by rfl) (by intro W hSw; clear hSw; go_simp) hq.out ?_
          try simp only [List.setIfInBounds_toArray, List.set_cons_zero, List.set_cons_succ]
          refine takeH 2 55 (.agg #[(.slice ab lb cb), (.slice a3 l3 c3), .int .i64 ((next : Int) + 1)]) rfl rfl (by kernel_rfl) (by kernel_rfl) (by kernel_rfl) (fun _ _ _ h => h) (by rfl) (by intro W hSw; obtain ⟨⟨j0, j1, j2⟩, -⟩ := c3_cells hSw; clear hSw; go_simp) hq.out ?_
          try simp only [List.setIfInBounds_toArray, List.set_cons_zero, List.set_cons_succ]
          refine wpAnyH_ready (rs := [1]) (by kernel_rfl) (by simp) ?_
          refine AllReadyH.cons rfl (fun K hKc => ?_) AllReadyH.nil
          rw [if_pos (by rfl)]
          refine wp_call1 (f := 82) (d := 54) rfl rfl (enters_of Tryz.func82 (by kernel_rfl) rfl _ _) rfl ((Var_mk (next : Nat) x9).mono ?_)
          rintro e x10 ⟨rfl, hb1⟩
          refine ⟨_, rfl, ?_⟩
          replace h3 := Lib.hid ((hb1.block _ (Array.getElem?_eq_some_iff.1 h3.out).1).trans h3.out)
          replace h4 := Lib.hid ((hb1.block _ (Array.getElem?_eq_some_iff.1 h4.out).1).trans h4.out)
          replace h5 := Lib.hid ((hb1.block _ (Array.getElem?_eq_some_iff.1 h5.out).1).trans h5.out)
          replace hrow := Lib.hid (hrow.out.up hb1 (Nat.le_refl _))
          replace hq := h3
          replace hB := Lib.hid (Below.up hB.out hb1)
          clear hb1
          refine hKc _ _ hq.out (fun _ => ?_)
          clear hKc K
          try simp only [List.setIfInBounds_toArray, List.set_cons_zero, List.set_cons_succ]
          refine wpAnyH_ready (rs := [3]) (by kernel_rfl) (by simp) ?_
          refine AllReadyH.cons rfl (fun K hKc => ?_) AllReadyH.nil
          obtain ⟨⟨q0, q1, q2⟩, q3, q4, q5⟩ := c3_cells h4.out
          go_simp
          clear q0 q1 q2 q3 q4 q5
          obtain ⟨x11, hx11⟩ : ∃ Z, Z = (((x10.setCell ⟨w.heap.size + 1 + 1, 0, none⟩ (.int .i64 1)).setCell ⟨w.heap.size + 1 + 1, 1, none⟩ (.int .i64 (next : Nat))).setCell ⟨w.heap.size + 1 + 1, 2, none⟩ (.slice none 0 0)) := ⟨_, rfl⟩
          rw [← hx11]
          have hs := set3 (.int .i64 1) (.int .i64 (next : Nat)) (.slice none 0 0) h4.out
          have ho := fun k (hk : k ≠ w.heap.size + 1 + 1) => set3_other (w := x10) (B := w.heap.size + 1 + 1) (.int .i64 1) (.int .i64 (next : Nat)) (.slice none 0 0) hk
          have hbs := set3_below (w := x10) (B := w.heap.size + 1 + 1) (n := w.heap.size) (.int .i64 1) (.int .i64 (next : Nat)) (.slice none 0 0) (by omega)
          rw [← hx11] at hs ho hbs
          replace h3 := Lib.hid ((ho _ (by omega)).trans h3.out)
          replace h5 := Lib.hid ((ho _ (by omega)).trans h5.out)
          replace hB := Lib.hid (hB.out.trans hbs)
          replace hrow := Lib.hid (hrow.out.far h4.out (by decide) ho)
          replace h4 := Lib.hid hs
          clear hs ho hbs hx11
          replace hq := h3
          refine hKc _ _ hq.out (fun _ => ?_)
          clear hKc K
          try simp only [List.setIfInBounds_toArray, List.set_cons_zero, List.set_cons_succ]
          refine wpAnyH_ready (rs := [4]) (by kernel_rfl) (by simp) ?_
          refine AllReadyH.cons rfl (fun K hKc => ?_) AllReadyH.nil
          obtain ⟨⟨q0, q1, q2⟩, q3, q4, q5⟩ := c3_cells h5.out
          go_simp
          clear q0 q1 q2 q3 q4 q5
          obtain ⟨x12, hx12⟩ : ∃ Z, Z = (((x11.setCell ⟨w.heap.size + 1 + 1 + 1, 0, none⟩ ((.slice ab lb cb))).setCell ⟨w.heap.size + 1 + 1 + 1, 1, none⟩ ((.slice a3 l3 c3))).setCell ⟨w.heap.size + 1 + 1 + 1, 2, none⟩ (.int .i64 ((next : Int) + 1))) := ⟨_, rfl⟩
          rw [← hx12]
          have hs := set3 ((.slice ab lb cb)) ((.slice a3 l3 c3)) (.int .i64 ((next : Int) + 1)) h5.out
          have ho := fun k (hk : k ≠ w.heap.size + 1 + 1 + 1) => set3_other (w := x11) (B := w.heap.size + 1 + 1 + 1) ((.slice ab lb cb)) ((.slice a3 l3 c3)) (.int .i64 ((next : Int) + 1)) hk
          have hbs := set3_below (w := x11) (B := w.heap.size + 1 + 1 + 1) (n := w.heap.size) ((.slice ab lb cb)) ((.slice a3 l3 c3)) (.int .i64 ((next : Int) + 1)) (by omega)
          rw [← hx12] at hs ho hbs
          replace h3 := Lib.hid ((ho _ (by omega)).trans h3.out)
          replace h4 := Lib.hid ((ho _ (by omega)).trans h4.out)
          replace hB := Lib.hid (hB.out.trans hbs)
          replace hrow := Lib.hid (hrow.out.far h5.out (by decide) ho)
          replace h5 := Lib.hid hs
          clear hs ho hbs hx12
          replace hq := h3
          refine hKc _ _ hq.out (fun _ => ?_)
          clear hKc K
          try simp only [List.setIfInBounds_toArray, List.set_cons_zero, List.set_cons_succ]
          refine wpAnyH_done (by kernel_rfl) ?_ _
          go_wp2_with fail
          obtain ⟨⟨r0, r1, r2⟩, -⟩ := c3_cells h4.out
          obtain ⟨⟨r3, r4, r5⟩, -⟩ := c3_cells h5.out
          refine bodyPost_ret (v := .tuple #[.agg #[.int .i64 1, .int .i64 (next : Nat), .slice none 0 0], .agg #[(.slice ab lb cb), (.slice a3 l3 c3), .int .i64 ((next : Int) + 1)]]) (by simp [results, Tryz.f72, go_sem, r0, r1, r2, r3, r4, r5]) rfl ?_
          exact ⟨none, 0, 0, (.slice a3 l3 c3), free ++ [(n, (next : Int))], by simp [Tm.op, Tm.n], Fresh.leaf _ _ _ _, hrow.out, by rw [lookP_snoc], by simp; omega, hB.out⟩
        · go_simp
          replace hk := Lib.hid (hk.out.alloc (by omega) (.cells #[.int .i64 n, .int .i64 (next : Nat)] 145))
          replace hq := Lib.hid (show Below (w.heap.size + 1) w0 _ from hk.out.mono (by omega))
          refine hKc _ _ hq.out (fun _ => ?_)
          clear hKc K
          try simp only [List.setIfInBounds_toArray, List.set_cons_zero, List.set_cons_succ]
          refine wpAnyH_ready (rs := [2]) (by kernel_rfl) (by simp) ?_
          refine AllReadyH.cons rfl (fun K hKc => ?_) AllReadyH.nil
          rw [if_pos (by rfl)]
          obtain ⟨v1, x1, hr3, ho1, hg1⟩ := appP_run (x.alloc (.cells #[.int .i64 n, .int .i64 (next : Nat)] 145)) 0 (.slice af lf cf) free (by omega) (hf.out.up (Below.trans hB.out (hk.out.mono (by omega))) (Nat.le_refl _))
          refine wp_builtin_append rfl rfl rfl hr3 ?_
          replace hk := Lib.hid (hk.out.grown hg1 (by first | omega | (simp; omega)) (fun q hq => by cases hq))
          replace hq := Lib.hid (show Below (w.heap.size + 1) w0 _ from hk.out.mono (by omega))
          have hz1' : (x.alloc (.cells #[.int .i64 n, .int .i64 (next : Nat)] 145)).heap.size ≤ x1.heap.size := hg1.size
          clear hr3
          refine hKc _ _ hq.out (fun _ => ?_)
          clear hKc K
          try simp only [List.setIfInBounds_toArray, List.set_cons_zero, List.set_cons_succ]
          have ho1' : x1.ownsRow (x.heap.size + 1) 145 2 v1 free.length (pairVals free) := by have := ho1; simp only [World.size_alloc] at this; exact this
          have hz1'' : x.heap.size + 1 ≤ x1.heap.size := by simpa using hz1'
          clear ho1
          have ho1 := ho1'
          clear ho1'
          refine wpAnyH_ready (rs := [8]) (by kernel_rfl) (by simp) ?_
          refine AllReadyH.cons rfl (fun K hKc => ?_) AllReadyH.nil
          rw [if_pos (by rfl)]
          refine wp_append_own _ _ _ 94 rfl (x.heap.size + 1) 145 i0 (.agg #[.int .i64 0, .int .i64 0]) 2 16 und94 hi hz0 hz1 hz2 rfl (by decide) v1 free.length (pairVals free) rfl ho1 ⟨x.heap.size, 0, none⟩ 1 1 [.int .i64 n, .int .i64 (next : Nat)] rfl rfl (fun j u hj => hg1.cell (cell_two_new x _ _ 145 j u hj) (fun h => by cases h)) (fun x hx => by simp at hx; rcases hx with rfl | rfl <;> rfl) (by unfold maxLen; omega) (by omega) (by first | omega | (simp; omega)) ?_
          intro v2 x2 ho2 hg2 _
          replace hk := Lib.hid (hk.out.grown hg2 (by first | omega | (simp; omega)) (fun q hq => by have := (ho1.lt q hq).1; first | omega | (simp at this; omega)))
          replace hq := Lib.hid (show Below (w.heap.size + 1) w0 _ from hk.out.mono (by omega))
          have hrow : Hid (PRow x2 0 v2 (free ++ [(n, (next : Int))])) := Lib.hid (snoc_row ho2 (Nat.zero_le _))
          obtain ⟨a3, l3, c3, rfl⟩ := hrow.out.slice
          clear hg2 ho2 hg1 ho1
          refine hKc _ _ hq.out (fun _ => ?_)
          clear hKc K
          try simp only [List.setIfInBounds_toArray, List.set_cons_zero, List.set_cons_succ]
          refine takeH 9 48 (.pointer (some ⟨w.heap.size + 1, 1, none⟩)) rfl rfl (by kernel_rfl) (by kernel_rfl) (by kernel_rfl) (fun _ _ _ h => h) (by rfl) (by intro W hSw; clear hSw; go_simp) hq.out ?_
          try simp only [List.setIfInBounds_toArray, List.set_cons_zero, List.set_cons_succ]
          refine wpAnyH_ready (rs := [10]) (by kernel_rfl) (by simp) ?_
          refine AllReadyH.cons rfl (fun K hKc => ?_) AllReadyH.nil
          have g3 : Hid (x2.heap[w.heap.size + 1]? = some (scB (.slice ab lb cb) (.slice af lf cf) next)) := Lib.hid ((hk.out.block (w.heap.size + 1) (by omega)).trans h3.out)
          obtain ⟨⟨q0, q1, q2⟩, q3, q4, q5⟩ := c3_cells g3.out
          go_simp
          clear q0 q1 q2 q3 q4 q5
          obtain ⟨x3, hx3⟩ : ∃ X, X = x2.setCell ⟨w.heap.size + 1, 1, none⟩ (.slice a3 l3 c3) := ⟨_, rfl⟩
          rw [← hx3]
          replace hq := Lib.hid (show Below (w.heap.size + 1) w0 x3 by rw [hx3]; exact hq.out.setCell (p := ⟨w.heap.size + 1, 1, none⟩) (Nat.le_refl _) (.slice a3 l3 c3))
          replace h3 := Lib.hid (show x3.heap[w.heap.size + 1]? = some (scB (.slice ab lb cb) (.slice a3 l3 c3) next) by rw [hx3, heap_setCell_same x2 (w.heap.size + 1) 1 _ 96 (.slice a3 l3 c3) g3.out]; rfl)
          replace h4 := Lib.hid (show x3.heap[w.heap.size + 1 + 1]? = some zT by rw [hx3, heap_setCell_other _ _ _ _ (by first | (simp; done) | (simp; omega))]; exact (hk.out.block (w.heap.size + 1 + 1) (by omega)).trans h4.out)
          replace h5 := Lib.hid (show x3.heap[w.heap.size + 1 + 1 + 1]? = some zS by rw [hx3, heap_setCell_other _ _ _ _ (by first | (simp; done) | (simp; omega))]; exact (hk.out.block (w.heap.size + 1 + 1 + 1) (by omega)).trans h5.out)
          replace hB := Lib.hid (show Below w.heap.size w x3 by rw [hx3]; exact (hB.out.trans (hk.out.mono (by omega))).setCell (p := ⟨w.heap.size + 1, 1, none⟩) (by simp) (.slice a3 l3 c3))
          replace hrow : Hid (PRow x3 0 (.slice a3 l3 c3) (free ++ [(n, (next : Int))])) := Lib.hid (by rw [hx3]; exact hrow.out.far g3.out (by decide) (fun k hk => heap_setCell_other _ _ _ _ hk))
          clear hk g3 hx3
          refine hKc _ _ hq.out (fun _ => ?_)
          clear hKc K
          try simp only [List.setIfInBounds_toArray, List.set_cons_zero, List.set_cons_succ]
          refine wpAnyH_done (by kernel_rfl) ?_ _
          obtain ⟨⟨q0, q1, q2⟩, q3, q4, q5⟩ := c3_cells h3.out
          go_upto_region 9 with fail
          clear q0 q1 q2 q3 q4 q5
          obtain ⟨x4, hx4⟩ : ∃ X, X = x3.setCell ⟨w.heap.size + 1, 2, none⟩ (.int .i64 ((next : Int) + 1)) := ⟨_, rfl⟩
          rw [← hx4]
          have h3' := h3
          replace h4 := Lib.hid (show x4.heap[w.heap.size + 1 + 1]? = some zT by rw [hx4, heap_setCell_other _ _ _ _ (by first | (simp; done) | (simp; omega))]; exact h4.out)
          replace h5 := Lib.hid (show x4.heap[w.heap.size + 1 + 1 + 1]? = some zS by rw [hx4, heap_setCell_other _ _ _ _ (by first | (simp; done) | (simp; omega))]; exact h5.out)
          replace hB := Lib.hid (show Below w.heap.size w x4 by rw [hx4]; exact hB.out.setCell (p := ⟨w.heap.size + 1, 2, none⟩) (by simp) _)
          replace hrow : Hid (PRow x4 0 (.slice a3 l3 c3) (free ++ [(n, (next : Int))])) := Lib.hid (by rw [hx4]; exact hrow.out.far h3'.out (by decide) (fun k hk => heap_setCell_other _ _ _ _ hk))
          replace h3 := Lib.hid (show x4.heap[w.heap.size + 1]? = some (scB (.slice ab lb cb) (.slice a3 l3 c3) ((next : Int) + 1)) by rw [hx4, heap_setCell_same x3 (w.heap.size + 1) 2 _ 96 _ h3'.out]; rfl)
          clear h3' hx4
          go_upto_region 9 with fail
          refine region_named (S := fun W' => W'.heap[w.heap.size + 1]? = some (.cells #[(.slice ab lb cb), (.slice a3 l3 c3), .int .i64 ((next : Int) + 1)] 96 (0, 0))) (by kernel_rfl) (fun x13 hx13 => ?_)
          replace h3 := Lib.hid (show x13.heap[w.heap.size + 1]? = some (.cells #[(.slice ab lb cb), (.slice a3 l3 c3), .int .i64 ((next : Int) + 1)] 96 (0, 0)) by rw [hx13]; exact h3.out)
          replace h4 := Lib.hid (show x13.heap[w.heap.size + 1 + 1]? = some (zT) by rw [hx13]; exact h4.out)
          replace h5 := Lib.hid (show x13.heap[w.heap.size + 1 + 1 + 1]? = some (zS) by rw [hx13]; exact h5.out)
          have hq := h3
          replace hB : Hid (Below w.heap.size w x13) := Lib.hid (by rw [hx13]; exact hB.out.drew)
          replace hrow := Lib.hid (show PRow x13 0 (.slice a3 l3 c3) _ by rw [hx13]; exact hrow.out.up ((Below.refl _ _).drew) (Nat.le_refl _))
          clear hx13
          refine takeH 0 53 (.int .i64 (next : Nat)) rfl rfl (by kernel_rfl) (by kernel_rfl) (by kernel_rfl) (fun _ _ _ h => h) (by rfl) (by intro W hSw; clear hSw; go_simp) hq.out ?_
          try simp only [List.setIfInBounds_toArray, List.set_cons_zero, List.set_cons_succ]
          refine takeH 2 55 (.agg #[(.slice ab lb cb), (.slice a3 l3 c3), .int .i64 ((next : Int) + 1)]) rfl rfl (by kernel_rfl) (by kernel_rfl) (by kernel_rfl) (fun _ _ _ h => h) (by rfl) (by intro W hSw; obtain ⟨⟨j0, j1, j2⟩, -⟩ := c3_cells hSw; clear hSw; go_simp) hq.out ?_
          try simp only [List.setIfInBounds_toArray, List.set_cons_zero, List.set_cons_succ]
          refine wpAnyH_ready (rs := [1]) (by kernel_rfl) (by simp) ?_
          refine AllReadyH.cons rfl (fun K hKc => ?_) AllReadyH.nil
          rw [if_pos (by rfl)]
          refine wp_call1 (f := 82) (d := 54) rfl rfl (enters_of Tryz.func82 (by kernel_rfl) rfl _ _) rfl ((Var_mk (next : Nat) x13).mono ?_)
          rintro e x14 ⟨rfl, hb1⟩
          refine ⟨_, rfl, ?_⟩
          replace h3 := Lib.hid ((hb1.block _ (Array.getElem?_eq_some_iff.1 h3.out).1).trans h3.out)
          replace h4 := Lib.hid ((hb1.block _ (Array.getElem?_eq_some_iff.1 h4.out).1).trans h4.out)
          replace h5 := Lib.hid ((hb1.block _ (Array.getElem?_eq_some_iff.1 h5.out).1).trans h5.out)
          replace hrow := Lib.hid (hrow.out.up hb1 (Nat.le_refl _))
          replace hq := h3
          replace hB := Lib.hid (Below.up hB.out hb1)
          clear hb1
          refine hKc _ _ hq.out (fun _ => ?_)
          clear hKc K
          try simp only [List.setIfInBounds_toArray, List.set_cons_zero, List.set_cons_succ]
          refine wpAnyH_ready (rs := [3]) (by kernel_rfl) (by simp) ?_
          refine AllReadyH.cons rfl (fun K hKc => ?_) AllReadyH.nil
          obtain ⟨⟨q0, q1, q2⟩, q3, q4, q5⟩ := c3_cells h4.out
          go_simp
          clear q0 q1 q2 q3 q4 q5
          obtain ⟨x15, hx15⟩ : ∃ Z, Z = (((x14.setCell ⟨w.heap.size + 1 + 1, 0, none⟩ (.int .i64 1)).setCell ⟨w.heap.size + 1 + 1, 1, none⟩ (.int .i64 (next : Nat))).setCell ⟨w.heap.size + 1 + 1, 2, none⟩ (.slice none 0 0)) := ⟨_, rfl⟩
          rw [← hx15]
          have hs := set3 (.int .i64 1) (.int .i64 (next : Nat)) (.slice none 0 0) h4.out
          have ho := fun k (hk : k ≠ w.heap.size + 1 + 1) => set3_other (w := x14) (B := w.heap.size + 1 + 1) (.int .i64 1) (.int .i64 (next : Nat)) (.slice none 0 0) hk
          have hbs := set3_below (w := x14) (B := w.heap.size + 1 + 1) (n := w.heap.size) (.int .i64 1) (.int .i64 (next : Nat)) (.slice none 0 0) (by omega)
          rw [← hx15] at hs ho hbs
          replace h3 := Lib.hid ((ho _ (by omega)).trans h3.out)
          replace h5 := Lib.hid ((ho _ (by omega)).trans h5.out)
          replace hB := Lib.hid (hB.out.trans hbs)
          replace hrow := Lib.hid (hrow.out.far h4.out (by decide) ho)
          replace h4 := Lib.hid hs
          clear hs ho hbs hx15
          replace hq := h3
          refine hKc _ _ hq.out (fun _ => ?_)
          clear hKc K
          try simp only [List.setIfInBounds_toArray, List.set_cons_zero, List.set_cons_succ]
          refine wpAnyH_ready (rs := [4]) (by kernel_rfl) (by simp) ?_
          refine AllReadyH.cons rfl (fun K hKc => ?_) AllReadyH.nil
          obtain ⟨⟨q0, q1, q2⟩, q3, q4, q5⟩ := c3_cells h5.out
          go_simp
          clear q0 q1 q2 q3 q4 q5
          obtain ⟨x16, hx16⟩ : ∃ Z, Z = (((x15.setCell ⟨w.heap.size + 1 + 1 + 1, 0, none⟩ ((.slice ab lb cb))).setCell ⟨w.heap.size + 1 + 1 + 1, 1, none⟩ ((.slice a3 l3 c3))).setCell ⟨w.heap.size + 1 + 1 + 1, 2, none⟩ (.int .i64 ((next : Int) + 1))) := ⟨_, rfl⟩
          rw [← hx16]
          have hs := set3 ((.slice ab lb cb)) ((.slice a3 l3 c3)) (.int .i64 ((next : Int) + 1)) h5.out
          have ho := fun k (hk : k ≠ w.heap.size + 1 + 1 + 1) => set3_other (w := x15) (B := w.heap.size + 1 + 1 + 1) ((.slice ab lb cb)) ((.slice a3 l3 c3)) (.int .i64 ((next : Int) + 1)) hk
          have hbs := set3_below (w := x15) (B := w.heap.size + 1 + 1 + 1) (n := w.heap.size) ((.slice ab lb cb)) ((.slice a3 l3 c3)) (.int .i64 ((next : Int) + 1)) (by omega)
          rw [← hx16] at hs ho hbs
          replace h3 := Lib.hid ((ho _ (by omega)).trans h3.out)
          replace h4 := Lib.hid ((ho _ (by omega)).trans h4.out)
          replace hB := Lib.hid (hB.out.trans hbs)
          replace hrow := Lib.hid (hrow.out.far h5.out (by decide) ho)
          replace h5 := Lib.hid hs
          clear hs ho hbs hx16
          replace hq := h3
          refine hKc _ _ hq.out (fun _ => ?_)
          clear hKc K
          try simp only [List.setIfInBounds_toArray, List.set_cons_zero, List.set_cons_succ]
          refine wpAnyH_done (by kernel_rfl) ?_ _
          go_wp2_with fail
          obtain ⟨⟨r0, r1, r2⟩, -⟩ := c3_cells h4.out
          obtain ⟨⟨r3, r4, r5⟩, -⟩ := c3_cells h5.out
          refine bodyPost_ret (v := .tuple #[.agg #[.int .i64 1, .int .i64 (next : Nat), .slice none 0 0], .agg #[(.slice ab lb cb), (.slice a3 l3 c3), .int .i64 ((next : Int) + 1)]]) (by simp [results, Tryz.f72, go_sem, r0, r1, r2, r3, r4, r5]) rfl ?_
          exact ⟨none, 0, 0, (.slice a3 l3 c3), free ++ [(n, (next : Int))], by simp [Tm.op, Tm.n], Fresh.leaf _ _ _ _, hrow.out, by rw [lookP_snoc], by simp; omega, hB.out⟩
      · go_simp
        replace hk := Lib.hid (hk.out.alloc (by omega) (.cells #[.int .i64 n, .int .i64 (next : Nat)] 145))
        replace hq := Lib.hid (show Below (w.heap.size + 1) w0 _ from hk.out.mono (by omega))
        refine hKc _ _ hq.out (fun _ => ?_)
        clear hKc K
        try simp only [List.setIfInBounds_toArray, List.set_cons_zero, List.set_cons_succ]
        refine wpAnyH_ready (rs := [1]) (by kernel_rfl) (by simp) ?_
        refine AllReadyH.cons rfl (fun K hKc => ?_) AllReadyH.nil
        obtain ⟨⟨q0, q1, q2⟩, -⟩ := c3_cells ((hk.out.block (w.heap.size + 1) (by omega)).trans h3.out)
        go_simp
        clear q0 q1 q2
        refine hKc _ _ hq.out (fun _ => ?_)
        clear hKc K
        try simp only [List.setIfInBounds_toArray, List.set_cons_zero, List.set_cons_succ]
        refine wpAnyH_ready (rs := [2]) (by kernel_rfl) (by simp) ?_
        refine AllReadyH.cons rfl (fun K hKc => ?_) AllReadyH.nil
        rw [if_pos (by rfl)]
        obtain ⟨v1, x1, hr3, ho1, hg1⟩ := appP_run (x.alloc (.cells #[.int .i64 n, .int .i64 (next : Nat)] 145)) 0 (.slice af lf cf) free (by omega) (hf.out.up (Below.trans hB.out (hk.out.mono (by omega))) (Nat.le_refl _))
        refine wp_builtin_append rfl rfl rfl hr3 ?_
        replace hk := Lib.hid (hk.out.grown hg1 (by first | omega | (simp; omega)) (fun q hq => by cases hq))
        replace hq := Lib.hid (show Below (w.heap.size + 1) w0 _ from hk.out.mono (by omega))
        have hz1' : (x.alloc (.cells #[.int .i64 n, .int .i64 (next : Nat)] 145)).heap.size ≤ x1.heap.size := hg1.size
        clear hr3
        refine hKc _ _ hq.out (fun _ => ?_)
        clear hKc K
        try simp only [List.setIfInBounds_toArray, List.set_cons_zero, List.set_cons_succ]
        have ho1' : x1.ownsRow (x.heap.size + 1) 145 2 v1 free.length (pairVals free) := by have := ho1; simp only [World.size_alloc] at this; exact this
        have hz1'' : x.heap.size + 1 ≤ x1.heap.size := by simpa using hz1'
        clear ho1
        have ho1 := ho1'
        clear ho1'
        refine wpAnyH_ready (rs := [8]) (by kernel_rfl) (by simp) ?_
        refine AllReadyH.cons rfl (fun K hKc => ?_) AllReadyH.nil
        rw [if_pos (by rfl)]
        refine wp_append_own _ _ _ 94 rfl (x.heap.size + 1) 145 i0 (.agg #[.int .i64 0, .int .i64 0]) 2 16 und94 hi hz0 hz1 hz2 rfl (by decide) v1 free.length (pairVals free) rfl ho1 ⟨x.heap.size, 0, none⟩ 1 1 [.int .i64 n, .int .i64 (next : Nat)] rfl rfl (fun j u hj => hg1.cell (cell_two_new x _ _ 145 j u hj) (fun h => by cases h)) (fun x hx => by simp at hx; rcases hx with rfl | rfl <;> rfl) (by unfold maxLen; omega) (by omega) (by first | omega | (simp; omega)) ?_
        intro v2 x2 ho2 hg2 _
        replace hk := Lib.hid (hk.out.grown hg2 (by first | omega | (simp; omega)) (fun q hq => by have := (ho1.lt q hq).1; first | omega | (simp at this; omega)))
        replace hq := Lib.hid (show Below (w.heap.size + 1) w0 _ from hk.out.mono (by omega))
        have hrow : Hid (PRow x2 0 v2 (free ++ [(n, (next : Int))])) := Lib.hid (snoc_row ho2 (Nat.zero_le _))
        obtain ⟨a3, l3, c3, rfl⟩ := hrow.out.slice
        clear hg2 ho2 hg1 ho1
        refine hKc _ _ hq.out (fun _ => ?_)
        clear hKc K
        try simp only [List.setIfInBounds_toArray, List.set_cons_zero, List.set_cons_succ]
        refine takeH 9 48 (.pointer (some ⟨w.heap.size + 1, 1, none⟩)) rfl rfl (by kernel_rfl) (by kernel_rfl) (by kernel_rfl) (fun _ _ _ h => h) (by rfl) (by intro W hSw; clear hSw; go_simp) hq.out ?_
        try simp only [List.setIfInBounds_toArray, List.set_cons_zero, List.set_cons_succ]
        refine wpAnyH_ready (rs := [10]) (by kernel_rfl) (by simp) ?_
        refine AllReadyH.cons rfl (fun K hKc => ?_) AllReadyH.nil
        have g3 : Hid (x2.heap[w.heap.size + 1]? = some (scB (.slice ab lb cb) (.slice af lf cf) next)) := Lib.hid ((hk.out.block (w.heap.size + 1) (by omega)).trans h3.out)
        obtain ⟨⟨q0, q1, q2⟩, q3, q4, q5⟩ := c3_cells g3.out
        go_simp
        clear q0 q1 q2 q3 q4 q5
        obtain ⟨x3, hx3⟩ : ∃ X, X = x2.setCell ⟨w.heap.size + 1, 1, none⟩ (.slice a3 l3 c3) := ⟨_, rfl⟩
        rw [← hx3]
        replace hq := Lib.hid (show Below (w.heap.size + 1) w0 x3 by rw [hx3]; exact hq.out.setCell (p := ⟨w.heap.size + 1, 1, none⟩) (Nat.le_refl _) (.slice a3 l3 c3))
        replace h3 := Lib.hid (show x3.heap[w.heap.size + 1]? = some (scB (.slice ab lb cb) (.slice a3 l3 c3) next) by rw [hx3, heap_setCell_same x2 (w.heap.size + 1) 1 _ 96 (.slice a3 l3 c3) g3.out]; rfl)
        replace h4 := Lib.hid (show x3.heap[w.heap.size + 1 + 1]? = some zT by rw [hx3, heap_setCell_other _ _ _ _ (by first | (simp; done) | (simp; omega))]; exact (hk.out.block (w.heap.size + 1 + 1) (by omega)).trans h4.out)
        replace h5 := Lib.hid (show x3.heap[w.heap.size + 1 + 1 + 1]? = some zS by rw [hx3, heap_setCell_other _ _ _ _ (by first | (simp; done) | (simp; omega))]; exact (hk.out.block (w.heap.size + 1 + 1 + 1) (by omega)).trans h5.out)
        replace hB := Lib.hid (show Below w.heap.size w x3 by rw [hx3]; exact (hB.out.trans (hk.out.mono (by omega))).setCell (p := ⟨w.heap.size + 1, 1, none⟩) (by simp) (.slice a3 l3 c3))
        replace hrow : Hid (PRow x3 0 (.slice a3 l3 c3) (free ++ [(n, (next : Int))])) := Lib.hid (by rw [hx3]; exact hrow.out.far g3.out (by decide) (fun k hk => heap_setCell_other _ _ _ _ hk))
        clear hk g3 hx3
        refine hKc _ _ hq.out (fun _ => ?_)
        clear hKc K
        try simp only [List.setIfInBounds_toArray, List.set_cons_zero, List.set_cons_succ]
        refine wpAnyH_done (by kernel_rfl) ?_ _
        obtain ⟨⟨q0, q1, q2⟩, q3, q4, q5⟩ := c3_cells h3.out
        go_upto_region 9 with fail
        clear q0 q1 q2 q3 q4 q5
        obtain ⟨x4, hx4⟩ : ∃ X, X = x3.setCell ⟨w.heap.size + 1, 2, none⟩ (.int .i64 ((next : Int) + 1)) := ⟨_, rfl⟩
        rw [← hx4]
        have h3' := h3
        replace h4 := Lib.hid (show x4.heap[w.heap.size + 1 + 1]? = some zT by rw [hx4, heap_setCell_other _ _ _ _ (by first | (simp; done) | (simp; omega))]; exact h4.out)
        replace h5 := Lib.hid (show x4.heap[w.heap.size + 1 + 1 + 1]? = some zS by rw [hx4, heap_setCell_other _ _ _ _ (by first | (simp; done) | (simp; omega))]; exact h5.out)
        replace hB := Lib.hid (show Below w.heap.size w x4 by rw [hx4]; exact hB.out.setCell (p := ⟨w.heap.size + 1, 2, none⟩) (by simp) _)
        replace hrow : Hid (PRow x4 0 (.slice a3 l3 c3) (free ++ [(n, (next : Int))])) := Lib.hid (by rw [hx4]; exact hrow.out.far h3'.out (by decide) (fun k hk => heap_setCell_other _ _ _ _ hk))
        replace h3 := Lib.hid (show x4.heap[w.heap.size + 1]? = some (scB (.slice ab lb cb) (.slice a3 l3 c3) ((next : Int) + 1)) by rw [hx4, heap_setCell_same x3 (w.heap.size + 1) 2 _ 96 _ h3'.out]; rfl)
        clear h3' hx4
        go_upto_region 9 with fail
        refine region_named (S := fun W' => W'.heap[w.heap.size + 1]? = some (.cells #[(.slice ab lb cb), (.slice a3 l3 c3), .int .i64 ((next : Int) + 1)] 96 (0, 0))) (by kernel_rfl) (fun x17 hx17 => ?_)
        replace h3 := Lib.hid (show x17.heap[w.heap.size + 1]? = some (.cells #[(.slice ab lb cb), (.slice a3 l3 c3), .int .i64 ((next : Int) + 1)] 96 (0, 0)) by rw [hx17]; exact h3.out)
        replace h4 := Lib.hid (show x17.heap[w.heap.size + 1 + 1]? = some (zT) by rw [hx17]; exact h4.out)
        replace h5 := Lib.hid (show x17.heap[w.heap.size + 1 + 1 + 1]? = some (zS) by rw [hx17]; exact h5.out)
        have hq := h3
        replace hB : Hid (Below w.heap.size w x17) := Lib.hid (by rw [hx17]; exact hB.out.drew)
        replace hrow := Lib.hid (show PRow x17 0 (.slice a3 l3 c3) _ by rw [hx17]; exact hrow.out.up ((Below.refl _ _).drew) (Nat.le_refl _))
        clear hx17
        refine takeH 0 53 (.int .i64 (next : Nat)) rfl rfl (by kernel_rfl) (by kernel_rfl) (by kernel_rfl) (fun _ _ _ h => h) (by rfl) (by intro W hSw; clear hSw; go_simp) hq.out ?_
        try simp only [List.setIfInBounds_toArray, List.set_cons_zero, List.set_cons_succ]
        refine takeH 2 55 (.agg #[(.slice ab lb cb), (.slice a3 l3 c3), .int .i64 ((next : Int) + 1)]) rfl rfl (by kernel_rfl) (by kernel_rfl) (by kernel_rfl) (fun _ _ _ h => h) (by rfl) (by intro W hSw; obtain ⟨⟨j0, j1, j2⟩, -⟩ := c3_cells hSw; clear hSw; go_simp) hq.out ?_
        try simp only [List.setIfInBounds_toArray, List.set_cons_zero, List.set_cons_succ]
        refine wpAnyH_ready (rs := [1]) (by kernel_rfl) (by simp) ?_
        refine AllReadyH.cons rfl (fun K hKc => ?_) AllReadyH.nil
        rw [if_pos (by rfl)]
        refine wp_call1 (f := 82) (d := 54) rfl rfl (enters_of Tryz.func82 (by kernel_rfl) rfl _ _) rfl ((Var_mk (next : Nat) x17).mono ?_)
        rintro e x18 ⟨rfl, hb1⟩
        refine ⟨_, rfl, ?_⟩
        replace h3 := Lib.hid ((hb1.block _ (Array.getElem?_eq_some_iff.1 h3.out).1).trans h3.out)
        replace h4 := Lib.hid ((hb1.block _ (Array.getElem?_eq_some_iff.1 h4.out).1).trans h4.out)
        replace h5 := Lib.hid ((hb1.block _ (Array.getElem?_eq_some_iff.1 h5.out).1).trans h5.out)
        replace hrow := Lib.hid (hrow.out.up hb1 (Nat.le_refl _))
        replace hq := h3
        replace hB := Lib.hid (Below.up hB.out hb1)
        clear hb1
        refine hKc _ _ hq.out (fun _ => ?_)
        clear hKc K
        try simp only [List.setIfInBounds_toArray, List.set_cons_zero, List.set_cons_succ]
        refine wpAnyH_ready (rs := [3]) (by kernel_rfl) (by simp) ?_
        refine AllReadyH.cons rfl (fun K hKc => ?_) AllReadyH.nil
        obtain ⟨⟨q0, q1, q2⟩, q3, q4, q5⟩ := c3_cells h4.out
        go_simp
        clear q0 q1 q2 q3 q4 q5
        obtain ⟨x19, hx19⟩ : ∃ Z, Z = (((x18.setCell ⟨w.heap.size + 1 + 1, 0, none⟩ (.int .i64 1)).setCell ⟨w.heap.size + 1 + 1, 1, none⟩ (.int .i64 (next : Nat))).setCell ⟨w.heap.size + 1 + 1, 2, none⟩ (.slice none 0 0)) := ⟨_, rfl⟩
        rw [← hx19]
        have hs := set3 (.int .i64 1) (.int .i64 (next : Nat)) (.slice none 0 0) h4.out
        have ho := fun k (hk : k ≠ w.heap.size + 1 + 1) => set3_other (w := x18) (B := w.heap.size + 1 + 1) (.int .i64 1) (.int .i64 (next : Nat)) (.slice none 0 0) hk
        have hbs := set3_below (w := x18) (B := w.heap.size + 1 + 1) (n := w.heap.size) (.int .i64 1) (.int .i64 (next : Nat)) (.slice none 0 0) (by omega)
        rw [← hx19] at hs ho hbs
        replace h3 := Lib.hid ((ho _ (by omega)).trans h3.out)
        replace h5 := Lib.hid ((ho _ (by omega)).trans h5.out)
        replace hB := Lib.hid (hB.out.trans hbs)
        replace hrow := Lib.hid (hrow.out.far h4.out (by decide) ho)
        replace h4 := Lib.hid hs
        clear hs ho hbs hx19
        replace hq := h3
        refine hKc _ _ hq.out (fun _ => ?_)
        clear hKc K
        try simp only [List.setIfInBounds_toArray, List.set_cons_zero, List.set_cons_succ]
        refine wpAnyH_ready (rs := [4]) (by kernel_rfl) (by simp) ?_
        refine AllReadyH.cons rfl (fun K hKc => ?_) AllReadyH.nil
        obtain ⟨⟨q0, q1, q2⟩, q3, q4, q5⟩ := c3_cells h5.out
        go_simp
        clear q0 q1 q2 q3 q4 q5
        obtain ⟨x20, hx20⟩ : ∃ Z, Z = (((x19.setCell ⟨w.heap.size + 1 + 1 + 1, 0, none⟩ ((.slice ab lb cb))).setCell ⟨w.heap.size + 1 + 1 + 1, 1, none⟩ ((.slice a3 l3 c3))).setCell ⟨w.heap.size + 1 + 1 + 1, 2, none⟩ (.int .i64 ((next : Int) + 1))) := ⟨_, rfl⟩
        rw [← hx20]
        have hs := set3 ((.slice ab lb cb)) ((.slice a3 l3 c3)) (.int .i64 ((next : Int) + 1)) h5.out
        have ho := fun k (hk : k ≠ w.heap.size + 1 + 1 + 1) => set3_other (w := x19) (B := w.heap.size + 1 + 1 + 1) ((.slice ab lb cb)) ((.slice a3 l3 c3)) (.int .i64 ((next : Int) + 1)) hk
        have hbs := set3_below (w := x19) (B := w.heap.size + 1 + 1 + 1) (n := w.heap.size) ((.slice ab lb cb)) ((.slice a3 l3 c3)) (.int .i64 ((next : Int) + 1)) (by omega)
        rw [← hx20] at hs ho hbs
        replace h3 := Lib.hid ((ho _ (by omega)).trans h3.out)
        replace h4 := Lib.hid ((ho _ (by omega)).trans h4.out)
        replace hB := Lib.hid (hB.out.trans hbs)
        replace hrow := Lib.hid (hrow.out.far h5.out (by decide) ho)
        replace h5 := Lib.hid hs
        clear hs ho hbs hx20
        replace hq := h3
        refine hKc _ _ hq.out (fun _ => ?_)
        clear hKc K
        try simp only [List.setIfInBounds_toArray, List.set_cons_zero, List.set_cons_succ]
        refine wpAnyH_done (by kernel_rfl) ?_ _
        go_wp2_with fail
        obtain ⟨⟨r0, r1, r2⟩, -⟩ := c3_cells h4.out
        obtain ⟨⟨r3, r4, r5⟩, -⟩ := c3_cells h5.out
        refine bodyPost_ret (v := .tuple #[.agg #[.int .i64 1, .int .i64 (next : Nat), .slice none 0 0], .agg #[(.slice ab lb cb), (.slice a3 l3 c3), .int .i64 ((next : Int) + 1)]]) (by simp [results, Tryz.f72, go_sem, r0, r1, r2, r3, r4, r5]) rfl ?_
        exact ⟨none, 0, 0, (.slice a3 l3 c3), free ++ [(n, (next : Int))], by simp [Tm.op, Tm.n], Fresh.leaf _ _ _ _, hrow.out, by rw [lookP_snoc], by simp; omega, hB.out⟩

end Go.Proofs.YthlegfegkopdkaaGreat

namespace Go.Proofs.YthlegfegkopdkaaGreat
open Go.RowKit Go.Shelf Go.Sort

theorem grow_keep {X w2 : World} {o o2 : Obj} {B : Nat} {row : Option Nat} (hg : (X.alloc o).grownBy w2 row) (hne : row ≠ some B) (h : X.heap[B]? = some o2) : w2.heap[B]? = some o2 := by
  have hlt := (Array.getElem?_eq_some_iff.1 h).1
  exact (hg.block B (by simp; omega) (fun e => hne e.symm)).trans (heap_old h)
theorem set3_size (W : World) (B : Nat) (x y z : Value) {Z : World} (h : Z = (((W.setCell ⟨B, 0, none⟩ x).setCell ⟨B, 1, none⟩ y).setCell ⟨B, 2, none⟩ z)) : W.heap.size ≤ Z.heap.size := by
  rw [h]; exact (set3_below (w := W) (B := B) (n := B) x y z (Nat.le_refl _)).size

theorem len_sizes : ∀ (ks : List Tm), ks.length ≤ sizes ks
  | [] => by simp
  | t :: ts => by
    have h1 := len_sizes ts
    have h2 := size_pos t
    simp only [List.length_cons, sizes]
    omega

structure KidsAt (w : World) (k : Nat) (F : Nat → Tm) (op nn : Int) (va : Option Addr) (vl vc : Nat) (K : List Kd) (wr : World) : Prop where
  r1 : K.map (·.t) = (List.range k).map F
  r2 : wr.heap[w.heap.size + 1 + 1 + 1 + 1]? = some (.cells #[.int .i64 op, .int .i64 nn, .slice va vl vc] 28 (0, 0))
  r4 : wr.ownsRow (w.heap.size + 5) 28 3 (.slice va vl vc) k (flat K)
  r5 : ∀ x ∈ K, TmP (fun b => w.heap.size + 5 ≤ b ∧ (Value.slice va vl vc).ownBlock ≠ some b) wr x.t x.a x.l x.c

theorem KidsAt.far {w : World} {k : Nat} {F : Nat → Tm} {op nn : Int} {va : Option Addr} {vl vc : Nat} {K : List Kd} {wr W : World} (h : KidsAt w k F op nn va vl vc K wr)
    (hA : ∀ j, w.heap.size + 4 ≤ j → j < wr.heap.size → W.heap[j]? = wr.heap[j]?) : KidsAt w k F op nn va vl vc K W := by
  have hlt := (Array.getElem?_eq_some_iff.1 h.r2).1
  exact ⟨h.r1, (hA _ (by omega) hlt).trans h.r2, own_stays h.r4 (fun g hg hl => hA g (by omega) hl), fun x hx => TmP.move (fun b hb hl => ⟨hb, hA b (by omega) hl⟩) _ (h.r5 x hx)⟩
theorem KidsAt.below {w : World} {k : Nat} {F : Nat → Tm} {op nn : Int} {va : Option Addr} {vl vc : Nat} {K : List Kd} {wr W : World} (h : KidsAt w k F op nn va vl vc K wr)
    (hb : Below wr.heap.size wr W) : KidsAt w k F op nn va vl vc K W := h.far (fun j _ hj => hb.block j hj)

theorem KidsAt.step {w : World} {k : Nat} {F : Nat → Tm} {op nn : Int} {va : Option Addr} {vl vc : Nat} {K : List Kd} {W2 W3 : World} {t : Tm} {a' : Option Addr} {l' c' g cap lo : Nat} {o' : Obj}
    (h : KidsAt w k F op nn va vl vc K W2) (ht : t = F k) (hlo : w.heap.size + 5 ≤ lo) (hown2 : ∀ j, (Value.slice va vl vc).ownBlock = some j → j < lo)
    (hk : TmP (fun b => lo ≤ b ∧ b < W2.heap.size) W2 t a' l' c')
    (hgrow : (W2.alloc o').grownBy W3 (Value.slice va vl vc).ownBlock)
    (hown : W3.ownsRow (w.heap.size + 5) 28 3 (.slice (some ⟨g, 0, none⟩) (k + 1) cap) (k + 1) (flat K ++ [.int .i64 t.op, .int .i64 t.n, .slice a' l' c']))
    (hat : (Value.slice va vl vc).ownBlock = some g ∨ g = W2.heap.size + 1) :
    KidsAt w (k + 1) F op nn (some ⟨g, 0, none⟩) (k + 1) cap (K ++ [⟨t, a', l', c'⟩]) (W3.setCell ⟨w.heap.size + 1 + 1 + 1 + 1, 2, none⟩ (.slice (some ⟨g, 0, none⟩) (k + 1) cap)) := by
  have hz1 := (Array.getElem?_eq_some_iff.1 h.r2).1
  have hnb : ∀ j, (Value.slice va vl vc).ownBlock = some j → w.heap.size + 5 ≤ j ∧ j < W2.heap.size := fun j e => own_base h.r4 e
  have hfar : ∀ j, j < W2.heap.size → (Value.slice va vl vc).ownBlock ≠ some j → W3.heap[j]? = W2.heap[j]? := fun j hj hne => (hgrow.block j (by simp; omega) (fun e => hne e.symm)).trans (Below.heap_alloc W2 o' j hj)
  have hset : ∀ j, j ≠ w.heap.size + 1 + 1 + 1 + 1 → (W3.setCell ⟨w.heap.size + 1 + 1 + 1 + 1, 2, none⟩ (.slice (some ⟨g, 0, none⟩) (k + 1) cap)).heap[j]? = W3.heap[j]? := fun j e => heap_setCell_other _ _ _ _ e
  have hg3 : w.heap.size + 5 ≤ g := by
    rcases hat with e | e
    · exact (hnb g e).1
    · omega
  refine ⟨?_, ?_, ?_, ?_⟩
  · simp [List.range_succ, h.r1, ht]
  · have e2 := (hfar (w.heap.size + 1 + 1 + 1 + 1) hz1 (fun e => by have := (hnb _ e).1; omega)).trans h.r2
    rw [heap_setCell_same W3 _ 2 _ 28 _ e2]; rfl
  · rw [flat_snoc]
    exact own_stays hown (fun j hj _ => hset j (by omega))
  · intro x hx
    have hne : ∀ j, j < W2.heap.size → (Value.slice va vl vc).ownBlock ≠ some j → (Value.slice (some ⟨g, 0, none⟩) (k + 1) cap).ownBlock ≠ some j := fun j hj hn e => by
      have : g = j := by simpa [Value.ownBlock] using e
      subst this
      rcases hat with e | e
      · exact hn e
      · omega
    rcases List.mem_append.1 hx with hx | hx
    · refine TmP.move (fun b hb hlt => ⟨⟨hb.1, hne b hlt hb.2⟩, ?_⟩) _ (h.r5 x hx)
      rw [hset b (by omega)]
      exact hfar b hlt hb.2
    · obtain rfl := List.mem_singleton.1 hx
      refine TmP.move (fun b hb hlt => ?_) _ hk
      have hnb' : (Value.slice va vl vc).ownBlock ≠ some b := fun e => by have := hown2 b e; omega
      refine ⟨⟨by omega, hne b hb.2 hnb'⟩, ?_⟩
      rw [hset b (by omega)]
      exact hfar b hlt hnb'

/-- What stands in front of the kid k. -/
structure RelO (w : World) (x2 : Obj) (F : Nat → Tm) (st : Nat → OS) (op nn : Int) (vb : Value) (k : Nat) (wr : World) : Prop where
  kids : ∃ K va vl vc, KidsAt w k F op nn va vl vc K wr
  h2 : wr.heap[w.heap.size]? = some x2
  free : ∃ vf free, wr.heap[w.heap.size + 1]? = some (scB vb vf ((st k).count : Nat)) ∧ PRow wr 0 vf free ∧ lookP free = (st k).free ∧ free.length ≤ (st k).count
  h4 : wr.heap[w.heap.size + 1 + 1]? = some zT
  h5 : wr.heap[w.heap.size + 1 + 1 + 1]? = some zS
  hB : Below w.heap.size w wr

theorem PRow.grow {x W : World} {o' : Obj} {b : Nat} {row : Option Nat} {v : Value} {l : Prs} (h : PRow x b v l) (hg : (x.alloc o').grownBy W row) (hr : ∀ q, row = some q → ∃ cs fr, x.heap[q]? = some (.cells cs 28 fr)) : PRow W b v l := by
  refine ⟨h.1, ?_⟩
  rcases h.2 with h2 | ⟨g, cap, cur, h2, h3, h4, h5, h6, h7⟩
  · exact .inl h2
  · have hlt := (Array.getElem?_eq_some_iff.1 h4).1
    refine .inr ⟨g, cap, cur, h2, h3, ((hg.block g (by simp; omega) (fun e => ?_)).trans (Below.heap_alloc x o' g hlt)).trans h4, h5, h6, h7⟩
    obtain ⟨cs, fr, h8⟩ := hr g e.symm
    rw [h4] at h8
    simp only [Option.some.injEq, Obj.cells.injEq] at h8
    exact absurd h8.2.1 (by decide)
theorem own_type {w : World} {base n size : Nat} {e : TypeId} {v : Value} {xs : List Value} (h : w.ownsRow base e size v n xs) : ∀ q, v.ownBlock = some q → ∃ cs fr, w.heap[q]? = some (.cells cs e fr) := by
  intro q hq
  rcases h.2 with ⟨h0, _⟩ | ⟨g, cap, cur, hv, hb, hg, _⟩
  · subst h0; cases hq
  · subst hv; cases hq; exact ⟨_, _, hg⟩

theorem RelO.next {w : World} {x2 : Obj} {F : Nat → Tm} {st : Nat → OS} {op nn : Int} {vb vb0 vb1 vf0 vf2 : Value} {c0 : Int} {k : Nat} {X w2 : World} {va : Option Addr} {vl vc : Nat} {K : List Kd} {free2 : Prs} {t : Tm} {a' : Option Addr} {l' c' g cap lo : Nat} {o' : Obj} {cn : Nat}
    (hK : KidsAt w k F op nn va vl vc K X) (h2 : X.heap[w.heap.size]? = some x2) (h3 : X.heap[w.heap.size + 1]? = some (scB vb0 vf0 c0)) (h4 : X.heap[w.heap.size + 1 + 1]? = some zT) (h5 : X.heap[w.heap.size + 1 + 1 + 1]? = some zS) (hB : Below w.heap.size w X)
    (hrow : PRow X 0 vf2 free2) (hlook : lookP free2 = (st (k + 1)).free) (hlen : free2.length ≤ (st (k + 1)).count) (hcn : cn = (st (k + 1)).count)
    (ht : t = F k) (hlo : w.heap.size + 5 ≤ lo) (hown2 : ∀ j, (Value.slice va vl vc).ownBlock = some j → j < lo) (hk : TmP (fun b => lo ≤ b ∧ b < X.heap.size) X t a' l' c')
    (hgrow : (X.alloc o').grownBy w2 (Value.slice va vl vc).ownBlock)
    (hown : w2.ownsRow (w.heap.size + 5) 28 3 (.slice (some ⟨g, 0, none⟩) (k + 1) cap) (k + 1) (flat K ++ [.int .i64 t.op, .int .i64 t.n, .slice a' l' c']))
    (hat : (Value.slice va vl vc).ownBlock = some g ∨ g = X.heap.size + 1) :
    RelO w x2 F st op nn vb (k + 1) (((((w2.setCell ⟨w.heap.size + 1 + 1 + 1 + 1, 2, none⟩ (.slice (some ⟨g, 0, none⟩) (k + 1) cap)).setCell ⟨w.heap.size + 1, 0, none⟩ vb1).setCell ⟨w.heap.size + 1, 1, none⟩ vf2).setCell ⟨w.heap.size + 1, 2, none⟩ (.int .i64 (cn : Nat))).setCell ⟨w.heap.size + 1, 0, none⟩ vb) := by
  have hKs := hK.step ht hlo hown2 hk hgrow hown hat
  have hz8 := (Array.getElem?_eq_some_iff.1 hK.r2).1
  obtain ⟨Y, hY⟩ : ∃ Y, Y = w2.setCell ⟨w.heap.size + 1 + 1 + 1 + 1, 2, none⟩ (.slice (some ⟨g, 0, none⟩) (k + 1) cap) := ⟨_, rfl⟩
  rw [← hY] at hKs ⊢
  have hnb : ∀ j, (Value.slice va vl vc).ownBlock = some j → w.heap.size + 5 ≤ j := fun j e => (own_base hK.r4 e).1
  have hlow : ∀ j, j < w.heap.size + 4 → Y.heap[j]? = X.heap[j]? := fun j hj => by
    rw [hY, heap_setCell_other _ _ _ _ (by simp; omega)]
    exact (hgrow.block j (by simp; omega) (fun e => by have := hnb j e.symm; omega)).trans (Below.heap_alloc X o' j (by omega))
  have hrow' : PRow Y 0 vf2 free2 := by
    have h6 := hrow.grow hgrow (own_type hK.r4)
    have h7 : w2.heap[w.heap.size + 1 + 1 + 1 + 1]? = _ := (hgrow.block _ (by simp; omega) (fun e => by have := hnb _ e.symm; omega)).trans ((Below.heap_alloc X o' _ hz8).trans hK.r2)
    rw [hY]
    exact h6.far h7 (by decide) (fun k hk => heap_setCell_other _ _ _ _ hk)
  have hBY : Below w.heap.size w Y := by
    rw [hY]
    exact ((hB.alloc hB.size o').grown hgrow (by simp; omega) (fun q hq => by have := hnb q hq; omega)).setCell (p := ⟨w.heap.size + 1 + 1 + 1 + 1, 2, none⟩) (by simp; omega) _
  have y3 := (hlow (w.heap.size + 1) (by omega)).trans h3
  obtain ⟨Z, hZ⟩ : ∃ Z, Z = ((((Y.setCell ⟨w.heap.size + 1, 0, none⟩ vb1).setCell ⟨w.heap.size + 1, 1, none⟩ vf2).setCell ⟨w.heap.size + 1, 2, none⟩ (.int .i64 (cn : Nat))).setCell ⟨w.heap.size + 1, 0, none⟩ vb) := ⟨_, rfl⟩
  rw [← hZ]
  have hset : ∀ j, j ≠ w.heap.size + 1 → Z.heap[j]? = Y.heap[j]? := fun j hj => by
    rw [hZ, heap_setCell_other _ _ _ _ hj]; exact set3_other (B := w.heap.size + 1) _ _ _ hj
  have z3 : Z.heap[w.heap.size + 1]? = some (scB vb vf2 ((st (k + 1)).count : Nat)) := by
    have h8 := set3 vb1 vf2 (.int .i64 (cn : Nat)) y3
    rw [hZ, heap_setCell_same _ _ 0 _ 96 vb h8, hcn]; rfl
  refine ⟨⟨_, _, _, _, hKs.far (fun j hj _ => hset j (by omega))⟩, (hset _ (by omega)).trans ((hlow _ (by omega)).trans h2), ⟨vf2, free2, z3, hrow'.far y3 (by decide) (fun j hj => hset j hj), hlook, hlen⟩,
    (hset _ (by omega)).trans ((hlow _ (by omega)).trans h4), (hset _ (by omega)).trans ((hlow _ (by omega)).trans h5), ?_⟩
  rw [hZ]
  exact (hBY.trans (set3_below (B := w.heap.size + 1) vb1 vf2 (.int .i64 (cn : Nat)) (by omega))).setCell (p := ⟨w.heap.size + 1, 0, none⟩) (by simp) _

end Go.Proofs.YthlegfegkopdkaaGreat
