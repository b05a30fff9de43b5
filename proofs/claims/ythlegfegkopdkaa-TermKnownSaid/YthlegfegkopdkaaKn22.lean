/- Own text, joined of: O5 M1 C9 E5 E6 E7 E8 S3 S4 S5 S6 F1 F2 F3 F4 M2 M3 L1 L2. 'inOrder', 'Order', 'Variant'. · Maps from integers to terms; 'match'. · The scope of 'put': find, inside; leastOutside. · 'leastOutside', 'catches'. · 'put': the plain side; a variable, a node. · 'putLet'. · 'matcher.list'. · 'Match'. · 'all' over bindings, 'listFormed'. · 'listFormed'. -/
import Derived.RegionTactic
import Derived.Test.YthlegfegkopdkaaKn15
import Derived.Test.YthlegfegkopdkaaKn21

namespace Go.Proofs.Ythlegfegkopdkaa
open Go.RowKit Go.Shelf

def ordE (t : Tm) : Tm × OS := ordT (fun _ => none) ⟨fun _ => none, 0⟩ t

theorem set3_celld {w : World} {B k o : Nat} (x' y' z' : Value) (h : ¬ k = B) : (((w.setCell ⟨B, 0, none⟩ x').setCell ⟨B, 1, none⟩ y').setCell ⟨B, 2, none⟩ z').drew.cell? ⟨k, o, none⟩ = w.cell? ⟨k, o, none⟩ := set3_cell x' y' z' h

set_option maxRecDepth 100000 in
set_option maxHeartbeats 1000000 in
theorem inOrder_any (d : DT) (n₀ : Nat) (w : World) (hs : d.size ≤ 1000000) (hL : Lies n₀ w d) (hn : n₀ ≤ w.heap.size) (hO : OkV d.tm) :
    Calls Try.prog 27 #[dv d] w fun e w' => ∃ a l c, e = .returned (.tuple #[.agg #[.int .i64 (ordE d.tm).1.op, .int .i64 (ordE d.tm).1.n, .slice a l c], .int .i64 ((ordE d.tm).2.count : Nat)]) ∧ Fresh w w' (ordE d.tm).1 a l c ∧ Below w.heap.size w w' := by
  obtain ⟨w0, hw0⟩ : ∃ w0, w0 = ((((w.alloc (bx d)).alloc zer3).alloc (.map #[] 0)).alloc (.cells #[.map (some (w.heap.size + 1 + 1)), .int .i64 0] 100)).alloc (.map #[] 0) := ⟨_, rfl⟩
  have hz0 : w0.heap.size = w.heap.size + 5 := by rw [hw0]; simp
  have hB0 : Below w.heap.size w w0 := by rw [hw0]; go_grown
  have hm1 : IMap w0 (w.heap.size + 1 + 1) 0 (fun _ => none) := by
    rw [hw0]
    have := IMap.made ((w.alloc (bx d)).alloc zer3)
    rw [World.size_alloc, World.size_alloc] at this
    exact (this.same (Below.heap_alloc _ _ _ this.lt)).same (Below.heap_alloc _ _ _ (by simp)) 
  have hm2 : IMap w0 (w.heap.size + 1 + 1 + 1 + 1) 0 (fun _ => none) := by
    rw [hw0]
    have := IMap.made ((((w.alloc (bx d)).alloc zer3).alloc (.map #[] 0)).alloc (.cells #[.map (some (w.heap.size + 1 + 1)), .int .i64 0] 100))
    simp only [World.size_alloc] at this
    exact this
  have hsc : w0.heap[w.heap.size + 1 + 1 + 1]? = some (scopeB (w.heap.size + 1 + 1) 0) := by rw [hw0]; exact heap_old (heap_new' _ (by simp))
  have hrs : w0.heap[w.heap.size + 1]? = some zer3 := by rw [hw0]; exact heap_old (heap_old (heap_old (heap_new' _ (by simp))))
  have hC := order_any d.size d n₀ w0 (w.heap.size + 1 + 1 + 1) (w.heap.size + 1 + 1) (w.heap.size + 1 + 1 + 1 + 1) 0 (fun _ => none) ⟨fun _ => none, 0⟩ (Nat.le_refl _) (hL.below (hB0.mono hn)) (by omega) (by omega) (by omega) ⟨hsc, 0, Nat.le_refl _, hm1⟩ hm2 (by omega) (by omega) (by omega) (by simp; omega) hO
  change Calls _ _ _ _ (Makes _ _ (ordE d.tm).1 (ScopeAt _ _ (ordE d.tm).2)) at hC
  obtain ⟨r, hr⟩ : ∃ r, r = ordE d.tm := ⟨_, rfl⟩
  rw [← hr] at hC ⊢
  rw [hw0] at hC
  replace hC := Lib.hid hC
  clear hr hm1 hm2 hO hL
  have hmm := @run_makeMap Try.prog
  go_enter Try.func27, Try.ntmps27
  go_wp2_with fail
  refine (hC.out).mono ?_
  rintro e w1 ⟨a, l, c, rfl, hF, hJ, hT⟩
  rw [← hw0] at hF hT
  have hz1 := hT.size
  have h1 := hJ.1
  unfold scopeB at h1
  obtain ⟨⟨s0, s1⟩, -⟩ := c2_cells h1
  have hr1 := (hT.block (w.heap.size + 1) (by omega) (by rintro (h | h) <;> omega)).trans hrs
  have z := fun o => c3_cells (heap_old (o := o) hr1)
  have sx : ∀ o, (w1.alloc o).cell? ⟨w.heap.size + 1 + 1 + 1, 1, none⟩ = some (.int .i64 (r.2.count : Nat)) := fun o => (c2_cells (heap_old (o := o) h1)).1.2
  replace h1 := Lib.hid h1
  replace hJ := Lib.hid hJ
  replace hF := Lib.hid hF
  replace hT := Lib.hid hT
  replace z := Lib.hid z
  go_wp2_with fail
  obtain ⟨wb, hwb⟩ : ∃ wb, wb = w1.alloc (.cells #[.int .i64 r.1.op, .int .i64 r.1.n, .slice a l c] 32) := ⟨_, rfl⟩
  have k1 := heap_new'' w1 (.cells #[.int .i64 r.1.op, .int .i64 r.1.n, .slice a l c] 32)
  have k2 := sx (.cells #[.int .i64 r.1.op, .int .i64 r.1.n, .slice a l c] 32)
  have k3 := heap_old (o := .cells #[.int .i64 r.1.op, .int .i64 r.1.n, .slice a l c] 32) hr1
  have k4 : ∀ j, j < w1.heap.size → wb.heap[j]? = w1.heap[j]? := fun j hj => by rw [hwb]; exact Below.heap_alloc _ _ j hj
  have k5 : wb.heap.size = w1.heap.size + 1 := by rw [hwb]; simp
  rw [← hwb] at k1 k2 k3 ⊢
  obtain ⟨⟨x0, x1, x2⟩, -⟩ := c3_cells k1
  obtain ⟨⟨y0, y1, y2⟩, y3, y4, y5⟩ := c3_cells k3
  have q0 : ¬ w1.heap.size = w.heap.size + 1 := by omega
  have q1 : ¬ w.heap.size + 1 + 1 + 1 = w.heap.size + 1 := by omega
  replace k1 := Lib.hid k1
  replace hwb := Lib.hid hwb
  obtain ⟨W3, e3, -, ⟨g0, g1, g2⟩, t2, t3⟩ := stored3 (.int .i64 r.1.op) (.int .i64 r.1.n) (.slice a l c) k3
  replace k3 := Lib.hid k3
  replace e3 := Lib.hid e3
  replace g0 := Lib.hid g0
  replace g1 := Lib.hid g1
  replace g2 := Lib.hid g2
  clear sx s0 s1
  go_region_held3 (fun W' => W'.cell? ⟨w.heap.size + 1 + 1 + 1, 1, none⟩ = some (.int .i64 (r.2.count : Nat)) ∧ W'.cell? ⟨w1.heap.size, 0, none⟩ = some (.int .i64 r.1.op) ∧ W'.cell? ⟨w1.heap.size, 1, none⟩ = some (.int .i64 r.1.n) ∧ W'.cell? ⟨w1.heap.size, 2, none⟩ = some (.slice a l c))
    (first | (refine ⟨?_, ?_, ?_, ?_⟩ <;> (first | (rw [set3_cell _ _ _ (by first | exact q0 | exact q1)]; assumption) | (rw [set3_celld _ _ _ (by first | exact q0 | exact q1)]; assumption))) | go_keep)
    (fail)
  all_goals
    go_wp2_with fail
    rw [← e3.out]
    have h0 : W3.drew.cell? ⟨w.heap.size + 1, 0, none⟩ = some (.int .i64 r.1.op) := g0.out
    have h1 : W3.drew.cell? ⟨w.heap.size + 1, 1, none⟩ = some (.int .i64 r.1.n) := g1.out
    have h2 : W3.drew.cell? ⟨w.heap.size + 1, 2, none⟩ = some (.slice a l c) := g2.out
    refine bodyPost_ret (v := .tuple #[.agg #[.int .i64 r.1.op, .int .i64 r.1.n, .slice a l c], .int .i64 (r.2.count : Nat)]) (by simp [results, Try.f27, go_sem, h0, h1, h2]) rfl ?_
    have hb1 : Below w.heap.size w w1 := hB0.trans (hT.out.below (by omega) (fun k hk hr => by rcases hr with h | h <;> omega))
    refine ⟨a, l, c, rfl, (hF.out.up (w := w) (W := W3.drew) (by omega) (fun b hb1 hb2 => (t2 b (by omega)).trans (k4 b hb2)) (by have := t3.size; show w1.heap.size ≤ W3.heap.size; omega) : Fresh w W3.drew r.1 a l c), ?_⟩
    have hb2 : Below w.heap.size w wb := by rw [hwb.out]; exact hb1.alloc (by omega) _
    exact (hb2.trans (t3.mono (by omega))).drew

theorem Fresh.same {w w' W : World} {t : Tm} {a : Option Addr} {l c : Nat} (h : Fresh w w' t a l c) (h2 : ∀ b, w.heap.size ≤ b → b < w'.heap.size → W.heap[b]? = w'.heap[b]?) (h3 : w'.heap.size ≤ W.heap.size) : Fresh w W t a l c := h.up (Nat.le_refl _) h2 h3
/-- What 'Order' answers: a term and the error. -/
noncomputable def orderA (s : Sg) (d : DT) : Tm × Int := if checkB s [d] = true then (if 20 < (ordE d.tm).2.count then (.mk 0 0 [], 3) else ((ordE d.tm).1, 0)) else (.mk 0 0 [], 2)

set_option maxRecDepth 100000 in
set_option maxHeartbeats 1000000 in
theorem Order_any (s : Sg) (d : DT) (n₀ : Nat) (w : World) (ac : Option Addr) (lc cc : Nat) (af : Option Addr) (lf cf : Nat) (hs1 : 1 + d.size ≤ 1000000) (hn : n₀ ≤ w.heap.size) (hS : IsSg n₀ w s ac lc cc af lf cf) (hL1 : Lies n₀ w d) :
    Calls Try.prog 36 #[.agg #[.slice ac lc cc, .slice af lf cf], dv d] w fun e w' => ∃ a l c, e = .returned (.tuple #[.agg #[.int .i64 (orderA s d).1.op, .int .i64 (orderA s d).1.n, .slice a l c], .int .i64 (orderA s d).2]) ∧ Fresh w w' (orderA s d).1 a l c ∧ Below w.heap.size w w' := by
  obtain ⟨W0, hW0⟩ : ∃ W0, W0 = ((w.alloc (bs 27 ac lc cc af lf cf)).alloc (bx d)).alloc zer3 := ⟨_, rfl⟩
  have hB0 : Below w.heap.size w W0 := by rw [hW0]; go_grown
  have hz0 : W0.heap.size = w.heap.size + 1 + 1 + 1 := by rw [hW0]; simp
  have hl1 := hL1.below (hB0.mono hn)
  have hC := Check_any s d n₀ W0 ac lc cc af lf cf hs1 (by omega) (hS.below (hB0.mono hn)) hl1
  have hbx : W0.heap[w.heap.size + 1]? = some (bx d) := by rw [hW0]; exact heap_old (heap_new' _ (by simp))
  have hrs : W0.heap[w.heap.size + 1 + 1]? = some zer3 := by rw [hW0]; exact heap_new' _ (by simp)
  cases hv : checkB s [d]
  · rw [hv] at hC
    have ho : Hid (orderA s d = (.mk 0 0 [], 2)) := Lib.hid (by unfold orderA; rw [hv]; rfl)
    have he : errOf false = 2 := rfl
    rw [hW0] at hC
    replace hC := Lib.hid hC
    clear hl1 hL1 hS hv
    go_enter Try.func36, Try.ntmps36
    go_wp2_with fail
    refine (hC.out).mono ?_
    rintro e w1 ⟨rfl, hbe⟩
    rw [← hW0] at hbe
    have q1 := (hbe.block (w.heap.size + 1 + 1) (by omega)).trans hrs
    obtain ⟨⟨p0, p1, p2⟩, p3, p4, p5⟩ := c3_cells q1
    obtain ⟨W3, e3, -, ⟨g0, g1, g2⟩, t2, t3⟩ := stored3 (.int .i64 0) (.int .i64 0) (.slice none 0 0) q1
    replace e3 := Lib.hid e3
    replace g0 := Lib.hid g0
    replace g1 := Lib.hid g1
    replace g2 := Lib.hid g2
    replace hbe := Lib.hid hbe
    replace q1 := Lib.hid q1
    go_wp2_with fail
    rw [← e3.out]
    have h0 := g0.out
    have h1 := g1.out
    have h2 := g2.out
    rw [ho.out]
    exact bodyPost_ret (v := .tuple #[.agg #[.int .i64 0, .int .i64 0, .slice none 0 0], .int .i64 2]) (by simp [results, Try.f36, go_sem, h0, h1, h2]) rfl ⟨none, 0, 0, rfl, Fresh.nil _ _ _ _, hB0.trans ((hbe.out.mono (by omega)).trans (t3.mono (by omega)))⟩
  · have hO := OkV.checked hv (List.mem_singleton.2 rfl)
    rw [hv] at hC
    have he : errOf true = 0 := rfl
    have hI := fun (W : World) (hb : Below W0.heap.size W0 W) => inOrder_any d n₀ W (by omega) (hl1.below (hb.mono (by omega))) (by have := hb.size; omega) hO
    obtain ⟨r, hr⟩ : ∃ r, r = ordE d.tm := ⟨_, rfl⟩
    have ho : orderA s d = if 20 < r.2.count then (.mk 0 0 [], 3) else (r.1, 0) := by unfold orderA; rw [hv, if_pos rfl, hr]
    rw [← hr] at hI
    rw [hW0] at hC
    replace hC := Lib.hid hC
    replace hI := Lib.hid hI
    replace hr := Lib.hid hr
    replace ho := Lib.hid ho
    clear hl1 hL1 hS hv hO
    go_enter Try.func36, Try.ntmps36
    go_wp2_with fail
    refine (hC.out).mono ?_
    rintro e w1 ⟨rfl, hbe⟩
    rw [← hW0] at hbe
    obtain ⟨⟨b0, b1, b2⟩, -⟩ := c3_cells ((hbe.block (w.heap.size + 1) (by omega)).trans hbx)
    have hI1 := Lib.hid (hI.out w1 hbe)
    have hz1 := hbe.size
    replace hbe := Lib.hid hbe
    go_wp2_with fail
    refine (hI1.out).mono ?_
    rintro e w2 ⟨a, l, c, rfl, hF, hB2⟩
    have hz2 := hB2.size
    have q1 := heap_old (o := .cells #[.int .i64 r.1.op, .int .i64 r.1.n, .slice a l c] 32) ((hB2.block _ (by omega)).trans ((hbe.out.block (w.heap.size + 1 + 1) (by omega)).trans hrs))
    obtain ⟨wb, hwb⟩ : ∃ wb, wb = w2.alloc (.cells #[.int .i64 r.1.op, .int .i64 r.1.n, .slice a l c] 32) := ⟨_, rfl⟩
    obtain ⟨⟨p0, p1, p2⟩, p3, p4, p5⟩ := c3_cells q1
    have hB3 : Hid (Below w.heap.size w wb) := by rw [hwb]; exact (hB0.trans ((hbe.out.mono (by omega)).trans (hB2.mono (by omega)))).alloc (by omega) _
    have hk4 : Hid (∀ j, j < w2.heap.size → wb.heap[j]? = w2.heap[j]?) := fun j hj => by rw [hwb]; exact Below.heap_alloc _ _ j hj
    have hk5 : wb.heap.size = w2.heap.size + 1 := by rw [hwb]; simp
    replace hF := Lib.hid hF
    replace hB2 := Lib.hid hB2
    by_cases hcnt : 20 < r.2.count
    · have o1 : (20 : Int) < (r.2.count : Nat) := by omega
      rw [if_pos hcnt] at ho
      obtain ⟨W3, e3, -, ⟨g0, g1, g2⟩, t2, t3⟩ := stored3 (.int .i64 0) (.int .i64 0) (.slice none 0 0) q1
      replace e3 := Lib.hid e3
      replace g0 := Lib.hid g0
      replace g1 := Lib.hid g1
      replace g2 := Lib.hid g2
      rw [← hwb] at t2 t3
      replace hwb := Lib.hid hwb
      clear q1
      go_wp2_with fail
      rw [← e3.out]
      have h0 := g0.out
      have h1 := g1.out
      have h2 := g2.out
      rw [ho.out]
      exact bodyPost_ret (v := .tuple #[.agg #[.int .i64 0, .int .i64 0, .slice none 0 0], .int .i64 3]) (by simp [results, Try.f36, go_sem, h0, h1, h2]) rfl ⟨none, 0, 0, rfl, Fresh.nil _ _ _ _, hB3.out.trans (t3.mono (by omega))⟩
    · have o1 : ¬ (20 : Int) < (r.2.count : Nat) := by omega
      rw [if_neg hcnt] at ho
      obtain ⟨W3, e3, -, ⟨g0, g1, g2⟩, t2, t3⟩ := stored3 (.int .i64 r.1.op) (.int .i64 r.1.n) (.slice a l c) q1
      replace e3 := Lib.hid e3
      replace g0 := Lib.hid g0
      replace g1 := Lib.hid g1
      replace g2 := Lib.hid g2
      rw [← hwb] at t2 t3
      replace hwb := Lib.hid hwb
      clear q1
      go_wp2_with fail
      rw [← e3.out]
      have h0 := g0.out
      have h1 := g1.out
      have h2 := g2.out
      rw [ho.out]
      refine bodyPost_ret (v := .tuple #[.agg #[.int .i64 r.1.op, .int .i64 r.1.n, .slice a l c], .int .i64 0]) (by simp [results, Try.f36, go_sem, h0, h1, h2]) rfl ⟨a, l, c, rfl, ?_, hB3.out.trans (t3.mono (by omega))⟩
      exact hF.out.up (w := w) (by omega) (fun b hb1 hb2 => (t2 b (by omega)).trans (hk4.out b hb2)) (by have := t3.size; omega)

/-- A term that lies somewhere, with its places. -/
theorem IsTm.placed {n : Nat} {w : World} {t : Tm} {a : Option Addr} {l c : Nat} (h : IsTm n w t a l c) : ∃ D : DT, Lies n w D ∧ D.tm = t ∧ D.op = t.op ∧ D.n = t.n ∧ D.a = a ∧ D.l = l ∧ D.c = c := by
  obtain ⟨ds, h1, h2⟩ := IsTm.dec t h
  exact ⟨_, h1, by cases t; simp [DT.tm, h2, Tm.op, Tm.n, Tm.kids], rfl, rfl, rfl, rfl, rfl⟩

noncomputable def variantA (s : Sg) (d x : DT) : Bool := checkB s [d, x] && sameB (ordE d.tm).1 (ordE x.tm).1

set_option maxRecDepth 100000 in
set_option maxHeartbeats 1000000 in
theorem Variant_any (s : Sg) (d x : DT) (n₀ : Nat) (w : World) (ac : Option Addr) (lc cc : Nat) (af : Option Addr) (lf cf : Nat) (hs1 : 1 + d.size ≤ 1000000) (hs2 : 1 + x.size ≤ 1000000) (hn : n₀ ≤ w.heap.size) (hS : IsSg n₀ w s ac lc cc af lf cf) (hL1 : Lies n₀ w d) (hL2 : Lies n₀ w x) :
    Calls Try.prog 10 #[.agg #[.slice ac lc cc, .slice af lf cf], dv d, dv x] w fun e w' => e = .returned (.tuple #[.bool (variantA s d x), .int .i64 (errOf (checkB s [d, x]))]) ∧ Below w.heap.size w w' := by
  obtain ⟨W0, hW0⟩ : ∃ W0, W0 = ((w.alloc (bs 27 ac lc cc af lf cf)).alloc (bx d)).alloc (bx x) := ⟨_, rfl⟩
  have hB0 : Below w.heap.size w W0 := by rw [hW0]; go_grown
  have hz0 : W0.heap.size = w.heap.size + 1 + 1 + 1 := by rw [hW0]; simp
  have hl1 := hL1.below (hB0.mono hn)
  have hl2 := hL2.below (hB0.mono hn)
  have hB1 : Below W0.heap.size W0 (W0.alloc (two d x)) := (Below.refl _ _).alloc (Nat.le_refl _) _
  have hC := checkAll_any s [d, x] (W0.heap.size + 1) (W0.alloc (two d x)) ac lc cc af lf cf (some ⟨W0.heap.size, 0, none⟩) 2 2 (by intro y hy; simp at hy; rcases hy with rfl | rfl <;> assumption) (by simp) ((hS.below ((hB0.trans (hB1.mono hB0.size)).mono hn)).wider (by omega)) (two_lies hl1 hl2 (by omega))
  have bd : W0.heap[w.heap.size + 1]? = some (bx d) := by rw [hW0]; exact heap_old (heap_new' _ (by simp))
  have bx' : W0.heap[w.heap.size + 1 + 1]? = some (bx x) := by rw [hW0]; exact heap_new' _ (by simp)
  rw [hz0] at hC
  cases hv : checkB s [d, x]
  · rw [hv] at hC
    have hv2 : Hid (variantA s d x = false) := Lib.hid (by unfold variantA; rw [hv]; rfl)
    have he : errOf false = 2 := rfl
    rw [hW0] at hC
    replace hC := Lib.hid hC
    clear hl1 hl2 hL1 hL2 hS hv
    go_enter Try.func10, Try.ntmps10
    go_wp2_with fail
    refine (hC.out).mono ?_
    rintro e w1 ⟨rfl, hbe⟩
    replace hbe := Lib.hid hbe
    go_wp2_with fail
    go_ret2
    rw [hW0] at hB0 hB1
    exact ⟨by rw [hv2.out]; rfl, hB0.trans ((hB1.mono (by simp; omega)).trans (hbe.out.mono (by simp; omega)))⟩
  · have hO1 := OkV.checked hv (by simp : d ∈ [d, x])
    have hO2 := OkV.checked hv (by simp : x ∈ [d, x])
    rw [hv] at hC
    have he : errOf true = 0 := rfl
    have hI1 := fun (W : World) (hb : Below W0.heap.size W0 W) => inOrder_any d n₀ W (by omega) (hl1.below (hb.mono (by omega))) (by have := hb.size; omega) hO1
    have hI2 := fun (W : World) (hb : Below W0.heap.size W0 W) => inOrder_any x n₀ W (by omega) (hl2.below (hb.mono (by omega))) (by have := hb.size; omega) hO2
    obtain ⟨r, hr⟩ : ∃ r, r = ordE d.tm := ⟨_, rfl⟩
    obtain ⟨q, hq⟩ : ∃ q, q = ordE x.tm := ⟨_, rfl⟩
    have ho : variantA s d x = sameB r.1 q.1 := by unfold variantA; rw [hv, hr, hq]; rfl
    rw [← hr] at hI1
    rw [← hq] at hI2
    rw [hW0] at hC
    replace hC := Lib.hid hC
    replace hI1 := Lib.hid hI1
    replace hI2 := Lib.hid hI2
    replace hr := Lib.hid hr
    replace hq := Lib.hid hq
    replace ho := Lib.hid ho
    clear hl1 hl2 hL1 hL2 hS hv hO1 hO2
    go_enter Try.func10, Try.ntmps10
    go_wp2_with fail
    refine (hC.out).mono ?_
    rintro e w1 ⟨rfl, hbe⟩
    have hb1 : Below W0.heap.size W0 w1 := hB1.trans ((show Below (W0.alloc (two d x)).heap.size (W0.alloc (two d x)) w1 from by rw [hW0]; exact hbe).mono hB1.size)
    obtain ⟨⟨b0, b1, b2⟩, -⟩ := c3_cells ((hb1.block (w.heap.size + 1) (by omega)).trans bd)
    have hz1 := hb1.size
    have hJ1 := Lib.hid (hI1.out w1 hb1)
    replace hb1 := Lib.hid hb1
    clear hbe
    go_wp2_with fail
    refine (hJ1.out).mono ?_
    rintro e w2 ⟨a, l, c, rfl, hF, hB2⟩
    have hz2 := hB2.size
    obtain ⟨wb, hwb⟩ : ∃ wb, wb = w2.alloc (.cells #[.int .i64 r.1.op, .int .i64 r.1.n, .slice a l c] 32) := ⟨_, rfl⟩
    have hBb : Below w2.heap.size w2 wb := by rw [hwb]; exact (Below.refl _ _).alloc (Nat.le_refl _) _
    have hb2 : Below W0.heap.size W0 wb := hb1.out.trans ((hB2.mono hz1).trans (hBb.mono (by omega)))
    have nb := heap_new'' w2 (.cells #[.int .i64 r.1.op, .int .i64 r.1.n, .slice a l c] 32)
    rw [← hwb] at nb
    have hzb : wb.heap.size = w2.heap.size + 1 := by rw [hwb]; simp
    obtain ⟨⟨e0, e1, e2⟩, -⟩ := c3_cells ((hb2.block (w.heap.size + 1 + 1) (by omega)).trans bx')
    have hJ2 := hI2.out wb hb2
    rw [hwb] at hJ2 e0 e1 e2
    replace hJ2 := Lib.hid hJ2
    replace hb2 := Lib.hid hb2
    replace nb := Lib.hid nb
    replace hBb := Lib.hid hBb
    replace hwb := Lib.hid hwb
    have hD1 := Lib.hid (hF.is)
    clear hF b0 b1 b2
    go_wp2_with fail
    refine (hJ2.out).mono ?_
    rintro e w3 ⟨a', l', c', rfl, hF', hB3⟩
    rw [← hwb.out] at hB3 hF'
    have hz3 := hB3.size
    obtain ⟨wf, hwf⟩ : ∃ wf, wf = w3.alloc (.cells #[.int .i64 q.1.op, .int .i64 q.1.n, .slice a' l' c'] 32) := ⟨_, rfl⟩
    have hBf : Below w3.heap.size w3 wf := by rw [hwf]; exact (Below.refl _ _).alloc (Nat.le_refl _) _
    obtain ⟨D, hDl, hDt, hD1', hD2, hD3, hD4, hD5⟩ := (IsTm.below (hBf.mono (by omega)) _ (IsTm.below (hB3.mono (by omega)) _ (IsTm.below hBb.out _ hD1.out))).placed
    obtain ⟨X, hXl, hXt, hX1, hX2, hX3, hX4, hX5⟩ := (IsTm.below hBf _ hF'.is).placed
    have hSm := same_any D.size D X w3.heap.size wf (Nat.le_refl _) (hDl.wider (by omega)) hXl hBf.size
    rw [hDt, hXt, hD1', hD2, hD3, hD4, hD5, hX1, hX2, hX3, hX4, hX5, hwf] at hSm
    have nb2 := heap_old (o := .cells #[.int .i64 q.1.op, .int .i64 q.1.n, .slice a' l' c'] 32) ((hB3.block w2.heap.size (by omega)).trans nb.out)
    obtain ⟨⟨k0, k1, k2⟩, -⟩ := c3_cells nb2
    replace hSm := Lib.hid hSm
    replace hB3 := Lib.hid hB3
    replace hBf := Lib.hid hBf
    replace hwf := Lib.hid hwf
    replace nb2 := Lib.hid nb2
    clear hF' hDl hDt hD1' hD2 hD3 hD4 hD5 hXl hXt hX1 hX2 hX3 hX4 hX5 e0 e1 e2
    go_wp2_with fail
    refine (hSm.out).mono ?_
    rintro e w4 ⟨rfl, hB4⟩
    rw [← hwf.out] at hB4
    replace hB4 := Lib.hid hB4
    go_wp2_with fail
    go_ret2
    exact ⟨by rw [ho.out]; rfl, hB0.trans ((hb2.out.mono (by omega)).trans ((hB3.out.mono (by omega)).trans ((hBf.out.mono (by omega)).trans (hB4.out.mono (by have := hBf.out.size; omega)))))⟩

end Go.Proofs.Ythlegfegkopdkaa

namespace Go.Proofs.Ythlegfegkopdkaa
open Go.RowKit Go.Shelf

theorem und100 : Try.prog.underlying 61 = some (.map 3 32) := by kernel_rfl
theorem zero28 (w : World) : (zeroValue 32).run Try.prog w = .ok (.agg #[.int .i64 0, .int .i64 0, .slice none 0 0]) w := by kernel_rfl

/-- Block b is a map from integers to terms that holds f. -/
def TMap (w : World) (b n : Nat) (f : Int → Option DT) : Prop := ∃ g, MapV Try.prog 3 w b n g ∧ ∀ i, g (.int .i64 i) = (f i).map dv
theorem TMap.lt {w : World} {b n : Nat} {f : Int → Option DT} (h : TMap w b n f) : b < w.heap.size := by obtain ⟨g, h, _⟩ := h; exact h.lt
theorem TMap.same {w w' : World} {b n : Nat} {f : Int → Option DT} (h : TMap w b n f) (hb : w'.heap[b]? = w.heap[b]?) : TMap w' b n f := by obtain ⟨g, h, e⟩ := h; exact ⟨g, h.same hb, e⟩
theorem TMap.made (w : World) : TMap (w.alloc (.map #[] 0)) w.heap.size 0 (fun _ => none) := ⟨_, MapV.made w _ _, fun _ => rfl⟩
theorem TMap.look_some {w : World} {b n t : Nat} {f : Int → Option DT} (h : TMap w b n f) (ht : Try.prog.underlying t = some (.map 3 32)) {i : Int} (hi : 0 ≤ i ∧ i < 1000000) {d : DT} (hf : f i = some d) :
    (Instr.lookup t (.map (some b)) (.int .i64 i) true).run Try.prog w = .ok (.tuple #[.agg #[.int .i64 d.op, .int .i64 d.n, .slice d.a d.l d.c], .bool true]) w := by
  obtain ⟨g, h, e⟩ := h
  rw [h.look_ok lawI ht (zero28 w) (keyI hi), e i, hf]; rfl
theorem TMap.look_none {w : World} {b n t : Nat} {f : Int → Option DT} (h : TMap w b n f) (ht : Try.prog.underlying t = some (.map 3 32)) {i : Int} (hi : 0 ≤ i ∧ i < 1000000) (hf : f i = none) :
    (Instr.lookup t (.map (some b)) (.int .i64 i) true).run Try.prog w = .ok (.tuple #[.agg #[.int .i64 0, .int .i64 0, .slice none 0 0], .bool false]) w := by
  obtain ⟨g, h, e⟩ := h
  rw [h.look_ok lawI ht (zero28 w) (keyI hi), e i, hf]; rfl
theorem TMap.store {w' : World} {b n : Nat} {f : Int → Option DT} {g : Lit → Option Value} {i : Int} {d : DT} (e : ∀ i, g (.int .i64 i) = (f i).map dv) (h : MapV Try.prog 3 w' b n (upd g (.int .i64 i) (dv d))) : TMap w' b n (updI f i d) := by
  refine ⟨_, h, fun j => ?_⟩
  unfold updI
  by_cases hj : j = i
  · subst hj; rw [upd_same, if_pos rfl]; rfl
  · rw [upd_other _ _ (fun e => hj (by cases e; rfl)), if_neg hj, e j]

def Els (P : DT → Prop) (f : Int → Option DT) : Prop := ∀ i d, f i = some d → P d
theorem Els.upd {P : DT → Prop} {f : Int → Option DT} (h : Els P f) {i : Int} {d : DT} (hd : P d) : Els P (updI f i d) := by
  intro j x hx
  unfold updI at hx
  split at hx
  · cases hx; exact hd
  · exact h j x hx

mutual
def matchD (f : Int → Option DT) : DT → DT → Bool × (Int → Option DT)
  | .mk op n _ _ _ ks, v =>
    if op = 1 then (match f n with | some old => (sameB old.tm v.tm, f) | none => (true, updI f n v))
    else if op = v.op ∧ n = v.n then matchDs f ks v.kids else (false, f)
def matchDs (f : Int → Option DT) : List DT → List DT → Bool × (Int → Option DT)
  | [], [] => (true, f)
  | p :: ps, v :: vs => if (matchD f p v).1 = true then matchDs (matchD f p v).2 ps vs else (false, f)
  | _, _ => (false, f)
end
theorem matchD_eq (f : Int → Option DT) (p v : DT) : matchD f p v = if p.op = 1 then (match f p.n with | some old => (sameB old.tm v.tm, f) | none => (true, updI f p.n v)) else if p.op = v.op ∧ p.n = v.n then matchDs f p.kids v.kids else (false, f) := by
  cases p; rw [matchD]; rfl
theorem matchDs_len : ∀ (ps vs : List DT) (f : Int → Option DT), ps.length ≠ vs.length → (matchDs f ps vs).1 = false
  | [], [], _, h => by simp at h
  | [], _ :: _, _, _ => by simp [matchDs]
  | _ :: _, [], _, _ => by simp [matchDs]
  | p :: ps, v :: vs, f, h => by
    rw [matchDs]; split
    · exact matchDs_len ps vs _ (by simpa using h)
    · rfl
mutual
theorem matchD_els {P : DT → Prop} (hP : ∀ d, P d → ∀ k ∈ d.kids, P k) : ∀ (p v : DT) (f : Int → Option DT), P v → Els P f → Els P (matchD f p v).2
  | .mk op n _ _ _ ks, v, f, hv, hf => by
    rw [matchD]; split
    · cases f n with
      | some old => exact hf
      | none => exact hf.upd hv
    · split
      · exact matchDs_els hP ks v.kids f (hP v hv) hf
      · exact hf
theorem matchDs_els {P : DT → Prop} (hP : ∀ d, P d → ∀ k ∈ d.kids, P k) : ∀ (ps vs : List DT) (f : Int → Option DT), (∀ v ∈ vs, P v) → Els P f → Els P (matchDs f ps vs).2
  | [], [], f, _, hf => by simp only [matchDs]; exact hf
  | [], _ :: _, f, _, hf => by simp only [matchDs]; exact hf
  | _ :: _, [], f, _, hf => by simp only [matchDs]; exact hf
  | p :: ps, v :: vs, f, hv, hf => by
    rw [matchDs]; split
    · exact matchDs_els hP ps vs _ (fun x hx => hv x (by simp [hx])) (matchD_els hP p v f (hv v (by simp)) hf)
    · exact hf
end
theorem matchDs_drop (f : Int → Option DT) (ps vs : List DT) (k : Nat) (h : k < ps.length) (h' : k < vs.length) : matchDs f (ps.drop k) (vs.drop k) = if (matchD f ps[k] vs[k]).1 = true then matchDs (matchD f ps[k] vs[k]).2 (ps.drop (k + 1)) (vs.drop (k + 1)) else (false, f) := by
  rw [List.drop_eq_getElem_cons h, List.drop_eq_getElem_cons h', matchDs]
theorem Lies.kids_lie {n₀ : Nat} {w : World} {d : DT} (h : Lies n₀ w d) : ∀ k ∈ d.kids, Lies n₀ w k := by
  intro k hk
  obtain ⟨i, hi, rfl⟩ := List.getElem_of_mem hk
  rcases h.open.2.2.2 with h | ⟨b, off, ha, hb, hks⟩
  · rw [h] at hi; simp at hi
  · exact (LiesAll.get _ hks i hi).2

def MatchPost (w : World) (bm nb : Nat) (r : Bool × (Int → Option DT)) (sz : Nat) (e : Ending) (w' : World) : Prop :=
  Turns (fun b => b = bm) w w' ∧ ((e = .returned (.bool true) ∧ r.1 = true ∧ ∃ n', n' ≤ nb + sz ∧ TMap w' bm n' r.2) ∨ (e = .returned (.bool false) ∧ r.1 = false))
def MatchSpec (N : Nat) : Prop := ∀ (p v : DT) (n₀ : Nat) (w : World) (bm nb : Nat) (f : Int → Option DT), p.size ≤ N → Lies n₀ w p → Lies n₀ w v → n₀ ≤ bm → n₀ ≤ w.heap.size → TMap w bm nb f → Els (Lies n₀ w) f → nb + p.size ≤ 1000000 → OkV p.tm →
  Calls Try.prog 30 #[.map (some bm), dv p, dv v] w (MatchPost w bm nb (matchD f p v) p.size)

set_option maxRecDepth 100000 in
set_option maxHeartbeats 1000000 in
theorem match_var (p v : DT) (n₀ : Nat) (w : World) (bm nb : Nat) (f : Int → Option DT) (hv : Lies n₀ w v) (hn0 : n₀ ≤ bm) (hn : n₀ ≤ w.heap.size) (hm : TMap w bm nb f) (hE : Els (Lies n₀ w) f) (hc : nb + p.size ≤ 1000000) (hop : p.op = 1) (hr : 0 ≤ p.n ∧ p.n < 20) :
    Calls Try.prog 30 #[.map (some bm), dv p, dv v] w (MatchPost w bm nb (matchD f p v) p.size) := by
  obtain ⟨w0, hw0⟩ : ∃ w0, w0 = (w.alloc (bx p)).alloc (bx v) := ⟨_, rfl⟩
  have hB0 : Below w.heap.size w w0 := by rw [hw0]; go_grown
  have hz0 : w0.heap.size = w.heap.size + 1 + 1 := by rw [hw0]; simp
  have hm0 := hm.same (hB0.block _ hm.lt)
  have hmlt := hm.lt
  have e1 : (p.op != 1) = false := by simpa using hop
  have k1 := keyI (i := p.n) ⟨hr.1, by omega⟩
  have hps := dsize_pos p
  rw [matchD_eq, if_pos hop]
  replace hop := Lib.hid hop
  cases hf : f p.n with
  | some old =>
    have hl := hm0.look_some und100 (i := p.n) ⟨hr.1, by omega⟩ hf
    rw [hw0] at hl
    obtain ⟨wb, hwb⟩ : ∃ wb, wb = w0.alloc (bx old) := ⟨_, rfl⟩
    have hBb : Below w.heap.size w wb := by rw [hwb]; exact hB0.alloc (by omega) _
    have hS := same_any old.size old v n₀ wb (Nat.le_refl _) ((hE _ _ hf).below (hBb.mono hn)) (hv.below (hBb.mono hn)) (by have := hBb.size; omega)
    rw [hwb, hw0] at hS
    replace hS := Lib.hid hS
    replace hm0 := Lib.hid hm0
    have hm' := Lib.hid hm
    clear hm hf
    go_enter Try.func30, Try.ntmps30
    go_wp2_with fail
    refine (hS.out).mono ?_
    rintro e w1 ⟨rfl, hB1⟩
    rw [← hw0, ← hwb] at hB1
    have hB2 := Lib.hid (hBb.trans (hB1.mono hBb.size))
    replace hB1 := Lib.hid hB1
    cases hsm : sameB old.tm v.tm
    all_goals
      replace hsm := Lib.hid hsm
      go_wp2_with fail
      go_ret
    · exact ⟨Turns.of0 hB2.out, .inr ⟨rfl, hsm.out⟩⟩
    · exact ⟨Turns.of0 hB2.out, .inl ⟨rfl, hsm.out, nb, by omega, hm'.out.same (hB2.out.block _ hmlt)⟩⟩
  | none =>
    have hl := hm0.look_none und100 (i := p.n) ⟨hr.1, by omega⟩ hf
    rw [hw0] at hl
    obtain ⟨g, hmg, hg⟩ := hm0
    have hmb : MapV Try.prog 3 (w0.alloc zer3) bm nb g := hmg.alloc _
    rw [hw0] at hmb
    replace hmb := Lib.hid hmb
    replace hg := Lib.hid hg
    replace hB0 := Lib.hid hB0
    clear hm hf hmg
    go_enter Try.func30, Try.ntmps30
    go_wp2_with (first | (at_mapUpdate; refine wpList_mapStore _ rfl _ _ _ 61 rfl lawI und100 bm nb _ rfl hmb.out (by unfold maxLen; omega) _ _ _ rfl rfl k1 trivial ?_; intro w2 hm2 hg2))
    go_ret
    refine ⟨?_, .inl ⟨rfl, rfl, nb + 1, by omega, TMap.store hg.out hm2⟩⟩
    have hT0 : Turns (fun b => b = bm) w (w0.alloc zer3) := (Turns.of0 hB0.out).alloc _
    rw [hw0] at hT0
    exact hT0.grown hg2 (fun k e _ => by cases e; rfl)

set_option maxRecDepth 100000 in
set_option maxHeartbeats 1000000 in
theorem match_node (N : Nat) (ih : MatchSpec N) (p v : DT) (n₀ : Nat) (w : World) (bm nb : Nat) (f : Int → Option DT) (hs : p.size ≤ N + 1) (hp : Lies n₀ w p) (hv : Lies n₀ w v) (hn0 : n₀ ≤ bm) (hn : n₀ ≤ w.heap.size) (hm : TMap w bm nb f) (hE : Els (Lies n₀ w) f) (hc : nb + p.size ≤ 1000000) (hO : OkV p.tm) (hop : p.op ≠ 1) :
    Calls Try.prog 30 #[.map (some bm), dv p, dv v] w (MatchPost w bm nb (matchD f p v) p.size) := by
  obtain ⟨w0, hw0⟩ : ∃ w0, w0 = (w.alloc (bx p)).alloc (bx v) := ⟨_, rfl⟩
  have hB0 : Below w.heap.size w w0 := by rw [hw0]; go_grown
  have hz0 : w0.heap.size = w.heap.size + 1 + 1 := by rw [hw0]; simp
  have hm0 := hm.same (hB0.block _ hm.lt)
  have hmlt := hm.lt
  have e1 : (p.op != 1) = true := by simpa using hop
  rw [matchD_eq, if_neg hop]
  have hmm := hm
  replace hop := Lib.hid hop
  cases ho : p.op == v.op
  · rw [if_neg (fun h => by simp [h.1] at ho)]
    clear ih hm hm0 hE hp hv hmm
    rw [hw0] at hB0
    replace hB0 := Lib.hid hB0
    go_enter Try.func30, Try.ntmps30
    go_wp2_with fail
    go_ret
    exact ⟨Turns.of0 hB0.out, .inr ⟨rfl, rfl⟩⟩
  cases hnn : p.n == v.n
  · rw [if_neg (fun h => by simp [h.2] at hnn)]
    clear ih hm hm0 hE hp hv hmm
    rw [hw0] at hB0
    replace hB0 := Lib.hid hB0
    go_enter Try.func30, Try.ntmps30
    go_wp2_with fail
    go_ret
    exact ⟨Turns.of0 hB0.out, .inr ⟨rfl, rfl⟩⟩
  rw [if_pos ⟨by simpa using ho, by simpa using hnn⟩]
  have hsz := dsize_eq p
  have hp0 := hp.below (hB0.mono hn)
  have hv0 := hv.below (hB0.mono hn)
  have hE0 : Els (Lies n₀ w0) f := fun i d h => (hE i d h).below (hB0.mono hn)
  obtain ⟨hl1, hlc1, hc1, hk1⟩ := hp0.open
  obtain ⟨hl2, hlc2, hc2, hk2⟩ := hv0.open
  obtain ⟨-, -, -, hOk⟩ := hO.open
  have hC : Calls Try.prog 52 #[.slice p.a p.l p.c, .slice v.a v.l v.c, .func (.func 30) #[.map (some bm)] #[]] w0 (MatchPost w0 bm nb (matchDs f p.kids v.kids) p.size) := by
    by_cases hlen : p.kids.length = v.kids.length
    · rw [hl1, hl2]
      refine (equalFunc_any 30 #[.map (some bm)] #[] (enters_of Try.func30 (by kernel_rfl) rfl) p.kids v.kids p.a v.a p.c v.c hlen (by omega) hc1
        (fun k W => Turns (fun b => b = bm) w0 W ∧ ∃ fk n', n' ≤ nb + dsizes (p.kids.take k) ∧ TMap W bm n' fk ∧ Els (Lies n₀ w0) fk ∧ matchDs f p.kids v.kids = matchDs fk (p.kids.drop k) (v.kids.drop k))
        (fun W => Turns (fun b => b = bm) w0 W ∧ (matchDs f p.kids v.kids).1 = false)
        (fun k W o h => ⟨h.1.alloc o, by
          obtain ⟨fk, n', g1, g2, g3, g4⟩ := h.2
          exact ⟨fk, n', g1, g2.same (Below.heap_alloc _ _ _ g2.lt), g3, g4⟩⟩) (fun k W h h2 hI => ?_) (fun k h h2 W hI => ?_) w0 ⟨Turns.refl _ _, f, nb, by omega, hm0, hE0, by simp⟩).mono ?_
      · have hBl : Below n₀ w0 W := hI.1.below (by omega) (fun k hk e => by omega)
        rcases hk1 with hk1 | ⟨b, off, ha, hb, hks⟩
        · rw [hk1] at h; simp at h
        rcases hk2 with hk2 | ⟨b2, off2, ha2, hb2, hks2⟩
        · rw [hk2] at h2; simp at h2
        exact ⟨b, off, b2, off2, ha, ha2, ((LiesAll.get _ hks k h).1).below hBl hb, ((LiesAll.get _ hks2 k h2).1).below hBl hb2⟩
      · obtain ⟨hT, fk, n', g1, g2, g3, g4⟩ := hI
        have hBl : Below n₀ w0 W := hT.below (by omega) (fun k hk e => by omega)
        have hsk := dsize_kid p.kids k h
        have hz := hT.size
        have hts := dsizes_take_succ p.kids k h
        have hOkk : OkV p.kids[k].tm := by
          have := OkVs_get _ k (by rw [DT.tm_kids, List.length_map]; exact h) hOk
          simpa only [DT.tm_kids, List.getElem_map] using this
        refine (ih p.kids[k] v.kids[k] n₀ W bm n' fk (by omega) ((hp0.kids_lie _ (List.getElem_mem h)).below hBl) ((hv0.kids_lie _ (List.getElem_mem h2)).below hBl) hn0 (by omega) g2 (fun i d hd => (g3 i d hd).below hBl) (by omega) hOkk).mono ?_
        rintro e W' ⟨hT', ⟨rfl, hr, n2, hn2, hm2⟩ | ⟨rfl, hr⟩⟩
        · refine .inl ⟨rfl, hT.trans hT', (matchD fk p.kids[k] v.kids[k]).2, n2, by omega, hm2, matchD_els (fun d hd => hd.kids_lie) _ _ _ (hv0.kids_lie _ (List.getElem_mem h2)) g3, ?_⟩
          rw [g4, matchDs_drop _ _ _ _ h h2, if_pos hr]
        · refine .inr ⟨rfl, hT.trans hT', ?_⟩
          rw [g4, matchDs_drop _ _ _ _ h h2, if_neg (by rw [hr]; simp)]
      · rintro e W' (⟨rfl, hT, fk, n', g1, g2, g3, g4⟩ | ⟨rfl, hT, hr⟩)
        · rw [List.drop_eq_nil_of_le (Nat.le_refl _), List.drop_eq_nil_of_le (by omega), matchDs] at g4
          rw [List.take_length] at g1
          exact ⟨hT, .inl ⟨rfl, by rw [g4], n', by omega, by rw [g4]; exact g2⟩⟩
        · exact ⟨hT, .inr ⟨rfl, hr⟩⟩
    · refine (equalFunc_len p.a v.a p.l p.c v.l v.c (.func 30) #[.map (some bm)] #[] w0 (by rw [hl1, hl2]; simp; omega)).mono ?_
      rintro e W' ⟨rfl, rfl⟩
      exact ⟨Turns.refl _ _, .inr ⟨rfl, matchDs_len _ _ _ hlen⟩⟩
  obtain ⟨r, hr⟩ : ∃ r, r = matchDs f p.kids v.kids := ⟨_, rfl⟩
  rw [← hr] at hC ⊢
  rw [hw0] at hC
  replace hC := Lib.hid hC
  clear ih hm hm0 hE hp hv hmm hp0 hv0 hE0 hk1 hk2 hl1 hl2 hlc1 hlc2 hc1 hc2 hsz hr hO hOk
  go_enter Try.func30, Try.ntmps30
  go_wp2_with fail
  refine (hC.out).mono ?_
  rintro e w1 ⟨hT, hcase⟩
  rw [← hw0] at hT
  have hTT := Lib.hid ((Turns.of0 hB0 : Turns (fun b => b = bm) w w0).trans hT)
  rcases hcase with ⟨rfl, hr1, hr2⟩ | ⟨rfl, hr1⟩
  · replace hr1 := Lib.hid hr1
    replace hr2 := Lib.hid hr2
    clear hT
    go_wp2_with fail
    go_ret
    exact ⟨hTT.out, .inl ⟨rfl, hr1.out, hr2.out⟩⟩
  · replace hr1 := Lib.hid hr1
    clear hT
    go_wp2_with fail
    go_ret
    exact ⟨hTT.out, .inr ⟨rfl, hr1.out⟩⟩

theorem match_any (N : Nat) : MatchSpec N := by
  induction N with
  | zero => intro d _ _ _ _ _ _ h; have := dsize_pos d; omega
  | succ N ih =>
    intro p v n₀ w bm nb f hs hp hv hn0 hn hm hE hc hO
    by_cases h1 : p.op = 1
    · obtain ⟨o1, -⟩ := hO.open
      rw [DT.tm_op, DT.tm_n] at o1
      exact match_var p v n₀ w bm nb f hv hn0 hn hm hE hc h1 (o1 (.inl h1))
    · exact match_node N ih p v n₀ w bm nb f hs hp hv hn0 hn hm hE hc hO h1

end Go.Proofs.Ythlegfegkopdkaa

namespace Go.Proofs.Ythlegfegkopdkaa
open Go.RowKit Go.Shelf
attribute [local go_sem] Oper.semAt_some

theorem mem_pres (ds : List DT) (dep k : Nat) (h : k < ds.length) {x : Nd} (hx : x ∈ ds[k].pre dep) : x ∈ pres ds dep := by
  have hp := pres_prefix ds dep (k + 1)
  rw [pres_take_succ ds dep k h] at hp
  exact hp.subset (List.mem_append.2 (.inr hx))

set_option maxRecDepth 100000 in
set_option maxHeartbeats 4000000 in
theorem visitG_in (G : Nd → Prop) (l n₀ B Bv By Bk N : Nat) (J Jx : List Nd → World → Prop) (hal : ∀ s W o, J s W → J s (W.alloc o)) (hBv : B ≤ Bv) (hBy : B ≤ By) (hBk : B ≤ Bk) (hnB : n₀ ≤ B)
    (hY : ∀ m pre x W, G x → J pre W → pre.length < N → YieldAt Fence.wide m Try.prog l #[.int .i64 (x.1 : Nat), .agg #[.int .i64 x.2.op, .int .i64 x.2.n, .slice x.2.a x.2.l x.2.c]] W fun e W' =>
      (e = .returned (.bool true) ∧ J (pre ++ [x]) W' ∧ Keep n₀ B W W') ∨ (e = .returned (.bool false) ∧ Jx (pre ++ [x]) W')) (M : Nat) :
    ∀ (d : DT) (dep : Nat) (pre : List Nd) (W : World), (∀ x ∈ d.pre dep, G x) → d.size ≤ M → dep + d.size ≤ 4611686018427387904 → Lies n₀ W d → J pre W → pre.length + d.size ≤ N →
      W.cell? ⟨Bv, 0, none⟩ = some (.func (.func 88) #[] (visV By Bk Bv)) → W.cell? ⟨By, 0, none⟩ = some (.func (.yield l) #[] #[]) → W.cell? ⟨Bk, 0, none⟩ = some (.func (.func 62) #[] #[]) →
      Calls Try.prog 88 #[.int .i64 (dep : Nat), .agg #[.int .i64 d.op, .int .i64 d.n, .slice d.a d.l d.c], .pointer (some ⟨By, 0, none⟩), .pointer (some ⟨Bk, 0, none⟩), .pointer (some ⟨Bv, 0, none⟩)] W fun e W' =>
        (e = .returned (.bool true) ∧ J (pre ++ d.pre dep) W' ∧ Keep n₀ B W W') ∨ (e = .returned (.bool false) ∧ ∃ q, q <+: d.pre dep ∧ Jx (pre ++ q) W') := by
  induction M with
  | zero => intro d _ _ _ _ h; have := dsize_pos d; omega
  | succ M ih =>
    intro d dep pre W hG hs hdep hL hJ hN hcv hcy hck
    replace hG := Lib.hid hG
    replace ih := Lib.hid ih
    obtain ⟨hl, hlc, hc, hk⟩ := hL.open
    replace hl := Lib.hid hl
    have hsz := Lib.hid (dsize_eq d)
    have hBvl := lt_cell hcv
    have hByl := lt_cell hcy
    obtain ⟨W1, hW1⟩ : ∃ W1, W1 = W.alloc (.cells #[.int .i64 d.op, .int .i64 d.n, .slice d.a d.l d.c] 32) := ⟨_, rfl⟩
    have hK1 : Keep n₀ B W W1 := by
      rw [hW1]; exact (Keep.refl n₀ B W).alloc (by omega) _
    have hJ1 : J pre W1 := by rw [hW1]; exact hal _ _ _ hJ
    obtain ⟨fn, tmps, assign, body, hy, hR⟩ := hY 1 pre (dep, d) W1 (hG.out _ (by rw [pre_eq]; exact List.mem_cons_self ..)) hJ1 (by have := dsize_pos d; omega)
    rw [hW1] at hy
    refine callsIn_wide (n := 2) |>.1 ?_
    refine callsIn_of_wp Try.func88 rfl trivial ?_ rfl
    simp only [Try.ntmps88, List.size_toArray, List.length_cons, List.length_nil, Nat.reduceAdd, Nat.reduceSub, Array.replicate_succ, Array.replicate_zero, List.push_toArray, List.append_toArray, List.nil_append, List.cons_append]
    gi_wp2_with fail
    rw [hW1] at hR
    refine hR.mono ?_
    rintro e W2 (⟨rfl, hJ2, hk2⟩ | ⟨rfl, hx2⟩)
    · rw [← hW1] at hk2
      have hz1 : W1.heap.size = W.heap.size + 1 := by rw [hW1]; simp
      have q1 : (W1.cell? ⟨W.heap.size, 0, none⟩ = some (.int .i64 d.op) ∧ W1.cell? ⟨W.heap.size, 1, none⟩ = some (.int .i64 d.n)) ∧ W1.cell? ⟨W.heap.size, 2, none⟩ = some (.slice d.a d.l d.c) := by rw [hW1]; exact ⟨⟨by go_cell, by go_cell⟩, by go_cell⟩
      obtain ⟨⟨q1, q2⟩, q3⟩ := q1
      replace q1 := hk2.cell (by omega) q1
      replace q2 := hk2.cell (by omega) q2
      replace q3 := hk2.cell (by omega) q3
      have hz2 := hk2.below.size
      have hKt := hK1.trans hk2
      have q4 := hKt.cell hBv hcv
      have q5 := hKt.cell hBy hcy
      have q6 := hKt.cell hBk hck
      have hBk2 := lt_cell q6
      obtain ⟨W3, hW3⟩ : ∃ W3, W3 = W2.alloc (.cells #[.int .i64 d.op, .int .i64 d.n, .slice d.a d.l d.c] 32) := ⟨_, rfl⟩
      have hK3 : Keep n₀ B W2 W3 := by rw [hW3]; exact (Keep.refl n₀ B W2).alloc (by omega) _
      have hKd := Lib.hid (callsIn_wide (n := 1) |>.2 (kids_any d W2))
      have hst : Hid (J (pre ++ [(dep, d)]) W3 ∧ Keep n₀ B W2 W3) := Lib.hid ⟨by rw [hW3]; exact hal _ _ _ hJ2, hK3⟩
      -- the visit of a kid
      have hV : Hid (∀ k (hlt : k < d.kids.length) Wk, J (pre ++ [(dep, d)] ++ pres (d.kids.take k) (dep + 1)) Wk → Keep n₀ B W2 Wk →
          (∃ b off, d.a = some ⟨b, off, none⟩ ∧ Cells3 Wk b (off + k * 3) d.kids[k].op d.kids[k].n d.kids[k].a d.kids[k].l d.kids[k].c) ∧ Wk.cell? ⟨Bv, 0, none⟩ = some (.func (.func 88) #[] (visV By Bk Bv)) ∧ Bv < Wk.heap.size ∧
          CallsIn Fence.wide 1 Try.prog 88 #[.int .i64 ((dep : Int) + 1), .agg #[.int .i64 d.kids[k].op, .int .i64 d.kids[k].n, .slice d.kids[k].a d.kids[k].l d.kids[k].c], .pointer (some ⟨By, 0, none⟩), .pointer (some ⟨Bk, 0, none⟩), .pointer (some ⟨Bv, 0, none⟩)] (Wk.alloc (.cells #[.int .i64 d.kids[k].op, .int .i64 d.kids[k].n, .slice d.kids[k].a d.kids[k].l d.kids[k].c] 32)) fun e W' =>
            (e = .returned (.bool true) ∧ J (pre ++ [(dep, d)] ++ pres (d.kids.take (k + 1)) (dep + 1)) W' ∧ Keep n₀ B W2 W') ∨ (e = .returned (.bool false) ∧ ∃ q, q <+: pres d.kids (dep + 1) ∧ Jx (pre ++ [(dep, d)] ++ q) W')) := Lib.hid (fun k hlt Wk hj hkw => by
        rcases hk with hk | ⟨b, off, ha, hb, hks⟩
        · rw [hk] at hlt; simp at hlt
        · have hk3 := hKt.trans hkw
          have hd1 := dsize_kid d.kids k hlt
          have hd2 := hsz.out
          have hLk := ((LiesAll.get _ hks k hlt).2).below hk3.below
          have hvz := hkw.below.size
          have hbx : Keep n₀ B Wk (Wk.alloc (.cells #[.int .i64 d.kids[k].op, .int .i64 d.kids[k].n, .slice d.kids[k].a d.kids[k].l d.kids[k].c] 32)) := (Keep.refl _ _ _).alloc (by omega) _
          have hV := ih.out d.kids[k] (dep + 1) (pre ++ [(dep, d)] ++ pres (d.kids.take k) (dep + 1)) (Wk.alloc (.cells #[.int .i64 d.kids[k].op, .int .i64 d.kids[k].n, .slice d.kids[k].a d.kids[k].l d.kids[k].c] 32)) (fun x hx => hG.out x (by rw [pre_eq]; exact List.mem_cons_of_mem _ (mem_pres d.kids (dep + 1) k hlt hx))) (by omega) (by omega) (hLk.below hbx.below) (hal _ _ _ hj)
            (by simp only [List.length_append, List.length_singleton, pres_length]; omega) (hbx.cell hBv (hkw.cell hBv q4)) (hbx.cell hBy (hkw.cell hBy q5)) (hbx.cell hBk (hkw.cell hBk q6))
          refine ⟨⟨b, off, ha, ((LiesAll.get _ hks k hlt).1).below hk3.below hb⟩, hkw.cell hBv q4, lt_cell (hkw.cell hBv q4), callsIn_wide (n := 1) |>.2 (hV.mono ?_)⟩
          rintro e W' (⟨rfl, hj', hkk⟩ | ⟨rfl, q, hq, hx⟩)
          · refine .inl ⟨rfl, ?_, (hkw.trans hbx).trans hkk⟩
            rw [pres_take_succ d.kids (dep + 1) k hlt, ← List.append_assoc]; exact hj'
          · refine .inr ⟨rfl, pres (d.kids.take k) (dep + 1) ++ q, ?_, by rw [← List.append_assoc]; exact hx⟩
            have hp := pres_prefix d.kids (dep + 1) (k + 1)
            rw [pres_take_succ d.kids (dep + 1) k hlt] at hp
            exact ((List.prefix_append_right_inj _).2 hq).trans hp)
      replace hJ2 := Lib.hid hJ2
      replace hk2 := Lib.hid hk2
      replace hKt := Lib.hid hKt
      replace hK1 := Lib.hid hK1
      replace hk := Lib.hid hk
      obtain ⟨op, hop⟩ : ∃ x, x = d.op := ⟨_, rfl⟩
      clear q4 q5 hop op
      gi_wp2_with fail
      refine ⟨trivial, hKd.out.mono ?_⟩
      rintro e W4 ⟨rfl, hW4⟩
      rw [← hW3] at hW4
      obtain rfl := hW4
      clear hKd hW3 hK3
      rw [hl.out]
      have hlz : Hid (d.kids.length ≤ 9223372036854775807) := Lib.hid (by have := hl.out; omega)
      have hlz' := hlz.out
      have hdd : (dep : Int) + 1 ≤ 4611686018427387904 := by have := dsize_pos d; omega
      gi_wp2_with fail
      gi_loopw [9, 19] (fun _ i wr => ∃ k : Nat, k ≤ d.kids.length ∧ i = .int .i64 (k : Nat) ∧ Hid (J (pre ++ [(dep, d)] ++ pres (d.kids.take k) (dep + 1)) wr ∧ Keep n₀ B W2 wr)) (fun _ i _ => d.kids.length - (intOf i).toNat)
      case atStart => exact ⟨0, by omega, rfl, Lib.hid ⟨by simpa [pres] using hst.out.1, hst.out.2⟩⟩
      case round =>
        obtain ⟨k, hkl, rfl, hI⟩ := hrel
        by_cases hlt : k < d.kids.length
        · obtain ⟨⟨b, off, ha, d0, d1, d2⟩, hcv', hbv', hC⟩ := hV.out k hlt wr hI.out.1 hI.out.2
          replace hC := Lib.hid hC
          rw [ha]
          gi_wp2_with fail
          refine ⟨trivial, hC.out.mono ?_⟩
          rintro e W5 (⟨rfl, hj5, hk5⟩ | ⟨rfl, hst5⟩)
          · have hj5' := Lib.hid (And.intro hj5 hk5)
            clear hj5 hk5
            gi_wp2_with fail
            go_roundw
            case rel => exact ⟨k + 1, by omega, by go_num, hj5'⟩
            case measure => simp [intOf]; omega
          · replace hst5 := Lib.hid hst5
            gi_wp2_with fail
            go_ret
            obtain ⟨q, hq, hx⟩ := hst5.out
            refine .inr ⟨rfl, (dep, d) :: q, ?_, by simpa using hx⟩
            rw [pre_eq]
            exact List.cons_prefix_cons.2 ⟨rfl, hq⟩
        · have hke : k = d.kids.length := by omega
          subst hke
          gi_wp2_with fail
          go_ret
          refine .inl ⟨rfl, ?_, hKt.out.trans hI.out.2⟩
          rw [pre_eq]
          have := hI.out.1
          rw [List.take_length] at this
          simpa using this
    · replace hx2 := Lib.hid hx2
      gi_wp2_with fail
      go_ret
      refine .inr ⟨rfl, [(dep, d)], ?_, hx2.out⟩
      rw [pre_eq]
      exact List.cons_prefix_cons.2 ⟨rfl, List.nil_prefix⟩

set_option maxRecDepth 100000 in
set_option maxHeartbeats 2000000 in
/-- The iterator's function: a range over a term's nodes. -/
theorem nodes1G_in (G : Nd → Prop) (l n₀ B Bt Bk : Nat) (hnB : n₀ ≤ B) (hBk : B ≤ Bk) (d : DT) (J Jx : List Nd → World → Prop) (hal : ∀ s W o, J s W → J s (W.alloc o)) (hs : 1 + d.size ≤ 4611686018427387904)
    (hY : ∀ m pre x W, G x → J pre W → pre.length < d.size → YieldAt Fence.wide m Try.prog l #[.int .i64 (x.1 : Nat), .agg #[.int .i64 x.2.op, .int .i64 x.2.n, .slice x.2.a x.2.l x.2.c]] W fun e W' =>
      (e = .returned (.bool true) ∧ J (pre ++ [x]) W' ∧ Keep n₀ B W W') ∨ (e = .returned (.bool false) ∧ Jx (pre ++ [x]) W'))
    (W : World) (hG : ∀ x ∈ d.pre 1, G x) (hB : B ≤ W.heap.size) (hL : Lies n₀ W d) (hc : Cells3 W Bt 0 d.op d.n d.a d.l d.c) (hck : W.cell? ⟨Bk, 0, none⟩ = some (.func (.func 62) #[] #[])) (h0 : J [] W) :
    CallsIn Fence.wide 2 Try.prog 87 #[.func (.yield l) #[] #[], .pointer (some ⟨Bk, 0, none⟩), .pointer (some ⟨Bt, 0, none⟩)] W fun e W' => (∃ v, e = .returned v) ∧
      ((∃ ys, ys = d.pre 1 ∧ J ys W') ∨ (∃ pre, pre <+: d.pre 1 ∧ Jx pre W')) := by
  have hBt := lt_cell hc.c0
  have hBkl := lt_cell hck
  obtain ⟨c0, c1, c2⟩ := hc
  obtain ⟨W1, hW1⟩ : ∃ W1, W1 = ((W.alloc (.cells #[.func (.yield l) #[] #[]] 133)).alloc (.cells #[.func (.func 88) #[] (visV W.heap.size Bk (W.heap.size + 1))] 133)) := ⟨_, rfl⟩
  have hK1 : Keep n₀ B W W1 := by
    rw [hW1]; exact ((Keep.refl n₀ B W).alloc (by omega) _).alloc (by simp; omega) _
  have hV := visitG_in G l n₀ B (W.heap.size + 1) W.heap.size Bk d.size J Jx hal (by omega) (by omega) hBk hnB hY d.size d 1 [] W1 hG (Nat.le_refl _) hs (hL.below hK1.below) (by rw [hW1]; exact hal _ _ _ (hal _ _ _ h0)) (by simp) (by rw [hW1]; go_cell) (by rw [hW1]; go_cell) (hK1.cell hBk hck)
  rw [hW1, show ((1 : Nat) : Int) = 1 from rfl] at hV
  replace hV := Lib.hid (callsIn_wide (n := 1) |>.2 hV)
  refine callsIn_of_wp Try.func87 rfl trivial ?_ rfl
  simp only [Try.ntmps87, List.size_toArray, List.length_cons, List.length_nil, Nat.reduceAdd, Nat.reduceSub, Array.replicate_succ, Array.replicate_zero, List.push_toArray, List.append_toArray, List.nil_append, List.cons_append]
  clear hW1 hK1 hck
  gi_wp2_with fail
  refine ⟨trivial, hV.out.mono ?_⟩
  rintro e W2 (⟨rfl, hj, hk⟩ | ⟨rfl, hst⟩)
  · replace hj := Lib.hid hj
    clear hk
    gi_wp2_with fail
    go_end0
    exact ⟨⟨_, rfl⟩, .inl ⟨_, rfl, by simpa using hj.out⟩⟩
  · replace hst := Lib.hid hst
    gi_wp2_with fail
    go_end0
    obtain ⟨q, hq, hx⟩ := hst.out
    exact ⟨⟨_, rfl⟩, .inr ⟨q, hq, by simpa using hx⟩⟩

/-- 'nodes(t)' is an iterator over t's nodes, each of which holds what all of them hold. -/
theorem nodesG_stops (G : Nd → Prop) (n n₀ Bt Bk : Nat) (d : DT) (w : World) (hG : ∀ x ∈ d.pre 1, G x) (hs : 1 + d.size ≤ 4611686018427387904) (hn : n₀ ≤ Bk) (hL : Lies n₀ w d) (hc : Cells3 w Bt 0 d.op d.n d.a d.l d.c) (hck : w.cell? ⟨Bk, 0, none⟩ = some (.func (.func 62) #[] #[])) :
    SeqStopsK Fence.wide n Try.prog 87 #[.pointer (some ⟨Bk, 0, none⟩), .pointer (some ⟨Bt, 0, none⟩)] (fun x : {x : Nd // G x} => #[.int .i64 (x.1.1 : Nat), .agg #[.int .i64 x.1.2.op, .int .i64 x.1.2.n, .slice x.1.2.a x.1.2.l x.1.2.c]]) (Keep n₀ Bk) (fun ys => ys.map (·.1) = d.pre 1) (fun pre => pre.map (·.1) <+: d.pre 1) d.size w :=
  fun l J Jx W hW hJ _ hY h0 => by
    have hal : ∀ s W o, (∃ q : List {x : Nd // G x}, q.map (·.1) = s ∧ J q W) → (∃ q : List {x : Nd // G x}, q.map (·.1) = s ∧ J q (W.alloc o)) := fun s W' o h => by
      obtain ⟨q, hq, h⟩ := h
      exact ⟨q, hq, hJ q W' _ none h (World.grownBy_alloc W' o none) (fun r e => by cases e)⟩
    have hBk := lt_cell hck
    have hcW := (hW.cell (p := ⟨Bk, 0, none⟩) hBk).trans hck
    refine callsIn_wide.2 (callsIn_wide (n := 2) |>.1 ?_)
    refine (nodes1G_in G l n₀ Bk Bt Bk hn (Nat.le_refl _) d (fun s W => ∃ q : List {x : Nd // G x}, q.map (·.1) = s ∧ J q W) (fun s W => ∃ q : List {x : Nd // G x}, q.map (·.1) = s ∧ Jx q W) hal hs (fun m pre x W1 hx hj hlt => by
      obtain ⟨q, rfl, hj⟩ := hj
      obtain ⟨fn, tmps, assign, body, hy, hR⟩ := hY q ⟨x, hx⟩ W1 hj (by simpa using hlt)
      refine ⟨fn, tmps, assign, body, hy, RoundIn.mono ⟨hR.1, fun c cs _ => hR.2 c cs (fun d h => by cases h)⟩ ?_⟩
      rintro e w' (⟨h1, h2, h3⟩ | ⟨h1, h2⟩)
      · exact .inl ⟨h1, ⟨q ++ [⟨x, hx⟩], by simp, h2⟩, h3⟩
      · exact .inr ⟨h1, q ++ [⟨x, hx⟩], by simp, h2⟩) W hG (by have := hW.size; omega) (hL.below (hW.mono (by omega))) (hc.below hW (lt_cell hc.c0)) hcW ⟨[], rfl, h0⟩).mono ?_
    rintro e W' ⟨h1, h2⟩
    refine ⟨h1, ?_⟩
    rcases h2 with ⟨ys, rfl, q, hq, hj⟩ | ⟨pre, hpre, q, rfl, hj⟩
    · exact .inl ⟨q, hq, hj⟩
    · exact .inr ⟨q, hpre, hj⟩

end Go.Proofs.Ythlegfegkopdkaa

namespace Go.Proofs.Ythlegfegkopdkaa
open Go.RowKit Go.Shelf
attribute [local go_sem] Oper.semAt_some

def patOk (met : Nat → Bool) (op n : Int) : Bool := (op == 1 && !met n.toNat) || op == 3
def metN (met : Nat → Bool) (op n : Int) : Nat → Bool := if op = 1 then setB met n.toNat true else met
def patRun : List Nd → (Nat → Bool) → Bool
  | [], _ => true
  | x :: r, met => patOk met x.2.op x.2.n && patRun r (metN met x.2.op x.2.n)
def metsOf : List Nd → (Nat → Bool) → Nat → Bool
  | [], met => met
  | x :: r, met => metsOf r (metN met x.2.op x.2.n)
theorem patRun_append : ∀ (a b : List Nd) (met : Nat → Bool), patRun (a ++ b) met = (patRun a met && patRun b (metsOf a met))
  | [], b, met => by simp [patRun, metsOf]
  | x :: r, b, met => by simp only [List.cons_append, patRun, metsOf, patRun_append r b, Bool.and_assoc]
theorem metsOf_append : ∀ (a b : List Nd) (met : Nat → Bool), metsOf (a ++ b) met = metsOf b (metsOf a met)
  | [], b, met => rfl
  | x :: r, b, met => by simp only [List.cons_append, metsOf]; exact metsOf_append r b _
def patternB (d : DT) : Bool := patRun (d.pre 1) (fun _ => false)

mutual
theorem okV_pre : ∀ (d : DT) (dep : Nat), OkV d.tm → ∀ x ∈ d.pre dep, x.2.op = 1 → 0 ≤ x.2.n ∧ x.2.n < 20
  | .mk op n a l c ks, dep, h => by
    rw [DT.tm, OkV] at h
    rw [DT.pre]
    intro x hx e
    rcases List.mem_cons.1 hx with hx | hx
    · subst hx; exact h.1 (.inl e)
    · exact okVs_pres ks (dep + 1) h.2.2.2 x hx e
theorem okVs_pres : ∀ (ds : List DT) (dep : Nat), OkVs (tms ds) → ∀ x ∈ pres ds dep, x.2.op = 1 → 0 ≤ x.2.n ∧ x.2.n < 20
  | [], dep, _ => by simp [pres]
  | d :: ds, dep, h => by
    rw [tms, OkVs] at h
    rw [pres]
    intro x hx e
    rcases List.mem_append.1 hx with hx | hx
    · exact okV_pre d dep h.1 x hx e
    · exact okVs_pres ds dep h.2 x hx e
end

/-- A node whose variable, where it is one, is in range. -/
abbrev GNd : Type := {x : Nd // x.2.op = 1 → 0 ≤ x.2.n ∧ x.2.n < 20}
def gl (q : List GNd) : List Nd := q.map (·.1)
theorem gl_snoc (q : List GNd) (x : GNd) : gl (q ++ [x]) = gl q ++ [x.1] := by simp [gl]

theorem set_own (B : Nat) (F : List GNd → Nat → Bool) : Own (fun (pre : List GNd) W => SetAt W B (F pre)) := fun s X Y row hs hg hrow => by
  refine (hg.block B (Array.getElem?_eq_some_iff.1 hs).1 (fun e => ?_)).trans hs
  obtain ⟨o, ho, hc⟩ := hrow B e.symm
  rw [show X.heap[B]? = _ from hs] at ho
  cases ho; simp [Obj.isCells] at hc
theorem Keep.setAt {n₀ B b : Nat} (W : World) (h1 : n₀ ≤ b) (h2 : b < B) (i : Nat) (v : Value) : Keep n₀ B W (W.setCell ⟨b, i, none⟩ v) :=
  ⟨(Below.refl _ _).setCell (p := ⟨b, i, none⟩) h1 v, fun k cs ty fr hB hk => by rw [Below.heap_setCell _ _ _ _ (by simp; omega)]; exact hk⟩

set_option maxRecDepth 100000 in
set_option maxHeartbeats 2000000 in
/-- 'isPattern'. -/
theorem isPattern_any (d : DT) (n₀ : Nat) (w : World) (hs : 1 + d.size ≤ 1000000) (hn : n₀ ≤ w.heap.size) (hL : Lies n₀ w d) (hO : OkV d.tm) :
    Calls Try.prog 33 #[.agg #[.int .i64 d.op, .int .i64 d.n, .slice d.a d.l d.c]] w fun e w' => e = .returned (.bool (patternB d)) ∧ Below w.heap.size w w' := by
  refine callsIn_wide (n := 10) |>.1 ?_
  refine callsIn_of_wp_marks Try.func33 rfl trivial ?_ rfl
  simp only [Try.ntmps33, List.size_toArray, List.length_cons, List.length_nil, Nat.reduceAdd, Nat.reduceSub, Array.replicate_succ, Array.replicate_zero, List.push_toArray, List.append_toArray, List.nil_append, List.cons_append]
  gi_wp2_with (refine ⟨trivial, ?_⟩; gi_at_call 39; refine (callsIn_wide.2 (tnodes_any d _)).mono ?_; rintro e w' ⟨rfl, rfl⟩)
  have hB0 : Below w.heap.size w ((((((w.alloc (bx d)).alloc (.cells #[.bool false] 4)).alloc zs).alloc (bx d)).alloc (bx d)).alloc kbx) := by go_grown
  have b1 := ((((Boxed.new (w.alloc (bx d)) 4 (.bool false)).alloc zs).alloc (bx d)).alloc (bx d)).alloc kbx
  have b2 := nw_top (((w.alloc (bx d)).alloc (.cells #[.bool false] 4)).alloc zs) d
  have bk := nw_kids (((w.alloc (bx d)).alloc (.cells #[.bool false] 4)).alloc zs) d
  have b3 := (((SetAt.none ((w.alloc (bx d)).alloc (.cells #[.bool false] 4))).alloc (bx d)).alloc (bx d)).alloc kbx
  rw [World.size_alloc] at b1
  rw [World.size_alloc, World.size_alloc, World.size_alloc] at b2 bk
  rw [World.size_alloc, World.size_alloc] at b3
  refine wpIn_rangeFunc_ownH rfl (by omega) (gf := 87) (lb := nlb (w.heap.size + 1 + 1 + 1)) rfl trivial (enters_of Try.func87 (by kernel_rfl) rfl)
    (nodesG_stops (fun x => x.2.op = 1 → 0 ≤ x.2.n ∧ x.2.n < 20) _ w.heap.size (w.heap.size + 1 + 1 + 1 + 1) (w.heap.size + 1 + 1 + 1 + 1 + 1) d _ (okV_pre d 1 hO) (by omega) (by omega) ((hL.below (hB0.mono hn)).wider hn) b2 bk) Keep.kt (Keep.kb (by simp; omega)) (Below.refl _ _) (fun _ => rfl)
    (fun pre W => (((patRun (gl pre) (fun _ => false) = true) ∧ Boxed W (w.heap.size + 1) 4 (.bool false)) ∧ SetAt W (w.heap.size + 1 + 1) (metsOf (gl pre) (fun _ => false))) ∧ Below w.heap.size w W)
    (fun c pre W => ((c = .ret ∧ patRun (gl pre) (fun _ => false) = false) ∧ Boxed W (w.heap.size + 1) 4 (.bool false)) ∧ Below w.heap.size w W)
    (OwnFrom.and (OwnFrom.and (OwnFrom.and (ownFrom_pure _ _) (Own.from (boxed_own _ _ _) _)) (Own.from (set_own _ _) _)) (ownFrom_below (Nat.le_refl _) (by simp; omega)))
    (fun c => OwnFrom.and (OwnFrom.and (ownFrom_pure _ _) (Own.from (boxed_own _ _ _) _)) (ownFrom_below (Nat.le_refl _) (by simp; omega)))
    ⟨⟨⟨rfl, b1⟩, b3⟩, hB0⟩
    (fun x a' W => ∃ Bx, w.heap.size + 1 + 1 < Bx ∧ Box3 W Bx x.1.2 ∧ a' = { tmps := #[.agg #[.int .i64 d.op, .int .i64 d.n, .slice d.a d.l d.c], .pointer (some ⟨w.heap.size, 0, none⟩), .pointer (some ⟨w.heap.size + 1, 0, none⟩), .pointer (some ⟨w.heap.size + 1 + 1, 0, none⟩), undef, .pointer (some ⟨Bx, 0, none⟩), .agg #[.int .i64 d.op, .int .i64 d.n, .slice d.a d.l d.c], .func (.func 87) #[] (nlb (w.heap.size + 1 + 1 + 1)), .int .i64 (x.1.1 : Nat), .agg #[.int .i64 x.1.2.op, .int .i64 x.1.2.n, .slice x.1.2.a x.1.2.l x.1.2.c], undef, undef, undef, undef, undef, undef, undef, undef, undef, undef, undef, undef, undef, undef, undef, undef, undef, undef], defers := [] })
    (fun x a' _ X Y row hs hg hr => by obtain ⟨Bx, e1, e2, e3⟩ := hs; exact ⟨Bx, e1, Box3.own (β := Unit) Bx x.1.2 () X Y row e2 hg (fun r e => (hr r e).2), e3⟩)
    ?assign ?body ?done ?stop
  case assign =>
    rintro l pre x W K ⟨⟨⟨hp, hbx⟩, hst⟩, hB⟩ hK
    simp only [List.zip_toArray, List.zip_cons_cons, List.zip_nil_right, List.size_toArray]
    gi_wp2
    exact hK _ _ ((KeepsOthers.alloc _ _).from _) ((Keep.refl _ _ W).alloc hB.size _) ⟨⟨⟨hp, hbx.alloc _⟩, hst.alloc _⟩, hB.alloc hB.size _⟩ ⟨W.heap.size, hst.lt, Box3.new W x.1.2, rfl⟩
  case body =>
    rintro l pre x a' W hl _ ⟨⟨⟨hp, hbx⟩, hst⟩, hB⟩ ⟨Bx, hBx, b3, rfl⟩ hlt
    obtain ⟨c0, c1, c2⟩ := b3.cells
    have r1 := hbx.cell
    have r2 := hbx.frozen
    have hrun := patRun_append (gl pre) [x.1] (fun _ => false)
    rw [← gl_snoc, hp, Bool.true_and] at hrun
    simp only [patRun, Bool.and_true] at hrun
    have hmet := metsOf_append (gl pre) [x.1] (fun _ => false)
    rw [← gl_snoc] at hmet
    simp only [metsOf] at hmet
    obtain ⟨M, hM⟩ : ∃ M, M = metsOf (gl pre) (fun _ => false) := ⟨_, rfl⟩
    rw [← hM] at hst hrun hmet
    have hmet' := Lib.hid hmet
    have hbf := hbx.set (.bool false)
    by_cases h1 : x.1.2.op = 1
    · obtain ⟨k, hk⟩ : ∃ k : Nat, x.1.2.n = k := ⟨x.1.2.n.toNat, by have := (x.2 h1).1; omega⟩
      have hk20 : k < 20 := by have := (x.2 h1).2; omega
      have ho : (k : Int) < 20 := by omega
      have p1 := hst.cell hk20
      have p2 := hst.frozen k
      have e1 : (x.1.2.op == 1) = true := by simpa using h1
      have e3 : (x.1.2.op != 3) = true := by simp [h1]
      have hpk : patOk M x.1.2.op x.1.2.n = !M k := by simp [patOk, h1, hk]
      rw [hpk] at hrun
      rw [hk] at c1
      cases hMk : M k
      · rw [hMk] at p1 hrun
        have hend := Lib.hid (show (patRun (gl (pre ++ [x])) (fun _ => false) = true ∧ Boxed (W.setCell ⟨w.heap.size + 1 + 1, k, none⟩ (.bool true)) (w.heap.size + 1) 4 (.bool false)) ∧ SetAt (W.setCell ⟨w.heap.size + 1 + 1, k, none⟩ (.bool true)) (w.heap.size + 1 + 1) (metsOf (gl (pre ++ [x])) (fun _ => false)) from
          ⟨⟨hrun, by unfold Boxed; rw [Below.heap_setCell _ _ _ _ (by simp)]; exact hbx⟩, by rw [hmet]; unfold metN; rw [if_pos h1, hk]; exact hst.set hk20 true⟩)
        replace hst := Lib.hid hst
        replace hrun := Lib.hid hrun
        replace h1 := Lib.hid h1
        replace hk := Lib.hid hk
        replace hp := Lib.hid hp
        clear hM hmet hpk hMk
        gi_wp2
        exact ⟨(KeepsOthers.setCell _ _ _).from _, Keep.setAt _ (by omega) (by omega) _ _, hend.out, hB.setCell (p := ⟨w.heap.size + 1 + 1, k, none⟩) (by simp; omega) _⟩
      · rw [hMk] at p1 hrun
        replace hst := Lib.hid hst
        replace hrun := Lib.hid hrun
        replace h1 := Lib.hid h1
        replace hk := Lib.hid hk
        replace hp := Lib.hid hp
        clear hM hmet hpk hMk
        gi_wp2
        exact ⟨(KeepsOthers.setCell _ _ _).from _, ⟨⟨rfl, hrun.out⟩, hbf⟩, hB.setCell (p := ⟨w.heap.size + 1, 0, none⟩) (by simp) _⟩
    · have e1 : (x.1.2.op == 1) = false := by simpa using h1
      have hmet2 := Lib.hid (show metsOf (gl (pre ++ [x])) (fun _ => false) = M from by rw [hmet]; unfold metN; rw [if_neg h1])
      by_cases h3 : x.1.2.op = 3
      · have e3 : (x.1.2.op != 3) = false := by simp [h3]
        have hpk : patOk M x.1.2.op x.1.2.n = true := by simp [patOk, h3]
        rw [hpk] at hrun
        replace hrun := Lib.hid hrun
        replace h1 := Lib.hid h1
        replace h3 := Lib.hid h3
        replace hst := Lib.hid hst
        replace hp := Lib.hid hp
        clear hM hmet hpk
        gi_wp2
        exact ⟨(KeepsOthers.refl _).from _, Keep.refl _ _ _, ⟨⟨hrun.out, hbx⟩, by rw [hmet2.out]; exact hst.out⟩, hB⟩
      · have e3 : (x.1.2.op != 3) = true := by simpa using h3
        have hpk : patOk M x.1.2.op x.1.2.n = false := by simp [patOk, h3, h1]
        rw [hpk] at hrun
        replace hrun := Lib.hid hrun
        replace h1 := Lib.hid h1
        replace h3 := Lib.hid h3
        replace hst := Lib.hid hst
        replace hp := Lib.hid hp
        clear hM hmet hpk
        gi_wp2
        exact ⟨(KeepsOthers.setCell _ _ _).from _, ⟨⟨rfl, hrun.out⟩, hbf⟩, hB.setCell (p := ⟨w.heap.size + 1, 0, none⟩) (by simp) _⟩
  case done =>
    rintro D ys W hD hys ⟨⟨⟨hp, hbx⟩, hst⟩, hB⟩ hK
    have hbx' := hbx.set (.bool true)
    have hK' := (KeepsOthers.setCell W ⟨w.heap.size + 1, 0, none⟩ (.bool true)).same D _ hK rfl
    have r1 := hbx.cell
    have r2 := hbx.frozen
    replace hst := Lib.hid hst
    replace hp := Lib.hid hp
    gi_wp2
    refine ⟨by simp, .inl ⟨_, _, rfl, run_takeDeferred hK', ?_⟩⟩
    have hc5 := cell_kept hbx'.cell (grownBy_putObj' _ D (.deferred none)) (fun r e => by cases e; exact ⟨_, hK', rfl⟩)
    refine ⟨.bool true, ?_, by unfold patternB; rw [← hys]; exact congrArg _ (congrArg _ hp.out.symm), (hB.setCell (p := ⟨w.heap.size + 1, 0, none⟩) (by simp) _).trans (belowK_b (w := w) (Nat.le_refl _) _ D _ _ (by simp at hD; omega) hK' rfl rfl)⟩
    simp [results, Try.f33, go_sem, hc5]
  case stop =>
    rintro D c pre W hD hpre ⟨⟨⟨rfl, hx⟩, hbx⟩, hB⟩ hK
    have hpf : Hid (patternB d = false) := Lib.hid (by
      obtain ⟨r, hr⟩ := hpre
      unfold patternB
      rw [← hr, patRun_append]
      rw [show patRun (pre.map (·.1)) (fun _ => false) = false from hx]; rfl)
    clear hx hpre
    gi_wp2
    refine ⟨by simp, .inl ⟨_, _, rfl, run_takeDeferred hK, ?_⟩⟩
    have hc5 := cell_kept hbx.cell (grownBy_putObj' _ D (.deferred none)) (fun r e => by cases e; exact ⟨_, hK, rfl⟩)
    refine ⟨.bool false, ?_, by rw [hpf.out], hB.trans (belowK_b (w := w) (Nat.le_refl _) W D _ _ (by simp at hD; omega) hK rfl rfl)⟩
    simp [results, Try.f33, go_sem, hc5]

end Go.Proofs.Ythlegfegkopdkaa

namespace Go.Proofs.Ythlegfegkopdkaa
open Go.RowKit Go.Shelf

noncomputable def patA (s : Sg) (d : DT) : Bool := checkB s [d] && patternB d

set_option maxRecDepth 100000 in
set_option maxHeartbeats 1000000 in
/-- 'IsPattern'. -/
theorem IsPattern_any (s : Sg) (d : DT) (n₀ : Nat) (w : World) (ac : Option Addr) (lc cc : Nat) (af : Option Addr) (lf cf : Nat) (hs1 : 1 + d.size ≤ 1000000) (hn : n₀ ≤ w.heap.size) (hS : IsSg n₀ w s ac lc cc af lf cf) (hL1 : Lies n₀ w d) :
    Calls Try.prog 13 #[.agg #[.slice ac lc cc, .slice af lf cf], .agg #[.int .i64 d.op, .int .i64 d.n, .slice d.a d.l d.c]] w fun e w' =>
      e = .returned (.tuple #[.bool (patA s d), .int .i64 (errOf (checkB s [d]))]) ∧ Below w.heap.size w w' := by
  obtain ⟨W0, hW0⟩ : ∃ W0, W0 = (w.alloc (bs 27 ac lc cc af lf cf)).alloc (bx d) := ⟨_, rfl⟩
  have hB0 : Below w.heap.size w W0 := by rw [hW0]; go_grown
  have hz0 : W0.heap.size = w.heap.size + 1 + 1 := by rw [hW0]; simp
  have hl1 := hL1.below (hB0.mono hn)
  have hC := Check_any s d n₀ W0 ac lc cc af lf cf hs1 (by omega) (hS.below (hB0.mono hn)) hl1
  have a0 : W0.cell? ⟨w.heap.size + 1, 0, none⟩ = some (.int .i64 d.op) := by rw [hW0]; go_cell
  have a1 : W0.cell? ⟨w.heap.size + 1, 1, none⟩ = some (.int .i64 d.n) := by rw [hW0]; go_cell
  have a2 : W0.cell? ⟨w.heap.size + 1, 2, none⟩ = some (.slice d.a d.l d.c) := by rw [hW0]; go_cell
  cases hv : checkB s [d]
  · rw [hv] at hC
    have hv1 : Hid (patA s d = false) := Lib.hid (by unfold patA; rw [hv]; rfl)
    rw [hW0] at hC
    replace hC := Lib.hid hC
    have he : errOf false = 2 := rfl
    clear a0 a1 a2 hl1 hL1 hS hv
    go_enter Try.func13, Try.ntmps13
    go_wp2_with (go_at_call 19; refine (hC.out).mono ?_; rintro e w1 ⟨rfl, hbe⟩)
    go_ret2
    rw [hW0] at hB0
    exact ⟨by rw [hv1.out]; rfl, hB0.trans (hbe.mono (by simp; omega))⟩
  · have hO := OkV.checked hv (List.mem_singleton.2 rfl)
    have hF := fun (W : World) (hb : Below W0.heap.size W0 W) => isPattern_any d n₀ W hs1 (by have := hb.size; omega) (hl1.below (hb.mono (by omega))) hO
    rw [hv] at hC
    have hv1 : Hid (patA s d = patternB d) := Lib.hid (by unfold patA; rw [hv]; rfl)
    rw [hW0] at hC
    replace hC := Lib.hid hC
    replace hF := Lib.hid hF
    have he : errOf true = 0 := rfl
    clear hl1 hL1 hS hv hO
    go_enter Try.func13, Try.ntmps13
    go_wp2_with (first
      | (go_at_call 19; refine (hC.out).mono ?_; rintro e w1 ⟨rfl, hbe⟩
         have hb2 := Lib.hid (show Below W0.heap.size W0 w1 from by rw [hW0]; exact hbe)
         have a0' := (hb2.out.cell (p := ⟨w.heap.size + 1, 0, none⟩) (by simp; omega)).trans a0
         have a1' := (hb2.out.cell (p := ⟨w.heap.size + 1, 1, none⟩) (by simp; omega)).trans a1
         have a2' := (hb2.out.cell (p := ⟨w.heap.size + 1, 2, none⟩) (by simp; omega)).trans a2)
      | (go_at_call 33; refine (hF.out _ hb2.out).mono ?_; rintro e w2 ⟨rfl, hbe2⟩))
    go_ret2
    have h1 := hb2.out.size
    exact ⟨by rw [hv1.out]; rfl, hB0.trans ((hb2.out.mono (by omega)).trans (hbe2.mono (by omega)))⟩

end Go.Proofs.Ythlegfegkopdkaa

namespace Go.Proofs.Ythlegfegkopdkaa
open Go.RowKit Go.Shelf

theorem load_setIn {F : Fence} {n : Nat} {ops : Array Oper} {rest : List Oper} {o : Oper} {a : Act} {w : World} {Q : Exit → Act → World → Prop} (x : Operand) {B : Nat} {f : Nat → Bool} (h : SetAt w B f) (hgd : o.guard = none) (ho : o.op = .load 82 x)
    (hx : a.eval x = .pointer (some ⟨B, 0, none⟩)) (k : wpListIn F n Try.prog ops Q rest (a.put o.dst (.agg (vs f))) w) : wpListIn F n Try.prog ops Q (o :: rest) a w := by
  refine wpListIn_plain hgd fun K' hK' => ?_
  unfold Oper.wpIn
  refine ⟨by simp [Oper.about, ho], ?_⟩
  rw [Oper.semAt_plain F _ _ (by rw [ho]; intro c hc'; cases hc')]
  simp only [execOp, ho, hx, Instr.loadAt, Instr.sureAddr, Sem.run_bind, Sem.run_pure, Result.andThen_ok, run_loadVar_row w B 82 82 _ (0, 0) _ h u79 rfl (i79 _)]
  exact hK' _ _ k
theorem store_setIn {F : Fence} {n : Nat} {ops : Array Oper} {rest : List Oper} {o : Oper} {a : Act} {w : World} {Q : Exit → Act → World → Prop} (x y : Operand) {B : Nat} {f : Nat → Bool} (g : Nat → Bool) (h : SetAt w B f) (hgd : o.guard = none) (ho : o.op = .store 82 x y)
    (hx : a.eval x = .pointer (some ⟨B, 0, none⟩)) (hy : a.eval y = .agg (vs g)) (k : wpListIn F n Try.prog ops Q rest (a.put o.dst undef) (w.setRow B (vs g))) : wpListIn F n Try.prog ops Q (o :: rest) a w := by
  refine wpListIn_plain hgd fun K' hK' => ?_
  unfold Oper.wpIn
  refine ⟨by simp [Oper.about, ho], ?_⟩
  rw [Oper.semAt_plain F _ _ (by rw [ho]; intro c hc'; cases hc')]
  simp only [execOp, ho, hx, hy, Instr.storeAt, Instr.sureAddr, Sem.run_bind, Sem.run_pure, Result.andThen_ok, run_storeVar_row w B 82 82 (vs f) (vs g) h (i79 _) (by rw [vs_size, vs_size]) (vs_one _)]
  exact hK' _ _ k

/-- What the walk over all nodes adds to the set. -/
def standN (met : Nat → Bool) (op n : Int) : Nat → Bool := if op = 1 ∨ op = 8 then setB met n.toNat true else met
def standsOf : List Nd → (Nat → Bool) → Nat → Bool
  | [], met => met
  | x :: r, met => standsOf r (standN met x.2.op x.2.n)
theorem standsOf_append : ∀ (a b : List Nd) (met : Nat → Bool), standsOf (a ++ b) met = standsOf b (standsOf a met)
  | [], b, met => rfl
  | x :: r, b, met => by simp only [List.cons_append, standsOf]; exact standsOf_append r b _
mutual
def stT : Tm → (Nat → Bool) → Nat → Bool | .mk op n ks, met => stKs ks (standN met op n)
def stKs : List Tm → (Nat → Bool) → Nat → Bool | [], met => met | t :: ts, met => stKs ts (stT t met)
end
mutual
theorem stands_pre : ∀ (d : DT) (dep : Nat) (met : Nat → Bool), standsOf (d.pre dep) met = stT d.tm met
  | .mk op n _ _ _ ks, dep, met => by rw [DT.pre, DT.tm, stT, standsOf, stands_pres ks (dep + 1)]; rfl
theorem stands_pres : ∀ (ds : List DT) (dep : Nat) (met : Nat → Bool), standsOf (pres ds dep) met = stKs (tms ds) met
  | [], _, _ => by simp [pres, tms, stKs, standsOf]
  | d :: ds, dep, met => by rw [pres, tms, stKs, standsOf_append, stands_pre d dep, stands_pres ds dep]
end
mutual
theorem okV_pre8 : ∀ (d : DT) (dep : Nat), OkV d.tm → ∀ x ∈ d.pre dep, (x.2.op = 1 ∨ x.2.op = 8) → 0 ≤ x.2.n ∧ x.2.n < 20
  | .mk op n a l c ks, dep, h => by
    rw [DT.tm, OkV] at h
    rw [DT.pre]
    intro x hx e
    rcases List.mem_cons.1 hx with hx | hx
    · subst hx; exact h.1 e
    · exact okVs_pres8 ks (dep + 1) h.2.2.2 x hx e
theorem okVs_pres8 : ∀ (ds : List DT) (dep : Nat), OkVs (tms ds) → ∀ x ∈ pres ds dep, (x.2.op = 1 ∨ x.2.op = 8) → 0 ≤ x.2.n ∧ x.2.n < 20
  | [], dep, _ => by simp [pres]
  | d :: ds, dep, h => by
    rw [tms, OkVs] at h
    rw [pres]
    intro x hx e
    rcases List.mem_append.1 hx with hx | hx
    · exact okV_pre8 d dep h.1 x hx e
    · exact okVs_pres8 ds dep h.2 x hx e
end

end Go.Proofs.Ythlegfegkopdkaa

namespace Go.Proofs.Ythlegfegkopdkaa
open Go.RowKit Go.Shelf
attribute [local go_sem] Oper.semAt_some

/-- A node whose variable, where it is one or a TermLet, is in range. -/
abbrev G8 : Type := {x : Nd // (x.2.op = 1 ∨ x.2.op = 8) → 0 ≤ x.2.n ∧ x.2.n < 20}
def gl8 (q : List G8) : List Nd := q.map (·.1)
theorem gl8_snoc (q : List G8) (x : G8) : gl8 (q ++ [x]) = gl8 q ++ [x.1] := by simp [gl8]
theorem set_own8 (B : Nat) (F : List G8 → Nat → Bool) : Own (fun (pre : List G8) W => SetAt W B (F pre)) := fun s X Y row hs hg hrow => by
  refine (hg.block B (Array.getElem?_eq_some_iff.1 hs).1 (fun e => ?_)).trans hs
  obtain ⟨o, ho, hc⟩ := hrow B e.symm
  rw [show X.heap[B]? = _ from hs] at ho
  cases ho; simp [Obj.isCells] at hc

set_option maxRecDepth 100000 in
set_option maxHeartbeats 2000000 in
/-- 'standing'. -/
theorem standing_any (d : DT) (n₀ : Nat) (w : World) (hs : 1 + d.size ≤ 1000000) (hn : n₀ ≤ w.heap.size) (hL : Lies n₀ w d) (hO : OkV d.tm) :
    Calls Try.prog 45 #[.agg #[.int .i64 d.op, .int .i64 d.n, .slice d.a d.l d.c]] w fun e w' => e = .returned (.agg (vs (stT d.tm (fun _ => false)))) ∧ Below w.heap.size w w' := by
  refine callsIn_wide (n := 10) |>.1 ?_
  refine callsIn_of_wp_marks Try.func45 rfl trivial ?_ rfl
  simp only [Try.ntmps45, List.size_toArray, List.length_cons, List.length_nil, Nat.reduceAdd, Nat.reduceSub, Array.replicate_succ, Array.replicate_zero, List.push_toArray, List.append_toArray, List.nil_append, List.cons_append]
  gi_wp2_with (refine ⟨trivial, ?_⟩; gi_at_call 39; refine (callsIn_wide.2 (tnodes_any d _)).mono ?_; rintro e w' ⟨rfl, rfl⟩)
  have hB0 : Below w.heap.size w ((((((w.alloc (bx d)).alloc zs).alloc zs).alloc (bx d)).alloc (bx d)).alloc kbx) := by go_grown
  have b1 := (((SetAt.none1 w (bx d) zs).alloc (bx d)).alloc (bx d)).alloc kbx
  have b2 := nw_top (((w.alloc (bx d)).alloc zs).alloc zs) d
  have bk := nw_kids (((w.alloc (bx d)).alloc zs).alloc zs) d
  have b3 := (((SetAt.none ((w.alloc (bx d)).alloc zs)).alloc (bx d)).alloc (bx d)).alloc kbx
  rw [World.size_alloc, World.size_alloc, World.size_alloc] at b2 bk
  rw [World.size_alloc, World.size_alloc] at b3
  refine wpIn_rangeFunc_ownH rfl (by omega) (gf := 87) (lb := nlb (w.heap.size + 1 + 1 + 1)) rfl trivial (enters_of Try.func87 (by kernel_rfl) rfl)
    (nodesG_stops (fun x => (x.2.op = 1 ∨ x.2.op = 8) → 0 ≤ x.2.n ∧ x.2.n < 20) _ w.heap.size (w.heap.size + 1 + 1 + 1 + 1) (w.heap.size + 1 + 1 + 1 + 1 + 1) d _ (okV_pre8 d 1 hO) (by omega) (by omega) ((hL.below (hB0.mono hn)).wider hn) b2 bk) Keep.kt (Keep.kb (by simp; omega)) (Below.refl _ _) (fun _ => rfl)
    (fun pre W => (SetAt W (w.heap.size + 1) (fun _ => false) ∧ SetAt W (w.heap.size + 1 + 1) (standsOf (gl8 pre) (fun _ => false))) ∧ Below w.heap.size w W)
    (fun _ _ _ => False)
    (OwnFrom.and (OwnFrom.and (Own.from (set_own8 _ (fun _ _ => false)) _) (Own.from (set_own8 _ (fun pre => standsOf (gl8 pre) (fun _ => false))) _)) (ownFrom_below (Nat.le_refl _) (by simp; omega)))
    (fun _ _ _ _ _ hs _ _ => hs)
    ⟨⟨b1, b3⟩, hB0⟩
    (fun x a' W => ∃ Bx, w.heap.size + 1 + 1 < Bx ∧ Box3 W Bx x.1.2 ∧ a' = { tmps := #[.agg #[.int .i64 d.op, .int .i64 d.n, .slice d.a d.l d.c], .pointer (some ⟨w.heap.size, 0, none⟩), .pointer (some ⟨w.heap.size + 1, 0, none⟩), .pointer (some ⟨w.heap.size + 1 + 1, 0, none⟩), undef, .pointer (some ⟨Bx, 0, none⟩), .agg #[.int .i64 d.op, .int .i64 d.n, .slice d.a d.l d.c], .func (.func 87) #[] (nlb (w.heap.size + 1 + 1 + 1)), .int .i64 (x.1.1 : Nat), .agg #[.int .i64 x.1.2.op, .int .i64 x.1.2.n, .slice x.1.2.a x.1.2.l x.1.2.c], undef, undef, undef, undef, undef, undef, undef, undef, undef, undef, undef, undef], defers := [] })
    (fun x a' _ X Y row hs hg hr => by obtain ⟨Bx, e1, e2, e3⟩ := hs; exact ⟨Bx, e1, Box3.own (β := Unit) Bx x.1.2 () X Y row e2 hg (fun r e => (hr r e).2), e3⟩)
    ?assign ?body ?done ?stop
  case assign =>
    rintro l pre x W K ⟨⟨hbx, hst⟩, hB⟩ hK
    simp only [List.zip_toArray, List.zip_cons_cons, List.zip_nil_right, List.size_toArray]
    gi_wp2
    exact hK _ _ ((KeepsOthers.alloc _ _).from _) ((Keep.refl _ _ W).alloc hB.size _) ⟨⟨hbx.alloc _, hst.alloc _⟩, hB.alloc hB.size _⟩ ⟨W.heap.size, hst.lt, Box3.new W x.1.2, rfl⟩
  case body =>
    rintro l pre x a' W hl _ ⟨⟨hbx, hst⟩, hB⟩ ⟨Bx, hBx, b3, rfl⟩ hlt
    obtain ⟨c0, c1, c2⟩ := b3.cells
    have hmet := standsOf_append (gl8 pre) [x.1] (fun _ => false)
    rw [← gl8_snoc] at hmet
    simp only [standsOf] at hmet
    obtain ⟨M, hM⟩ : ∃ M, M = standsOf (gl8 pre) (fun _ => false) := ⟨_, rfl⟩
    rw [← hM] at hst hmet
    by_cases h1 : x.1.2.op = 1 ∨ x.1.2.op = 8
    · obtain ⟨k, hk⟩ : ∃ k : Nat, x.1.2.n = k := ⟨x.1.2.n.toNat, by have := (x.2 h1).1; omega⟩
      have hk20 : k < 20 := by have := (x.2 h1).2; omega
      have ho : (k : Int) < 20 := by omega
      have p1 := hst.cell hk20
      have p2 := hst.frozen k
      rw [hk] at c1
      have hend := Lib.hid (show SetAt (W.setCell ⟨w.heap.size + 1 + 1, k, none⟩ (.bool true)) (w.heap.size + 1) (fun _ => false) ∧ SetAt (W.setCell ⟨w.heap.size + 1 + 1, k, none⟩ (.bool true)) (w.heap.size + 1 + 1) (standsOf (gl8 (pre ++ [x])) (fun _ => false)) from
        ⟨hbx.other (by simp) _, by rw [hmet]; unfold standN; rw [if_pos h1, hk]; exact hst.set hk20 true⟩)
      replace hst := Lib.hid hst
      replace hbx := Lib.hid hbx
      replace hk := Lib.hid hk
      clear hM hmet
      rcases Decidable.em (x.1.2.op = 1) with h | h
      · have e1 : (x.1.2.op == 1) = true := by simpa using h
        replace h := Lib.hid h
        replace h1 := Lib.hid h1
        gi_wp2
        exact ⟨(KeepsOthers.setCell _ _ _).from _, Keep.setAt _ (by omega) (by omega) _ _, hend.out, hB.setCell (p := ⟨w.heap.size + 1 + 1, k, none⟩) (by simp; omega) _⟩
      · have h8 : x.1.2.op = 8 := by omega
        have e1 : (x.1.2.op == 1) = false := by simpa using h
        have e8 : (x.1.2.op == 8) = true := by simpa using h8
        replace h := Lib.hid h
        replace h8 := Lib.hid h8
        replace h1 := Lib.hid h1
        gi_wp2
        exact ⟨(KeepsOthers.setCell _ _ _).from _, Keep.setAt _ (by omega) (by omega) _ _, hend.out, hB.setCell (p := ⟨w.heap.size + 1 + 1, k, none⟩) (by simp; omega) _⟩
    · have e1 : (x.1.2.op == 1) = false := by simp; omega
      have e8 : (x.1.2.op == 8) = false := by simp; omega
      have hmet2 := Lib.hid (show standsOf (gl8 (pre ++ [x])) (fun _ => false) = M from by rw [hmet]; unfold standN; rw [if_neg h1])
      replace hst := Lib.hid hst
      replace h1 := Lib.hid h1
      clear hM hmet
      gi_wp2
      exact ⟨(KeepsOthers.refl _).from _, Keep.refl _ _ _, ⟨hbx, by rw [hmet2.out]; exact hst.out⟩, hB⟩
  case done =>
    rintro D ys W hD hys ⟨⟨hbx, hst⟩, hB⟩ hK
    have hval := stands_pre d 1 (fun _ => false)
    rw [← hys] at hval
    rw [show standsOf (gl8 ys) (fun _ => false) = stT d.tm (fun _ => false) from hval] at hst
    obtain ⟨F, hF⟩ : ∃ F, F = stT d.tm (fun _ => false) := ⟨_, rfl⟩
    rw [← hF] at hst
    replace hF := Lib.hid hF
    clear hval hys
    have hK' := (setRow_other W (w.heap.size + 1) D (vs F) (by simp at hD; omega)).trans hK
    have hsF := hbx.store F
    have hsF' : SetAt ((W.setRow (w.heap.size + 1) (vs F)).putObj D (.deferred none)) (w.heap.size + 1) F :=
      ((grownBy_putObj' _ D (.deferred none)).block (w.heap.size + 1) hsF.lt (fun e => by cases e; simp at hD; omega)).trans hsF
    gi_wp2_with (first
      | (refine load_setIn (.tmp 3) hst rfl rfl rfl ?_)
      | (refine store_setIn (.tmp 2) (.tmp 21) F hbx rfl rfl rfl rfl ?_))
    refine ⟨by simp, .inl ⟨_, _, rfl, run_takeDeferred hK', ?_⟩⟩
    refine ⟨.agg (vs F), results_cell_row rfl _ _ (w.heap.size + 1) 82 _ (0, 0) _ rfl hsF' u79 rfl (i79 _), by rw [hF.out], (below_row hB (by omega) _).trans (belowK_b (w := w) (Nat.le_refl _) _ D _ _ (by simp at hD; omega) hK' rfl rfl)⟩
  case stop =>
    rintro D c pre W _ _ h _
    exact h.elim

end Go.Proofs.Ythlegfegkopdkaa

namespace Go.Proofs.Ythlegfegkopdkaa
open Go.RowKit Go.Shelf

theorem und99 : Try.prog.underlying 60 = some (.map 3 32) := by kernel_rfl
/-- A scope of 'put' as cells: the bindings' map, the variables that stand in them, those that are bound here. -/
def psA (bm : Nat) (f g : Nat → Bool) : Array Value := #[.map (some bm)] ++ vs f ++ vs g
theorem psA_size (bm : Nat) (f g : Nat → Bool) : (psA bm f g).size = 41 := by simp [psA, vs_size]
theorem psA_map (bm : Nat) (f g : Nat → Bool) : (psA bm f g)[0]? = some (.map (some bm)) := by
  unfold psA; rw [Array.getElem?_append_left (by simp [vs_size]), Array.getElem?_append_left (by simp)]; simp
theorem psA_bound (bm : Nat) (f g : Nat → Bool) {k : Nat} (h : k < 20) : (psA bm f g)[21 + k]? = some (.bool (g k)) := by
  unfold psA
  rw [Array.getElem?_append_right (by simp [vs_size]; try omega)]
  simp only [Array.size_append, vs_size, List.size_toArray, List.length_cons, List.length_nil]
  rw [show 21 + k - (0 + 1 + 20) = k by omega]; exact vs_get g h
theorem psA_stand (bm : Nat) (f g : Nat → Bool) {k : Nat} (h : k < 20) : (psA bm f g)[1 + k]? = some (.bool (f k)) := by
  unfold psA
  rw [Array.getElem?_append_left (by simp [vs_size]; try omega), Array.getElem?_append_right (by simp)]
  simp only [List.size_toArray, List.length_cons, List.length_nil]
  rw [show 1 + k - (0 + 1) = k by omega]; exact vs_get f h
theorem psA_set (bm : Nat) (f g : Nat → Bool) {k : Nat} (b : Bool) (h : k < 20) : (psA bm f g).setIfInBounds (21 + k) (.bool b) = psA bm f (setB g k b) := by
  have hv := vs_set g b h
  unfold psA
  rw [← hv]
  have hs : ∀ C : Array Value, ∀ i, (#[Value.map (some bm)] ++ vs f ++ C)[i]? = if i < 21 then (#[Value.map (some bm)] ++ vs f)[i]? else C[i - 21]? := fun C i => by
    rw [Array.getElem?_append]
    simp only [Array.size_append, vs_size, List.size_toArray, List.length_cons, List.length_nil]
  apply Array.ext_getElem?
  intro i
  rw [Array.getElem?_setIfInBounds, hs, hs]
  by_cases hi : 21 + k = i
  · subst hi
    rw [if_pos rfl, if_pos (by simp [vs_size]; omega), if_neg (by omega), show 21 + k - 21 = k by omega, Array.getElem?_setIfInBounds, if_pos rfl, if_pos (by rw [vs_size]; exact h)]
  · rw [if_neg hi]
    by_cases h21 : i < 21
    · rw [if_pos h21, if_pos h21]
    · rw [if_neg h21, if_neg h21, Array.getElem?_setIfInBounds, if_neg (by omega)]
def PsAt (w : World) (B bm : Nat) (f g : Nat → Bool) : Prop := w.heap[B]? = some (.cells (psA bm f g) 88 (0, 0))
theorem PsAt.lt {w : World} {B bm : Nat} {f g : Nat → Bool} (h : PsAt w B bm f g) : B < w.heap.size := (Array.getElem?_eq_some_iff.1 h).1
theorem PsAt.map {w : World} {B bm : Nat} {f g : Nat → Bool} (h : PsAt w B bm f g) : w.cell? ⟨B, 0, none⟩ = some (.map (some bm)) := by rw [cell_of_row w B 0 _ 88 (0, 0) h, psA_map]
theorem PsAt.bound {w : World} {B bm : Nat} {f g : Nat → Bool} (h : PsAt w B bm f g) {k : Nat} (hk : k < 20) : w.cell? ⟨B, 21 + k, none⟩ = some (.bool (g k)) := by rw [cell_of_row w B (21 + k) _ 88 (0, 0) h, psA_bound bm f g hk]
theorem PsAt.frozen {w : World} {B bm : Nat} {f g : Nat → Bool} (h : PsAt w B bm f g) (k : Nat) : w.frozen? ⟨B, k, none⟩ = false := frozen_of_row w B k _ 88 h
theorem i125' : (Try.prog.info? 88).map (·.size) = some 41 := by kernel_rfl
theorem i125 (bm : Nat) (f g : Nat → Bool) : (Try.prog.info? 88).map (·.size) = some (psA bm f g).size := by rw [psA_size]; exact i125'
theorem psA_one (bm : Nat) (f g : Nat → Bool) : (psA bm f g).all (·.oneCell') = true := by
  unfold psA; rw [Array.all_append, Array.all_append, vs_one, vs_one]; simp [Value.oneCell']
theorem load_ps {ops : Array Oper} {rest : List Oper} {o : Oper} {a : Act} {w : World} {Q : Exit → Act → World → Prop} (x : Operand) {B bm : Nat} {f g : Nat → Bool} (h : PsAt w B bm f g) (hgd : o.guard = none) (ho : o.op = .load 88 x)
    (hx : a.eval x = .pointer (some ⟨B, 0, none⟩)) (k : wpList Try.prog ops Q rest (a.put o.dst (.agg (psA bm f g))) w) : wpList Try.prog ops Q (o :: rest) a w := by
  exact wpList_load_row hgd 88 x ho B hx 88 _ (0, 0) _ h Try.underlying88 rfl (i125 _ _ _) k
theorem store_ps {ops : Array Oper} {rest : List Oper} {o : Oper} {a : Act} {w : World} {Q : Exit → Act → World → Prop} (x y : Operand) {B : Nat} {cs : Array Value} {bm : Nat} {f g : Nat → Bool} (h : w.heap[B]? = some (.cells cs 88 (0, 0))) (hc : cs.size = 41) (hgd : o.guard = none) (ho : o.op = .store 88 x y)
    (hx : a.eval x = .pointer (some ⟨B, 0, none⟩)) (hy : a.eval y = .agg (psA bm f g)) (k : wpList Try.prog ops Q rest (a.put o.dst undef) (w.setRow B (psA bm f g))) : wpList Try.prog ops Q (o :: rest) a w :=
  wpList_store_row hgd 88 x y ho B _ hx hy 88 _ h (i125 _ _ _) (by rw [psA_size, hc]) (psA_one _ _ _) k

def zeD : DT := .mk 0 0 none 0 0 []
/-- What 'find' answers: a term, and whether it is put in here. -/
def findD (F : Int → Option DT) (g : Nat → Bool) (v : Nat) : DT × Bool := match F (v : Int) with | some d => (d, !g v) | none => (zeD, false)

set_option maxRecDepth 100000 in
set_option maxHeartbeats 1000000 in
theorem find_any (w : World) (bm nb : Nat) (F : Int → Option DT) (f g : Nat → Bool) (v : Nat) (hv : v < 20) (hm : TMap w bm nb F) :
    Calls Try.prog 63 #[.agg (psA bm f g), .int .i64 (v : Nat)] w fun e w' => e = .returned (.tuple #[dv (findD F g v).1, .bool (findD F g v).2]) ∧ Below w.heap.size w w' := by
  have hp : PsAt (w.alloc (.cells (psA bm f g) 88)) w.heap.size bm f g := heap_alloc_new w _
  obtain ⟨w0, hw0⟩ : ∃ w0, w0 = (w.alloc (.cells (psA bm f g) 88)).alloc zer3 := ⟨_, rfl⟩
  have hp0 : PsAt w0 w.heap.size bm f g := by rw [hw0]; exact heap_old hp
  have hz0 : w0.heap.size = w.heap.size + 1 + 1 := by rw [hw0]; simp
  have hB0 : Below w.heap.size w w0 := by rw [hw0]; go_grown
  have hm0 := hm.same (hB0.block _ hm.lt)
  have c0 := hp0.map
  have ov : (v : Int) < 20 := by omega
  have hr0 : w0.heap[w.heap.size + 1]? = some zer3 := by rw [hw0]; exact heap_new' _ (by simp)
  cases hF : F (v : Int) with
  | none =>
    have hl := hm0.look_none und99 (i := (v : Nat)) (by omega) hF
    have hfd : findD F g v = (zeD, false) := by unfold findD; rw [hF]
    rw [hfd]
    rw [hw0] at hl c0
    replace hp0 := Lib.hid hp0
    clear hF hfd hm hm0 hp
    go_enter Try.func63, Try.ntmps63
    go_wp2_with fail
    go_region
    go_wp2_with fail
    exact bodyPost_ret (v := .tuple #[.agg #[.int .i64 0, .int .i64 0, .slice none 0 0], .bool false]) (by simp [results, Try.f63, go_sem]) rfl ⟨rfl, by go_grown⟩
  | some d =>
    have hl := hm0.look_some und99 (i := (v : Nat)) (by omega) hF
    have hfd : findD F g v = (d, !g v) := by unfold findD; rw [hF]
    have c1 := psA_bound bm f g hv
    rw [hfd]
    rw [hw0] at hl c0
    replace hp0 := Lib.hid hp0
    clear hF hfd hm hm0 hp
    cases hg : g v
    all_goals
      rw [hg] at c1
      replace hg := Lib.hid hg
      go_enter Try.func63, Try.ntmps63
      go_wp2_with fail
      go_region
      all_goals
        go_wp2_with fail
    · exact bodyPost_ret (v := .tuple #[.agg #[.int .i64 d.op, .int .i64 d.n, .slice d.a d.l d.c], .bool true]) (by simp [results, Try.f63, go_sem]) rfl ⟨rfl, by go_grown⟩
    · exact bodyPost_ret (v := .tuple #[.agg #[.int .i64 d.op, .int .i64 d.n, .slice d.a d.l d.c], .bool false]) (by simp [results, Try.f63, go_sem]) rfl ⟨rfl, by go_grown⟩

/-- A set with one variable more. -/
theorem PsAt.other {w : World} {B bm : Nat} {f g : Nat → Bool} (h : PsAt w B bm f g) {p : Addr} (hp : B ≠ p.block) (v : Value) : PsAt (w.setCell p v) B bm f g := by
  unfold PsAt; rw [heap_setCell_other w p B v hp]; exact h

def zps : Array Value := Array.replicate 41 (.bool false)

set_option maxRecDepth 100000 in
set_option maxHeartbeats 1000000 in
theorem pinside_any (w : World) (bm : Nat) (f g : Nat → Bool) (v : Nat) (hv : v < 20) :
    Calls Try.prog 89 #[.agg (psA bm f g), .int .i64 (v : Nat)] w fun e w' => e = .returned (.agg (psA bm f (setB g v true))) ∧ Below w.heap.size w w' := by
  have ov : (v : Int) < 20 := by omega
  have c1 := psA_bound bm f g hv
  obtain ⟨b, hb⟩ : ∃ b, b = g v := ⟨_, rfl⟩
  rw [← hb] at c1
  replace hb := Lib.hid hb
  go_enter Try.func89, Try.ntmps89
  go_upto_region 2 with fail
  rw [psA_set bm f g true hv]
  generalize hzc : (#[Value.map none, Value.bool false, Value.bool false, Value.bool false, Value.bool false, Value.bool false, Value.bool false, Value.bool false, Value.bool false, Value.bool false, Value.bool false, Value.bool false, Value.bool false, Value.bool false, Value.bool false, Value.bool false, Value.bool false, Value.bool false, Value.bool false, Value.bool false, Value.bool false, Value.bool false, Value.bool false, Value.bool false, Value.bool false, Value.bool false, Value.bool false, Value.bool false, Value.bool false, Value.bool false, Value.bool false, Value.bool false, Value.bool false, Value.bool false, Value.bool false, Value.bool false, Value.bool false, Value.bool false, Value.bool false, Value.bool false, Value.bool false] : Array Value) = zc
  have hzs : Hid (zc.size = 41) := by rw [← hzc]; rfl
  replace hzc := Lib.hid hzc
  have hq1 : PsAt ((w.alloc (.cells (psA bm f (setB g v true)) 88)).alloc (.cells zc 88)) w.heap.size bm f (setB g v true) := heap_old (heap_new' _ rfl)
  have hq2 : ((w.alloc (.cells (psA bm f (setB g v true)) 88)).alloc (.cells zc 88)).heap[w.heap.size + 1]? = some (.cells zc 88 (0, 0)) := heap_new' _ (by simp)
  have hB : Below w.heap.size w ((w.alloc (.cells (psA bm f (setB g v true)) 88)).alloc (.cells zc 88)) := by go_grown
  obtain ⟨w0, hw0⟩ : ∃ w0, w0 = ((w.alloc (.cells (psA bm f (setB g v true)) 88)).alloc (.cells zc 88)) := ⟨_, rfl⟩
  rw [← hw0] at hq1 hq2 hB ⊢
  replace hw0 := Lib.hid hw0
  clear c1
  replace hq1 := Lib.hid hq1
  replace hq2 := Lib.hid hq2
  go_wp2_with (first
    | refine load_ps (.tmp 2) hq1.out rfl rfl rfl ?_
    | refine store_ps (.tmp 4) (.tmp 8) hq2.out hzs.out rfl rfl rfl rfl ?_)
  exact bodyPost_ret (results_cell_row rfl _ _ (w.heap.size + 1) 88 _ (0, 0) _ rfl (setRow_heap w0 (w.heap.size + 1) _ _ 88 (0, 0) hq2.out) Try.underlying88 rfl (i125 _ _ _)) rfl ⟨rfl, below_row hB (by omega) _⟩

end Go.Proofs.Ythlegfegkopdkaa

namespace Go.Proofs.Ythlegfegkopdkaa
open Go.RowKit Go.Shelf

def leastN (f : Nat → Bool) : Option Nat := (List.range 20).find? fun v => !f v
theorem leastN_at {f : Nat → Bool} {k : Nat} (hk : k < 20) (hb : ∀ j, j < k → f j = true) (hf : f k = false) : leastN f = some k := by
  unfold leastN
  rw [List.find?_eq_some_iff_append]
  refine ⟨by simp [hf], List.range k, (List.range' (k + 1) (19 - k)), ?_, fun a ha => by simp [hb a (List.mem_range.1 ha)]⟩
  rw [List.range_eq_range', List.range_eq_range', show (20 : Nat) = k + (1 + (19 - k)) by omega, ← List.range'_append, ← List.range'_append]
  simp
theorem leastN_lt {f : Nat → Bool} {v : Nat} (h : leastN f = some v) : v < 20 := by
  unfold leastN at h
  exact List.mem_range.1 (List.mem_of_find?_eq_some h)
theorem leastN_none {f : Nat → Bool} (hb : ∀ j, j < 20 → f j = true) : leastN f = none := by
  unfold leastN
  rw [List.find?_eq_none]
  intro x hx
  simp [hb x (List.mem_range.1 hx)]

set_option maxRecDepth 100000 in
set_option maxHeartbeats 1000000 in
theorem leastOutside_any (f : Nat → Bool) (v : Nat) (w : World) (hv : leastN f = some v) :
    Calls Try.prog 91 #[.agg (vs f)] w fun e w' => e = .returned (.int .i64 (v : Nat)) ∧ Below w.heap.size w w' := by
  have hB0 : Below w.heap.size w (w.alloc (.cells (vs f) 82)) := (Below.refl _ _).alloc (Nat.le_refl _) _
  have hc := fun k (hk : k < 20) => vs_get f hk
  replace hv := Lib.hid hv
  replace hc := Lib.hid hc
  go_enter Try.func91, Try.ntmps91
  go_wp2_with fail
  go_loop [3, 4] (fun _ i => ∃ k : Nat, k ≤ 20 ∧ i = .int .i64 k ∧ Hid (∀ j, j < k → f j = true)) (fun _ i => 20 - (intOf i).toNat)
  case atStart => exact ⟨0, by omega, rfl, fun j hj => by omega⟩
  case round =>
    obtain ⟨k, hk, rfl, hI⟩ := hrel
    by_cases hlt : k < 20
    · have o1 : (k : Int) < 20 := by omega
      have c1 := hc.out k hlt
      cases hf : f k
      · rw [hf] at c1
        have hr := leastN_at hlt hI.out hf
        rw [hv.out] at hr
        simp only [Option.some.injEq] at hr
        subst hr
        replace hf := Lib.hid hf
        go_wp2_with fail
        go_ret
        exact ⟨rfl, hB0⟩
      · rw [hf] at c1
        have hI' : Hid (∀ j, j < k + 1 → f j = true) := fun j hj => by
          by_cases e : j = k
          · subst e; exact hf
          · exact hI.out j (by omega)
        replace hf := Lib.hid hf
        go_wp2_with fail
        go_round
        case rel => exact ⟨k + 1, by omega, by go_num, hI'⟩
        case measure => simp [intOf]; omega
    · have : k = 20 := by omega
      subst this
      have := leastN_none hI.out
      rw [hv.out] at this
      cases this

def catchB (F : Int → Option DT) (g : Nat → Bool) (own : Nat) (t : Tm) : Bool := (listTo (fvT t) 20).any fun v => (findD F g v).2 && fvT (findD F g v).1.tm own

theorem findD_some {F : Int → Option DT} {g : Nat → Bool} {u : Nat} (h : (findD F g u).2 = true) : F (u : Int) = some (findD F g u).1 := by
  unfold findD at h ⊢
  cases hF : F (u : Int) with
  | none => rw [hF] at h; cases h
  | some d => rfl
theorem any_take_succ {α : Type} (l : List α) (p : α → Bool) (k : Nat) (h : k < l.length) : (l.take (k + 1)).any p = ((l.take k).any p || p l[k]) := by
  rw [List.take_succ_eq_append_getElem h, List.any_append]; simp

set_option maxRecDepth 100000 in
set_option maxHeartbeats 1000000 in
theorem catches_any (w : World) (bm nb n₀ : Nat) (F : Int → Option DT) (f g : Nat → Bool) (own : Nat) (d : DT) (ho : own < 20) (hm : TMap w bm nb F) (hE : Els (fun y => Lies n₀ w y ∧ OkV y.tm) F) (hn : n₀ ≤ w.heap.size) (hL : Lies n₀ w d) (hO : OkV d.tm) :
    Calls Try.prog 90 #[.agg (psA bm f g), .int .i64 (own : Nat), dv d] w fun e w' => e = .returned (.bool (catchB F g own d.tm)) ∧ Below w.heap.size w w' := by
  obtain ⟨w0, hw0⟩ : ∃ w0, w0 = (w.alloc (.cells (psA bm f g) 88)).alloc (bx d) := ⟨_, rfl⟩
  have hp0 : PsAt w0 w.heap.size bm f g := by rw [hw0]; exact heap_old (heap_alloc_new w _)
  have hz0 : w0.heap.size = w.heap.size + 1 + 1 := by rw [hw0]; simp
  have hB0 : Below w.heap.size w w0 := by rw [hw0]; go_grown
  have hFr := freeVars_any d.size d n₀ w0 (Nat.le_refl _) (by omega) (hL.below (hB0.mono hn)) hO
  have hLs := fun W => list_any (fvT d.tm) W
  have hFd := fun (v : Nat) (hv : v < 20) (W : World) (hb : Below w.heap.size w W) => find_any W bm nb F f g v hv (hm.same (hb.block _ hm.lt))
  have hix : ∀ (G : Nat → Bool) (W : World), (Instr.index 82 (.agg (vs G)) (.int .i64 (own : Nat))).run Try.prog W = .ok (.bool (G own)) W := fun G W => by
    have h1 : (vs G)[own]? = some (.bool (G own)) := vs_get G ho
    have hn : 0 ≤ ((own : Nat) : Int) ∧ ((own : Nat) : Int) < (20 : Nat) := by omega
    simp [Instr.index, run_underlying u79, asIntOf, hn, go_sem]
    rw [if_pos ho, h1]; rfl
  have hvars : ∀ v, v ∈ listTo (fvT d.tm) 20 → v < 20 := fun v hv => by
    unfold listTo at hv; exact List.mem_range.1 (List.mem_filter.1 hv).1
  have hcb : catchB F g own d.tm = (listTo (fvT d.tm) 20).any (fun v => (findD F g v).2 && fvT (findD F g v).1.tm own) := rfl
  obtain ⟨G, hG⟩ : ∃ G, G = fvT d.tm := ⟨_, rfl⟩
  rw [← hG] at hFr hLs hvars hcb
  obtain ⟨L, hLL⟩ : ∃ L, L = listTo G 20 := ⟨_, rfl⟩
  have hlen : L.length ≤ 20 := by rw [hLL]; exact listTo_len _ _
  rw [← hLL] at hLs hvars hcb
  rw [hw0] at hFr
  replace hFr := Lib.hid hFr
  replace hLs := Lib.hid hLs
  replace hFd := Lib.hid hFd
  replace hE := Lib.hid hE
  replace hvars := Lib.hid hvars
  replace hcb := Lib.hid hcb
  replace hm := Lib.hid hm
  clear hG hLL hL hO
  go_enter Try.func90, Try.ntmps90
  go_wp2_with fail
  refine (hFr.out).mono ?_
  rintro e w1 ⟨rfl, hB1⟩
  rw [← hw0] at hB1
  have hp1 : PsAt w1 w.heap.size bm f g := (hB1.block _ (by omega)).trans hp0
  have hb1 := hB0.trans (hB1.mono (by omega))
  replace hB1 := Lib.hid hB1
  replace hw0 := Lib.hid hw0
  go_wp2_with fail
  refine (hLs.out _).mono ?_
  rintro e w2 ⟨v, rfl, hown, hnil, hB2⟩
  have hp2 : PsAt w2 w.heap.size bm f g := (hB2.block _ hp1.lt).trans hp1
  have hb2 := hb1.trans (hB2.mono hb1.size)
  obtain ⟨va, vl, vc, rfl, hvl, hcells⟩ : ∃ va vl vc, v = .slice va vl vc ∧ vl = L.length ∧ ∀ k (h : k < L.length), ∃ bq, va = some ⟨bq, 0, none⟩ ∧ w2.cell? ⟨bq, k, none⟩ = some (.int .i64 (L[k] : Nat)) := by
    rcases hown.2 with ⟨hv, h0⟩ | ⟨q, cap, cur, hv, _⟩
    · exact ⟨none, 0, 0, hv, h0.symm, fun k h => by omega⟩
    · subst hv
      refine ⟨some ⟨q, 0, none⟩, _, cap, rfl, rfl, fun k h => ⟨q, rfl, ?_⟩⟩
      refine (own_cells hown).1 k _ ?_
      unfold natVals
      rw [List.getElem?_map, List.getElem?_eq_getElem h]; rfl
  replace hcells := Lib.hid hcells
  replace hp1 := Lib.hid hp1
  replace hp2 := Lib.hid hp2
  replace hb1 := Lib.hid hb1
  replace hb2 := Lib.hid hb2
  replace hB2 := Lib.hid hB2
  subst hvl
  clear hown hnil
  go_wp2_with fail
  go_loopw [8, 9, 10, 15] (fun _ _ _ i wr => ∃ k : Nat, k ≤ L.length ∧ i = .int .i64 k ∧ Hid ((L.take k).any (fun v => (findD F g v).2 && fvT (findD F g v).1.tm own) = false) ∧ Below w2.heap.size w2 wr) (fun _ _ _ i _ => L.length - (intOf i).toNat)
  case atStart => exact ⟨0, by omega, rfl, rfl, Below.refl _ _⟩
  case round =>
    obtain ⟨k, hk, rfl, hno, hb⟩ := hrel
    have hz := hb.size
    by_cases hlt : k < L.length
    · have o1 : (k : Int) < (L.length : Int) := by omega
      obtain ⟨bq, rfl, hcl⟩ := hcells.out k hlt
      have hcl' := hb.cell (p := ⟨bq, k, none⟩) (lt_cell hcl)
      rw [hcl] at hcl'
      have hv20 := hvars.out L[k] (List.getElem_mem hlt)
      have hpr : PsAt wr w.heap.size bm f g := (hb.block _ hp2.out.lt).trans hp2.out
      have hbr := hb2.out.trans (hb.mono hb2.out.size)
      have hC := hFd.out L[k] hv20 wr hbr
      have hst := any_take_succ L (fun v => (findD F g v).2 && fvT (findD F g v).1.tm own) k hlt
      rw [hno.out, Bool.false_or] at hst
      obtain ⟨u, hu⟩ : ∃ u : Nat, u = L[k] := ⟨_, rfl⟩
      rw [← hu] at hcl' hC hst hv20
      obtain ⟨y, hy⟩ : ∃ y, y = findD F g u := ⟨_, rfl⟩
      rw [← hy] at hC hst
      replace hC := Lib.hid hC
      replace hpr := Lib.hid hpr
      replace hbr := Lib.hid hbr
      replace hu := Lib.hid hu
      clear hcl
      go_upto_region 4 with fail
      go_wp2_with (first | refine load_ps (.tmp 3) hpr.out rfl rfl rfl ?_)
      refine (hC.out).mono ?_
      rintro e w3 ⟨rfl, hB3⟩
      have hz3 := hB3.size
      obtain ⟨wb, hwb⟩ : ∃ wb, wb = w3.alloc (bx y.1) := ⟨_, rfl⟩
      have hBb : Below w2.heap.size w2 wb := by rw [hwb]; exact (hb.trans (hB3.mono hz)).alloc (by omega) _
      cases hy2 : y.2
      · rw [hy2, Bool.false_and] at hst
        replace hst := Lib.hid hst
        rw [hwb] at hBb
        replace hwb := Lib.hid hwb
        replace hB3 := Lib.hid hB3
        replace hy := Lib.hid hy
        replace hy2 := Lib.hid hy2
        go_wp2_with fail
        go_roundw
        case rel => exact ⟨k + 1, by omega, by go_num, hst, hBb⟩
        case measure => simp [intOf]; omega
      · rw [hy2, Bool.true_and] at hst
        have hFy : F (u : Int) = some y.1 := by rw [hy] at hy2 ⊢; exact findD_some hy2
        obtain ⟨hLy, hOy⟩ := hE.out _ _ hFy
        have hbw : Below w.heap.size w wb := hb2.out.trans (hBb.mono hb2.out.size)
        have hFv := freeVars_any y.1.size y.1 n₀ wb (Nat.le_refl _) (by have := hbw.size; omega) (hLy.below (hbw.mono hn)) hOy
        have hix1 := fun W => hix (fvT y.1.tm) W
        obtain ⟨H, hH⟩ : ∃ H, H = fvT y.1.tm := ⟨_, rfl⟩
        rw [← hH] at hFv hix1 hst
        obtain ⟨r, hr⟩ : ∃ r, r = H own := ⟨_, rfl⟩
        rw [← hr] at hix1 hst
        rw [hwb] at hBb hFv
        replace hwb := Lib.hid hwb
        replace hB3 := Lib.hid hB3
        replace hy := Lib.hid hy
        replace hy2 := Lib.hid hy2
        replace hH := Lib.hid hH
        replace hr := Lib.hid hr
        replace hFv := Lib.hid hFv
        replace hbw := Lib.hid hbw
        clear hix hFy hLy hOy
        cases r
        · replace hst := Lib.hid hst
          go_wp2_with fail
          refine (hFv.out).mono ?_
          rintro e w4 ⟨rfl, hB4⟩
          replace hB4 := Lib.hid hB4
          go_wp2_with fail
          go_roundw
          case rel => exact ⟨k + 1, by omega, by go_num, hst, hBb.trans (hB4.out.mono (by have := hBb.size; simp at this ⊢; omega))⟩
          case measure => simp [intOf]; omega
        · have hfin : Hid (catchB F g own d.tm = true) := by
            rw [hcb.out]
            have : (L.take (k + 1)).any (fun v => (findD F g v).2 && fvT (findD F g v).1.tm own) = true := hst
            rw [List.any_eq_true] at this ⊢
            obtain ⟨z, hz1, hz2⟩ := this
            exact ⟨z, List.mem_of_mem_take hz1, hz2⟩
          replace hst := Lib.hid hst
          go_wp2_with fail
          refine (hFv.out).mono ?_
          rintro e w4 ⟨rfl, hB4⟩
          replace hB4 := Lib.hid hB4
          go_wp2_with fail
          go_ret
          exact ⟨by rw [hfin.out]; rfl, hb2.out.trans ((hBb.trans (hB4.out.mono (by have := hBb.size; simp at this ⊢; omega))).mono hb2.out.size)⟩
    · have : k = L.length := by omega
      subst this
      rw [List.take_length] at hno
      go_wp2_with fail
      go_ret
      exact ⟨by rw [hcb.out, hno.out]; rfl, hb2.out.trans (hb.mono hb2.out.size)⟩

end Go.Proofs.Ythlegfegkopdkaa

namespace Go.Proofs.Ythlegfegkopdkaa
open Go.RowKit Go.Shelf

/-- What 'put' makes of a term; none: it gives up, as all variables are taken. -/
def putF (F : Int → Option DT) (st : Nat → Bool) : Nat → (Nat → Bool) → Tm → Option Tm
  | 0, _, _ => none
  | N + 1, g, .mk op n ks =>
    if op = 1 then some (if (findD F g n.toNat).2 = true then (findD F g n.toNat).1.tm else .mk op n [])
    else if op = 8 then
      match ks with
      | [a, b] =>
        if catchB F (setB g n.toNat true) n.toNat b = true then
          match leastN (orSet (stT (.mk op n ks) (fun _ => false)) st) with
          | none => none
          | some m => (putF F st N g a).bind fun a' => (putF F st N (setB g m true) (renT n m b)).map fun b' => .mk 8 m [a', b']
        else (putF F st N g a).bind fun a' => (putF F st N (setB g n.toNat true) b).map fun b' => .mk 8 n [a', b']
      | _ => none
    else (ks.mapM (putF F st N g)).map fun ts => .mk op n ts

theorem putF_var (F : Int → Option DT) (st : Nat → Bool) (N : Nat) (g : Nat → Bool) (op n : Int) (ks : List Tm) (h : op = 1) : putF F st (N + 1) g (.mk op n ks) = some (if (findD F g n.toNat).2 = true then (findD F g n.toNat).1.tm else .mk op n []) := by
  subst h; unfold putF; rw [if_pos rfl]
theorem putF_node (F : Int → Option DT) (st : Nat → Bool) (N : Nat) (g : Nat → Bool) (op n : Int) (ks : List Tm) (h1 : op ≠ 1) (h8 : op ≠ 8) : putF F st (N + 1) g (.mk op n ks) = (ks.mapM (putF F st N g)).map fun ts => .mk op n ts := by
  unfold putF; rw [if_neg h1, if_neg h8]
theorem putF_let (F : Int → Option DT) (st : Nat → Bool) (N : Nat) (g : Nat → Bool) (n : Int) (a b : Tm) : putF F st (N + 1) g (.mk 8 n [a, b]) = if catchB F (setB g n.toNat true) n.toNat b = true then
          match leastN (orSet (stT (.mk 8 n [a, b]) (fun _ => false)) st) with
          | none => none
          | some m => (putF F st N g a).bind fun a' => (putF F st N (setB g m true) (renT n m b)).map fun b' => .mk 8 m [a', b']
        else (putF F st N g a).bind fun a' => (putF F st N (setB g n.toNat true) b).map fun b' => .mk 8 n [a', b'] := by
  rw [putF, if_neg (by omega), if_pos rfl]

theorem mapM_some {α β : Type} {f : α → Option β} : ∀ {l : List α} {r : List β}, l.mapM f = some r → r.length = l.length ∧ ∀ k (h : k < l.length) (h' : k < r.length), f l[k] = some r[k]
  | [], r, h => by simp at h; subst h; exact ⟨rfl, fun k h => by simp at h⟩
  | a :: l, r, h => by
    rw [List.mapM_cons] at h
    cases ha : f a with
    | none => rw [ha] at h; cases h
    | some x =>
      rw [ha] at h
      cases hl : l.mapM f with
      | none => simp [hl] at h
      | some s =>
        simp [hl] at h
        subst h
        obtain ⟨h1, h2⟩ := mapM_some hl
        refine ⟨by simp [h1], fun k hk hk' => ?_⟩
        cases k with
        | zero => exact ha
        | succ k => exact h2 k (by simpa using hk) (by simpa using hk')

def PutOk (n₀ : Nat) (w : World) (F : Int → Option DT) : Prop := Els (fun y => (Lies n₀ w y ∧ OkV y.tm) ∧ y.size ≤ 1000000) F
theorem PutOk.below {n₀ : Nat} {w w' : World} {F : Int → Option DT} (h : PutOk n₀ w F) (hb : Below n₀ w w') : PutOk n₀ w' F := fun i d hd => ⟨⟨((h i d hd).1.1).below hb, (h i d hd).1.2⟩, (h i d hd).2⟩
theorem PutOk.wider {n₀ n₁ : Nat} {w : World} {F : Int → Option DT} (h : PutOk n₀ w F) (hn : n₀ ≤ n₁) : PutOk n₁ w F := fun i d hd => ⟨⟨((h i d hd).1.1).wider hn, (h i d hd).1.2⟩, (h i d hd).2⟩

def PutSpec (F : Int → Option DT) (st : Nat → Bool) (bm nb : Nat) (N : Nat) : Prop := ∀ (d : DT) (n₀ : Nat) (w : World) (g : Nat → Bool) (T : Tm), putF F st N g d.tm = some T → Lies n₀ w d → n₀ ≤ w.heap.size → 1 + d.size ≤ 1000000 → OkV d.tm → TMap w bm nb F → PutOk n₀ w F →
  Calls Try.prog 46 #[.agg (psA bm st g), dv d] w (Makes noR w T (fun _ => True))
def PutLetSpec (F : Int → Option DT) (st : Nat → Bool) (bm nb : Nat) (N : Nat) : Prop := ∀ (d : DT) (n₀ : Nat) (w : World) (g : Nat → Bool) (T : Tm), putF F st N g d.tm = some T → d.op = 8 → Lies n₀ w d → n₀ ≤ w.heap.size → 1 + d.size ≤ 1000000 → OkV d.tm → TMap w bm nb F → PutOk n₀ w F →
  Calls Try.prog 64 #[.agg (psA bm st g), dv d] w (Makes noR w T (fun _ => True))

abbrev put0 (w : World) (bm : Nat) (st g : Nat → Bool) (d : DT) : World := ((w.alloc (.cells (psA bm st g) 88)).alloc (bx d)).alloc zer3
theorem put0_facts (w : World) (bm : Nat) (st g : Nat → Bool) (d : DT) : PsAt (put0 w bm st g d) w.heap.size bm st g ∧ (put0 w bm st g d).heap[w.heap.size + 1]? = some (bx d) ∧
    (put0 w bm st g d).heap[w.heap.size + 1 + 1]? = some zer3 ∧ (put0 w bm st g d).heap.size = w.heap.size + 3 ∧ Below w.heap.size w (put0 w bm st g d) :=
  ⟨heap_old (heap_old (heap_new' _ rfl)), heap_old (heap_new' _ (by simp)), heap_new' _ (by simp), by simp, by go_grown⟩

set_option maxRecDepth 100000 in
set_option maxHeartbeats 1000000 in
theorem put_node (F : Int → Option DT) (st : Nat → Bool) (bm nb N : Nat) (ih : PutSpec F st bm nb N) (d : DT) (n₀ : Nat) (w : World) (g : Nat → Bool) (T : Tm) (hT : putF F st (N + 1) g d.tm = some T) (hL : Lies n₀ w d) (hn : n₀ ≤ w.heap.size) (hsz : 1 + d.size ≤ 1000000) (hO : OkV d.tm) (hm : TMap w bm nb F) (hE : PutOk n₀ w F)
    (h1 : d.op ≠ 1) (h8 : d.op ≠ 8) : Calls Try.prog 46 #[.agg (psA bm st g), dv d] w (Makes noR w T (fun _ => True)) := by
  obtain ⟨f1, f2, f3, f4, f5⟩ := put0_facts w bm st g d
  have hds := dsize_eq d
  have hL0 := hL.below (f5.mono hn)
  have hlen : d.kids.length ≤ dsizes d.kids := by
    have h1 := length_le_sizes (tms d.kids); rw [sizes_tms, tms_map, List.length_map] at h1; exact h1
  have hOk : OkVs d.tm.kids := hO.open.2.2.2
  obtain ⟨ts, hts, rfl⟩ : ∃ ts, d.tm.kids.mapM (putF F st N g) = some ts ∧ T = .mk d.op d.n ts := by
    rw [show d.tm = .mk d.op d.n d.tm.kids by cases d; simp [DT.tm, DT.op, DT.n, Tm.kids], putF_node _ _ _ _ _ _ _ h1 h8] at hT
    cases hq : d.tm.kids.mapM (putF F st N g) with
    | none => rw [hq] at hT; cases hT
    | some ts => rw [hq] at hT; simp at hT; exact ⟨ts, rfl, hT.symm⟩
  obtain ⟨hl1, hl2⟩ := mapM_some hts
  have hkl : d.tm.kids.length = d.kids.length := by rw [DT.tm_kids, List.length_map]
  have hC := rebuild_any d 46 #[.agg (psA bm st g)] #[] (enters_of Try.func46 (by kernel_rfl) rfl) noR (fun k => ts.getD k (.mk 0 0 [])) (fun _ W => Below (put0 w bm st g d).heap.size (put0 w bm st g d) W) n₀ (put0 w bm st g d) (by omega) (by omega) hL0 (fun _ h => h.elim)
    (fun k W W' hI hBl => hI.trans hBl)
    (fun k hk W hI hT => by
      have hsk := dsize_kid d.kids k hk
      have hkt : k < d.tm.kids.length := by omega
      have hke : d.tm.kids[k] = d.kids[k].tm := by simp only [DT.tm_kids, List.getElem_map]
      have hOkk : OkV d.kids[k].tm := by rw [← hke]; exact OkVs_get _ k hkt hOk
      have hq := hl2 k hkt (by omega)
      rw [hke] at hq
      have hbw : Below w.heap.size w W := f5.trans (hI.mono (by omega))
      have hgd : ts.getD k (.mk 0 0 []) = ts[k]'(by omega) := by rw [List.getD_eq_getElem?_getD, List.getElem?_eq_getElem (by omega)]; rfl
      refine (ih d.kids[k] n₀ W g _ hq ((hL0.kids_lie _ (List.getElem_mem hk)).below (hI.mono (by omega))) (by have := hI.size; omega) (by omega) hOkk (hm.same (hbw.block _ hm.lt)) (hE.below (hbw.mono hn))).mono ?_
      rintro e W' ⟨a, l, c, rfl, hF, -, hT'⟩
      rw [hgd]
      exact ⟨a, l, c, rfl, hF, hI.trans (hT'.b0.mono hI.size), hT'⟩)
    (Below.refl _ _)
  have hmap : (List.range d.kids.length).map (fun k => ts.getD k (.mk 0 0 [])) = ts := by
    apply List.ext_getElem
    · simp; omega
    · intro i hi1 hi2
      simp only [List.getElem_map, List.getElem_range]
      rw [List.getD_eq_getElem?_getD, List.getElem?_eq_getElem hi2]; rfl
  rw [hmap] at hC
  obtain ⟨T, hT0⟩ : ∃ T, T = Tm.mk d.op d.n ts := ⟨_, rfl⟩
  rw [← hT0] at hC ⊢
  have e1 : (d.op == 1) = false := by simpa using h1
  have e8 : (d.op == 8) = false := by simpa using h8
  replace hT0 := Lib.hid hT0
  replace hC := Lib.hid hC
  replace f1 := Lib.hid f1
  replace f3 := Lib.hid f3
  replace f5 := Lib.hid f5
  clear f2 ih hL hL0 hO hOk hlen hm hE hT hts hl1 hl2 hkl hmap h1 h8 hds
  go_enter Try.func46, Try.ntmps46
  go_upto_region 8 with fail
  go_wp2_with (first | refine load_ps (.tmp 2) f1.out rfl rfl rfl ?_)
  refine (hC.out).mono ?_
  rintro e w1 ⟨a, l, c, rfl, hF, -, hT⟩
  have hr1 := (hT.block (w.heap.size + 1 + 1) (by omega) id).trans f3.out
  obtain ⟨⟨q0, q1, q2⟩, q3, q4, q5⟩ := c3_cells hr1
  obtain ⟨W3, e3, -, ⟨g0, g1, g2⟩, s2, s3⟩ := stored3 (.int .i64 T.op) (.int .i64 T.n) (.slice a l c) hr1
  replace hF := Lib.hid hF
  replace hT := Lib.hid hT
  clear hr1
  replace e3 := Lib.hid e3
  replace g0 := Lib.hid g0
  replace g1 := Lib.hid g1
  replace g2 := Lib.hid g2
  go_wp2_with fail
  rw [← e3.out]
  have h0 := g0.out
  have h1 := g1.out
  have h2 := g2.out
  refine bodyPost_ret (v := .agg #[.int .i64 T.op, .int .i64 T.n, .slice a l c]) (by simp [results, Try.f46, go_sem, h0, h1, h2]) rfl ?_
  exact makes_end f5.out hT.out hF.out trivial (B := w.heap.size + 1 + 1) (by omega) s2 s3

set_option maxRecDepth 100000 in
set_option maxHeartbeats 1000000 in
theorem put_let (F : Int → Option DT) (st : Nat → Bool) (bm nb N : Nat) (ihl : PutLetSpec F st bm nb (N + 1)) (d : DT) (n₀ : Nat) (w : World) (g : Nat → Bool) (T : Tm) (hT : putF F st (N + 1) g d.tm = some T) (hL : Lies n₀ w d) (hn : n₀ ≤ w.heap.size) (hsz : 1 + d.size ≤ 1000000) (hO : OkV d.tm) (hm : TMap w bm nb F) (hE : PutOk n₀ w F)
    (h8 : d.op = 8) : Calls Try.prog 46 #[.agg (psA bm st g), dv d] w (Makes noR w T (fun _ => True)) := by
  obtain ⟨f1, f2, f3, f4, f5⟩ := put0_facts w bm st g d
  have hC := ihl d n₀ (put0 w bm st g d) g T hT h8 (hL.below (f5.mono hn)) (by omega) hsz hO (hm.same (f5.block _ hm.lt)) (hE.below (f5.mono hn))
  have e1 : (d.op == 1) = false := by simp; omega
  have e8 : (d.op == 8) = true := by simpa using h8
  replace h8 := Lib.hid h8
  replace hC := Lib.hid hC
  replace f1 := Lib.hid f1
  replace f3 := Lib.hid f3
  replace f5 := Lib.hid f5
  clear f2 ihl hL hO hm hE hT
  go_enter Try.func46, Try.ntmps46
  go_upto_region 7 with fail
  go_wp2_with (first | refine load_ps (.tmp 2) f1.out rfl rfl rfl ?_)
  refine (hC.out).mono ?_
  rintro e w1 ⟨a, l, c, rfl, hF, -, hT⟩
  have hr1 := (hT.block (w.heap.size + 1 + 1) (by omega) id).trans f3.out
  obtain ⟨⟨q0, q1, q2⟩, q3, q4, q5⟩ := c3_cells hr1
  obtain ⟨W3, e3, -, ⟨g0, g1, g2⟩, s2, s3⟩ := stored3 (.int .i64 (T).op) (.int .i64 (T).n) (.slice a l c) hr1
  replace hF := Lib.hid hF
  replace hT := Lib.hid hT
  clear hr1
  replace e3 := Lib.hid e3
  replace g0 := Lib.hid g0
  replace g1 := Lib.hid g1
  replace g2 := Lib.hid g2
  go_wp2_with fail
  rw [← e3.out]
  have h0 := g0.out
  have h1 := g1.out
  have h2 := g2.out
  refine bodyPost_ret (v := .agg #[.int .i64 (T).op, .int .i64 (T).n, .slice a l c]) (by simp [results, Try.f46, go_sem, h0, h1, h2]) rfl ?_
  exact makes_end f5.out hT.out hF.out trivial (B := w.heap.size + 1 + 1) (by omega) s2 s3

set_option maxRecDepth 100000 in
set_option maxHeartbeats 1000000 in
theorem put_var (F : Int → Option DT) (st : Nat → Bool) (bm nb N : Nat) (d : DT) (n₀ : Nat) (w : World) (g : Nat → Bool) (T : Tm) (hT : putF F st (N + 1) g d.tm = some T) (hL : Lies n₀ w d) (hn : n₀ ≤ w.heap.size) (hO : OkV d.tm) (hm : TMap w bm nb F) (hE : PutOk n₀ w F)
    (hop : d.op = 1) : Calls Try.prog 46 #[.agg (psA bm st g), dv d] w (Makes noR w T (fun _ => True)) := by
  obtain ⟨f1, f2, f3, f4, f5⟩ := put0_facts w bm st g d
  obtain ⟨o1, o2, -, -⟩ := hO.open
  rw [DT.tm_op, DT.tm_n] at o1
  rw [DT.tm_op] at o2
  obtain ⟨hn0, hn20⟩ := o1 (.inl hop)
  obtain ⟨v, hv⟩ : ∃ v : Nat, d.n = v := ⟨d.n.toNat, by omega⟩
  have hkids : d.kids = [] := by have := o2 hop; rw [DT.tm_kids] at this; exact List.map_eq_nil_iff.1 this
  have hFd := find_any (put0 w bm st g d) bm nb F st g v (by omega) (hm.same (f5.block _ hm.lt))
  rw [show d.tm = .mk d.op d.n d.tm.kids by cases d; simp [DT.tm, DT.op, DT.n, Tm.kids], putF_var _ _ _ _ _ _ _ hop] at hT
  simp only [Option.some.injEq] at hT
  rw [show d.n.toNat = v by omega] at hT
  have hL0 := hL.below (f5.mono hn)
  have e1 : (d.op == 1) = true := by simpa using hop
  have hRb := fun (W : World) (hb : Below w.heap.size w W) => rebuild_any d 46 #[.agg (psA bm st g)] #[] (enters_of Try.func46 (by kernel_rfl) rfl) noR (fun _ => .mk 0 0 []) (fun _ _ => True) n₀ W (by rw [hkids]; simp) (by have := hb.size; omega) (hL.below (hb.mono hn)) (fun _ h => h.elim) (fun _ _ _ _ _ => trivial) (fun k hk _ _ _ => by rw [hkids] at hk; simp at hk) trivial
  rw [hkids] at hRb
  simp only [List.length_nil, List.range_zero, List.map_nil] at hRb
  have hCl := fun (h : (findD F g v).2 = true) (W : World) (hb : Below w.heap.size w W) => clone_any (findD F g v).1.size (hE _ _ (findD_some h)).2 (findD F g v).1 n₀ W (Nat.le_refl _) (((hE _ _ (findD_some h)).1.1).below (hb.mono hn)) (by have := hb.size; omega)
  obtain ⟨y, hy⟩ : ∃ y, y = findD F g v := ⟨_, rfl⟩
  rw [← hy] at hFd hT hCl
  have e8 : (d.op == 8) = false := by simp; omega
  rw [← hv] at hFd
  replace hv := Lib.hid hv
  replace hop := Lib.hid hop
  replace hFd := Lib.hid hFd
  replace hRb := Lib.hid hRb
  replace hCl := Lib.hid hCl
  replace f1 := Lib.hid f1
  replace f3 := Lib.hid f3
  replace f5 := Lib.hid f5
  replace hkids := Lib.hid hkids
  clear hL hL0 hO hm hE o1 o2 hy
  cases hy2 : y.2
  · rw [hy2, if_neg (by simp)] at hT
    subst hT
    replace hy2 := Lib.hid hy2
    go_enter Try.func46, Try.ntmps46
    go_upto_region 3 with fail
    go_wp2_with (first | refine load_ps (.tmp 2) f1.out rfl rfl rfl ?_)
    refine (hFd.out).mono ?_
    rintro e w1 ⟨rfl, hB1⟩
    have hz1 := hB1.size
    obtain ⟨wb, hwb⟩ : ∃ wb, wb = w1.alloc (bx y.1) := ⟨_, rfl⟩
    have hBb : Below (put0 w bm st g d).heap.size (put0 w bm st g d) wb := by rw [hwb]; exact hB1.alloc (by omega) _
    have f1b : Hid (PsAt wb w.heap.size bm st g) := (hBb.block _ (by omega)).trans f1.out
    have f3b := (hBb.block (w.heap.size + 1 + 1) (by omega)).trans f3.out
    have hbw : Below w.heap.size w wb := f5.out.trans (hBb.mono (by omega))
    obtain ⟨⟨t0, t1, t2⟩, -⟩ := c3_cells ((hBb.block (w.heap.size + 1) (by omega)).trans f2)
    have hC := hRb.out wb hbw
    rw [hwb] at hC f1b t0 t1 t2
    replace hC := Lib.hid hC
    replace hwb := Lib.hid hwb
    replace hbw := Lib.hid hbw
    replace hBb := Lib.hid hBb
    replace hB1 := Lib.hid hB1
    replace f3b := Lib.hid f3b
    clear f2
    rw [hy2.out]
    go_upto_region 8 with fail
    go_wp2_with (first | refine load_ps (.tmp 2) f1b.out rfl rfl rfl ?_)
    refine (hC.out).mono ?_
    rintro e w2 ⟨a, l, c, rfl, hF, -, hT⟩
    rw [← hwb.out] at hF hT
    have hzb := hBb.out.size
    have hr1 := (hT.block (w.heap.size + 1 + 1) (by omega) id).trans f3b.out
    obtain ⟨⟨q0, q1, q2⟩, q3, q4, q5⟩ := c3_cells hr1
    obtain ⟨W3, e3, -, ⟨g0, g1, g2⟩, s2, s3⟩ := stored3 (.int .i64 (Tm.mk d.op d.n []).op) (.int .i64 (Tm.mk d.op d.n []).n) (.slice a l c) hr1
    replace hF := Lib.hid hF
    replace hT := Lib.hid hT
    clear hr1
    replace e3 := Lib.hid e3
    replace g0 := Lib.hid g0
    replace g1 := Lib.hid g1
    replace g2 := Lib.hid g2
    go_wp2_with fail
    rw [← e3.out]
    have h0 := g0.out
    have h1 := g1.out
    have h2 := g2.out
    refine bodyPost_ret (v := .agg #[.int .i64 (Tm.mk d.op d.n []).op, .int .i64 (Tm.mk d.op d.n []).n, .slice a l c]) (by simp [results, Try.f46, go_sem, h0, h1, h2]) rfl ?_
    exact makes_end (t := .mk d.op d.n []) hbw.out hT.out hF.out trivial (B := w.heap.size + 1 + 1) (by omega) s2 s3
  · rw [hy2, if_pos rfl] at hT
    subst hT
    have hClT := Lib.hid (hCl.out hy2)
    replace hy2 := Lib.hid hy2
    go_enter Try.func46, Try.ntmps46
    go_upto_region 3 with fail
    go_wp2_with (first | refine load_ps (.tmp 2) f1.out rfl rfl rfl ?_)
    refine (hFd.out).mono ?_
    rintro e w1 ⟨rfl, hB1⟩
    have hz1 := hB1.size
    obtain ⟨wb, hwb⟩ : ∃ wb, wb = w1.alloc (bx y.1) := ⟨_, rfl⟩
    have hBb : Below (put0 w bm st g d).heap.size (put0 w bm st g d) wb := by rw [hwb]; exact hB1.alloc (by omega) _
    have f3b := (hBb.block (w.heap.size + 1 + 1) (by omega)).trans f3.out
    have hbw : Below w.heap.size w wb := f5.out.trans (hBb.mono (by omega))
    have hC := hClT.out wb hbw
    rw [hwb] at hC
    replace hC := Lib.hid hC
    replace hwb := Lib.hid hwb
    replace hbw := Lib.hid hbw
    replace hBb := Lib.hid hBb
    replace hB1 := Lib.hid hB1
    replace f3b := Lib.hid f3b
    clear f2
    rw [hy2.out]
    go_wp2_with fail
    refine (hC.out).mono ?_
    rintro e w2 ⟨a, l, c, rfl, hF, -, hT⟩
    rw [← hwb.out] at hF hT
    have hzb := hBb.out.size
    have hr1 := (hT.block (w.heap.size + 1 + 1) (by omega) id).trans f3b.out
    obtain ⟨⟨q0, q1, q2⟩, q3, q4, q5⟩ := c3_cells hr1
    obtain ⟨W3, e3, -, ⟨g0, g1, g2⟩, s2, s3⟩ := stored3 (.int .i64 (y.1.tm).op) (.int .i64 (y.1.tm).n) (.slice a l c) hr1
    replace hF := Lib.hid hF
    replace hT := Lib.hid hT
    clear hr1
    replace e3 := Lib.hid e3
    replace g0 := Lib.hid g0
    replace g1 := Lib.hid g1
    replace g2 := Lib.hid g2
    go_wp2_with fail
    rw [← e3.out]
    have h0 := g0.out
    have h1 := g1.out
    have h2 := g2.out
    refine bodyPost_ret (v := .agg #[.int .i64 (y.1.tm).op, .int .i64 (y.1.tm).n, .slice a l c]) (by simp [results, Try.f46, go_sem, h0, h1, h2]) rfl ?_
    exact makes_end (t := y.1.tm) hbw.out hT.out hF.out trivial (B := w.heap.size + 1 + 1) (by omega) s2 s3

theorem put_any (F : Int → Option DT) (st : Nat → Bool) (bm nb : Nat) (ihl : ∀ N, PutSpec F st bm nb N → PutLetSpec F st bm nb (N + 1)) (N : Nat) : PutSpec F st bm nb N := by
  induction N with
  | zero => intro d n₀ w g T hT; cases hT
  | succ N ih =>
    intro d n₀ w g T hT hL hn hsz hO hm hE
    by_cases h1 : d.op = 1
    · exact put_var F st bm nb N d n₀ w g T hT hL hn hO hm hE h1
    · by_cases h8 : d.op = 8
      · exact put_let F st bm nb N (ihl N ih) d n₀ w g T hT hL hn hsz hO hm hE h8
      · exact put_node F st bm nb N ih d n₀ w g T hT hL hn hsz hO hm hE h1 h8

end Go.Proofs.Ythlegfegkopdkaa

namespace Go.Proofs.Ythlegfegkopdkaa
open Go.RowKit Go.Shelf Go.Sort

theorem quiet_row {P : Program} {ops : Array Oper} {rest : List Oper} {o : Oper} {a : Act} {C : World → Prop} {Q : Act → Prop} (hgd : o.guard = none) (ty : TypeId) (x : Operand) (ho : o.op = .load ty x)
    (g : Nat) (hx : a.eval x = .pointer (some ⟨g, 0, none⟩)) (t : TypeId) (cs : Array Value) (fr : Nat × Nat) (d : TypeDesc) (hg : ∀ w, C w → w.heap[g]? = some (.cells cs t fr))
    (hu : P.underlying ty = some d) (hd : (match d with | .struct _ | .array _ _ => true | _ => false) = true) (hi : (P.info? ty).map (·.size) = some cs.size)
    (h : wpQuiet P ops C Q rest (a.put o.dst (.agg cs))) : wpQuiet P ops C Q (o :: rest) a := by
  refine wpQuiet_step (fun K hK => ?_)
  rw [if_pos (by simp [Region.wanted, hgd])]
  refine ⟨.agg cs, fun w hw => ?_, hK _ h⟩
  unfold Oper.quietAt execOp
  simp only [ho, hx, Instr.loadAt, Instr.sureAddr, Sem.run_bind, Sem.run_pure, Result.andThen_ok, run_loadVar_row w g t ty cs fr d (hg w hw) hu hd hi]
  exact ⟨rfl, rfl⟩

theorem quiet_mid {P : Program} {ops : Array Oper} {rest : List Oper} {o : Oper} {a : Act} {C : World → Prop} {Q : Act → Prop} (hgd : o.guard = none) (ty : TypeId) (x : Operand) (ho : o.op = .load ty x)
    (g off : Nat) (hx : a.eval x = .pointer (some ⟨g, off, none⟩)) (cs : List Value) (d : TypeDesc) (hg : ∀ w, C w → w.rangeAt g off cs)
    (hu : P.underlying ty = some d) (hd : d.isRow = true) (hi : (P.info? ty).map (·.size) = some cs.length)
    (h : wpQuiet P ops C Q rest (a.put o.dst (.agg cs.toArray))) : wpQuiet P ops C Q (o :: rest) a := by
  refine wpQuiet_step (fun K hK => ?_)
  rw [if_pos (by simp [Region.wanted, hgd])]
  refine ⟨.agg cs.toArray, fun w hw => ?_, hK _ h⟩
  unfold Oper.quietAt execOp
  simp only [ho, hx, run_loadAt_mid w g off ty cs d (hg w hw) hu hd hi, Sem.run_bind, Result.andThen_ok, Sem.run_pure]
  exact ⟨rfl, rfl⟩
theorem PsAt.range {w : World} {B bm : Nat} {f g : Nat → Bool} (h : PsAt w B bm f g) : w.rangeAt B 1 (vs f).toList := fun j v hv => by
  have hj : j < 20 := by
    have := (List.getElem?_eq_some_iff.1 hv).1
    simpa [vs_size] using this
  rw [cell_of_row w B (1 + j) _ 88 (0, 0) h, psA_stand bm f g hj]
  have h2 : (vs f)[j]? = some v := by simpa using hv
  rw [vs_get f hj] at h2
  exact h2

mutual
theorem renT_size (u v : Int) : ∀ (t : Tm), OkV t → (renT u v t).size = t.size
  | .mk op n ks, h => by
    rw [renT]
    rw [OkV] at h
    split
    · rename_i h1
      rw [h.2.1 h1.1]; rfl
    · split
      · rw [Tm.size, Tm.size, renH_size u v ks h.2.2.2]
      · rw [Tm.size, Tm.size, renTs_size u v ks h.2.2.2]
theorem renTs_size (u v : Int) : ∀ (ks : List Tm), OkVs ks → sizes (renTs u v ks) = sizes ks
  | [], _ => rfl
  | t :: ts, h => by rw [OkVs] at h; rw [renTs, sizes, sizes, renT_size u v t h.1, renTs_size u v ts h.2]
theorem renH_size (u v : Int) : ∀ (ks : List Tm), OkVs ks → sizes (renH u v ks) = sizes ks
  | [], _ => rfl
  | t :: ts, h => by rw [OkVs] at h; rw [renH, sizes, sizes, renT_size u v t h.1]
end
mutual
theorem renT_ok (u v : Int) (hv : 0 ≤ v ∧ v < 20) : ∀ (t : Tm), OkV t → OkV (renT u v t)
  | .mk op n ks, h => by
    rw [renT]
    rw [OkV] at h
    split
    · rw [OkV]; exact ⟨fun _ => hv, fun _ => rfl, fun h => by omega, by rw [OkVs]; trivial⟩
    · split
      · rename_i h8
        rw [OkV]
        exact ⟨h.1, fun h1 => by omega, fun h' => by have := h.2.2.1 h'; rw [renH_len]; exact this, renH_ok u v hv ks h.2.2.2⟩
      · rw [OkV]
        exact ⟨h.1, fun h1 => by rw [h.2.1 h1]; rfl, fun h' => by have := h.2.2.1 h'; rw [renTs_map, List.length_map]; exact this, renTs_ok u v hv ks h.2.2.2⟩
theorem renTs_ok (u v : Int) (hv : 0 ≤ v ∧ v < 20) : ∀ (ks : List Tm), OkVs ks → OkVs (renTs u v ks)
  | [], _ => by rw [renTs, OkVs]; trivial
  | t :: ts, h => by rw [OkVs] at h; rw [renTs, OkVs]; exact ⟨renT_ok u v hv t h.1, renTs_ok u v hv ts h.2⟩
theorem renH_ok (u v : Int) (hv : 0 ≤ v ∧ v < 20) : ∀ (ks : List Tm), OkVs ks → OkVs (renH u v ks)
  | [], _ => by rw [renH, OkVs]; trivial
  | t :: ts, h => by rw [OkVs] at h; rw [renH, OkVs]; exact ⟨renT_ok u v hv t h.1, h.2⟩
theorem renH_len (u v : Int) : ∀ (ks : List Tm), (renH u v ks).length = ks.length
  | [] => rfl
  | t :: ts => by simp [renH]
end

theorem _root_.Go.World.rangeAt_of_block' {w : World} {b : Nat} {C : Array Value} {t : TypeId} {fr : Nat × Nat} (hb : w.heap[b]? = some (.cells C t fr)) : w.rangeAt b 0 C.toList := fun j v hv => by
  rw [Nat.zero_add, cell_of_row w b j C t fr hb]; simpa using hv
theorem row_yield {P : Program} {a : Act} {o : Oper} {w : World} {ty t : TypeId} {x : Operand} {cs : Array Value} {fr : Nat × Nat} {d : TypeDesc} (ho : o.op = .load ty x) (g : Nat) (hx : a.eval x = .pointer (some ⟨g, 0, none⟩)) (hg : w.heap[g]? = some (.cells cs t fr))
    (hu : P.underlying ty = some d) (hd : (match d with | .struct _ | .array _ _ => true | _ => false) = true) (hi : (P.info? ty).map (·.size) = some cs.size) : (execOp a.eval o).run P w = .ok (.value (.agg cs)) w := by
  unfold execOp
  simp only [ho, hx, Instr.loadAt, Instr.sureAddr, Sem.run_bind, Sem.run_pure, Result.andThen_ok, run_loadVar_row w g t ty cs fr d hg hu hd hi]
theorem zer_keep {W w1 : World} {B : Nat} (h : Below W.heap.size W w1) (hB : W.heap[B]? = some zer3) : w1.heap[B]? = some zer3 := (h.block B (Array.getElem?_eq_some_iff.1 hB).1).trans hB
def LetRel (F : Int → Option DT) (st g : Nat → Bool) (N : Nat) (x : DT) (T : Tm) (w w0 : World) (s5 : Value) (W : World) : Prop :=
  ∃ (m : Nat) (Y : DT), m < 20 ∧ s5 = .int .i64 m ∧ W.heap[w.heap.size + 1 + 1 + 1]? = some (bx Y) ∧ Lies W.heap.size W Y ∧ 1 + Y.size ≤ 1000000 ∧ OkV Y.tm ∧ Below w0.heap.size w0 W ∧
    ∃ A B, putF F st N g x.tm = some A ∧ putF F st N (setB g m true) Y.tm = some B ∧ T = .mk 8 m [A, B]

set_option maxRecDepth 100000 in
set_option maxHeartbeats 1000000 in
theorem putLet_any (F : Int → Option DT) (st : Nat → Bool) (bm nb N : Nat) (ih : PutSpec F st bm nb N) : PutLetSpec F st bm nb (N + 1) := by
  intro d n₀ w g T hT h8 hL hn hsz hO hm hE
  obtain ⟨f1, f2, f3, f4, f5⟩ := put0_facts w bm st g d
  obtain ⟨o1, -, o3, o4⟩ := hO.open
  rw [DT.tm_op, DT.tm_n] at o1
  rw [DT.tm_op] at o3
  obtain ⟨hn0, hn20⟩ := o1 (.inr h8)
  obtain ⟨v, hv⟩ : ∃ v : Nat, d.n = v := ⟨d.n.toNat, by omega⟩
  have hv20 : v < 20 := by omega
  obtain ⟨x, y, b, off, hxy, hsx, hl, ha, hbn, ⟨g1, g2⟩, ⟨g3, g4⟩⟩ := two_kids (hL.below (f5.mono hn)) (by have := o3 h8; rwa [DT.tm_kids, List.length_map] at this)
  have hdt : d.tm.kids = [x.tm, y.tm] := by rw [DT.tm_kids, hxy]; rfl
  rw [hdt] at o4
  simp only [OkVs] at o4
  have hbz : b < w.heap.size := by omega
  obtain ⟨w0, hw0⟩ : ∃ w0, w0 = put0 w bm st g d := ⟨_, rfl⟩
  rw [← hw0] at f1 f2 f3 f4 f5 g1 g2 g3 g4
  obtain ⟨⟨b0, b1, b2⟩, -⟩ := c3_cells f2
  rw [ha] at b2
  obtain ⟨y0, y1, y2⟩ := g3
  have hl2 : (1 : Int) < (d.l : Int) := by omega
  have hl0 : 0 < d.l := by omega
  have hl1 : 1 < d.l := by omega
  rw [hv] at b1
  rw [hw0] at b0 b1 b2 y0 y1 y2
  replace hw0 := Lib.hid hw0
  replace ha := Lib.hid ha
  replace hl := Lib.hid hl
  replace h8 := Lib.hid h8
  replace hv := Lib.hid hv
  replace f1 := Lib.hid f1
  replace f2 := Lib.hid f2
  replace f3 := Lib.hid f3
  replace f5 := Lib.hid f5
  replace hm := Lib.hid hm
  replace hE := Lib.hid hE
  replace ih := Lib.hid ih
  replace hT := Lib.hid hT
  replace g1 := Lib.hid g1
  have hdt' := Lib.hid hdt
  have hLd := Lib.hid hL
  have hOd := Lib.hid hO
  clear hL hO o1 o3 hxy hdt
  go_enter Try.func64, Try.ntmps64
  go_upto_region 1 with fail
  go_region_held3 (fun W' => (W'.cell? ⟨w.heap.size + 1, 1, none⟩ = some (.int .i64 (v : Nat)) ∧ W'.cell? ⟨w.heap.size + 1, 2, none⟩ = some (.slice (some ⟨b, off, none⟩) d.l d.c)) ∧ (W'.cell? ⟨b, off + 3, none⟩ = some (.int .i64 y.op) ∧ W'.cell? ⟨b, off + 3 + 1, none⟩ = some (.int .i64 y.n) ∧ W'.cell? ⟨b, off + 3 + 2, none⟩ = some (.slice y.a y.l y.c)))
    (go_keep) (fail)
  go_upto_region 2 with fail
  obtain ⟨W1, hW1⟩ : ∃ W1, W1 = (((((w.alloc (.cells (psA bm st g) 88)).alloc (.cells #[.int .i64 d.op, .int .i64 d.n, .slice d.a d.l d.c] 32)).alloc (.cells #[.int .i64 0, .int .i64 0, .slice none 0 0] 32)).alloc (.cells #[.int .i64 y.op, .int .i64 y.n, .slice y.a y.l y.c] 32)).drew) := ⟨_, rfl⟩
  rw [← hW1]
  have hB1 : Below w0.heap.size w0 W1 := by rw [hW1, hw0.out]; exact ((Below.refl _ _).alloc (Nat.le_refl _) _).drew
  have hy6 : W1.heap[w.heap.size + 1 + 1 + 1]? = some (bx y) := by rw [hW1]; exact heap_new' _ (by simp)
  have hz1 : W1.heap.size = w.heap.size + 4 := by rw [hW1]; simp [World.drew]
  have p1 : PsAt W1 w.heap.size bm st g := (hB1.block _ (by omega)).trans f1.out
  have hbw1 : Below w.heap.size w W1 := f5.out.trans (hB1.mono (by omega))
  replace hW1 := Lib.hid hW1
  clear b0 b1 b2 y0 y1 y2
  have hIn := Lib.hid (fun dd os => (pinside_any (grow (redrawn W1 dd) os) bm st g v hv20).regrown_of)
  have hCt := Lib.hid (fun dd os => (catches_any (grow (redrawn W1 dd) os) bm nb n₀ F st (setB g v true) v y hv20 (hm.out.same (((below_regrown W1 dd os).block _ (by have := hm.out.lt; omega)).trans (hbw1.block _ hm.out.lt))) (fun i z hz => ((hE.out.below (hbw1.mono hn)).below ((below_regrown W1 dd os).mono (by omega)) i z hz).1) (by have := (below_regrown W1 dd os).size; omega) ((g4.below (hB1.mono (by omega))).below ((below_regrown W1 dd os).mono (by omega))) o4.2.1).regrown_of)
  obtain ⟨⟨z0, z1, z2⟩, -⟩ := c3_cells hy6
  have d0 := fun dd os => cell_regrown z0 dd os
  have d1 := fun dd os => cell_regrown z1 dd os
  have d2 := fun dd os => cell_regrown z2 dd os
  have hps : ∀ w', (∃ p : Regrown, w' = grow (redrawn W1 p.d) p.os) → w'.heap[w.heap.size]? = some (.cells (psA bm st g) 88 (0, 0)) := fun w' ⟨q, hq⟩ => by
    subst hq; exact ((below_regrown W1 q.d q.os).block _ (by omega)).trans p1
  replace hps := Lib.hid hps
  replace p1 := Lib.hid p1
  replace hy6 := Lib.hid hy6
  replace hB1 := Lib.hid hB1
  replace hbw1 := Lib.hid hbw1
  -- what is to be made
  have hT' : (if catchB F (setB g v true) v y.tm = true then
          match leastN (orSet (stT d.tm (fun _ => false)) st) with
          | none => none
          | some m => (putF F st N g x.tm).bind fun a' => (putF F st N (setB g m true) (renT v m y.tm)).map fun b' => Tm.mk 8 m [a', b']
        else (putF F st N g x.tm).bind fun a' => (putF F st N (setB g v true) y.tm).map fun b' => Tm.mk 8 v [a', b']) = some T := by
    have h := hT.out
    have hd : d.tm = .mk 8 v [x.tm, y.tm] := by
      cases hd' : d.tm with
      | mk op n ks =>
        have e1 : d.tm.op = op := by rw [hd']; rfl
        have e2 : d.tm.n = n := by rw [hd']; rfl
        have e3 : d.tm.kids = ks := by rw [hd']; rfl
        rw [DT.tm_op, h8.out] at e1
        rw [DT.tm_n, hv.out] at e2
        rw [hdt'.out] at e3
        rw [← e1, ← e2, ← e3]
    rw [hd, putF_let] at h
    simp only [Int.toNat_natCast] at h
    rw [hd]
    exact h
  replace hT' := Lib.hid hT'
  obtain ⟨c, hcb⟩ : ∃ c, c = catchB F (setB g v true) v y.tm := ⟨_, rfl⟩
  rw [← hcb] at hCt
  replace hcb := Lib.hid hcb
  refine wp_region_quiet_below (by kernel_rfl) (by kernel_rfl) ?_
  refine quiet_row rfl 88 (.tmp 2) rfl w.heap.size rfl 88 _ (0, 0) _ hps.out Try.underlying88 rfl (i125 _ _ _) ?_
  quiet_step (fail)
  quiet_step (exact hIn.out _ _)
  quiet_step (fail)
  quiet_step (fail)
  quiet_step (exact hCt.out _ _)
  refine wpQuiet_nil ?_
  rintro _ ⟨⟨dq, osq⟩, rfl⟩
  have hb2 := below_regrown W1 dq osq
  obtain ⟨W2, hW2⟩ : ∃ W2, W2 = grow (redrawn W1 dq) osq := ⟨_, rfl⟩
  rw [← hW2] at hb2 ⊢
  clear d0 d1 d2 hCt hIn hps z0 z1 z2
  replace hW2 := Lib.hid hW2
  go_upto_if 20 with (fail)
  go_cut [5] from 21 to 32 (fun s5 W => LetRel F st g N x T w w0 s5 W)
  case first =>
    have hB2 : Below w0.heap.size w0 W2 := hB1.out.trans (hb2.mono (by omega))
    have hz2 := hb2.size
    have hbw2 : Below w.heap.size w W2 := f5.out.trans (hB2.mono (by omega))
    have hy62 := (hb2.block _ (by omega)).trans hy6.out
    have hLy : Lies W2.heap.size W2 y := (g4.below (hB2.mono (by omega))).wider (by omega)
    cases c
    · have hrel : Hid (LetRel F st g N x T w w0 (.int .i64 (v : Nat)) W2) := by
        have h := hT'.out
        rw [← hcb.out, if_neg (by simp)] at h
        cases hA : putF F st N g x.tm with
        | none => rw [hA] at h; cases h
        | some A =>
          cases hB : putF F st N (setB g v true) y.tm with
          | none => rw [hA, hB] at h; cases h
          | some B =>
            rw [hA, hB] at h
            simp at h
            exact ⟨v, y, hv20, rfl, hy62, hLy, by omega, o4.2.1, hB2, A, B, hA, hB, h.symm⟩
      clear hy62 hLy hbw2 hB2 hb2
      go_wp2_with fail
      go_meet
      case rel => exact hrel.out
    · obtain ⟨m, hm1, hm2⟩ : ∃ m, leastN (orSet (stT d.tm (fun _ => false)) st) = some m ∧ ((putF F st N g x.tm).bind fun a' => (putF F st N (setB g m true) (renT v m y.tm)).map fun b' => Tm.mk 8 m [a', b']) = some T := by
        have h := hT'.out
        rw [← hcb.out, if_pos rfl] at h
        cases hl : leastN (orSet (stT d.tm (fun _ => false)) st) with
        | none => rw [hl] at h; cases h
        | some m => rw [hl] at h; exact ⟨m, rfl, h⟩
      have hm20 := leastN_lt hm1
      have hSt := Lib.hid (fun dd os => (standing_any d n₀ (grow (redrawn W2 dd) os) hsz (by have := (below_regrown W2 dd os).size; omega) (hLd.out.below ((hbw2.trans ((below_regrown W2 dd os).mono (by omega))).mono hn)) hOd.out).regrown_of)
      have hWi := Lib.hid (fun dd os => (with_any (stT d.tm (fun _ => false)) st (grow (redrawn W2 dd) os)).regrown_of)
      have hLo := Lib.hid (fun dd os => (leastOutside_any (orSet (stT d.tm (fun _ => false)) st) m (grow (redrawn W2 dd) os) hm1).regrown_of)
      have hp2 : PsAt W2 w.heap.size bm st g := (hb2.block _ (by omega)).trans p1.out
      have hbd2 : W2.heap[w.heap.size + 1]? = some (bx d) := (hB2.block _ (by omega)).trans f2.out
      obtain ⟨⟨z0, z1, z2⟩, -⟩ := c3_cells hbd2
      have d0 := fun dd os => cell_regrown z0 dd os
      have d1 := fun dd os => cell_regrown z1 dd os
      have d2 := fun dd os => cell_regrown z2 dd os
      have hrg : ∀ w', (∃ p : Regrown, w' = grow (redrawn W2 p.d) p.os) → w'.rangeAt w.heap.size 1 (vs st).toList := fun w' ⟨q, hq⟩ => by
        subst hq
        exact PsAt.range (show PsAt _ w.heap.size bm st g from ((below_regrown W2 q.d q.os).block _ (by omega)).trans hp2)
      replace hrg := Lib.hid hrg
      replace hp2 := Lib.hid hp2
      replace hbd2 := Lib.hid hbd2
      replace hB2 := Lib.hid hB2
      replace hbw2 := Lib.hid hbw2
      replace hy62 := Lib.hid hy62
      replace hm1 := Lib.hid hm1
      replace hm2 := Lib.hid hm2
      replace hb2 := Lib.hid hb2
      replace hLy := Lib.hid hLy
      go_upto_region 3 with fail
      refine wp_region_quiet_below (by kernel_rfl) (by kernel_rfl) ?_
      quiet_step (fail)
      quiet_step (exact hSt.out _ _)
      quiet_step (fail)
      quiet_step (fail)
      refine quiet_mid rfl 82 (.tmp 24) rfl w.heap.size 1 rfl (vs st).toList _ hrg.out u79 rfl (by rw [Array.length_toList, vs_size]; exact i79') ?_
      rw [Array.toArray_toList]
      quiet_step (exact hWi.out _ _)
      quiet_step (exact hLo.out _ _)
      quiet_step (fail)
      refine wpQuiet_nil ?_
      rintro _ ⟨⟨dq3, osq3⟩, rfl⟩
      have hb3 := below_regrown W2 dq3 osq3
      obtain ⟨W3, hW3⟩ : ∃ W3, W3 = grow (redrawn W2 dq3) osq3 := ⟨_, rfl⟩
      rw [← hW3] at hb3 ⊢
      clear d0 d1 d2 hSt hWi hLo hrg z0 z1 z2
      replace hW3 := Lib.hid hW3
      have hB3 : Below w0.heap.size w0 W3 := hB2.out.trans (hb3.mono (by omega))
      have hbd3 := (hb3.block _ (by omega)).trans hbd2.out
      have hy63 := (hb3.block _ (by omega)).trans hy62.out
      obtain ⟨⟨z0, z1, z2⟩, -⟩ := c3_cells hbd3
      rw [hv.out] at z1
      obtain ⟨⟨r0, r1, r2⟩, r3, r4, r5⟩ := c3_cells hy63
      have hRn := rename_any y.size (by omega) y W2.heap.size W3 (v : Nat) (m : Nat) (Nat.le_refl _) (hLy.out.below hb3) hb3.size o4.2.1
      have hRo := renT_ok (v : Nat) (m : Nat) (by omega) y.tm o4.2.1
      have hRs := renT_size (v : Nat) (m : Nat) y.tm o4.2.1
      obtain ⟨U, hU⟩ : ∃ U, U = renT (v : Nat) (m : Nat) y.tm := ⟨_, rfl⟩
      rw [← hU] at hRn hRo hRs
      replace hU := Lib.hid hU
      replace hRs := Lib.hid hRs
      replace hRn := Lib.hid hRn
      replace hB3 := Lib.hid hB3
      replace hb3 := Lib.hid hb3
      replace hbd3 := Lib.hid hbd3
      replace hy63 := Lib.hid hy63
      go_upto_region 4 with fail
      go_wp2_with fail
      refine (hRn.out).mono ?_
      rintro e W4 ⟨a1, l1, k1, rfl, hF4, -, hT4⟩
      have hb4 := hT4.b0
      have hz3 := hb3.out.size
      have hz4 := hb4.size
      have hy64 := (hb4.block _ (by omega)).trans hy63.out
      obtain ⟨⟨q0, q1, q2⟩, q3, q4, q5⟩ := c3_cells hy64
      obtain ⟨W5, e5, k5, -, s5, t5⟩ := stored3 (.int .i64 U.op) (.int .i64 U.n) (.slice a1 l1 k1) hy64
      obtain ⟨Y, hYl, hYt, hY1, hY2, hY3, hY4, hY5⟩ := (hF4.up (w := W3) (W := W5) (Nat.le_refl _) (fun j h1 _ => s5 j (by omega)) t5.size).is.placed
      have hrel : Hid (LetRel F st g N x T w w0 (.int .i64 (m : Nat)) W5) := by
        have h := hm2.out
        cases hA : putF F st N g x.tm with
        | none => rw [hA] at h; cases h
        | some A =>
          cases hB : putF F st N (setB g m true) U with
          | none => rw [hA, ← hU.out, hB] at h; cases h
          | some B =>
            rw [hA, ← hU.out, hB] at h
            simp at h
            refine ⟨m, Y, hm20, rfl, ?_, ?_, ?_, by rw [hYt]; exact hRo, ?_, A, B, hA, by rw [hYt]; exact hB, h.symm⟩
            · rw [k5]; unfold bx; rw [hY1, hY2, hY3, hY4, hY5]
            · exact hYl
            · have : Y.size = U.size := by rw [← hYt, size_tm]
              rw [this, hRs.out, size_tm]; omega
            · exact hB3.out.trans ((hb4.mono (by omega)).trans (t5.mono (by omega)))
      replace e5 := Lib.hid e5
      clear hy64 hYl hYt hY1 hY2 hY3 hY4 hY5 k5 s5 t5 hT4 hF4 z0 z1 z2 r0 r1 r2 r3 r4 r5
      go_wp2_with fail
      rw [← e5.out]
      go_meet
      case rel => exact hrel.out
  case rest =>
    obtain ⟨wx, rfl⟩ : ∃ wx : World, wx = wc := ⟨_, rfl⟩
    obtain ⟨m, Y, hm20, rfl, hwY, hYl, hYs, hYo, hBc, A, B, hA, hB, hTT⟩ := hcut
    subst hTT
    clear hb2
    have hbwc : Below w.heap.size w wx := f5.out.trans (hBc.mono (by omega))
    have hzc := hBc.size
    have hpc : PsAt wx w.heap.size bm st g := (hBc.block _ (by omega)).trans f1.out
    have hbdc : wx.heap[w.heap.size + 1]? = some (bx d) := (hBc.block _ (by omega)).trans f2.out
    have hrc : wx.heap[w.heap.size + 1 + 1]? = some zer3 := (hBc.block _ (by omega)).trans f3.out
    obtain ⟨⟨t0, t1, t2⟩, -⟩ := c3_cells hbdc
    rw [ha.out] at t2
    obtain ⟨x0, x1, x2⟩ := g1.out.below hBc (by omega)
    have hmc := hm.out.same (hbwc.block _ hm.out.lt)
    have hEc := hE.out.below (hbwc.mono hn)
    have hK := Lib.hid (show ∀ W, Below wx.heap.size wx W → W.rangeAt w.heap.size 0 (psA bm st g).toList ∧ W.cell? ⟨w.heap.size + 1, 2, none⟩ = some (.slice (some ⟨b, off, none⟩) d.l d.c) ∧ (W.cell? ⟨b, off, none⟩ = some (.int .i64 x.op) ∧ W.cell? ⟨b, off + 1, none⟩ = some (.int .i64 x.n) ∧ W.cell? ⟨b, off + 2, none⟩ = some (.slice x.a x.l x.c)) from fun W hb =>
      ⟨World.rangeAt_of_block' ((hb.block _ (by omega)).trans hpc), (hb.cell (p := ⟨w.heap.size + 1, 2, none⟩) (by simp; omega)).trans t2, (hb.cell (p := ⟨b, off, none⟩) (by simp; omega)).trans x0, (hb.cell (p := ⟨b, off + 1, none⟩) (by simp; omega)).trans x1, (hb.cell (p := ⟨b, off + 2, none⟩) (by simp; omega)).trans x2⟩)
    have hXc := Lib.hid (show ∀ W, Below wx.heap.size wx W → Calls Try.prog 46 #[.agg (psA bm st g), dv x] W fun e w1 => ∃ a l c, e = .returned (.agg #[.int .i64 A.op, .int .i64 A.n, .slice a l c]) ∧ Hid (Fresh W w1 A a l c ∧ Below W.heap.size W w1) ∧ Hid (Below wx.heap.size wx w1) ∧ wx.heap.size ≤ w1.heap.size from fun W hb =>
      (ih.out x n₀ W g A hA (g2.below ((hBc.trans (hb.mono hzc)).mono (by omega))) (by have := hb.size; omega) (by omega) o4.1 (hmc.same (hb.block _ hmc.lt)) (hEc.below (hb.mono (by omega)))).mono (by
        rintro e w1 ⟨a, l, c, rfl, hF, -, hT⟩
        exact ⟨a, l, c, rfl, ⟨hF, hT.b0⟩, hb.trans (hT.b0.mono hb.size), (hb.trans (hT.b0.mono hb.size)).size⟩))
    obtain ⟨k0, k1, k2, k3, k4⟩ := hK.out wx (Below.refl _ _)
    have hu125 := Try.underlying88
    have hi125 : (Try.prog.info? 88).map (·.size) = some (psA bm st g).toList.length := by rw [Array.length_toList]; exact i125 _ _ _
    have hz4 : w.heap.size + 4 ≤ wx.heap.size := by have := (Array.getElem?_eq_some_iff.1 hwY).1; omega
    replace hwY := Lib.hid hwY
    replace hBc := Lib.hid hBc
    replace hbwc := Lib.hid hbwc
    replace hpc := Lib.hid hpc
    replace hbdc := Lib.hid hbdc
    replace hrc := Lib.hid hrc
    replace hmc := Lib.hid hmc
    replace hEc := Lib.hid hEc
    replace hA := Lib.hid hA
    replace hB := Lib.hid hB
    clear t0 t1 t2 x0 x1 x2 hT' hcb
    go_upto_region 5 with fail
    go_cut [7] from 33 to 38 (fun s7 W => Slot3 (w.heap.size + 4) A s7 W ∧ Below wx.heap.size wx W)
    case first =>
      refine wp_region_held (S := fun W' => Below wx.heap.size wx W') (by kernel_rfl) ?_
      have hS0 : (fun W' : World => Below wx.heap.size wx W') { wx with drawn := wx.drawn + 1 } := (Below.refl _ _).drew
      refine takeH 0 33 (.agg (psA bm st g)) rfl rfl (by kernel_rfl) (by kernel_rfl) (by kernel_rfl) (fun _ _ _ h => h) (by rfl) (fun W hSw => row_yield (t := 88) (fr := (0, 0)) rfl w.heap.size rfl ((hSw.block _ (by omega)).trans hpc.out) hu125 rfl (i125 _ _ _)) hS0 ?_
      try simp only [List.setIfInBounds_toArray, List.set_cons_zero, List.set_cons_succ]
      refine takeH 1 34 (.pointer (some ⟨w.heap.size + 1, 2, none⟩)) rfl rfl (by kernel_rfl) (by kernel_rfl) (by kernel_rfl) (fun _ _ _ h => h) (by rfl) (by intro W hSw; clear hSw; go_simp) hS0 ?_
      try simp only [List.setIfInBounds_toArray, List.set_cons_zero, List.set_cons_succ]
      refine takeH 2 35 (.slice (some ⟨b, off, none⟩) d.l d.c) rfl rfl (by kernel_rfl) (by kernel_rfl) (by kernel_rfl) (fun _ _ _ h => h) (by rfl) (by intro W hSw; obtain ⟨-, j1, j2, j3, j4⟩ := hK.out W hSw; clear hSw; go_simp) hS0 ?_
      try simp only [List.setIfInBounds_toArray, List.set_cons_zero, List.set_cons_succ]
      refine takeH 3 36 (.pointer (some ⟨b, off, none⟩)) rfl rfl (by kernel_rfl) (by kernel_rfl) (by kernel_rfl) (fun _ _ _ h => h) (by rfl) (by intro W hSw; clear hSw; go_simp) hS0 ?_
      try simp only [List.setIfInBounds_toArray, List.set_cons_zero, List.set_cons_succ]
      refine takeH 4 37 (dv x) rfl rfl (by kernel_rfl) (by kernel_rfl) (by kernel_rfl) (fun _ _ _ h => h) (by rfl) (by intro W hSw; obtain ⟨-, j1, j2, j3, j4⟩ := hK.out W hSw; clear hSw; go_simp) hS0 ?_
      try simp only [List.setIfInBounds_toArray, List.set_cons_zero, List.set_cons_succ]
      have bdr := Lib.hid (show Below wx.heap.size wx wx.drew from (Below.refl _ _).drew)
      have bal := Lib.hid (show Below wx.heap.size wx (wx.alloc zer3).drew from ((Below.refl _ _).alloc (Nat.le_refl _) _).drew)
      have hSd : (fun W' : World => Below wx.heap.size wx W') wx.drew := (Below.refl _ _).drew
      refine wpAnyH_ready (rs := [5, 6]) (by kernel_rfl) (by simp) ?_
      refine AllReadyH.cons rfl (fun K hKc => ?_) (AllReadyH.cons rfl (fun K hKc => ?_) AllReadyH.nil)
      · go_simp
        go_at_call 46
        refine (hXc.out _ bdr.out).mono ?_
        rintro e w1 ⟨a1, l1, c1', rfl, hF1, hb1, hz1'⟩
        refine hKc _ _ hb1.out (fun _ => ?_)
        clear hKc K
        try simp only [Act.put, List.setIfInBounds_toArray, List.set_cons_zero, List.set_cons_succ]
        refine wpAnyH_ready (rs := [6]) (by kernel_rfl) (by simp) ?_
        refine AllReadyH.cons rfl (fun K hKc => ?_) AllReadyH.nil
        go_simp
        refine hKc _ _ (hb1.out.alloc hz1' _) (fun _ => ?_)
        clear hKc K
        try simp only [Act.put, List.setIfInBounds_toArray, List.set_cons_zero, List.set_cons_succ]
        refine wpAnyH_ready (rs := [7]) (by kernel_rfl) (by simp) ?_
        refine AllReadyH.cons rfl (fun K hKc => ?_) AllReadyH.nil
        go_simp
        refine hKc _ _ (hb1.out.alloc hz1' _) (fun _ => ?_)
        clear hKc K
        try simp only [Act.put, List.setIfInBounds_toArray, List.set_cons_zero, List.set_cons_succ]
        refine wpAnyH_done (by kernel_rfl) ?_ _
        have hs3 := Lib.hid (Slot3.behind (lo := w.heap.size + 4) (B := w1.heap.size) (W := wx.drew) rfl (by show _ ≤ wx.heap.size; omega) (by show wx.heap.size ≤ _; exact hz1') hF1.out.1)
        go_wp2_with fail
        go_meet
        case rel => exact ⟨hs3.out, hb1.out.alloc hz1' _⟩
      · go_simp
        refine hKc _ _ bal.out (fun _ => ?_)
        clear hKc K
        try simp only [Act.put, List.setIfInBounds_toArray, List.set_cons_zero, List.set_cons_succ]
        refine wpAnyH_ready (rs := [5]) (by kernel_rfl) (by simp) ?_
        refine AllReadyH.cons rfl (fun K hKc => ?_) AllReadyH.nil
        go_simp
        go_at_call 46
        refine (hXc.out _ bal.out).mono ?_
        rintro e w1 ⟨a1, l1, c1', rfl, hF1, hb1, hz1'⟩
        have zz := zer_keep hF1.out.2 (new_drew wx zer3)
        obtain ⟨⟨z0, z1, z2⟩, z3, z4, z5⟩ := c3_cells zz
        replace zz := Lib.hid zz
        refine hKc _ _ hb1.out (fun _ => ?_)
        clear hKc K
        try simp only [Act.put, List.setIfInBounds_toArray, List.set_cons_zero, List.set_cons_succ]
        refine wpAnyH_ready (rs := [7]) (by kernel_rfl) (by simp) ?_
        refine AllReadyH.cons rfl (fun K hKc => ?_) AllReadyH.nil
        go_simp
        refine hKc _ _ (hb1.out.trans (set3_below _ _ _ (Nat.le_refl _))) (fun _ => ?_)
        clear hKc K z0 z1 z2 z3 z4 z5
        try simp only [Act.put, List.setIfInBounds_toArray, List.set_cons_zero, List.set_cons_succ]
        refine wpAnyH_done (by kernel_rfl) ?_ _
        have hs3 := Lib.hid (Slot3.before (lo := w.heap.size + 4) (B := wx.heap.size) zz.out (by omega) (by simp [World.drew]) hF1.out.1)
        go_wp2_with fail
        go_meet
        case rel => exact ⟨hs3.out, hb1.out.trans (set3_below _ _ _ (Nat.le_refl _))⟩
    case rest =>
      obtain ⟨hx3, hbx⟩ := hcut
      obtain ⟨wy, rfl⟩ : ∃ wy : World, wy = wc := ⟨_, rfl⟩
      have hzy := hbx.size
      have hbwy : Below w.heap.size w wy := hbwc.out.trans (hbx.mono (by omega))
      have hpy : PsAt wy w.heap.size bm st g := (hbx.block _ (by omega)).trans hpc.out
      have hry := (hbx.block _ (by omega)).trans hrc.out
      have hYy := (hbx.block _ (by omega)).trans hwY.out
      obtain ⟨⟨y0, y1, y2⟩, -⟩ := c3_cells hYy
      have hIc := Lib.hid (show ∀ W, Below wy.heap.size wy W → Calls Try.prog 89 #[.agg (psA bm st g), .int .i64 (m : Nat)] W fun e w1 => e = .returned (.agg (psA bm st (setB g m true))) ∧ Hid (Below W.heap.size W w1) ∧ Hid (Below wy.heap.size wy w1) ∧ wy.heap.size ≤ w1.heap.size from fun W hb => (pinside_any W bm st g m hm20).mono (by
        rintro e w1 ⟨rfl, hB⟩
        exact ⟨rfl, hB, hb.trans (hB.mono hb.size), (hb.trans (hB.mono hb.size)).size⟩))
      have hYc := Lib.hid (show ∀ W, Below wy.heap.size wy W → Calls Try.prog 46 #[.agg (psA bm st (setB g m true)), dv Y] W fun e w1 => ∃ a l c, e = .returned (.agg #[.int .i64 B.op, .int .i64 B.n, .slice a l c]) ∧ Hid (Fresh W w1 B a l c ∧ Below W.heap.size W w1) ∧ Hid (Below wy.heap.size wy w1) ∧ wy.heap.size ≤ w1.heap.size from fun W hb =>
        (ih.out Y wx.heap.size W (setB g m true) B hB.out (hYl.below ((hbx.trans (hb.mono hzy)))) (by have := hb.size; omega) hYs hYo (hm.out.same ((hb.block _ (by have := hm.out.lt; omega)).trans (hbwy.block _ hm.out.lt))) ((hE.out.below ((hbwy.trans (hb.mono hbwy.size)).mono hn)).wider (by omega))).mono (by
          rintro e w1 ⟨a, l, c, rfl, hF, -, hT⟩
          exact ⟨a, l, c, rfl, ⟨hF, hT.b0⟩, hb.trans (hT.b0.mono hb.size), (hb.trans (hT.b0.mono hb.size)).size⟩))
      have hK2 := Lib.hid (show ∀ W, Below wy.heap.size wy W → W.cell? ⟨w.heap.size + 1 + 1 + 1, 0, none⟩ = some (.int .i64 Y.op) ∧ W.cell? ⟨w.heap.size + 1 + 1 + 1, 1, none⟩ = some (.int .i64 Y.n) ∧ W.cell? ⟨w.heap.size + 1 + 1 + 1, 2, none⟩ = some (.slice Y.a Y.l Y.c) from fun W hb => (c3_cells ((hb.block _ (by omega)).trans hYy)).1)
      replace hx3 := Lib.hid hx3
      replace hbx := Lib.hid hbx
      replace hbwy := Lib.hid hbwy
      replace hpy := Lib.hid hpy
      replace hry := Lib.hid hry
      replace hYy := Lib.hid hYy
      clear k0 k1 k2 k3 k4 hXc hK
      go_upto_region 6 with fail
      go_cut [8] from 39 to 43 (fun s8 W => Slot3 (w.heap.size + 4) B s8 W ∧ Below wy.heap.size wy W)
      case first =>
        refine wp_region_held (S := fun W' => Below wy.heap.size wy W') (by kernel_rfl) ?_
        have hS0 : (fun W' : World => Below wy.heap.size wy W') { wy with drawn := wy.drawn + 1 } := (Below.refl _ _).drew
        refine takeH 0 39 (.agg (psA bm st g)) rfl rfl (by kernel_rfl) (by kernel_rfl) (by kernel_rfl) (fun _ _ _ h => h) (by rfl) (fun W hSw => row_yield (t := 88) (fr := (0, 0)) rfl w.heap.size rfl ((hSw.block _ (by omega)).trans hpy.out) hu125 rfl (i125 _ _ _)) hS0 ?_
        try simp only [List.setIfInBounds_toArray, List.set_cons_zero, List.set_cons_succ]
        refine takeH 1 40 (.int .i64 (m : Nat)) rfl rfl (by kernel_rfl) (by kernel_rfl) (by kernel_rfl) (fun _ _ _ h => h) (by rfl) (by intro W hSw; clear hSw; go_simp) hS0 ?_
        try simp only [List.setIfInBounds_toArray, List.set_cons_zero, List.set_cons_succ]
        refine takeH 3 42 (dv Y) rfl rfl (by kernel_rfl) (by kernel_rfl) (by kernel_rfl) (fun _ _ _ h => h) (by rfl) (by intro W hSw; obtain ⟨j1, j2, j3⟩ := hK2.out W hSw; clear hSw; go_simp) hS0 ?_
        try simp only [List.setIfInBounds_toArray, List.set_cons_zero, List.set_cons_succ]
        have bdr := Lib.hid (show Below wy.heap.size wy wy.drew from (Below.refl _ _).drew)
        have bal := Lib.hid (show Below wy.heap.size wy (wy.alloc zer3).drew from ((Below.refl _ _).alloc (Nat.le_refl _) _).drew)
        have hSd : (fun W' : World => Below wy.heap.size wy W') wy.drew := (Below.refl _ _).drew
        refine wpAnyH_ready (rs := [2, 5]) (by kernel_rfl) (by simp) ?_
        refine AllReadyH.cons rfl (fun K hKc => ?_) (AllReadyH.cons rfl (fun K hKc => ?_) AllReadyH.nil)
        · go_simp
          go_at_call 89
          refine (hIc.out _ bdr.out).mono ?_
          rintro e w1 ⟨rfl, hI1, hb1, hz1'⟩
          refine hKc _ _ hb1.out (fun _ => ?_)
          clear hKc K
          try simp only [Act.put, List.setIfInBounds_toArray, List.set_cons_zero, List.set_cons_succ]
          refine wpAnyH_ready (rs := [4, 5]) (by kernel_rfl) (by simp) ?_
          refine AllReadyH.cons rfl (fun K hKc => ?_) (AllReadyH.cons rfl (fun K hKc => ?_) AllReadyH.nil)
          · go_simp
            go_at_call 46
            refine (hYc.out _ hb1.out).mono ?_
            rintro e w2 ⟨a2, l2, c2', rfl, hF2, hb2, hz2'⟩
            refine hKc _ _ hb2.out (fun _ => ?_)
            clear hKc K
            try simp only [Act.put, List.setIfInBounds_toArray, List.set_cons_zero, List.set_cons_succ]
            refine wpAnyH_ready (rs := [5]) (by kernel_rfl) (by simp) ?_
            refine AllReadyH.cons rfl (fun K hKc => ?_) AllReadyH.nil
            go_simp
            refine hKc _ _ (hb2.out.alloc hz2' _) (fun _ => ?_)
            clear hKc K
            try simp only [Act.put, List.setIfInBounds_toArray, List.set_cons_zero, List.set_cons_succ]
            refine wpAnyH_ready (rs := [6]) (by kernel_rfl) (by simp) ?_
            refine AllReadyH.cons rfl (fun K hKc => ?_) AllReadyH.nil
            go_simp
            refine hKc _ _ (hb2.out.alloc hz2' _) (fun _ => ?_)
            clear hKc K
            try simp only [Act.put, List.setIfInBounds_toArray, List.set_cons_zero, List.set_cons_succ]
            refine wpAnyH_done (by kernel_rfl) ?_ _
            have hs3 := Lib.hid (Slot3.behind (lo := w.heap.size + 4) (B := w2.heap.size) (W := w1) rfl (by omega) hF2.out.2.size hF2.out.1)
            go_wp2_with fail
            go_meet
            case rel => exact ⟨hs3.out, hb2.out.alloc hz2' _⟩
          · go_simp
            have bw1 := Lib.hid (hb1.out.alloc hz1' zer3)
            refine hKc _ _ bw1.out (fun _ => ?_)
            clear hKc K
            try simp only [Act.put, List.setIfInBounds_toArray, List.set_cons_zero, List.set_cons_succ]
            refine wpAnyH_ready (rs := [4]) (by kernel_rfl) (by simp) ?_
            refine AllReadyH.cons rfl (fun K hKc => ?_) AllReadyH.nil
            go_simp
            go_at_call 46
            refine (hYc.out _ bw1.out).mono ?_
            rintro e w2 ⟨a2, l2, c2', rfl, hF2, hb2, hz2'⟩
            have zz := zer_keep hF2.out.2 (heap_new'' w1 zer3)
            obtain ⟨⟨z0, z1, z2⟩, z3, z4, z5⟩ := c3_cells zz
            replace zz := Lib.hid zz
            refine hKc _ _ hb2.out (fun _ => ?_)
            clear hKc K
            try simp only [Act.put, List.setIfInBounds_toArray, List.set_cons_zero, List.set_cons_succ]
            refine wpAnyH_ready (rs := [6]) (by kernel_rfl) (by simp) ?_
            refine AllReadyH.cons rfl (fun K hKc => ?_) AllReadyH.nil
            go_simp
            refine hKc _ _ (hb2.out.trans (set3_below _ _ _ hz1')) (fun _ => ?_)
            clear hKc K z0 z1 z2 z3 z4 z5
            try simp only [Act.put, List.setIfInBounds_toArray, List.set_cons_zero, List.set_cons_succ]
            refine wpAnyH_done (by kernel_rfl) ?_ _
            have hs3 := Lib.hid (Slot3.before (lo := w.heap.size + 4) (B := w1.heap.size) (W := w1.alloc zer3) zz.out (by omega) (by simp) hF2.out.1)
            go_wp2_with fail
            go_meet
            case rel => exact ⟨hs3.out, hb2.out.trans (set3_below _ _ _ hz1')⟩
        · go_simp
          refine hKc _ _ bal.out (fun _ => ?_)
          clear hKc K
          try simp only [Act.put, List.setIfInBounds_toArray, List.set_cons_zero, List.set_cons_succ]
          refine wpAnyH_ready (rs := [2]) (by kernel_rfl) (by simp) ?_
          refine AllReadyH.cons rfl (fun K hKc => ?_) AllReadyH.nil
          go_simp
          go_at_call 89
          refine (hIc.out _ bal.out).mono ?_
          rintro e w1 ⟨rfl, hI1, hb1, hz1'⟩
          have zz1 := Lib.hid (zer_keep hI1.out (new_drew wy zer3))
          refine hKc _ _ hb1.out (fun _ => ?_)
          clear hKc K
          try simp only [Act.put, List.setIfInBounds_toArray, List.set_cons_zero, List.set_cons_succ]
          refine wpAnyH_ready (rs := [4]) (by kernel_rfl) (by simp) ?_
          refine AllReadyH.cons rfl (fun K hKc => ?_) AllReadyH.nil
          go_simp
          go_at_call 46
          refine (hYc.out _ hb1.out).mono ?_
          rintro e w2 ⟨a2, l2, c2', rfl, hF2, hb2, hz2'⟩
          have zz := zer_keep hF2.out.2 zz1.out
          obtain ⟨⟨z0, z1, z2⟩, z3, z4, z5⟩ := c3_cells zz
          replace zz := Lib.hid zz
          refine hKc _ _ hb2.out (fun _ => ?_)
          clear hKc K
          try simp only [Act.put, List.setIfInBounds_toArray, List.set_cons_zero, List.set_cons_succ]
          refine wpAnyH_ready (rs := [6]) (by kernel_rfl) (by simp) ?_
          refine AllReadyH.cons rfl (fun K hKc => ?_) AllReadyH.nil
          go_simp
          refine hKc _ _ (hb2.out.trans (set3_below _ _ _ (Nat.le_refl _))) (fun _ => ?_)
          clear hKc K z0 z1 z2 z3 z4 z5
          try simp only [Act.put, List.setIfInBounds_toArray, List.set_cons_zero, List.set_cons_succ]
          refine wpAnyH_done (by kernel_rfl) ?_ _
          have hs3 := Lib.hid (Slot3.before (lo := w.heap.size + 4) (B := wy.heap.size) (W := w1) zz.out (by omega) (by have := (Array.getElem?_eq_some_iff.1 zz1.out).1; omega) hF2.out.1)
          go_wp2_with fail
          go_meet
          case rel => exact ⟨hs3.out, hb2.out.trans (set3_below _ _ _ (Nat.le_refl _))⟩
      case rest =>
        obtain ⟨hy3, hbz2⟩ := hcut
        obtain ⟨wz, rfl⟩ : ∃ wz : World, wz = wc := ⟨_, rfl⟩
        have hxz := hx3.out.stays (fun b _ h2 => hbz2.block b h2) hbz2.size
        obtain ⟨B6, a6, l6, k6, rfl, hc6, hb6, ht6⟩ := hxz
        obtain ⟨B7, a7, l7, k7, rfl, hc7, hb7, ht7⟩ := hy3
        obtain ⟨⟨u0, u1, u2⟩, -⟩ := c3_cells hc6
        obtain ⟨⟨v0, v1, v2⟩, -⟩ := c3_cells hc7
        have hq := (hbz2.block _ (by omega)).trans hry.out
        obtain ⟨wd, hwd⟩ : ∃ wd, wd = wz.alloc (.cells #[.int .i64 A.op, .int .i64 A.n, .slice a6 l6 k6, .int .i64 B.op, .int .i64 B.n, .slice a7 l7 k7] 32) := ⟨_, rfl⟩
        have hqd : wd.heap[w.heap.size + 1 + 1]? = some zer3 := by rw [hwd]; exact heap_old hq
        have hwz := hbz2.size
        have hB0z : Below w0.heap.size w0 wz := hBc.out.trans ((hbx.out.mono (by omega)).trans (hbz2.mono (by omega)))
        have hBd : Hid (Below w0.heap.size w0 wd) := by rw [hwd]; exact hB0z.alloc hB0z.size _
        have hFr : Hid (Fresh w0 wd (.mk 8 (m : Nat) [A, B]) (some ⟨wz.heap.size, 0, none⟩) 2 2) :=
          fresh_two hwd hB0z.size (TmP.move (fun j hj _ => ⟨⟨by omega, hj.2.1⟩, rfl⟩) _ ht6) (TmP.move (fun j hj _ => ⟨⟨by omega, hj.2.1⟩, rfl⟩) _ ht7)
        obtain ⟨⟨q10, q11, q12⟩, q13, q14, q15⟩ := c3_cells hqd
        obtain ⟨W3, e3, -, ⟨g0, g1', g2'⟩, s2, s3⟩ := stored3 (.int .i64 8) (.int .i64 (m : Nat)) (.slice (some ⟨wz.heap.size, 0, none⟩) 2 2) hqd
        rw [hwd] at q10 q11 q12 q13 q14 q15 e3
        replace hwd := Lib.hid hwd
        replace e3 := Lib.hid e3
        replace g0 := Lib.hid g0
        replace g1' := Lib.hid g1'
        replace g2' := Lib.hid g2'
        replace hB0z := Lib.hid hB0z
        replace hbz2 := Lib.hid hbz2
        clear hqd hc6 hc7 ht6 ht7 hq y0 y1 y2
        go_wp2_with fail
        rw [← e3.out]
        have h0 := g0.out
        have h1 := g1'.out
        have h2 := g2'.out
        refine bodyPost_ret (v := .agg #[.int .i64 8, .int .i64 (m : Nat), .slice (some ⟨wz.heap.size, 0, none⟩) 2 2]) (by simp [results, Try.f64, go_sem, h0, h1, h2]) rfl ?_
        exact makes_end (t := .mk 8 (m : Nat) [A, B]) f5.out (Turns.of0 hBd.out) hFr.out trivial (B := w.heap.size + 1 + 1) (by omega) s2 s3

end Go.Proofs.Ythlegfegkopdkaa

namespace Go.Proofs.Ythlegfegkopdkaa
open Go.RowKit Go.Shelf

end Go.Proofs.Ythlegfegkopdkaa

namespace Go.Proofs.Ythlegfegkopdkaa
open Go.RowKit Go.Shelf

def shortN (l : List Nm) : Bool := l.all fun x => decide (x.1.size ≤ 30)
def smallB (s : Sg) : Bool := decide (s.cons.length ≤ 16) && (decide (s.funs.length ≤ 12) && (shortN s.cons && shortN s.funs))
end Go.Proofs.Ythlegfegkopdkaa

namespace Go.Proofs.Ythlegfegkopdkaa
open Go.RowKit Go.Shelf

/-- A slice of ints. -/
def IsInts (n₀ : Nat) (w : World) (l : List Int) (a : Option Addr) (len c : Nat) : Prop :=
  len = l.length ∧ len ≤ c ∧ c ≤ 9223372036854775807 ∧ (l = [] ∨ ∃ b off, a = some ⟨b, off, none⟩ ∧ b < n₀ ∧ ∀ k (h : k < l.length), w.cell? ⟨b, off + k, none⟩ = some (.int .i64 l[k]))
theorem IsInts.below {n₀ : Nat} {A B : World} (h : Below n₀ A B) {l : List Int} {a : Option Addr} {len c : Nat} (x : IsInts n₀ A l a len c) : IsInts n₀ B l a len c := by
  obtain ⟨h1, h2, h3, h4⟩ := x
  refine ⟨h1, h2, h3, ?_⟩
  rcases h4 with h4 | ⟨b, off, ha, hb, hk⟩
  · exact .inl h4
  · exact .inr ⟨b, off, ha, hb, fun k hk' => (h.cell (p := ⟨b, off + k, none⟩) hb).trans (hk k hk')⟩

set_option maxRecDepth 100000 in
set_option maxHeartbeats 1000000 in
/-- The reference's 'SameInts'. -/
theorem SameInts_any (l m : List Int) (n₀ : Nat) (w : World) (a : Option Addr) (la ca : Nat) (b : Option Addr) (lb cb : Nat) (hA : IsInts n₀ w l a la ca) (hB : IsInts n₀ w m b lb cb) (hn : n₀ ≤ w.heap.size) :
    Calls Try.prog 38 #[.slice a la ca, .slice b lb cb] w fun e w' => e = .returned (.bool (decide (l = m))) ∧ Below w.heap.size w w' := by
  obtain ⟨rfl, ha1, ha2, hka⟩ := hA
  obtain ⟨rfl, hb1, hb2, hkb⟩ := hB
  by_cases hlen : l.length = m.length
  rotate_left
  · have hv : Hid (decide (l = m) = false) := Lib.hid (decide_eq_false (fun h => hlen (by rw [h])))
    have o1 : ((l.length : Int) != (m.length : Int)) = true := by simp; omega
    clear hka hkb
    go_enter Try.func38, Try.ntmps38
    go_wp2_with fail
    go_ret
    exact ⟨by rw [hv.out]; rfl, Below.refl _ _⟩
  have o1 : ((l.length : Int) != (m.length : Int)) = false := by simp; omega
  replace hlen := Lib.hid hlen
  go_enter Try.func38, Try.ntmps38
  go_wp2_with fail
  go_loopw [5] (fun i wi => ∃ k : Nat, k ≤ l.length ∧ i = .int .i64 k ∧ Below w.heap.size w wi ∧ Hid (∀ j (hj : j < l.length) (hj' : j < m.length), j < k → l[j] = m[j])) (fun i _ => l.length - (intOf i).toNat)
  case atStart => exact ⟨0, by omega, rfl, Below.refl _ _, Lib.hid (fun j h h' h0 => by omega)⟩
  case round =>
    obtain ⟨k, hkk, rfl, hb, hall⟩ := hrel
    by_cases hp : k < l.length
    · have hp' : k < m.length := by have := hlen.out; omega
      rcases hka with hka | ⟨b1, off1, rfl, hbn1, hks1⟩
      · rw [hka] at hp; simp at hp
      rcases hkb with hkb | ⟨b2, off2, rfl, hbn2, hks2⟩
      · rw [hkb] at hp'; simp at hp'
      have o3 : (k : Int) < (l.length : Int) := by omega
      have o4 : (k : Int) < (m.length : Int) := by omega
      have c0 := (hb.cell (p := ⟨b1, off1 + k, none⟩) (show b1 < w.heap.size by omega)).trans (hks1 k hp)
      have c1 := (hb.cell (p := ⟨b2, off2 + k, none⟩) (show b2 < w.heap.size by omega)).trans (hks2 k hp')
      have d0 := fun dd os => cell_regrown c0 dd os
      have d1 := fun dd os => cell_regrown c1 dd os
      clear hks1 hks2
      go_wp2_with fail
      refine wp_region_quiet_below (by kernel_rfl) (by kernel_rfl) ?_
      repeat (quiet_step (fail))
      refine wpQuiet_nil ?_
      rintro _ ⟨⟨dq, osq⟩, rfl⟩
      have hb3 := below_regrown wr dq osq
      clear d0 d1
      have hz := hb.size
      by_cases he : l[k] = m[k]
      · have hall' : Hid (∀ j (hj : j < l.length) (hj' : j < m.length), j < k + 1 → l[j] = m[j]) := Lib.hid (fun j hj hj' h => by
          by_cases e : j = k
          · subst e; exact he
          · exact hall.out j hj hj' (by omega))
        have e1 : (l[k] != m[k]) = false := by simpa using he
        replace he := Lib.hid he
        clear hall
        go_wp2_with fail
        go_roundw
        case rel => exact ⟨k + 1, by omega, by go_num, hb.trans (hb3.mono hz), hall'⟩
        case measure => simp [intOf]; omega
      · have hv : Hid (decide (l = m) = false) := Lib.hid (decide_eq_false (fun h => he (by subst h; rfl)))
        have e1 : (l[k] != m[k]) = true := by simpa using he
        replace he := Lib.hid he
        clear hall
        go_wp2_with fail
        go_ret
        exact ⟨by rw [hv.out]; rfl, hb.trans (hb3.mono hz)⟩
    · have hv : Hid (decide (l = m) = true) := Lib.hid (decide_eq_true (List.ext_getElem hlen.out (fun j hj hj' => hall.out j hj hj' (by omega))))
      have o3 : ¬ (k : Int) < (l.length : Int) := by omega
      clear hall hka hkb
      go_wp2_with fail
      go_ret
      exact ⟨by rw [hv.out]; rfl, hb⟩

end Go.Proofs.Ythlegfegkopdkaa

namespace Go.Proofs.Ythlegfegkopdkaa
open Go.RowKit Go.Shelf

/-- A slice of bindings: a variable and its term each. -/
def IsBinds (n₀ : Nat) (w : World) (l : List (Int × Tm)) (a : Option Addr) (len c : Nat) : Prop :=
  len = l.length ∧ len ≤ c ∧ c ≤ 9223372036854775807 ∧ (l = [] ∨ ∃ b off, a = some ⟨b, off, none⟩ ∧ b < n₀ ∧
    ∀ k (h : k < l.length), w.cell? ⟨b, off + k * 4, none⟩ = some (.int .i64 l[k].1) ∧ ∃ a' l' c', Cells3 w b (off + k * 4 + 1) l[k].2.op l[k].2.n a' l' c' ∧ IsTm n₀ w l[k].2 a' l' c')
theorem IsBinds.below {n₀ : Nat} {A B : World} (h : Below n₀ A B) {l : List (Int × Tm)} {a : Option Addr} {len c : Nat} (x : IsBinds n₀ A l a len c) : IsBinds n₀ B l a len c := by
  obtain ⟨h1, h2, h3, h4⟩ := x
  refine ⟨h1, h2, h3, ?_⟩
  rcases h4 with h4 | ⟨b, off, ha, hb, hk⟩
  · exact .inl h4
  · refine .inr ⟨b, off, ha, hb, fun k hk' => ?_⟩
    obtain ⟨q1, a', l', c', q2, q3⟩ := hk k hk'
    exact ⟨(h.cell (p := ⟨b, off + k * 4, none⟩) hb).trans q1, a', l', c', q2.below h hb, IsTm.below h _ q3⟩

def smallT (t : Tm) : Bool := decide (0 ≤ weigh t 50 14)
def smallBs (l : List (Int × Tm)) : Bool := decide (l.length ≤ 25) && l.all fun x => smallT x.2

set_option maxRecDepth 100000 in
set_option maxHeartbeats 1000000 in
/-- The reference's 'SmallBinds'. -/
theorem SmallBinds_any (l : List (Int × Tm)) (n₀ : Nat) (w : World) (a : Option Addr) (la ca : Nat) (hA : IsBinds n₀ w l a la ca) (hn : n₀ ≤ w.heap.size) :
    Calls Try.prog 16 #[.slice a la ca] w fun e w' => e = .returned (.bool (smallBs l)) ∧ Below w.heap.size w w' := by
  obtain ⟨rfl, ha1, ha2, hka⟩ := hA
  go_enter Try.func16, Try.ntmps16
  go_wp2_with fail
  go_loopw [3] (fun i wi => ∃ k : Nat, k ≤ l.length ∧ k ≤ 26 ∧ i = .int .i64 k ∧ Below w.heap.size w wi ∧ Hid (∀ j (hj : j < l.length), j < k → smallT l[j].2 = true)) (fun i _ => l.length - (intOf i).toNat)
  case atStart => exact ⟨0, by omega, by omega, rfl, Below.refl _ _, Lib.hid (fun j h h0 => by omega)⟩
  case round =>
    obtain ⟨k, hkk, hk26, rfl, hb, hall⟩ := hrel
    have hz := hb.size
    by_cases hp : k < l.length
    · have o3 : (k : Int) < (l.length : Int) := by omega
      by_cases h25 : k ≤ 25
      · have o4 : (k : Int) ≤ 25 := by omega
        rcases hka with hka | ⟨b1, off1, rfl, hbn1, hks1⟩
        · rw [hka] at hp; simp at hp
        obtain ⟨-, a', l', c', q2, q3⟩ := hks1 k hp
        obtain ⟨p0, p1, p2⟩ := q2.below (hb.mono hn) hbn1
        have hC := Small_any l[k].2 n₀ wr a' l' c' (IsTm.below (hb.mono hn) _ q3) (by omega)
        rw [show decide (0 ≤ weigh l[k].2 50 14) = smallT l[k].2 from rfl] at hC
        clear hks1 q2 q3
        cases hs : smallT l[k].2
        · have hv : Hid (smallBs l = false) := Lib.hid (by
            unfold smallBs
            rw [Bool.and_eq_false_iff]
            exact .inr (List.all_eq_false.2 ⟨l[k], List.getElem_mem hp, by simp [hs]⟩))
          rw [hs] at hC
          replace hC := Lib.hid hC
          clear hall hs
          go_wp2_with (go_at_call 14; refine (hC.out).mono ?_; rintro e w1 ⟨rfl, hbe⟩)
          go_ret
          exact ⟨by rw [hv.out]; rfl, hb.trans (hbe.mono hz)⟩
        · have hall' : Hid (∀ j (hj : j < l.length), j < k + 1 → smallT l[j].2 = true) := Lib.hid (fun j hj h => by
            by_cases e : j = k
            · subst e; exact hs
            · exact hall.out j hj (by omega))
          rw [hs] at hC
          replace hC := Lib.hid hC
          clear hall hs
          go_wp2_with (go_at_call 14; refine (hC.out).mono ?_; rintro e w1 ⟨rfl, hbe⟩)
          go_roundw
          case rel => exact ⟨k + 1, by omega, by omega, by go_num, hb.trans (hbe.mono hz), hall'⟩
          case measure => simp [intOf]; omega
      · have o4 : ¬ (k : Int) ≤ 25 := by omega
        have o5 : ¬ (l.length : Int) ≤ 25 := by omega
        have hv : Hid (smallBs l = false) := Lib.hid (by unfold smallBs; rw [decide_eq_false (by omega)]; rfl)
        clear hka hall
        go_wp2_with fail
        go_ret
        exact ⟨by rw [hv.out]; simp, hb⟩
    · have o3 : ¬ (k : Int) < (l.length : Int) := by omega
      have hv : Hid (smallBs l = decide ((l.length : Int) ≤ 25)) := Lib.hid (by
        unfold smallBs
        rw [List.all_eq_true.2 (fun x hx => by obtain ⟨j, hj, rfl⟩ := List.getElem_of_mem hx; exact hall.out j hj (by omega)), Bool.and_true, Bool.eq_iff_iff]
        simp; omega)
      clear hka hall
      go_wp2_with fail
      go_ret
      exact ⟨by rw [hv.out]; rfl, hb⟩

end Go.Proofs.Ythlegfegkopdkaa

namespace Go.Proofs.Ythlegfegkopdkaa
open Go.RowKit Go.Shelf

theorem inf70 : (Try.prog.info? 38).map (fun i => (i.zero, i.size, i.bytes)) = some (some (.agg #[.int .i64 0, .int .i64 0, .int .i64 0, .slice none 0 0]), 4, 48) := by kernel_rfl
theorem und46 : Try.prog.underlying 39 = some (.slice 38) := by kernel_rfl

/-- A binding as it lies. -/
structure Bd where
  v : Int
  k : Kd
def Bd.cells (b : Bd) : List Value := .int .i64 b.v :: b.k.cells
def flatB : List Bd → List Value
  | [] => []
  | b :: bs => b.cells ++ flatB bs
theorem flatB_snoc (bs : List Bd) (b : Bd) : flatB (bs ++ [b]) = flatB bs ++ b.cells := by
  induction bs with
  | nil => simp [flatB]
  | cons x bs ih => simp [flatB, ih]
theorem flatB_get : ∀ (bs : List Bd) (k : Nat) (h : k < bs.length), (flatB bs)[k * 4]? = some (.int .i64 bs[k].v) ∧ (flatB bs)[k * 4 + 1]? = some (.int .i64 bs[k].k.t.op) ∧ (flatB bs)[k * 4 + 1 + 1]? = some (.int .i64 bs[k].k.t.n) ∧ (flatB bs)[k * 4 + 1 + 2]? = some (.slice bs[k].k.a bs[k].k.l bs[k].k.c)
  | [], k, h => by simp at h
  | b :: bs, 0, _ => by simp [flatB, Bd.cells, Kd.cells]
  | b :: bs, k + 1, h => by
    have := flatB_get bs k (by simpa using h)
    simp only [flatB, Bd.cells, Kd.cells, List.cons_append, List.nil_append, List.getElem_cons_succ]
    rw [show (k + 1) * 4 = k * 4 + 1 + 1 + 1 + 1 by omega, show k * 4 + 1 + 1 + 1 + 1 + 1 = k * 4 + 1 + 1 + 1 + 1 + 1 from rfl]
    simpa using this

/-- The row of bindings that a loop has made. -/
def BRow (base : Nat) (w : World) (L : List (Int × Tm)) (va : Option Addr) (vl vc : Nat) : Prop :=
  ∃ K : List Bd, K.map (fun b => (b.v, b.k.t)) = L ∧ w.ownsRow base 38 4 (.slice va vl vc) L.length (flatB K) ∧ ∀ x ∈ K, TmP (fun b => base ≤ b ∧ (Value.slice va vl vc).ownBlock ≠ some b) w x.k.t x.k.a x.k.l x.k.c
theorem BRow.nil (base : Nat) (w : World) : BRow base w [] none 0 0 := ⟨[], rfl, World.ownsRow_nil _ _ _ _, by simp⟩
theorem BRow.is {base : Nat} {w : World} {L : List (Int × Tm)} {va : Option Addr} {vl vc : Nat} (h : BRow base w L va vl vc) : IsBinds w.heap.size w L va vl vc := by
  obtain ⟨K, h1, h2, h3⟩ := h
  have hlen : K.length = L.length := by rw [← h1, List.length_map]
  rcases h2.2 with ⟨hv, h0⟩ | ⟨g, cap, cur, hv, hg, hcur, hn, hcap, hs, ht⟩
  · cases hv
    exact ⟨h0.symm, by omega, by omega, .inl (List.length_eq_zero_iff.1 h0)⟩
  · cases hv
    obtain ⟨hc, h1', h2', h3', h4⟩ := own_cells h2
    refine ⟨rfl, h1', h2', .inr ⟨g, 0, rfl, h3', fun k hk => ?_⟩⟩
    have hk' : k < K.length := by omega
    obtain ⟨g1, g2, g3, g4⟩ := flatB_get K k hk'
    have e : L[k] = (K[k].v, K[k].k.t) := by simp only [← h1, List.getElem_map]
    rw [e, Nat.zero_add]
    refine ⟨hc _ _ g1, K[k].k.a, K[k].k.l, K[k].k.c, ⟨hc _ _ g2, hc _ _ g3, hc _ _ g4⟩, ?_⟩
    have hx := h3 K[k] (List.getElem_mem hk')
    have hP : ∀ (t : Tm) {a : Option Addr} {l c : Nat}, TmP (fun b => base ≤ b ∧ (Value.slice (some ⟨g, 0, none⟩) L.length vc).ownBlock ≠ some b) w t a l c → TmP (fun b => b < w.heap.size) w t a l c := fun t _ _ _ ht => TmP.move (fun b _ hlt => ⟨hlt, rfl⟩) t ht
    exact TmP.is (fun b hb => hb) _ (hP _ hx)

theorem BRow.step {base : Nat} {wr W W1 w2 : World} {L : List (Int × Tm)} {va : Option Addr} {vl vc g cap : Nat} {v : Int} {t : Tm} {a' : Option Addr} {l' c' : Nat} {K : List Bd} (h1 : K.map (fun b => (b.v, b.k.t)) = L) (h2 : wr.ownsRow base 38 4 (.slice va vl vc) L.length (flatB K)) (h3 : ∀ x ∈ K, TmP (fun b => base ≤ b ∧ (Value.slice va vl vc).ownBlock ≠ some b) wr x.k.t x.k.a x.k.l x.k.c)
    (hA : ∀ j, base ≤ j → j < wr.heap.size → W1.heap[j]? = wr.heap[j]?) (hz : wr.heap.size ≤ W.heap.size) (hb : base ≤ wr.heap.size) (hW : W.heap.size ≤ W1.heap.size) (hk : TmP (fun b => W.heap.size ≤ b ∧ b < W1.heap.size) W1 t a' l' c')
    (hgrow : W1.grownBy w2 (Value.slice va vl vc).ownBlock)
    (hown : w2.ownsRow base 38 4 (.slice (some ⟨g, 0, none⟩) (L.length + 1) cap) (L.length + 1) (flatB K ++ [.int .i64 v, .int .i64 t.op, .int .i64 t.n, .slice a' l' c']))
    (hat : (Value.slice va vl vc).ownBlock = some g ∨ g = W1.heap.size) :
    BRow base w2 (L ++ [(v, t)]) (some ⟨g, 0, none⟩) (L.length + 1) cap := by
  have hnb : ∀ j, (Value.slice va vl vc).ownBlock = some j → base ≤ j ∧ j < wr.heap.size := fun j h => own_base h2 h
  have hne : ∀ j, j < W1.heap.size → (Value.slice va vl vc).ownBlock ≠ some j → (Value.slice (some ⟨g, 0, none⟩) (L.length + 1) cap).ownBlock ≠ some j := fun j hj hn e => by
    have : g = j := by simpa [Value.ownBlock] using e
    subst this
    rcases hat with h | h
    · exact hn h
    · omega
  refine ⟨K ++ [⟨v, ⟨t, a', l', c'⟩⟩], by simp [h1], ?_, ?_⟩
  · rw [flatB_snoc, List.length_append]
    exact hown
  · intro x hx
    rcases List.mem_append.1 hx with hx | hx
    · exact TmP.move (fun b hb' hlt => ⟨⟨hb'.1, hne b (by omega) hb'.2⟩, (hgrow.block b (by omega) (fun e => hb'.2 e.symm)).trans (hA b hb'.1 hlt)⟩) _ (h3 x hx)
    · obtain rfl := List.mem_singleton.1 hx
      refine TmP.move (fun b hb' hlt => ?_) _ hk
      have hnb' : (Value.slice va vl vc).ownBlock ≠ some b := fun e => by have := (hnb b e).2; omega
      exact ⟨⟨by omega, hne b hb'.2 hnb'⟩, hgrow.block b hlt (fun e => hnb' e.symm)⟩

def listB (f : Int → Option DT) (k : Nat) : List (Int × Tm) := (List.range k).filterMap fun v : Nat => (f v).map fun d => ((v : Int), d.tm)
theorem listB_some {f : Int → Option DT} {k : Nat} {d : DT} (h : f (k : Nat) = some d) : listB f (k + 1) = listB f k ++ [((k : Int), d.tm)] := by
  simp [listB, List.range_succ, h]
theorem listB_none {f : Int → Option DT} {k : Nat} (h : f (k : Nat) = none) : listB f (k + 1) = listB f k := by
  simp [listB, List.range_succ, h]
theorem listB_len (f : Int → Option DT) (k : Nat) : (listB f k).length ≤ k := by
  have := List.length_filterMap_le (fun v : Nat => (f v).map fun d => ((v : Int), d.tm)) (List.range k); simpa [listB] using this

set_option maxRecDepth 100000 in
set_option maxHeartbeats 1000000 in
theorem mlist_any (w : World) (bm nb n₀ : Nat) (f : Int → Option DT) (hm : TMap w bm nb f) (hE : Els (fun d => Lies n₀ w d ∧ d.size ≤ 1000000) f) (hn : n₀ ≤ w.heap.size) :
    Calls Try.prog 31 #[.map (some bm)] w fun e w' => ∃ va vl vc, e = .returned (.slice va vl vc) ∧ BRow w.heap.size w' (listB f 20) va vl vc ∧ Below w.heap.size w w' := by
  obtain ⟨i0, hi, hz0, hz1, hz2⟩ := info_parts inf70
  have hmlt := hm.lt
  replace hm := Lib.hid hm
  replace hE := Lib.hid hE
  go_enter Try.func31, Try.ntmps31
  go_wp2_with fail
  go_loopw [3, 4, 5, 6, 7] (fun v _ _ _ i wi => ∃ k : Nat, ∃ va vl vc, k ≤ 20 ∧ i = .int .i64 k ∧ v = .slice va vl vc ∧ Hid (BRow w.heap.size wi (listB f k) va vl vc) ∧ Below w.heap.size w wi) (fun _ _ _ _ i _ => 20 - (intOf i).toNat)
  case atStart => exact ⟨0, none, 0, 0, by omega, rfl, rfl, BRow.nil _ _, Below.refl _ _⟩
  case round =>
    obtain ⟨k, va, vl, vc, hk, rfl, rfl, hB, hb⟩ := hrel
    have hz := hb.size
    by_cases hlt : k < 20
    · have o1 : (k : Int) < 20 := by omega
      have hmr := hm.out.same (hb.block _ hmlt)
      cases hf : f (k : Nat) with
      | none =>
        have hl := hmr.look_none und100 (i := (k : Nat)) (by omega) hf
        have hn1 := Lib.hid (listB_none hf)
        clear hmr hf
        go_wp2_with fail
        go_roundw
        case rel =>
          refine ⟨k + 1, va, vl, vc, by omega, by go_num, rfl, ?_, hb.alloc hz _⟩
          rw [hn1.out]
          obtain ⟨K, h1, h2, h3⟩ := hB.out
          exact ⟨K, h1, h2.alloc _, fun x hx => TmP.move (fun b hb' hlt => ⟨hb', Below.heap_alloc _ _ b hlt⟩) _ (h3 x hx)⟩
        case measure => simp [intOf]; omega
      | some d =>
        have hl := hmr.look_some und100 (i := (k : Nat)) (by omega) hf
        obtain ⟨hLd, hsd⟩ := hE.out _ _ hf
        have hC := clone_any d.size hsd d n₀ (wr.alloc (bx d)) (Nat.le_refl _) (hLd.below ((hb.alloc hz _).mono hn)) (by simp; omega)
        have hn1 := Lib.hid (listB_some hf)
        have hlen := listB_len f k
        replace hC := Lib.hid hC
        clear hmr hf hLd
        go_wp2_with fail
        refine (hC.out).mono ?_
        rintro e w1 ⟨a', l', c', rfl, hF, -, hT⟩
        have hz1' : wr.heap.size + 1 ≤ w1.heap.size := by have := hT.size; simpa using this
        have hA : ∀ j, j < wr.heap.size → w1.heap[j]? = wr.heap[j]? := fun j hj => (hT.b0.block j (by simp; omega)).trans (Below.heap_alloc _ _ j hj)
        obtain ⟨K, h1, h2, h3⟩ := hB.out
        have h2' := own_stays (w' := w1) h2 (fun g _ hg => hA g hg)
        replace hT := Lib.hid hT
        replace hA := Lib.hid hA
        replace hF := Lib.hid hF
        replace h1 := Lib.hid h1
        replace h3 := Lib.hid h3
        replace h2 := Lib.hid h2
        replace h2' := Lib.hid h2'
        go_wp2_with (first
          | (at_builtin; refine wpList_append_lies _ rfl _ _ 39 rfl w.heap.size 38 i0 _ 4 48 und46 hi hz0 hz1 hz2 rfl (by omega) (.slice va vl vc) (listB f k).length (flatB K) rfl (h2'.out.alloc _)
              ⟨w1.heap.size, 0, none⟩ 1 1 [.int .i64 (k : Int), .int .i64 d.tm.op, .int .i64 d.tm.n, .slice a' l' c'] rfl rfl (World.news_of_block (cs := #[.int .i64 (k : Int), .int .i64 d.tm.op, .int .i64 d.tm.n, .slice a' l' c']) (t := 38) (fr := (0, 0)) (heap_new' _ rfl)) (by simp [Value.oneCell'])
              (by omega) (by unfold maxLen; omega) (by omega) (by simp; omega) (w1.heap.size + 1) (by simp) ?_; intro gg cap2 w2 hown1 hgrow hat hlt2))
        go_roundw
        case rel =>
          have hst := BRow.step (v := (k : Int)) (W := wr.alloc (bx d)) (W1 := w1.alloc (.cells #[.int .i64 (k : Int), .int .i64 d.tm.op, .int .i64 d.tm.n, .slice a' l' c'] 38)) h1.out h2.out h3.out (fun j _ hj => (Below.heap_alloc _ _ j (by omega)).trans (hA.out j hj)) (by simp) hz (by simp; omega)
            (TmP.move (fun b hb' hlt => ⟨⟨hb'.1, by have := hb'.2; simp; omega⟩, Below.heap_alloc _ _ b hlt⟩) _ hF.out) hgrow hown1 (by simpa using hat)
          refine ⟨k + 1, _, _, _, by omega, by go_num, rfl, by rw [hn1.out]; exact hst, ?_⟩
          exact (((hb.alloc hz (bx d)).trans (hT.out.b0.mono (by simp; omega))).alloc (by omega) _).grown hgrow (by simp; omega) (fun q hq => (own_base h2.out hq).1)
        case measure => simp [intOf]; omega
    · have : k = 20 := by omega
      subst this
      go_wp2_with fail
      go_ret
      exact ⟨va, vl, vc, rfl, hB.out, hb⟩

end Go.Proofs.Ythlegfegkopdkaa

namespace Go.Proofs.Ythlegfegkopdkaa
open Go.RowKit Go.Shelf

def noB : Int → Option DT := fun _ => none
/-- What 'Match' answers. -/
noncomputable def matchA (s : Sg) (d x : DT) : List (Int × Tm) × Int :=
  if checkV s [d, x] = true then (if (matchD noB d x).1 = true then (listB (matchD noB d x).2 20, 0) else ([], 5)) else ([], 2)
theorem IsBinds.none (n : Nat) (w : World) : IsBinds n w [] none 0 0 := ⟨rfl, by omega, by omega, .inl rfl⟩

set_option maxRecDepth 100000 in
set_option maxHeartbeats 1000000 in
theorem Match_any (s : Sg) (d x : DT) (n₀ : Nat) (w : World) (ac : Option Addr) (lc cc : Nat) (af : Option Addr) (lf cf : Nat) (hs1 : 1 + d.size ≤ 1000000) (hs2 : 1 + x.size ≤ 1000000) (hn : n₀ ≤ w.heap.size) (hS : IsSg n₀ w s ac lc cc af lf cf) (hL1 : Lies n₀ w d) (hL2 : Lies n₀ w x) :
    Calls Try.prog 11 #[.agg #[.slice ac lc cc, .slice af lf cf], dv d, dv x] w fun e w' => ∃ va vl vc, e = .returned (.tuple #[.slice va vl vc, .int .i64 (matchA s d x).2]) ∧ IsBinds w'.heap.size w' (matchA s d x).1 va vl vc ∧ Below w.heap.size w w' := by
  obtain ⟨W0, hW0⟩ : ∃ W0, W0 = ((w.alloc (bs 27 ac lc cc af lf cf)).alloc (bx d)).alloc (bx x) := ⟨_, rfl⟩
  have hB0 : Below w.heap.size w W0 := by rw [hW0]; go_grown
  have hz0 : W0.heap.size = w.heap.size + 1 + 1 + 1 := by rw [hW0]; simp
  have hl1 := hL1.below (hB0.mono hn)
  have hl2 := hL2.below (hB0.mono hn)
  have hB1 : Below W0.heap.size W0 (W0.alloc (two d x)) := (Below.refl _ _).alloc (Nat.le_refl _) _
  have hC := checkValues_any s [d, x] (W0.heap.size + 1) (W0.alloc (two d x)) ac lc cc af lf cf (some ⟨W0.heap.size, 0, none⟩) 2 2 (by intro y hy; simp at hy; rcases hy with rfl | rfl <;> assumption) (by simp) ((hS.below ((hB0.trans (hB1.mono hB0.size)).mono hn)).wider (by omega)) (two_lies hl1 hl2 (by omega))
  have bd : W0.heap[w.heap.size + 1]? = some (bx d) := by rw [hW0]; exact heap_old (heap_new' _ (by simp))
  have bx' : W0.heap[w.heap.size + 1 + 1]? = some (bx x) := by rw [hW0]; exact heap_new' _ (by simp)
  rw [hz0] at hC
  have hmm := @run_makeMap Try.prog
  cases hv : checkV s [d, x]
  · rw [hv] at hC
    have hv2 : Hid (matchA s d x = ([], 2)) := Lib.hid (by unfold matchA; rw [hv]; rfl)
    have he : errOf false = 2 := rfl
    rw [hW0] at hC
    replace hC := Lib.hid hC
    clear hl1 hl2 hL1 hL2 hS hv
    go_enter Try.func11, Try.ntmps11
    go_wp2_with fail
    refine (hC.out).mono ?_
    rintro e w1 ⟨rfl, hbe⟩
    replace hbe := Lib.hid hbe
    go_wp2_with fail
    go_ret2
    rw [hW0] at hB0 hB1
    rw [hv2.out]
    exact ⟨none, 0, 0, rfl, IsBinds.none _ _, hB0.trans ((hB1.mono (by simp; omega)).trans (hbe.out.mono (by simp; omega)))⟩
  · have hcb : checkB s [d, x] = true := by unfold checkV at hv; rw [Bool.and_eq_true] at hv; exact hv.1
    have hO1 := OkV.checked hcb (by simp : d ∈ [d, x])
    rw [hv] at hC
    have he : errOf true = 0 := rfl
    have hM := fun (W : World) (hb : Below W0.heap.size W0 W) => match_any d.size d x n₀ (W.alloc (.map #[] 0)) W.heap.size 0 noB (Nat.le_refl _) (hl1.below ((hb.alloc hb.size _).mono (by omega))) (hl2.below ((hb.alloc hb.size _).mono (by omega))) (by have := hb.size; omega) (by have := hb.size; simp; omega) (TMap.made W) (fun i y hy => by cases hy) (by omega) hO1
    have hEl : Els (fun y => Lies n₀ W0 y ∧ y.size ≤ 1000000) (matchD noB d x).2 := matchD_els (fun y hy k hk => ⟨hy.1.kids_lie k hk, by
      obtain ⟨i, hi, rfl⟩ := List.getElem_of_mem hk
      have h1 := dsize_kid y.kids i hi
      have h2 := dsize_eq y
      have := hy.2; omega⟩) d x noB ⟨hl2, by omega⟩ (fun i y hy => by cases hy)
    obtain ⟨r, hr⟩ : ∃ r, r = matchD noB d x := ⟨_, rfl⟩
    have ho : matchA s d x = if r.1 = true then (listB r.2 20, 0) else ([], 5) := by unfold matchA; rw [hv, if_pos rfl, hr]
    rw [← hr] at hM hEl
    rw [hW0] at hC
    replace hC := Lib.hid hC
    replace hM := Lib.hid hM
    replace hEl := Lib.hid hEl
    clear hr hl1 hl2 hL1 hL2 hS hv hO1 hcb
    replace ho := Lib.hid ho
    go_enter Try.func11, Try.ntmps11
    go_wp2_with fail
    refine (hC.out).mono ?_
    rintro e w1 ⟨rfl, hbe⟩
    have hb1 : Below W0.heap.size W0 w1 := hB1.trans ((show Below (W0.alloc (two d x)).heap.size (W0.alloc (two d x)) w1 from by rw [hW0]; exact hbe).mono hB1.size)
    have hba := hb1.alloc hb1.size (.map #[] 0)
    obtain ⟨⟨b0, b1, b2⟩, -⟩ := c3_cells ((hba.block (w.heap.size + 1) (by omega)).trans bd)
    obtain ⟨⟨x0, x1, x2⟩, -⟩ := c3_cells ((hba.block (w.heap.size + 1 + 1) (by omega)).trans bx')
    have hz1 := hb1.size
    have hMw := Lib.hid (hM.out w1 hb1)
    replace hb1 := Lib.hid hb1
    replace hba := Lib.hid hba
    clear hbe
    go_wp2_with fail
    refine (hMw.out).mono ?_
    rintro e w2 ⟨hT, ⟨rfl, hr1, n', hn', hm2⟩ | ⟨rfl, hr1⟩⟩
    · have hb2 : Below W0.heap.size W0 w2 := hba.out.trans (hT.below (by simp; omega) (fun k hk e => by omega))
      have hLs := Lib.hid (mlist_any w2 w1.heap.size n' n₀ r.2 hm2 (fun i y hy => ⟨((hEl.out i y hy).1).below (hb2.mono (by omega)), (hEl.out i y hy).2⟩) (by have := hb2.size; omega))
      rw [hr1, if_pos rfl] at ho
      replace hr1 := Lib.hid hr1
      replace hm2 := Lib.hid hm2
      replace hT := Lib.hid hT
      replace hb2 := Lib.hid hb2
      clear hmm b0 b1 b2 x0 x1 x2
      go_wp2_with fail
      refine (hLs.out).mono ?_
      rintro e w3 ⟨va, vl, vc, rfl, hBr, hB3⟩
      have hBi := Lib.hid hBr.is
      replace hB3 := Lib.hid hB3
      clear hBr
      go_wp2_with fail
      go_ret2
      rw [ho.out]
      exact ⟨va, vl, vc, rfl, hBi.out, hB0.trans ((hb2.out.mono (by omega)).trans (hB3.out.mono (by have := hb2.out.size; omega)))⟩
    · have hb2 : Below W0.heap.size W0 w2 := hba.out.trans (hT.below (by simp; omega) (fun k hk e => by omega))
      rw [hr1, if_neg (by simp)] at ho
      replace hr1 := Lib.hid hr1
      replace hT := Lib.hid hT
      replace hb2 := Lib.hid hb2
      clear hmm b0 b1 b2 x0 x1 x2
      go_wp2_with fail
      go_ret2
      rw [ho.out]
      exact ⟨none, 0, 0, rfl, IsBinds.none _ _, hB0.trans (hb2.out.mono (by omega))⟩

end Go.Proofs.Ythlegfegkopdkaa

namespace Go.Proofs.Ythlegfegkopdkaa
open Go.RowKit Go.Shelf

/-- A binding with its places. -/
structure PB where
  v : Int
  d : DT
abbrev PB.val (x : PB) : Value := .agg #[.int .i64 x.v, .int .i64 x.d.op, .int .i64 x.d.n, .slice x.d.a x.d.l x.d.c]
structure Cells4 (w : World) (b off : Nat) (x : PB) : Prop where
  c0 : w.cell? ⟨b, off, none⟩ = some (.int .i64 x.v)
  c1 : w.cell? ⟨b, off + 1, none⟩ = some (.int .i64 x.d.op)
  c2 : w.cell? ⟨b, off + 2, none⟩ = some (.int .i64 x.d.n)
  c3 : w.cell? ⟨b, off + 3, none⟩ = some (.slice x.d.a x.d.l x.d.c)
theorem Cells4.below {n₀ : Nat} {A B : World} (h : Below n₀ A B) {b off : Nat} (hb : b < n₀) {x : PB} (c : Cells4 A b off x) : Cells4 B b off x :=
  ⟨(h.cell (p := ⟨b, _, none⟩) hb).trans c.c0, (h.cell (p := ⟨b, _, none⟩) hb).trans c.c1, (h.cell (p := ⟨b, _, none⟩) hb).trans c.c2, (h.cell (p := ⟨b, _, none⟩) hb).trans c.c3⟩

def LiesB (n₀ : Nat) (w : World) (bs : List PB) (a : Option Addr) (l c : Nat) : Prop :=
  l = bs.length ∧ l ≤ c ∧ c ≤ 9223372036854775807 ∧ (bs = [] ∨ ∃ b off, a = some ⟨b, off, none⟩ ∧ b < n₀ ∧ ∀ k (h : k < bs.length), Cells4 w b (off + k * 4) bs[k] ∧ Lies n₀ w bs[k].d)
theorem LiesB.below {n₀ : Nat} {A B : World} (h : Below n₀ A B) {bs : List PB} {a : Option Addr} {l c : Nat} (x : LiesB n₀ A bs a l c) : LiesB n₀ B bs a l c := by
  obtain ⟨h1, h2, h3, h4⟩ := x
  refine ⟨h1, h2, h3, ?_⟩
  rcases h4 with h4 | ⟨b, off, ha, hb, hk⟩
  · exact .inl h4
  · exact .inr ⟨b, off, ha, hb, fun k hk' => ⟨(hk k hk').1.below h hb, (hk k hk').2.below h⟩⟩
theorem LiesB.wider {n₀ n₁ : Nat} {A : World} (h : n₀ ≤ n₁) {bs : List PB} {a : Option Addr} {l c : Nat} (x : LiesB n₀ A bs a l c) : LiesB n₁ A bs a l c := by
  obtain ⟨h1, h2, h3, h4⟩ := x
  refine ⟨h1, h2, h3, ?_⟩
  rcases h4 with h4 | ⟨b, off, ha, hb, hk⟩
  · exact .inl h4
  · exact .inr ⟨b, off, ha, by omega, fun k hk' => ⟨(hk k hk').1, (hk k hk').2.wider h⟩⟩
def pbs (bs : List PB) : List (Int × Tm) := bs.map fun x => (x.v, x.d.tm)
theorem IsBinds.placed {n : Nat} {w : World} {L : List (Int × Tm)} {a : Option Addr} {l c : Nat} (h : IsBinds n w L a l c) : ∃ bs, LiesB n w bs a l c ∧ pbs bs = L := by
  obtain ⟨h1, h2, h3, h4⟩ := h
  rcases h4 with rfl | ⟨b, off, ha, hb, hk⟩
  · exact ⟨[], ⟨h1, h2, h3, .inl rfl⟩, rfl⟩
  · have hex : ∀ k : Fin L.length, ∃ x : PB, (Cells4 w b (off + k.val * 4) x ∧ Lies n w x.d) ∧ (x.v, x.d.tm) = L[k.val] := fun k => by
      obtain ⟨q1, a', l', c', q2, q3⟩ := hk k.val k.isLt
      obtain ⟨D, d1, d2, d3, d4, d5, d6, d7⟩ := q3.placed
      refine ⟨⟨L[k.val].1, D⟩, ⟨⟨q1, ?_, ?_, ?_⟩, d1⟩, by simp only [d2]⟩
      · rw [d3]; exact q2.c0
      · rw [d4]; exact q2.c1
      · rw [d5, d6, d7]; exact q2.c2
    refine ⟨List.ofFn fun k => Classical.choose (hex k), ⟨by simp [h1], h2, h3, .inr ⟨b, off, ha, hb, fun k hk' => ?_⟩⟩, ?_⟩
    · rw [List.getElem_ofFn]
      exact (Classical.choose_spec (hex ⟨k, by simpa using hk'⟩)).1
    · apply List.ext_getElem
      · simp [pbs]
      · intro i hi1 hi2
        simp only [pbs, List.getElem_map, List.getElem_ofFn]
        exact (Classical.choose_spec (hex ⟨i, hi2⟩)).2

set_option maxRecDepth 100000 in
set_option maxHeartbeats 1000000 in
theorem allB_any (g : Nat) (cap : Array Value) (eg : ∀ args w, (callFunc g args).run Try.prog w = .ok (.enter g args) w)
    (ds : List PB) (a : Option Addr) (c : Nat) (hc1 : ds.length ≤ c) (hc2 : c ≤ 9223372036854775807)
    (Inv : Nat → World → Prop) (Stop : World → Prop) (hal : ∀ k W o, Inv k W → Inv k (W.alloc o))
    (hcell : ∀ k W (h : k < ds.length), Inv k W → ∃ b off, a = some ⟨b, off, none⟩ ∧ Cells4 W b (off + k * 4) ds[k])
    (hf : ∀ k (h : k < ds.length) W, Inv k W → Calls Try.prog g (#[.agg #[.int .i64 ds[k].v, .int .i64 ds[k].d.op, .int .i64 ds[k].d.n, .slice ds[k].d.a ds[k].d.l ds[k].d.c]] ++ cap) W fun e W' => (e = .returned (.bool true) ∧ Inv (k + 1) W') ∨ (e = .returned (.bool false) ∧ Stop W'))
    (W : World) (h0 : Inv 0 W) :
    Calls Try.prog 40 #[.slice a ds.length c, .func (.func g) #[] cap] W fun e W' => (e = .returned (.bool true) ∧ Inv ds.length W') ∨ (e = .returned (.bool false) ∧ Stop W') := by
  replace hf := Lib.hid hf
  replace hcell := Lib.hid hcell
  replace h0 := Lib.hid h0
  replace hal := Lib.hid hal
  go_enter Try.func40, Try.ntmps40
  go_wp2_with fail
  go_loopw [6, 9] (fun _ i wr => ∃ k : Nat, k ≤ ds.length ∧ i = .int .i64 k ∧ Hid (Inv k wr)) (fun _ i _ => ds.length - (intOf i).toNat)
  case atStart => exact ⟨0, by omega, rfl, h0⟩
  case round =>
    obtain ⟨k, hk1, rfl, hI⟩ := hrel
    by_cases hlt : k < ds.length
    · obtain ⟨b, off, rfl, d0, d1, d2, d3⟩ := hcell.out k wr hlt hI.out
      have hC := Lib.hid (hf.out k hlt _ (hal.out k wr (.cells #[.int .i64 ds[k].v, .int .i64 ds[k].d.op, .int .i64 ds[k].d.n, .slice ds[k].d.a ds[k].d.l ds[k].d.c] 38) hI.out))
      go_wp2_with fail
      refine (hC.out).mono ?_
      rintro e W' (⟨rfl, hI'⟩ | ⟨rfl, hS'⟩)
      · replace hI' := Lib.hid hI'
        go_wp2_with fail
        go_roundw
        case rel => exact ⟨k + 1, by omega, by go_num, hI'⟩
        case measure => simp [intOf]; omega
      · replace hS' := Lib.hid hS'
        go_wp2_with fail
        go_ret
        exact .inr ⟨rfl, hS'.out⟩
    · have : k = ds.length := by omega
      subst this
      go_wp2_with fail
      go_ret
      exact .inl ⟨rfl, hI.out⟩

/-- Whether bindings, behind one of the variable 'before', are as a binding list's. -/
noncomputable def lfB (s : Sg) : Int → List (Int × Tm) → Bool
  | _, [] => true
  | before, x :: xs => (decide (before < x.1) && inB x.1 0 19) && formedB s x.2 && lfB s x.1 xs

end Go.Proofs.Ythlegfegkopdkaa

namespace Go.Proofs.Ythlegfegkopdkaa
open Go.RowKit Go.Shelf

abbrev one3 (v : Int) : Obj := .cells #[.int .i64 v] 3
theorem one3_cell {w : World} {B : Nat} {v : Int} (h : w.heap[B]? = some (one3 v)) : w.cell? ⟨B, 0, none⟩ = some (.int .i64 v) ∧ w.frozen? ⟨B, 0, none⟩ = false :=
  ⟨by rw [cell_of_row w B 0 _ 3 (0, 0) h]; rfl, frozen_of_row w B 0 _ 3 h⟩

set_option maxRecDepth 100000 in
set_option maxHeartbeats 1000000 in
theorem lf1_any (s : Sg) (x : PB) (n₀ : Nat) (W : World) (Bb Bs : Nat) (before : Int) (ac : Option Addr) (lc cc : Nat) (af : Option Addr) (lf cf : Nat) (hs : 1 + x.d.size ≤ 1000000) (hn : n₀ ≤ W.heap.size) (hb0 : n₀ ≤ Bb) (hb : W.heap[Bb]? = some (one3 before)) (hsb : W.heap[Bs]? = some (bs 27 ac lc cc af lf cf)) (hS : IsSg n₀ W s ac lc cc af lf cf) (hL : Lies n₀ W x.d) :
    Calls Try.prog 41 #[.agg #[.int .i64 x.v, .int .i64 x.d.op, .int .i64 x.d.n, .slice x.d.a x.d.l x.d.c], .pointer (some ⟨Bb, 0, none⟩), .pointer (some ⟨Bs, 0, none⟩)] W fun e W' =>
      e = .returned (.bool ((decide (before < x.v) && inB x.v 0 19) && formedB s x.d.tm)) ∧ Turns (fun b => b = Bb) W W' ∧ W'.heap[Bb]? = some (one3 x.v) := by
  obtain ⟨c0, c1⟩ := one3_cell hb
  obtain ⟨⟨s0, s1⟩, -⟩ := c2_cells hsb
  have hne : Bs ≠ Bb := fun e => by subst e; rw [hb] at hsb; cases hsb
  have hlt := (Array.getElem?_eq_some_iff.1 hb).1
  have hlts := (Array.getElem?_eq_some_iff.1 hsb).1
  obtain ⟨w1, hw1⟩ : ∃ w1, w1 = (W.setCell ⟨Bb, 0, none⟩ (.int .i64 x.v)).alloc (.cells #[.int .i64 x.v, .int .i64 x.d.op, .int .i64 x.d.n, .slice x.d.a x.d.l x.d.c] 38) := ⟨_, rfl⟩
  have hT1 : Turns (fun b => b = Bb) W w1 := by rw [hw1]; exact ((Turns.refl (fun b => b = Bb) W).setCell (p := ⟨Bb, 0, none⟩) (fun _ => rfl) _).alloc _
  have hb1 : w1.heap[Bb]? = some (one3 x.v) := by rw [hw1]; exact heap_old ((heap_setCell_same W Bb 0 _ 3 (.int .i64 x.v) hb).trans rfl)
  have hBl : Below n₀ W w1 := hT1.below hn (fun k hk e => by omega)
  have hF := formed_any s x.d n₀ w1 ac lc cc af lf cf hs (by have := hT1.size; omega) (hS.below hBl) (hL.below hBl)
  have hV := fun w => isVar_any x.v w
  have d0 : ∀ o v, ((W.setCell ⟨Bb, 0, none⟩ v).alloc o).cell? ⟨Bs, 0, none⟩ = some (.slice ac lc cc) := fun o v => alloc_cell (by rw [World.cell?_of_block (heap_setCell_other W ⟨Bb, 0, none⟩ Bs v hne)]; exact s0)
  have d1 : ∀ o v, ((W.setCell ⟨Bb, 0, none⟩ v).alloc o).cell? ⟨Bs, 1, none⟩ = some (.slice af lf cf) := fun o v => alloc_cell (by rw [World.cell?_of_block (heap_setCell_other W ⟨Bb, 0, none⟩ Bs v hne)]; exact s1)
  have d2 : ∀ o, (W.alloc o).cell? ⟨Bb, 0, none⟩ = some (.int .i64 before) := fun o => alloc_cell c0
  have d3 : ∀ o, (W.alloc o).frozen? ⟨Bb, 0, none⟩ = false := fun o => (one3_cell (heap_old (o := o) hb)).2
  obtain ⟨i, hi⟩ : ∃ i, i = decide (before < x.v) := ⟨_, rfl⟩
  obtain ⟨v, hv⟩ : ∃ v, v = inB x.v 0 19 := ⟨_, rfl⟩
  obtain ⟨f, hf⟩ : ∃ f, f = formedB s x.d.tm := ⟨_, rfl⟩
  rw [← hv] at hV
  rw [← hf] at hF
  rw [← hi, ← hv, ← hf]
  have q0 : ¬ W.heap.size = Bb := by omega
  replace hv := Lib.hid hv
  replace hf := Lib.hid hf
  rw [hw1] at hF
  replace hF := Lib.hid hF
  replace hV := Lib.hid hV
  replace hw1 := Lib.hid hw1
  replace hT1 := Lib.hid hT1
  replace hb1 := Lib.hid hb1
  clear hS hL hb hsb s0 s1 hBl
  cases i
  · have o1 : ¬ before < x.v := by simpa using hi.symm
    clear hi
    go_enter Try.func41, Try.ntmps41
    go_wp2_with fail
    go_ret
    rw [← hw1.out]
    exact ⟨rfl, hT1.out, hb1.out⟩
  · have o1 : before < x.v := by simpa using hi.symm
    clear hi
    cases v
    · go_enter Try.func41, Try.ntmps41
      go_wp2_with fail
      refine (hV.out _).mono ?_
      rintro e w2 ⟨rfl, rfl⟩
      go_wp2_with fail
      go_ret
      rw [← hw1.out]
      exact ⟨rfl, hT1.out, hb1.out⟩
    · go_enter Try.func41, Try.ntmps41
      go_wp2_with fail
      refine (hV.out _).mono ?_
      rintro e w2 ⟨rfl, rfl⟩
      go_wp2_with fail
      refine (hF.out).mono ?_
      rintro e w2 ⟨rfl, hB2⟩
      rw [← hw1.out] at hB2
      replace hB2 := Lib.hid hB2
      go_wp2_with fail
      go_ret
      have hlt1 := (Array.getElem?_eq_some_iff.1 hb1.out).1
      refine ⟨rfl, hT1.out.then (hB2.out.mono hT1.out.size), (hB2.out.block _ hlt1).trans hb1.out⟩

theorem lfB_cons (s : Sg) (b : Int) (x : Int × Tm) (xs : List (Int × Tm)) : lfB s b (x :: xs) = ((decide (b < x.1) && inB x.1 0 19) && formedB s x.2 && lfB s x.1 xs) := rfl

set_option maxRecDepth 100000 in
set_option maxHeartbeats 1000000 in
/-- 'listFormed'. -/
theorem listFormed_any (s : Sg) (ds : List PB) (n₀ : Nat) (w : World) (ac : Option Addr) (lc cc : Nat) (af : Option Addr) (lf cf : Nat) (a : Option Addr) (l c : Nat) (hs : ∀ x ∈ ds, 1 + x.d.size ≤ 1000000) (hn : n₀ ≤ w.heap.size) (hS : IsSg n₀ w s ac lc cc af lf cf) (hL : LiesB n₀ w ds a l c) :
    Calls Try.prog 23 #[.agg #[.slice ac lc cc, .slice af lf cf], .slice a l c] w fun e w' => e = .returned (.bool (lfB s (-1) (pbs ds))) ∧ Below w.heap.size w w' := by
  obtain ⟨rfl, h1, h2, h3⟩ := hL
  obtain ⟨w0, hw0⟩ : ∃ w0, w0 = (w.alloc (bs 27 ac lc cc af lf cf)).alloc (one3 (-1)) := ⟨_, rfl⟩
  have hB0 : Below w.heap.size w w0 := by rw [hw0]; go_grown
  have hz0 : w0.heap.size = w.heap.size + 1 + 1 := by rw [hw0]; simp
  have f1 : w0.heap[w.heap.size]? = some (bs 27 ac lc cc af lf cf) := by rw [hw0]; exact heap_old (heap_new' _ rfl)
  have f2 : w0.heap[w.heap.size + 1]? = some (one3 (-1)) := by rw [hw0]; exact heap_new' _ (by simp)
  have hC : Calls Try.prog 40 #[.slice a ds.length c, .func (.func 41) #[] #[.pointer (some ⟨w.heap.size + 1, 0, none⟩), .pointer (some ⟨w.heap.size, 0, none⟩)]] w0 fun e w' => e = .returned (.bool (lfB s (-1) (pbs ds))) ∧ Below w.heap.size w w' := by
    refine (allB_any 41 #[.pointer (some ⟨w.heap.size + 1, 0, none⟩), .pointer (some ⟨w.heap.size, 0, none⟩)] (enters_of Try.func41 (by kernel_rfl) rfl) ds a c h1 h2
      (fun k W => Below w.heap.size w W ∧ W.heap[w.heap.size]? = some (bs 27 ac lc cc af lf cf) ∧ w.heap.size + 2 ≤ W.heap.size ∧ ∃ b, W.heap[w.heap.size + 1]? = some (one3 b) ∧ lfB s (-1) (pbs ds) = lfB s b (pbs (ds.drop k)))
      (fun W => Below w.heap.size w W ∧ lfB s (-1) (pbs ds) = false)
      (fun k W o hI => by
        obtain ⟨g1, g2, g3, b, g4, g5⟩ := hI
        exact ⟨g1.alloc g1.size o, heap_old g2, by simp; omega, b, heap_old g4, g5⟩)
      (fun k W h hI => by
        rcases h3 with h3 | ⟨b, off, ha, hb, hk⟩
        · rw [h3] at h; simp at h
        · exact ⟨b, off, ha, (hk k h).1.below (hI.1.mono hn) hb⟩)
      (fun k h W hI => by
        obtain ⟨g1, g2, g3, b, g4, g5⟩ := hI
        have hLk : Lies n₀ W ds[k].d := by
          rcases h3 with h3 | ⟨b, off, ha, hb, hk⟩
          · rw [h3] at h; simp at h
          · exact (hk k h).2.below (g1.mono hn)
        refine (lf1_any s ds[k] n₀ W (w.heap.size + 1) w.heap.size b ac lc cc af lf cf (hs _ (List.getElem_mem h)) (by omega) (by omega) g4 g2 (hS.below (g1.mono hn)) hLk).mono ?_
        rintro e W' ⟨rfl, hT, hb'⟩
        have hB' : Below w.heap.size w W' := g1.trans (hT.below (by omega) (fun j hj e => by omega))
        have hd : pbs (ds.drop k) = (ds[k].v, ds[k].d.tm) :: pbs (ds.drop (k + 1)) := by rw [List.drop_eq_getElem_cons h]; rfl
        rw [hd, lfB_cons] at g5
        cases hr : ((decide (b < ds[k].v) && inB ds[k].v 0 19) && formedB s ds[k].d.tm)
        · refine .inr ⟨rfl, hB', ?_⟩
          rw [g5]; simp only [hr, Bool.false_and]
        · refine .inl ⟨rfl, hB', (hT.block _ (by omega) (by omega)).trans g2, by have := hT.size; omega, ds[k].v, hb', ?_⟩
          rw [g5]; simp only [hr, Bool.true_and])
      w0 ⟨hB0, f1, by omega, -1, f2, by simp⟩).mono ?_
    rintro e W' (⟨rfl, g1, g2, g3, b, g4, g5⟩ | ⟨rfl, g1, g5⟩)
    · rw [List.drop_eq_nil_of_le (Nat.le_refl _)] at g5
      exact ⟨by rw [g5]; rfl, g1⟩
    · exact ⟨by rw [g5], g1⟩
  obtain ⟨r, hr⟩ : ∃ r, r = lfB s (-1) (pbs ds) := ⟨_, rfl⟩
  rw [← hr] at hC ⊢
  rw [hw0] at hC
  replace hC := Lib.hid hC
  have hmf : ∀ (fn : Fn) (first cap : Array Value) (w : World), (Instr.makeFunc fn first cap).run Try.prog w = .ok (.func fn first cap) w := fun _ _ _ _ => rfl
  clear hr hS h3 f1 f2 hs
  go_enter Try.func23, Try.ntmps23
  go_wp2_with fail
  refine (hC.out).mono ?_
  rintro e w1 ⟨rfl, hb⟩
  replace hb := Lib.hid hb
  go_wp2_with fail
  go_ret
  exact ⟨rfl, hb.out⟩

end Go.Proofs.Ythlegfegkopdkaa
