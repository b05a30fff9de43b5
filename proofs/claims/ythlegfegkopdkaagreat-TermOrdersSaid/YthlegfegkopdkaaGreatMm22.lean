/- Own text, joined of: O5 M1 C9 E5 E6 E7 E8 F1 F2 F3 F4 M2 S3. 'inOrder', 'Order', 'Variant'. · Maps from integers to terms; 'match'. · 'matcher.list'. · The scope of 'put': find, inside; leastOutside. -/
import Derived.RegionTactic
import Derived.Test.YthlegfegkopdkaaGreatMm15
import Derived.Test.YthlegfegkopdkaaGreatMm21

namespace Go.Proofs.YthlegfegkopdkaaGreat
open Go.RowKit Go.Shelf

def ordE (t : Tm) : Tm × OS := ordT (fun _ => none) ⟨fun _ => none, 0⟩ t

theorem set3_celld {w : World} {B k o : Nat} (x' y' z' : Value) (h : ¬ k = B) : (((w.setCell ⟨B, 0, none⟩ x').setCell ⟨B, 1, none⟩ y').setCell ⟨B, 2, none⟩ z').drew.cell? ⟨k, o, none⟩ = w.cell? ⟨k, o, none⟩ := set3_cell x' y' z' h

set_option maxRecDepth 100000 in
set_option maxHeartbeats 1000000 in
theorem inOrder_any (d : DT) (n₀ : Nat) (w : World) (hs : d.size ≤ 1000000) (hL : Lies n₀ w d) (hn : n₀ ≤ w.heap.size) (hO : OkV d.tm) :
    Calls Tryz.prog 70 #[dv d] w fun e w' => ∃ a l c, e = .returned (.tuple #[.agg #[.int .i64 (ordE d.tm).1.op, .int .i64 (ordE d.tm).1.n, .slice a l c], .int .i64 ((ordE d.tm).2.count : Nat)]) ∧ Fresh w w' (ordE d.tm).1 a l c ∧ Below w.heap.size w w' := by
  obtain ⟨w0, hw0⟩ : ∃ w0, w0 = ((((w.alloc (bx d)).alloc zer3).alloc (.map #[] 0)).alloc (.cells #[.map (some (w.heap.size + 1 + 1)), .int .i64 0] 139)).alloc (.map #[] 0) := ⟨_, rfl⟩
  have hz0 : w0.heap.size = w.heap.size + 5 := by rw [hw0]; simp
  have hB0 : Below w.heap.size w w0 := by rw [hw0]; go_grown
  have hm1 : IMap w0 (w.heap.size + 1 + 1) 0 (fun _ => none) := by
    rw [hw0]
    have := IMap.made ((w.alloc (bx d)).alloc zer3)
    rw [World.size_alloc, World.size_alloc] at this
    exact (this.same (Below.heap_alloc _ _ _ this.lt)).same (Below.heap_alloc _ _ _ (by simp)) 
  have hm2 : IMap w0 (w.heap.size + 1 + 1 + 1 + 1) 0 (fun _ => none) := by
    rw [hw0]
    have := IMap.made ((((w.alloc (bx d)).alloc zer3).alloc (.map #[] 0)).alloc (.cells #[.map (some (w.heap.size + 1 + 1)), .int .i64 0] 139))
    simp only [World.size_alloc] at this
    exact this
  have hsc : w0.heap[w.heap.size + 1 + 1 + 1]? = some (scopeB (w.heap.size + 1 + 1) 0) := by rw [hw0]; exact heap_old (heap_new' _ (by simp))
  have hrs : w0.heap[w.heap.size + 1]? = some zer3 := by rw [hw0]; exact heap_old (heap_old (heap_old (heap_new' _ (by simp))))
  have hC := order_any d.size d n₀ w0 (w.heap.size + 1 + 1 + 1) (w.heap.size + 1 + 1) (w.heap.size + 1 + 1 + 1 + 1) 0 (fun _ => none) ⟨fun _ => none, 0⟩ (Nat.le_refl _) (hL.below (hB0.mono hn)) (by omega) (by omega) (by omega) ⟨hsc, 0, Nat.le_refl _, hm1⟩ hm2 (by omega) (by omega) (by omega) (by simp; omega) hO
  change Calls _ _ _ _ (Makes _ _ (ordE d.tm).1 (ScopeAt _ _ (ordE d.tm).2)) at hC
  obtain ⟨r, hr⟩ : ∃ r, r = ordE d.tm := ⟨_, rfl⟩
  rw [← hr] at hC ⊢
  rw [hw0] at hC
  replace hC := Lib.hid hC
  clear hr hm1 hm2 hO hL
  have hmm := @run_makeMap Tryz.prog
  go_enter Tryz.func70, Tryz.ntmps70
  go_wp2_with fail
  refine (hC.out).mono ?_
  rintro e w1 ⟨a, l, c, rfl, hF, hJ, hT⟩
  rw [← hw0] at hF hT
  have hz1 := hT.size
  have h1 := hJ.1
  unfold scopeB at h1
  obtain ⟨⟨s0, s1⟩, -⟩ := c2_cells h1
  have hr1 := (hT.block (w.heap.size + 1) (by omega) (by rintro (h | h) <;> omega)).trans hrs
  have z := fun o => c3_cells (heap_old (o := o) hr1)
  have sx : ∀ o, (w1.alloc o).cell? ⟨w.heap.size + 1 + 1 + 1, 1, none⟩ = some (.int .i64 (r.2.count : Nat)) := fun o => (c2_cells (heap_old (o := o) h1)).1.2
  replace h1 := Lib.hid h1
  replace hJ := Lib.hid hJ
  replace hF := Lib.hid hF
  replace hT := Lib.hid hT
  replace z := Lib.hid z
  go_wp2_with fail
  obtain ⟨wb, hwb⟩ : ∃ wb, wb = w1.alloc (.cells #[.int .i64 r.1.op, .int .i64 r.1.n, .slice a l c] 28) := ⟨_, rfl⟩
  have k1 := heap_new'' w1 (.cells #[.int .i64 r.1.op, .int .i64 r.1.n, .slice a l c] 28)
  have k2 := sx (.cells #[.int .i64 r.1.op, .int .i64 r.1.n, .slice a l c] 28)
  have k3 := heap_old (o := .cells #[.int .i64 r.1.op, .int .i64 r.1.n, .slice a l c] 28) hr1
  have k4 : ∀ j, j < w1.heap.size → wb.heap[j]? = w1.heap[j]? := fun j hj => by rw [hwb]; exact Below.heap_alloc _ _ j hj
  have k5 : wb.heap.size = w1.heap.size + 1 := by rw [hwb]; simp
  rw [← hwb] at k1 k2 k3 ⊢
  obtain ⟨⟨x0, x1, x2⟩, -⟩ := c3_cells k1
  obtain ⟨⟨y0, y1, y2⟩, y3, y4, y5⟩ := c3_cells k3
  have q0 : ¬ w1.heap.size = w.heap.size + 1 := by omega
  have q1 : ¬ w.heap.size + 1 + 1 + 1 = w.heap.size + 1 := by omega
  replace k1 := Lib.hid k1
  replace hwb := Lib.hid hwb
  obtain ⟨W3, e3, -, ⟨g0, g1, g2⟩, t2, t3⟩ := stored3 (.int .i64 r.1.op) (.int .i64 r.1.n) (.slice a l c) k3
  replace k3 := Lib.hid k3
  replace e3 := Lib.hid e3
  replace g0 := Lib.hid g0
  replace g1 := Lib.hid g1
  replace g2 := Lib.hid g2
  clear sx s0 s1
  go_region_held3 (fun W' => W'.cell? ⟨w.heap.size + 1 + 1 + 1, 1, none⟩ = some (.int .i64 (r.2.count : Nat)) ∧ W'.cell? ⟨w1.heap.size, 0, none⟩ = some (.int .i64 r.1.op) ∧ W'.cell? ⟨w1.heap.size, 1, none⟩ = some (.int .i64 r.1.n) ∧ W'.cell? ⟨w1.heap.size, 2, none⟩ = some (.slice a l c))
    (first | (refine ⟨?_, ?_, ?_, ?_⟩ <;> (first | (rw [set3_cell _ _ _ (by first | exact q0 | exact q1)]; assumption) | (rw [set3_celld _ _ _ (by first | exact q0 | exact q1)]; assumption))) | go_keep)
    (fail)
  all_goals
    go_wp2_with fail
    rw [← e3.out]
    have h0 : W3.drew.cell? ⟨w.heap.size + 1, 0, none⟩ = some (.int .i64 r.1.op) := g0.out
    have h1 : W3.drew.cell? ⟨w.heap.size + 1, 1, none⟩ = some (.int .i64 r.1.n) := g1.out
    have h2 : W3.drew.cell? ⟨w.heap.size + 1, 2, none⟩ = some (.slice a l c) := g2.out
    refine bodyPost_ret (v := .tuple #[.agg #[.int .i64 r.1.op, .int .i64 r.1.n, .slice a l c], .int .i64 (r.2.count : Nat)]) (by simp [results, Tryz.f70, go_sem, h0, h1, h2]) rfl ?_
    have hb1 : Below w.heap.size w w1 := hB0.trans (hT.out.below (by omega) (fun k hk hr => by rcases hr with h | h <;> omega))
    refine ⟨a, l, c, rfl, (hF.out.up (w := w) (W := W3.drew) (by omega) (fun b hb1 hb2 => (t2 b (by omega)).trans (k4 b hb2)) (by have := t3.size; show w1.heap.size ≤ W3.heap.size; omega) : Fresh w W3.drew r.1 a l c), ?_⟩
    have hb2 : Below w.heap.size w wb := by rw [hwb.out]; exact hb1.alloc (by omega) _
    exact (hb2.trans (t3.mono (by omega))).drew

theorem Fresh.same {w w' W : World} {t : Tm} {a : Option Addr} {l c : Nat} (h : Fresh w w' t a l c) (h2 : ∀ b, w.heap.size ≤ b → b < w'.heap.size → W.heap[b]? = w'.heap[b]?) (h3 : w'.heap.size ≤ W.heap.size) : Fresh w W t a l c := h.up (Nat.le_refl _) h2 h3
/-- What 'Order' answers: a term and the error. -/
noncomputable def orderA (s : Sg) (d : DT) : Tm × Int := if checkB s [d] = true then (if 20 < (ordE d.tm).2.count then (.mk 0 0 [], 3) else ((ordE d.tm).1, 0)) else (.mk 0 0 [], 2)

set_option maxRecDepth 100000 in
set_option maxHeartbeats 1000000 in
theorem Order_any (s : Sg) (d : DT) (n₀ : Nat) (w : World) (ac : Option Addr) (lc cc : Nat) (af : Option Addr) (lf cf : Nat) (hs1 : 1 + d.size ≤ 1000000) (hn : n₀ ≤ w.heap.size) (hS : IsSg n₀ w s ac lc cc af lf cf) (hL1 : Lies n₀ w d) :
    Calls Tryz.prog 33 #[.agg #[.slice ac lc cc, .slice af lf cf], dv d] w fun e w' => ∃ a l c, e = .returned (.tuple #[.agg #[.int .i64 (orderA s d).1.op, .int .i64 (orderA s d).1.n, .slice a l c], .int .i64 (orderA s d).2]) ∧ Fresh w w' (orderA s d).1 a l c ∧ Below w.heap.size w w' := by
  obtain ⟨W0, hW0⟩ : ∃ W0, W0 = ((w.alloc (bs 24 ac lc cc af lf cf)).alloc (bx d)).alloc zer3 := ⟨_, rfl⟩
  have hB0 : Below w.heap.size w W0 := by rw [hW0]; go_grown
  have hz0 : W0.heap.size = w.heap.size + 1 + 1 + 1 := by rw [hW0]; simp
  have hl1 := hL1.below (hB0.mono hn)
  have hC := Check_any s d n₀ W0 ac lc cc af lf cf hs1 (by omega) (hS.below (hB0.mono hn)) hl1
  have hbx : W0.heap[w.heap.size + 1]? = some (bx d) := by rw [hW0]; exact heap_old (heap_new' _ (by simp))
  have hrs : W0.heap[w.heap.size + 1 + 1]? = some zer3 := by rw [hW0]; exact heap_new' _ (by simp)
  cases hv : checkB s [d]
  · rw [hv] at hC
    have ho : Hid (orderA s d = (.mk 0 0 [], 2)) := Lib.hid (by unfold orderA; rw [hv]; rfl)
    have he : errOf false = 2 := rfl
    rw [hW0] at hC
    replace hC := Lib.hid hC
    clear hl1 hL1 hS hv
    go_enter Tryz.func33, Tryz.ntmps33
    go_wp2_with fail
    refine (hC.out).mono ?_
    rintro e w1 ⟨rfl, hbe⟩
    rw [← hW0] at hbe
    have q1 := (hbe.block (w.heap.size + 1 + 1) (by omega)).trans hrs
    obtain ⟨⟨p0, p1, p2⟩, p3, p4, p5⟩ := c3_cells q1
    obtain ⟨W3, e3, -, ⟨g0, g1, g2⟩, t2, t3⟩ := stored3 (.int .i64 0) (.int .i64 0) (.slice none 0 0) q1
    replace e3 := Lib.hid e3
    replace g0 := Lib.hid g0
    replace g1 := Lib.hid g1
    replace g2 := Lib.hid g2
    replace hbe := Lib.hid hbe
    replace q1 := Lib.hid q1
    go_wp2_with fail
    rw [← e3.out]
    have h0 := g0.out
    have h1 := g1.out
    have h2 := g2.out
    rw [ho.out]
    exact bodyPost_ret (v := .tuple #[.agg #[.int .i64 0, .int .i64 0, .slice none 0 0], .int .i64 2]) (by simp [results, Tryz.f33, go_sem, h0, h1, h2]) rfl ⟨none, 0, 0, rfl, Fresh.nil _ _ _ _, hB0.trans ((hbe.out.mono (by omega)).trans (t3.mono (by omega)))⟩
  · have hO := OkV.checked hv (List.mem_singleton.2 rfl)
    rw [hv] at hC
    have he : errOf true = 0 := rfl
    have hI := fun (W : World) (hb : Below W0.heap.size W0 W) => inOrder_any d n₀ W (by omega) (hl1.below (hb.mono (by omega))) (by have := hb.size; omega) hO
    obtain ⟨r, hr⟩ : ∃ r, r = ordE d.tm := ⟨_, rfl⟩
    have ho : orderA s d = if 20 < r.2.count then (.mk 0 0 [], 3) else (r.1, 0) := by unfold orderA; rw [hv, if_pos rfl, hr]
    rw [← hr] at hI
    rw [hW0] at hC
    replace hC := Lib.hid hC
    replace hI := Lib.hid hI
    replace hr := Lib.hid hr
    replace ho := Lib.hid ho
    clear hl1 hL1 hS hv hO
    go_enter Tryz.func33, Tryz.ntmps33
    go_wp2_with fail
    refine (hC.out).mono ?_
    rintro e w1 ⟨rfl, hbe⟩
    rw [← hW0] at hbe
    obtain ⟨⟨b0, b1, b2⟩, -⟩ := c3_cells ((hbe.block (w.heap.size + 1) (by omega)).trans hbx)
    have hI1 := Lib.hid (hI.out w1 hbe)
    have hz1 := hbe.size
    replace hbe := Lib.hid hbe
    go_wp2_with fail
    refine (hI1.out).mono ?_
    rintro e w2 ⟨a, l, c, rfl, hF, hB2⟩
    have hz2 := hB2.size
    have q1 := heap_old (o := .cells #[.int .i64 r.1.op, .int .i64 r.1.n, .slice a l c] 28) ((hB2.block _ (by omega)).trans ((hbe.out.block (w.heap.size + 1 + 1) (by omega)).trans hrs))
    obtain ⟨wb, hwb⟩ : ∃ wb, wb = w2.alloc (.cells #[.int .i64 r.1.op, .int .i64 r.1.n, .slice a l c] 28) := ⟨_, rfl⟩
    obtain ⟨⟨p0, p1, p2⟩, p3, p4, p5⟩ := c3_cells q1
    have hB3 : Hid (Below w.heap.size w wb) := by rw [hwb]; exact (hB0.trans ((hbe.out.mono (by omega)).trans (hB2.mono (by omega)))).alloc (by omega) _
    have hk4 : Hid (∀ j, j < w2.heap.size → wb.heap[j]? = w2.heap[j]?) := fun j hj => by rw [hwb]; exact Below.heap_alloc _ _ j hj
    have hk5 : wb.heap.size = w2.heap.size + 1 := by rw [hwb]; simp
    replace hF := Lib.hid hF
    replace hB2 := Lib.hid hB2
    by_cases hcnt : 20 < r.2.count
    · have o1 : (20 : Int) < (r.2.count : Nat) := by omega
      rw [if_pos hcnt] at ho
      obtain ⟨W3, e3, -, ⟨g0, g1, g2⟩, t2, t3⟩ := stored3 (.int .i64 0) (.int .i64 0) (.slice none 0 0) q1
      replace e3 := Lib.hid e3
      replace g0 := Lib.hid g0
      replace g1 := Lib.hid g1
      replace g2 := Lib.hid g2
      rw [← hwb] at t2 t3
      replace hwb := Lib.hid hwb
      clear q1
      go_wp2_with fail
      rw [← e3.out]
      have h0 := g0.out
      have h1 := g1.out
      have h2 := g2.out
      rw [ho.out]
      exact bodyPost_ret (v := .tuple #[.agg #[.int .i64 0, .int .i64 0, .slice none 0 0], .int .i64 3]) (by simp [results, Tryz.f33, go_sem, h0, h1, h2]) rfl ⟨none, 0, 0, rfl, Fresh.nil _ _ _ _, hB3.out.trans (t3.mono (by omega))⟩
    · have o1 : ¬ (20 : Int) < (r.2.count : Nat) := by omega
      rw [if_neg hcnt] at ho
      obtain ⟨W3, e3, -, ⟨g0, g1, g2⟩, t2, t3⟩ := stored3 (.int .i64 r.1.op) (.int .i64 r.1.n) (.slice a l c) q1
      replace e3 := Lib.hid e3
      replace g0 := Lib.hid g0
      replace g1 := Lib.hid g1
      replace g2 := Lib.hid g2
      rw [← hwb] at t2 t3
      replace hwb := Lib.hid hwb
      clear q1
      go_wp2_with fail
      rw [← e3.out]
      have h0 := g0.out
      have h1 := g1.out
      have h2 := g2.out
      rw [ho.out]
      refine bodyPost_ret (v := .tuple #[.agg #[.int .i64 r.1.op, .int .i64 r.1.n, .slice a l c], .int .i64 0]) (by simp [results, Tryz.f33, go_sem, h0, h1, h2]) rfl ⟨a, l, c, rfl, ?_, hB3.out.trans (t3.mono (by omega))⟩
      exact hF.out.up (w := w) (by omega) (fun b hb1 hb2 => (t2 b (by omega)).trans (hk4.out b hb2)) (by have := t3.size; omega)

/-- A term that lies somewhere, with its places. -/
theorem IsTm.placed {n : Nat} {w : World} {t : Tm} {a : Option Addr} {l c : Nat} (h : IsTm n w t a l c) : ∃ D : DT, Lies n w D ∧ D.tm = t ∧ D.op = t.op ∧ D.n = t.n ∧ D.a = a ∧ D.l = l ∧ D.c = c := by
  obtain ⟨ds, h1, h2⟩ := IsTm.dec t h
  exact ⟨_, h1, by cases t; simp [DT.tm, h2, Tm.op, Tm.n, Tm.kids], rfl, rfl, rfl, rfl, rfl⟩

noncomputable def variantA (s : Sg) (d x : DT) : Bool := checkB s [d, x] && sameB (ordE d.tm).1 (ordE x.tm).1

set_option maxRecDepth 100000 in
set_option maxHeartbeats 1000000 in
theorem Variant_any (s : Sg) (d x : DT) (n₀ : Nat) (w : World) (ac : Option Addr) (lc cc : Nat) (af : Option Addr) (lf cf : Nat) (hs1 : 1 + d.size ≤ 1000000) (hs2 : 1 + x.size ≤ 1000000) (hn : n₀ ≤ w.heap.size) (hS : IsSg n₀ w s ac lc cc af lf cf) (hL1 : Lies n₀ w d) (hL2 : Lies n₀ w x) :
    Calls Tryz.prog 34 #[.agg #[.slice ac lc cc, .slice af lf cf], dv d, dv x] w fun e w' => e = .returned (.tuple #[.bool (variantA s d x), .int .i64 (errOf (checkB s [d, x]))]) ∧ Below w.heap.size w w' := by
  obtain ⟨W0, hW0⟩ : ∃ W0, W0 = ((w.alloc (bs 24 ac lc cc af lf cf)).alloc (bx d)).alloc (bx x) := ⟨_, rfl⟩
  have hB0 : Below w.heap.size w W0 := by rw [hW0]; go_grown
  have hz0 : W0.heap.size = w.heap.size + 1 + 1 + 1 := by rw [hW0]; simp
  have hl1 := hL1.below (hB0.mono hn)
  have hl2 := hL2.below (hB0.mono hn)
  have hB1 : Below W0.heap.size W0 (W0.alloc (two d x)) := (Below.refl _ _).alloc (Nat.le_refl _) _
  have hC := checkAll_any s [d, x] (W0.heap.size + 1) (W0.alloc (two d x)) ac lc cc af lf cf (some ⟨W0.heap.size, 0, none⟩) 2 2 (by intro y hy; simp at hy; rcases hy with rfl | rfl <;> assumption) (by simp) ((hS.below ((hB0.trans (hB1.mono hB0.size)).mono hn)).wider (by omega)) (two_lies hl1 hl2 (by omega))
  have bd : W0.heap[w.heap.size + 1]? = some (bx d) := by rw [hW0]; exact heap_old (heap_new' _ (by simp))
  have bx' : W0.heap[w.heap.size + 1 + 1]? = some (bx x) := by rw [hW0]; exact heap_new' _ (by simp)
  rw [hz0] at hC
  cases hv : checkB s [d, x]
  · rw [hv] at hC
    have hv2 : Hid (variantA s d x = false) := Lib.hid (by unfold variantA; rw [hv]; rfl)
    have he : errOf false = 2 := rfl
    rw [hW0] at hC
    replace hC := Lib.hid hC
    clear hl1 hl2 hL1 hL2 hS hv
    go_enter Tryz.func34, Tryz.ntmps34
    go_wp2_with fail
    refine (hC.out).mono ?_
    rintro e w1 ⟨rfl, hbe⟩
    replace hbe := Lib.hid hbe
    go_wp2_with fail
    go_ret2
    rw [hW0] at hB0 hB1
    exact ⟨by rw [hv2.out]; rfl, hB0.trans ((hB1.mono (by simp; omega)).trans (hbe.out.mono (by simp; omega)))⟩
  · have hO1 := OkV.checked hv (by simp : d ∈ [d, x])
    have hO2 := OkV.checked hv (by simp : x ∈ [d, x])
    rw [hv] at hC
    have he : errOf true = 0 := rfl
    have hI1 := fun (W : World) (hb : Below W0.heap.size W0 W) => inOrder_any d n₀ W (by omega) (hl1.below (hb.mono (by omega))) (by have := hb.size; omega) hO1
    have hI2 := fun (W : World) (hb : Below W0.heap.size W0 W) => inOrder_any x n₀ W (by omega) (hl2.below (hb.mono (by omega))) (by have := hb.size; omega) hO2
    obtain ⟨r, hr⟩ : ∃ r, r = ordE d.tm := ⟨_, rfl⟩
    obtain ⟨q, hq⟩ : ∃ q, q = ordE x.tm := ⟨_, rfl⟩
    have ho : variantA s d x = sameB r.1 q.1 := by unfold variantA; rw [hv, hr, hq]; rfl
    rw [← hr] at hI1
    rw [← hq] at hI2
    rw [hW0] at hC
    replace hC := Lib.hid hC
    replace hI1 := Lib.hid hI1
    replace hI2 := Lib.hid hI2
    replace hr := Lib.hid hr
    replace hq := Lib.hid hq
    replace ho := Lib.hid ho
    clear hl1 hl2 hL1 hL2 hS hv hO1 hO2
    go_enter Tryz.func34, Tryz.ntmps34
    go_wp2_with fail
    refine (hC.out).mono ?_
    rintro e w1 ⟨rfl, hbe⟩
    have hb1 : Below W0.heap.size W0 w1 := hB1.trans ((show Below (W0.alloc (two d x)).heap.size (W0.alloc (two d x)) w1 from by rw [hW0]; exact hbe).mono hB1.size)
    obtain ⟨⟨b0, b1, b2⟩, -⟩ := c3_cells ((hb1.block (w.heap.size + 1) (by omega)).trans bd)
    have hz1 := hb1.size
    have hJ1 := Lib.hid (hI1.out w1 hb1)
    replace hb1 := Lib.hid hb1
    clear hbe
    go_wp2_with fail
    refine (hJ1.out).mono ?_
    rintro e w2 ⟨a, l, c, rfl, hF, hB2⟩
    have hz2 := hB2.size
    obtain ⟨wb, hwb⟩ : ∃ wb, wb = w2.alloc (.cells #[.int .i64 r.1.op, .int .i64 r.1.n, .slice a l c] 28) := ⟨_, rfl⟩
    have hBb : Below w2.heap.size w2 wb := by rw [hwb]; exact (Below.refl _ _).alloc (Nat.le_refl _) _
    have hb2 : Below W0.heap.size W0 wb := hb1.out.trans ((hB2.mono hz1).trans (hBb.mono (by omega)))
    have nb := heap_new'' w2 (.cells #[.int .i64 r.1.op, .int .i64 r.1.n, .slice a l c] 28)
    rw [← hwb] at nb
    have hzb : wb.heap.size = w2.heap.size + 1 := by rw [hwb]; simp
    obtain ⟨⟨e0, e1, e2⟩, -⟩ := c3_cells ((hb2.block (w.heap.size + 1 + 1) (by omega)).trans bx')
    have hJ2 := hI2.out wb hb2
    rw [hwb] at hJ2 e0 e1 e2
    replace hJ2 := Lib.hid hJ2
    replace hb2 := Lib.hid hb2
    replace nb := Lib.hid nb
    replace hBb := Lib.hid hBb
    replace hwb := Lib.hid hwb
    have hD1 := Lib.hid (hF.is)
    clear hF b0 b1 b2
    go_wp2_with fail
    refine (hJ2.out).mono ?_
    rintro e w3 ⟨a', l', c', rfl, hF', hB3⟩
    rw [← hwb.out] at hB3 hF'
    have hz3 := hB3.size
    obtain ⟨wf, hwf⟩ : ∃ wf, wf = w3.alloc (.cells #[.int .i64 q.1.op, .int .i64 q.1.n, .slice a' l' c'] 28) := ⟨_, rfl⟩
    have hBf : Below w3.heap.size w3 wf := by rw [hwf]; exact (Below.refl _ _).alloc (Nat.le_refl _) _
    obtain ⟨D, hDl, hDt, hD1', hD2, hD3, hD4, hD5⟩ := (IsTm.below (hBf.mono (by omega)) _ (IsTm.below (hB3.mono (by omega)) _ (IsTm.below hBb.out _ hD1.out))).placed
    obtain ⟨X, hXl, hXt, hX1, hX2, hX3, hX4, hX5⟩ := (IsTm.below hBf _ hF'.is).placed
    have hSm := same_any D.size D X w3.heap.size wf (Nat.le_refl _) (hDl.wider (by omega)) hXl hBf.size
    rw [hDt, hXt, hD1', hD2, hD3, hD4, hD5, hX1, hX2, hX3, hX4, hX5, hwf] at hSm
    have nb2 := heap_old (o := .cells #[.int .i64 q.1.op, .int .i64 q.1.n, .slice a' l' c'] 28) ((hB3.block w2.heap.size (by omega)).trans nb.out)
    obtain ⟨⟨k0, k1, k2⟩, -⟩ := c3_cells nb2
    replace hSm := Lib.hid hSm
    replace hB3 := Lib.hid hB3
    replace hBf := Lib.hid hBf
    replace hwf := Lib.hid hwf
    replace nb2 := Lib.hid nb2
    clear hF' hDl hDt hD1' hD2 hD3 hD4 hD5 hXl hXt hX1 hX2 hX3 hX4 hX5 e0 e1 e2
    go_wp2_with fail
    refine (hSm.out).mono ?_
    rintro e w4 ⟨rfl, hB4⟩
    rw [← hwf.out] at hB4
    replace hB4 := Lib.hid hB4
    go_wp2_with fail
    go_ret2
    exact ⟨by rw [ho.out]; rfl, hB0.trans ((hb2.out.mono (by omega)).trans ((hB3.out.mono (by omega)).trans ((hBf.out.mono (by omega)).trans (hB4.out.mono (by have := hBf.out.size; omega)))))⟩

end Go.Proofs.YthlegfegkopdkaaGreat

namespace Go.Proofs.YthlegfegkopdkaaGreat
open Go.RowKit Go.Shelf

theorem und100 : Tryz.prog.underlying 100 = some (.map 3 28) := by kernel_rfl
theorem zero28 (w : World) : (zeroValue 28).run Tryz.prog w = .ok (.agg #[.int .i64 0, .int .i64 0, .slice none 0 0]) w := by kernel_rfl

/-- Block b is a map from integers to terms that holds f. -/
def TMap (w : World) (b n : Nat) (f : Int → Option DT) : Prop := ∃ g, MapV Tryz.prog 3 w b n g ∧ ∀ i, g (.int .i64 i) = (f i).map dv
theorem TMap.lt {w : World} {b n : Nat} {f : Int → Option DT} (h : TMap w b n f) : b < w.heap.size := by obtain ⟨g, h, _⟩ := h; exact h.lt
theorem TMap.same {w w' : World} {b n : Nat} {f : Int → Option DT} (h : TMap w b n f) (hb : w'.heap[b]? = w.heap[b]?) : TMap w' b n f := by obtain ⟨g, h, e⟩ := h; exact ⟨g, h.same hb, e⟩
theorem TMap.made (w : World) : TMap (w.alloc (.map #[] 0)) w.heap.size 0 (fun _ => none) := ⟨_, MapV.made w _ _, fun _ => rfl⟩
theorem TMap.look_some {w : World} {b n t : Nat} {f : Int → Option DT} (h : TMap w b n f) (ht : Tryz.prog.underlying t = some (.map 3 28)) {i : Int} (hi : 0 ≤ i ∧ i < 1000000) {d : DT} (hf : f i = some d) :
    (Instr.lookup t (.map (some b)) (.int .i64 i) true).run Tryz.prog w = .ok (.tuple #[.agg #[.int .i64 d.op, .int .i64 d.n, .slice d.a d.l d.c], .bool true]) w := by
  obtain ⟨g, h, e⟩ := h
  rw [h.look_ok lawI ht (zero28 w) (keyI hi), e i, hf]; rfl
theorem TMap.look_none {w : World} {b n t : Nat} {f : Int → Option DT} (h : TMap w b n f) (ht : Tryz.prog.underlying t = some (.map 3 28)) {i : Int} (hi : 0 ≤ i ∧ i < 1000000) (hf : f i = none) :
    (Instr.lookup t (.map (some b)) (.int .i64 i) true).run Tryz.prog w = .ok (.tuple #[.agg #[.int .i64 0, .int .i64 0, .slice none 0 0], .bool false]) w := by
  obtain ⟨g, h, e⟩ := h
  rw [h.look_ok lawI ht (zero28 w) (keyI hi), e i, hf]; rfl
theorem TMap.store {w' : World} {b n : Nat} {f : Int → Option DT} {g : Lit → Option Value} {i : Int} {d : DT} (e : ∀ i, g (.int .i64 i) = (f i).map dv) (h : MapV Tryz.prog 3 w' b n (upd g (.int .i64 i) (dv d))) : TMap w' b n (updI f i d) := by
  refine ⟨_, h, fun j => ?_⟩
  unfold updI
  by_cases hj : j = i
  · subst hj; rw [upd_same, if_pos rfl]; rfl
  · rw [upd_other _ _ (fun e => hj (by cases e; rfl)), if_neg hj, e j]

def Els (P : DT → Prop) (f : Int → Option DT) : Prop := ∀ i d, f i = some d → P d
theorem Els.upd {P : DT → Prop} {f : Int → Option DT} (h : Els P f) {i : Int} {d : DT} (hd : P d) : Els P (updI f i d) := by
  intro j x hx
  unfold updI at hx
  split at hx
  · cases hx; exact hd
  · exact h j x hx

mutual
def matchD (f : Int → Option DT) : DT → DT → Bool × (Int → Option DT)
  | .mk op n _ _ _ ks, v =>
    if op = 1 then (match f n with | some old => (sameB old.tm v.tm, f) | none => (true, updI f n v))
    else if op = v.op ∧ n = v.n then matchDs f ks v.kids else (false, f)
def matchDs (f : Int → Option DT) : List DT → List DT → Bool × (Int → Option DT)
  | [], [] => (true, f)
  | p :: ps, v :: vs => if (matchD f p v).1 = true then matchDs (matchD f p v).2 ps vs else (false, f)
  | _, _ => (false, f)
end
theorem matchD_eq (f : Int → Option DT) (p v : DT) : matchD f p v = if p.op = 1 then (match f p.n with | some old => (sameB old.tm v.tm, f) | none => (true, updI f p.n v)) else if p.op = v.op ∧ p.n = v.n then matchDs f p.kids v.kids else (false, f) := by
  cases p; rw [matchD]; rfl
theorem matchDs_len : ∀ (ps vs : List DT) (f : Int → Option DT), ps.length ≠ vs.length → (matchDs f ps vs).1 = false
  | [], [], _, h => by simp at h
  | [], _ :: _, _, _ => by simp [matchDs]
  | _ :: _, [], _, _ => by simp [matchDs]
  | p :: ps, v :: vs, f, h => by
    rw [matchDs]; split
    · exact matchDs_len ps vs _ (by simpa using h)
    · rfl
mutual
theorem matchD_els {P : DT → Prop} (hP : ∀ d, P d → ∀ k ∈ d.kids, P k) : ∀ (p v : DT) (f : Int → Option DT), P v → Els P f → Els P (matchD f p v).2
  | .mk op n _ _ _ ks, v, f, hv, hf => by
    rw [matchD]; split
    · cases f n with
      | some old => exact hf
      | none => exact hf.upd hv
    · split
      · exact matchDs_els hP ks v.kids f (hP v hv) hf
      · exact hf
theorem matchDs_els {P : DT → Prop} (hP : ∀ d, P d → ∀ k ∈ d.kids, P k) : ∀ (ps vs : List DT) (f : Int → Option DT), (∀ v ∈ vs, P v) → Els P f → Els P (matchDs f ps vs).2
  | [], [], f, _, hf => by simp only [matchDs]; exact hf
  | [], _ :: _, f, _, hf => by simp only [matchDs]; exact hf
  | _ :: _, [], f, _, hf => by simp only [matchDs]; exact hf
  | p :: ps, v :: vs, f, hv, hf => by
    rw [matchDs]; split
    · exact matchDs_els hP ps vs _ (fun x hx => hv x (by simp [hx])) (matchD_els hP p v f (hv v (by simp)) hf)
    · exact hf
end
theorem matchDs_drop (f : Int → Option DT) (ps vs : List DT) (k : Nat) (h : k < ps.length) (h' : k < vs.length) : matchDs f (ps.drop k) (vs.drop k) = if (matchD f ps[k] vs[k]).1 = true then matchDs (matchD f ps[k] vs[k]).2 (ps.drop (k + 1)) (vs.drop (k + 1)) else (false, f) := by
  rw [List.drop_eq_getElem_cons h, List.drop_eq_getElem_cons h', matchDs]
theorem Lies.kids_lie {n₀ : Nat} {w : World} {d : DT} (h : Lies n₀ w d) : ∀ k ∈ d.kids, Lies n₀ w k := by
  intro k hk
  obtain ⟨i, hi, rfl⟩ := List.getElem_of_mem hk
  rcases h.open.2.2.2 with h | ⟨b, off, ha, hb, hks⟩
  · rw [h] at hi; simp at hi
  · exact (LiesAll.get _ hks i hi).2

def MatchPost (w : World) (bm nb : Nat) (r : Bool × (Int → Option DT)) (sz : Nat) (e : Ending) (w' : World) : Prop :=
  Turns (fun b => b = bm) w w' ∧ ((e = .returned (.bool true) ∧ r.1 = true ∧ ∃ n', n' ≤ nb + sz ∧ TMap w' bm n' r.2) ∨ (e = .returned (.bool false) ∧ r.1 = false))
def MatchSpec (N : Nat) : Prop := ∀ (p v : DT) (n₀ : Nat) (w : World) (bm nb : Nat) (f : Int → Option DT), p.size ≤ N → Lies n₀ w p → Lies n₀ w v → n₀ ≤ bm → n₀ ≤ w.heap.size → TMap w bm nb f → Els (Lies n₀ w) f → nb + p.size ≤ 1000000 → OkV p.tm →
  Calls Tryz.prog 74 #[.map (some bm), dv p, dv v] w (MatchPost w bm nb (matchD f p v) p.size)

set_option maxRecDepth 100000 in
set_option maxHeartbeats 1000000 in
theorem match_var (p v : DT) (n₀ : Nat) (w : World) (bm nb : Nat) (f : Int → Option DT) (hv : Lies n₀ w v) (hn0 : n₀ ≤ bm) (hn : n₀ ≤ w.heap.size) (hm : TMap w bm nb f) (hE : Els (Lies n₀ w) f) (hc : nb + p.size ≤ 1000000) (hop : p.op = 1) (hr : 0 ≤ p.n ∧ p.n < 20) :
    Calls Tryz.prog 74 #[.map (some bm), dv p, dv v] w (MatchPost w bm nb (matchD f p v) p.size) := by
  obtain ⟨w0, hw0⟩ : ∃ w0, w0 = (w.alloc (bx p)).alloc (bx v) := ⟨_, rfl⟩
  have hB0 : Below w.heap.size w w0 := by rw [hw0]; go_grown
  have hz0 : w0.heap.size = w.heap.size + 1 + 1 := by rw [hw0]; simp
  have hm0 := hm.same (hB0.block _ hm.lt)
  have hmlt := hm.lt
  have e1 : (p.op != 1) = false := by simpa using hop
  have k1 := keyI (i := p.n) ⟨hr.1, by omega⟩
  have hps := dsize_pos p
  rw [matchD_eq, if_pos hop]
  replace hop := Lib.hid hop
  cases hf : f p.n with
  | some old =>
    have hl := hm0.look_some und100 (i := p.n) ⟨hr.1, by omega⟩ hf
    rw [hw0] at hl
    obtain ⟨wb, hwb⟩ : ∃ wb, wb = w0.alloc (bx old) := ⟨_, rfl⟩
    have hBb : Below w.heap.size w wb := by rw [hwb]; exact hB0.alloc (by omega) _
    have hS := same_any old.size old v n₀ wb (Nat.le_refl _) ((hE _ _ hf).below (hBb.mono hn)) (hv.below (hBb.mono hn)) (by have := hBb.size; omega)
    rw [hwb, hw0] at hS
    replace hS := Lib.hid hS
    replace hm0 := Lib.hid hm0
    have hm' := Lib.hid hm
    clear hm hf
    go_enter Tryz.func74, Tryz.ntmps74
    go_wp2_with fail
    refine (hS.out).mono ?_
    rintro e w1 ⟨rfl, hB1⟩
    rw [← hw0, ← hwb] at hB1
    have hB2 := Lib.hid (hBb.trans (hB1.mono hBb.size))
    replace hB1 := Lib.hid hB1
    cases hsm : sameB old.tm v.tm
    all_goals
      replace hsm := Lib.hid hsm
      go_wp2_with fail
      go_ret
    · exact ⟨Turns.of0 hB2.out, .inr ⟨rfl, hsm.out⟩⟩
    · exact ⟨Turns.of0 hB2.out, .inl ⟨rfl, hsm.out, nb, by omega, hm'.out.same (hB2.out.block _ hmlt)⟩⟩
  | none =>
    have hl := hm0.look_none und100 (i := p.n) ⟨hr.1, by omega⟩ hf
    rw [hw0] at hl
    obtain ⟨g, hmg, hg⟩ := hm0
    have hmb : MapV Tryz.prog 3 (w0.alloc zer3) bm nb g := hmg.alloc _
    rw [hw0] at hmb
    replace hmb := Lib.hid hmb
    replace hg := Lib.hid hg
    replace hB0 := Lib.hid hB0
    clear hm hf hmg
    go_enter Tryz.func74, Tryz.ntmps74
    go_wp2_with (first | (at_mapUpdate; refine wpList_mapStore _ rfl _ _ _ 100 rfl lawI und100 bm nb _ rfl hmb.out (by unfold maxLen; omega) _ _ _ rfl rfl k1 trivial ?_; intro w2 hm2 hg2))
    go_ret
    refine ⟨?_, .inl ⟨rfl, rfl, nb + 1, by omega, TMap.store hg.out hm2⟩⟩
    have hT0 : Turns (fun b => b = bm) w (w0.alloc zer3) := (Turns.of0 hB0.out).alloc _
    rw [hw0] at hT0
    exact hT0.grown hg2 (fun k e _ => by cases e; rfl)

set_option maxRecDepth 100000 in
set_option maxHeartbeats 1000000 in
theorem match_node (N : Nat) (ih : MatchSpec N) (p v : DT) (n₀ : Nat) (w : World) (bm nb : Nat) (f : Int → Option DT) (hs : p.size ≤ N + 1) (hp : Lies n₀ w p) (hv : Lies n₀ w v) (hn0 : n₀ ≤ bm) (hn : n₀ ≤ w.heap.size) (hm : TMap w bm nb f) (hE : Els (Lies n₀ w) f) (hc : nb + p.size ≤ 1000000) (hO : OkV p.tm) (hop : p.op ≠ 1) :
    Calls Tryz.prog 74 #[.map (some bm), dv p, dv v] w (MatchPost w bm nb (matchD f p v) p.size) := by
  obtain ⟨w0, hw0⟩ : ∃ w0, w0 = (w.alloc (bx p)).alloc (bx v) := ⟨_, rfl⟩
  have hB0 : Below w.heap.size w w0 := by rw [hw0]; go_grown
  have hz0 : w0.heap.size = w.heap.size + 1 + 1 := by rw [hw0]; simp
  have hm0 := hm.same (hB0.block _ hm.lt)
  have hmlt := hm.lt
  have e1 : (p.op != 1) = true := by simpa using hop
  rw [matchD_eq, if_neg hop]
  have hmm := hm
  replace hop := Lib.hid hop
  cases ho : p.op == v.op
  · rw [if_neg (fun h => by simp [h.1] at ho)]
    clear ih hm hm0 hE hp hv hmm
    rw [hw0] at hB0
    replace hB0 := Lib.hid hB0
    go_enter Tryz.func74, Tryz.ntmps74
    go_wp2_with fail
    go_ret
    exact ⟨Turns.of0 hB0.out, .inr ⟨rfl, rfl⟩⟩
  cases hnn : p.n == v.n
  · rw [if_neg (fun h => by simp [h.2] at hnn)]
    clear ih hm hm0 hE hp hv hmm
    rw [hw0] at hB0
    replace hB0 := Lib.hid hB0
    go_enter Tryz.func74, Tryz.ntmps74
    go_wp2_with fail
    go_ret
    exact ⟨Turns.of0 hB0.out, .inr ⟨rfl, rfl⟩⟩
  rw [if_pos ⟨by simpa using ho, by simpa using hnn⟩]
  have hsz := dsize_eq p
  have hp0 := hp.below (hB0.mono hn)
  have hv0 := hv.below (hB0.mono hn)
  have hE0 : Els (Lies n₀ w0) f := fun i d h => (hE i d h).below (hB0.mono hn)
  obtain ⟨hl1, hlc1, hc1, hk1⟩ := hp0.open
  obtain ⟨hl2, hlc2, hc2, hk2⟩ := hv0.open
  obtain ⟨-, -, -, hOk⟩ := hO.open
  have hC : Calls Tryz.prog 105 #[.slice p.a p.l p.c, .slice v.a v.l v.c, .func (.func 74) #[.map (some bm)] #[]] w0 (MatchPost w0 bm nb (matchDs f p.kids v.kids) p.size) := by
    by_cases hlen : p.kids.length = v.kids.length
    · rw [hl1, hl2]
      refine (equalFunc_any 74 #[.map (some bm)] #[] (enters_of Tryz.func74 (by kernel_rfl) rfl) p.kids v.kids p.a v.a p.c v.c hlen (by omega) hc1
        (fun k W => Turns (fun b => b = bm) w0 W ∧ ∃ fk n', n' ≤ nb + dsizes (p.kids.take k) ∧ TMap W bm n' fk ∧ Els (Lies n₀ w0) fk ∧ matchDs f p.kids v.kids = matchDs fk (p.kids.drop k) (v.kids.drop k))
        (fun W => Turns (fun b => b = bm) w0 W ∧ (matchDs f p.kids v.kids).1 = false)
        (fun k W o h => ⟨h.1.alloc o, by
          obtain ⟨fk, n', g1, g2, g3, g4⟩ := h.2
          exact ⟨fk, n', g1, g2.same (Below.heap_alloc _ _ _ g2.lt), g3, g4⟩⟩) (fun k W h h2 hI => ?_) (fun k h h2 W hI => ?_) w0 ⟨Turns.refl _ _, f, nb, by omega, hm0, hE0, by simp⟩).mono ?_
      · have hBl : Below n₀ w0 W := hI.1.below (by omega) (fun k hk e => by omega)
        rcases hk1 with hk1 | ⟨b, off, ha, hb, hks⟩
        · rw [hk1] at h; simp at h
        rcases hk2 with hk2 | ⟨b2, off2, ha2, hb2, hks2⟩
        · rw [hk2] at h2; simp at h2
        exact ⟨b, off, b2, off2, ha, ha2, ((LiesAll.get _ hks k h).1).below hBl hb, ((LiesAll.get _ hks2 k h2).1).below hBl hb2⟩
      · obtain ⟨hT, fk, n', g1, g2, g3, g4⟩ := hI
        have hBl : Below n₀ w0 W := hT.below (by omega) (fun k hk e => by omega)
        have hsk := dsize_kid p.kids k h
        have hz := hT.size
        have hts := dsizes_take_succ p.kids k h
        have hOkk : OkV p.kids[k].tm := by
          have := OkVs_get _ k (by rw [DT.tm_kids, List.length_map]; exact h) hOk
          simpa only [DT.tm_kids, List.getElem_map] using this
        refine (ih p.kids[k] v.kids[k] n₀ W bm n' fk (by omega) ((hp0.kids_lie _ (List.getElem_mem h)).below hBl) ((hv0.kids_lie _ (List.getElem_mem h2)).below hBl) hn0 (by omega) g2 (fun i d hd => (g3 i d hd).below hBl) (by omega) hOkk).mono ?_
        rintro e W' ⟨hT', ⟨rfl, hr, n2, hn2, hm2⟩ | ⟨rfl, hr⟩⟩
        · refine .inl ⟨rfl, hT.trans hT', (matchD fk p.kids[k] v.kids[k]).2, n2, by omega, hm2, matchD_els (fun d hd => hd.kids_lie) _ _ _ (hv0.kids_lie _ (List.getElem_mem h2)) g3, ?_⟩
          rw [g4, matchDs_drop _ _ _ _ h h2, if_pos hr]
        · refine .inr ⟨rfl, hT.trans hT', ?_⟩
          rw [g4, matchDs_drop _ _ _ _ h h2, if_neg (by rw [hr]; simp)]
      · rintro e W' (⟨rfl, hT, fk, n', g1, g2, g3, g4⟩ | ⟨rfl, hT, hr⟩)
        · rw [List.drop_eq_nil_of_le (Nat.le_refl _), List.drop_eq_nil_of_le (by omega), matchDs] at g4
          rw [List.take_length] at g1
          exact ⟨hT, .inl ⟨rfl, by rw [g4], n', by omega, by rw [g4]; exact g2⟩⟩
        · exact ⟨hT, .inr ⟨rfl, hr⟩⟩
    · refine (equalFunc_len p.a v.a p.l p.c v.l v.c (.func 74) #[.map (some bm)] #[] w0 (by rw [hl1, hl2]; simp; omega)).mono ?_
      rintro e W' ⟨rfl, rfl⟩
      exact ⟨Turns.refl _ _, .inr ⟨rfl, matchDs_len _ _ _ hlen⟩⟩
  obtain ⟨r, hr⟩ : ∃ r, r = matchDs f p.kids v.kids := ⟨_, rfl⟩
  rw [← hr] at hC ⊢
  rw [hw0] at hC
  replace hC := Lib.hid hC
  clear ih hm hm0 hE hp hv hmm hp0 hv0 hE0 hk1 hk2 hl1 hl2 hlc1 hlc2 hc1 hc2 hsz hr hO hOk
  go_enter Tryz.func74, Tryz.ntmps74
  go_wp2_with fail
  refine (hC.out).mono ?_
  rintro e w1 ⟨hT, hcase⟩
  rw [← hw0] at hT
  have hTT := Lib.hid ((Turns.of0 hB0 : Turns (fun b => b = bm) w w0).trans hT)
  rcases hcase with ⟨rfl, hr1, hr2⟩ | ⟨rfl, hr1⟩
  · replace hr1 := Lib.hid hr1
    replace hr2 := Lib.hid hr2
    clear hT
    go_wp2_with fail
    go_ret
    exact ⟨hTT.out, .inl ⟨rfl, hr1.out, hr2.out⟩⟩
  · replace hr1 := Lib.hid hr1
    clear hT
    go_wp2_with fail
    go_ret
    exact ⟨hTT.out, .inr ⟨rfl, hr1.out⟩⟩

theorem match_any (N : Nat) : MatchSpec N := by
  induction N with
  | zero => intro d _ _ _ _ _ _ h; have := dsize_pos d; omega
  | succ N ih =>
    intro p v n₀ w bm nb f hs hp hv hn0 hn hm hE hc hO
    by_cases h1 : p.op = 1
    · obtain ⟨o1, -⟩ := hO.open
      rw [DT.tm_op, DT.tm_n] at o1
      exact match_var p v n₀ w bm nb f hv hn0 hn hm hE hc h1 (o1 (.inl h1))
    · exact match_node N ih p v n₀ w bm nb f hs hp hv hn0 hn hm hE hc hO h1

end Go.Proofs.YthlegfegkopdkaaGreat

namespace Go.Proofs.YthlegfegkopdkaaGreat
open Go.RowKit Go.Shelf
attribute [local go_sem] Oper.semAt_some

theorem mem_pres (ds : List DT) (dep k : Nat) (h : k < ds.length) {x : Nd} (hx : x ∈ ds[k].pre dep) : x ∈ pres ds dep := by
  have hp := pres_prefix ds dep (k + 1)
  rw [pres_take_succ ds dep k h] at hp
  exact hp.subset (List.mem_append.2 (.inr hx))

set_option maxRecDepth 100000 in
set_option maxHeartbeats 4000000 in
theorem visitG_in (G : Nd → Prop) (l n₀ B Bv By Bk N : Nat) (J Jx : List Nd → World → Prop) (hal : ∀ s W o, J s W → J s (W.alloc o)) (hBv : B ≤ Bv) (hBy : B ≤ By) (hBk : B ≤ Bk) (hnB : n₀ ≤ B)
    (hY : ∀ m pre x W, G x → J pre W → pre.length < N → YieldAt Fence.wide m Tryz.prog l #[.int .i64 (x.1 : Nat), .agg #[.int .i64 x.2.op, .int .i64 x.2.n, .slice x.2.a x.2.l x.2.c]] W fun e W' =>
      (e = .returned (.bool true) ∧ J (pre ++ [x]) W' ∧ Keep n₀ B W W') ∨ (e = .returned (.bool false) ∧ Jx (pre ++ [x]) W')) (M : Nat) :
    ∀ (d : DT) (dep : Nat) (pre : List Nd) (W : World), (∀ x ∈ d.pre dep, G x) → d.size ≤ M → dep + d.size ≤ 4611686018427387904 → Lies n₀ W d → J pre W → pre.length + d.size ≤ N →
      W.cell? ⟨Bv, 0, none⟩ = some (.func (.func 140) #[] (visV By Bk Bv)) → W.cell? ⟨By, 0, none⟩ = some (.func (.yield l) #[] #[]) → W.cell? ⟨Bk, 0, none⟩ = some (.func (.func 118) #[] #[]) →
      Calls Tryz.prog 140 #[.int .i64 (dep : Nat), .agg #[.int .i64 d.op, .int .i64 d.n, .slice d.a d.l d.c], .pointer (some ⟨By, 0, none⟩), .pointer (some ⟨Bk, 0, none⟩), .pointer (some ⟨Bv, 0, none⟩)] W fun e W' =>
        (e = .returned (.bool true) ∧ J (pre ++ d.pre dep) W' ∧ Keep n₀ B W W') ∨ (e = .returned (.bool false) ∧ ∃ q, q <+: d.pre dep ∧ Jx (pre ++ q) W') := by
  induction M with
  | zero => intro d _ _ _ _ h; have := dsize_pos d; omega
  | succ M ih =>
    intro d dep pre W hG hs hdep hL hJ hN hcv hcy hck
    replace hG := Lib.hid hG
    replace ih := Lib.hid ih
    obtain ⟨hl, hlc, hc, hk⟩ := hL.open
    replace hl := Lib.hid hl
    have hsz := Lib.hid (dsize_eq d)
    have hBvl := lt_cell hcv
    have hByl := lt_cell hcy
    obtain ⟨W1, hW1⟩ : ∃ W1, W1 = W.alloc (.cells #[.int .i64 d.op, .int .i64 d.n, .slice d.a d.l d.c] 28) := ⟨_, rfl⟩
    have hK1 : Keep n₀ B W W1 := by
      rw [hW1]; exact (Keep.refl n₀ B W).alloc (by omega) _
    have hJ1 : J pre W1 := by rw [hW1]; exact hal _ _ _ hJ
    obtain ⟨fn, tmps, assign, body, hy, hR⟩ := hY 1 pre (dep, d) W1 (hG.out _ (by rw [pre_eq]; exact List.mem_cons_self ..)) hJ1 (by have := dsize_pos d; omega)
    rw [hW1] at hy
    refine callsIn_wide (n := 2) |>.1 ?_
    refine callsIn_of_wp Tryz.func140 rfl trivial ?_ rfl
    simp only [Tryz.ntmps140, List.size_toArray, List.length_cons, List.length_nil, Nat.reduceAdd, Nat.reduceSub, Array.replicate_succ, Array.replicate_zero, List.push_toArray, List.append_toArray, List.nil_append, List.cons_append]
    gi_wp2_with fail
    rw [hW1] at hR
    refine hR.mono ?_
    rintro e W2 (⟨rfl, hJ2, hk2⟩ | ⟨rfl, hx2⟩)
    · rw [← hW1] at hk2
      have hz1 : W1.heap.size = W.heap.size + 1 := by rw [hW1]; simp
      have q1 : (W1.cell? ⟨W.heap.size, 0, none⟩ = some (.int .i64 d.op) ∧ W1.cell? ⟨W.heap.size, 1, none⟩ = some (.int .i64 d.n)) ∧ W1.cell? ⟨W.heap.size, 2, none⟩ = some (.slice d.a d.l d.c) := by rw [hW1]; exact ⟨⟨by go_cell, by go_cell⟩, by go_cell⟩
      obtain ⟨⟨q1, q2⟩, q3⟩ := q1
      replace q1 := hk2.cell (by omega) q1
      replace q2 := hk2.cell (by omega) q2
      replace q3 := hk2.cell (by omega) q3
      have hz2 := hk2.below.size
      have hKt := hK1.trans hk2
      have q4 := hKt.cell hBv hcv
      have q5 := hKt.cell hBy hcy
      have q6 := hKt.cell hBk hck
      have hBk2 := lt_cell q6
      obtain ⟨W3, hW3⟩ : ∃ W3, W3 = W2.alloc (.cells #[.int .i64 d.op, .int .i64 d.n, .slice d.a d.l d.c] 28) := ⟨_, rfl⟩
      have hK3 : Keep n₀ B W2 W3 := by rw [hW3]; exact (Keep.refl n₀ B W2).alloc (by omega) _
      have hKd := Lib.hid (callsIn_wide (n := 1) |>.2 (kids_any d W2))
      have hst : Hid (J (pre ++ [(dep, d)]) W3 ∧ Keep n₀ B W2 W3) := Lib.hid ⟨by rw [hW3]; exact hal _ _ _ hJ2, hK3⟩
      -- the visit of a kid
      have hV : Hid (∀ k (hlt : k < d.kids.length) Wk, J (pre ++ [(dep, d)] ++ pres (d.kids.take k) (dep + 1)) Wk → Keep n₀ B W2 Wk →
          (∃ b off, d.a = some ⟨b, off, none⟩ ∧ Cells3 Wk b (off + k * 3) d.kids[k].op d.kids[k].n d.kids[k].a d.kids[k].l d.kids[k].c) ∧ Wk.cell? ⟨Bv, 0, none⟩ = some (.func (.func 140) #[] (visV By Bk Bv)) ∧ Bv < Wk.heap.size ∧
          CallsIn Fence.wide 1 Tryz.prog 140 #[.int .i64 ((dep : Int) + 1), .agg #[.int .i64 d.kids[k].op, .int .i64 d.kids[k].n, .slice d.kids[k].a d.kids[k].l d.kids[k].c], .pointer (some ⟨By, 0, none⟩), .pointer (some ⟨Bk, 0, none⟩), .pointer (some ⟨Bv, 0, none⟩)] (Wk.alloc (.cells #[.int .i64 d.kids[k].op, .int .i64 d.kids[k].n, .slice d.kids[k].a d.kids[k].l d.kids[k].c] 28)) fun e W' =>
            (e = .returned (.bool true) ∧ J (pre ++ [(dep, d)] ++ pres (d.kids.take (k + 1)) (dep + 1)) W' ∧ Keep n₀ B W2 W') ∨ (e = .returned (.bool false) ∧ ∃ q, q <+: pres d.kids (dep + 1) ∧ Jx (pre ++ [(dep, d)] ++ q) W')) := Lib.hid (fun k hlt Wk hj hkw => by
        rcases hk with hk | ⟨b, off, ha, hb, hks⟩
        · rw [hk] at hlt; simp at hlt
        · have hk3 := hKt.trans hkw
          have hd1 := dsize_kid d.kids k hlt
          have hd2 := hsz.out
          have hLk := ((LiesAll.get _ hks k hlt).2).below hk3.below
          have hvz := hkw.below.size
          have hbx : Keep n₀ B Wk (Wk.alloc (.cells #[.int .i64 d.kids[k].op, .int .i64 d.kids[k].n, .slice d.kids[k].a d.kids[k].l d.kids[k].c] 28)) := (Keep.refl _ _ _).alloc (by omega) _
          have hV := ih.out d.kids[k] (dep + 1) (pre ++ [(dep, d)] ++ pres (d.kids.take k) (dep + 1)) (Wk.alloc (.cells #[.int .i64 d.kids[k].op, .int .i64 d.kids[k].n, .slice d.kids[k].a d.kids[k].l d.kids[k].c] 28)) (fun x hx => hG.out x (by rw [pre_eq]; exact List.mem_cons_of_mem _ (mem_pres d.kids (dep + 1) k hlt hx))) (by omega) (by omega) (hLk.below hbx.below) (hal _ _ _ hj)
            (by simp only [List.length_append, List.length_singleton, pres_length]; omega) (hbx.cell hBv (hkw.cell hBv q4)) (hbx.cell hBy (hkw.cell hBy q5)) (hbx.cell hBk (hkw.cell hBk q6))
          refine ⟨⟨b, off, ha, ((LiesAll.get _ hks k hlt).1).below hk3.below hb⟩, hkw.cell hBv q4, lt_cell (hkw.cell hBv q4), callsIn_wide (n := 1) |>.2 (hV.mono ?_)⟩
          rintro e W' (⟨rfl, hj', hkk⟩ | ⟨rfl, q, hq, hx⟩)
          · refine .inl ⟨rfl, ?_, (hkw.trans hbx).trans hkk⟩
            rw [pres_take_succ d.kids (dep + 1) k hlt, ← List.append_assoc]; exact hj'
          · refine .inr ⟨rfl, pres (d.kids.take k) (dep + 1) ++ q, ?_, by rw [← List.append_assoc]; exact hx⟩
            have hp := pres_prefix d.kids (dep + 1) (k + 1)
            rw [pres_take_succ d.kids (dep + 1) k hlt] at hp
            exact ((List.prefix_append_right_inj _).2 hq).trans hp)
      replace hJ2 := Lib.hid hJ2
      replace hk2 := Lib.hid hk2
      replace hKt := Lib.hid hKt
      replace hK1 := Lib.hid hK1
      replace hk := Lib.hid hk
      obtain ⟨op, hop⟩ : ∃ x, x = d.op := ⟨_, rfl⟩
      clear q4 q5 hop op
      gi_wp2_with fail
      refine ⟨trivial, hKd.out.mono ?_⟩
      rintro e W4 ⟨rfl, hW4⟩
      rw [← hW3] at hW4
      obtain rfl := hW4
      clear hKd hW3 hK3
      rw [hl.out]
      have hlz : Hid (d.kids.length ≤ 9223372036854775807) := Lib.hid (by have := hl.out; omega)
      have hlz' := hlz.out
      have hdd : (dep : Int) + 1 ≤ 4611686018427387904 := by have := dsize_pos d; omega
      gi_wp2_with fail
      gi_loopw [9, 19] (fun _ i wr => ∃ k : Nat, k ≤ d.kids.length ∧ i = .int .i64 (k : Nat) ∧ Hid (J (pre ++ [(dep, d)] ++ pres (d.kids.take k) (dep + 1)) wr ∧ Keep n₀ B W2 wr)) (fun _ i _ => d.kids.length - (intOf i).toNat)
      case atStart => exact ⟨0, by omega, rfl, Lib.hid ⟨by simpa [pres] using hst.out.1, hst.out.2⟩⟩
      case round =>
        obtain ⟨k, hkl, rfl, hI⟩ := hrel
        by_cases hlt : k < d.kids.length
        · obtain ⟨⟨b, off, ha, d0, d1, d2⟩, hcv', hbv', hC⟩ := hV.out k hlt wr hI.out.1 hI.out.2
          replace hC := Lib.hid hC
          rw [ha]
          gi_wp2_with fail
          refine ⟨trivial, hC.out.mono ?_⟩
          rintro e W5 (⟨rfl, hj5, hk5⟩ | ⟨rfl, hst5⟩)
          · have hj5' := Lib.hid (And.intro hj5 hk5)
            clear hj5 hk5
            gi_wp2_with fail
            go_roundw
            case rel => exact ⟨k + 1, by omega, by go_num, hj5'⟩
            case measure => simp [intOf]; omega
          · replace hst5 := Lib.hid hst5
            gi_wp2_with fail
            go_ret
            obtain ⟨q, hq, hx⟩ := hst5.out
            refine .inr ⟨rfl, (dep, d) :: q, ?_, by simpa using hx⟩
            rw [pre_eq]
            exact List.cons_prefix_cons.2 ⟨rfl, hq⟩
        · have hke : k = d.kids.length := by omega
          subst hke
          gi_wp2_with fail
          go_ret
          refine .inl ⟨rfl, ?_, hKt.out.trans hI.out.2⟩
          rw [pre_eq]
          have := hI.out.1
          rw [List.take_length] at this
          simpa using this
    · replace hx2 := Lib.hid hx2
      gi_wp2_with fail
      go_ret
      refine .inr ⟨rfl, [(dep, d)], ?_, hx2.out⟩
      rw [pre_eq]
      exact List.cons_prefix_cons.2 ⟨rfl, List.nil_prefix⟩

set_option maxRecDepth 100000 in
set_option maxHeartbeats 2000000 in
/-- The iterator's function: a range over a term's nodes. -/
theorem nodes1G_in (G : Nd → Prop) (l n₀ B Bt Bk : Nat) (hnB : n₀ ≤ B) (hBk : B ≤ Bk) (d : DT) (J Jx : List Nd → World → Prop) (hal : ∀ s W o, J s W → J s (W.alloc o)) (hs : 1 + d.size ≤ 4611686018427387904)
    (hY : ∀ m pre x W, G x → J pre W → pre.length < d.size → YieldAt Fence.wide m Tryz.prog l #[.int .i64 (x.1 : Nat), .agg #[.int .i64 x.2.op, .int .i64 x.2.n, .slice x.2.a x.2.l x.2.c]] W fun e W' =>
      (e = .returned (.bool true) ∧ J (pre ++ [x]) W' ∧ Keep n₀ B W W') ∨ (e = .returned (.bool false) ∧ Jx (pre ++ [x]) W'))
    (W : World) (hG : ∀ x ∈ d.pre 1, G x) (hB : B ≤ W.heap.size) (hL : Lies n₀ W d) (hc : Cells3 W Bt 0 d.op d.n d.a d.l d.c) (hck : W.cell? ⟨Bk, 0, none⟩ = some (.func (.func 118) #[] #[])) (h0 : J [] W) :
    CallsIn Fence.wide 2 Tryz.prog 139 #[.func (.yield l) #[] #[], .pointer (some ⟨Bk, 0, none⟩), .pointer (some ⟨Bt, 0, none⟩)] W fun e W' => (∃ v, e = .returned v) ∧
      ((∃ ys, ys = d.pre 1 ∧ J ys W') ∨ (∃ pre, pre <+: d.pre 1 ∧ Jx pre W')) := by
  have hBt := lt_cell hc.c0
  have hBkl := lt_cell hck
  obtain ⟨c0, c1, c2⟩ := hc
  obtain ⟨W1, hW1⟩ : ∃ W1, W1 = ((W.alloc (.cells #[.func (.yield l) #[] #[]] 169)).alloc (.cells #[.func (.func 140) #[] (visV W.heap.size Bk (W.heap.size + 1))] 169)) := ⟨_, rfl⟩
  have hK1 : Keep n₀ B W W1 := by
    rw [hW1]; exact ((Keep.refl n₀ B W).alloc (by omega) _).alloc (by simp; omega) _
  have hV := visitG_in G l n₀ B (W.heap.size + 1) W.heap.size Bk d.size J Jx hal (by omega) (by omega) hBk hnB hY d.size d 1 [] W1 hG (Nat.le_refl _) hs (hL.below hK1.below) (by rw [hW1]; exact hal _ _ _ (hal _ _ _ h0)) (by simp) (by rw [hW1]; go_cell) (by rw [hW1]; go_cell) (hK1.cell hBk hck)
  rw [hW1, show ((1 : Nat) : Int) = 1 from rfl] at hV
  replace hV := Lib.hid (callsIn_wide (n := 1) |>.2 hV)
  refine callsIn_of_wp Tryz.func139 rfl trivial ?_ rfl
  simp only [Tryz.ntmps139, List.size_toArray, List.length_cons, List.length_nil, Nat.reduceAdd, Nat.reduceSub, Array.replicate_succ, Array.replicate_zero, List.push_toArray, List.append_toArray, List.nil_append, List.cons_append]
  clear hW1 hK1 hck
  gi_wp2_with fail
  refine ⟨trivial, hV.out.mono ?_⟩
  rintro e W2 (⟨rfl, hj, hk⟩ | ⟨rfl, hst⟩)
  · replace hj := Lib.hid hj
    clear hk
    gi_wp2_with fail
    go_end0
    exact ⟨⟨_, rfl⟩, .inl ⟨_, rfl, by simpa using hj.out⟩⟩
  · replace hst := Lib.hid hst
    gi_wp2_with fail
    go_end0
    obtain ⟨q, hq, hx⟩ := hst.out
    exact ⟨⟨_, rfl⟩, .inr ⟨q, hq, by simpa using hx⟩⟩

/-- 'nodes(t)' is an iterator over t's nodes, each of which holds what all of them hold. -/
theorem nodesG_stops (G : Nd → Prop) (n n₀ Bt Bk : Nat) (d : DT) (w : World) (hG : ∀ x ∈ d.pre 1, G x) (hs : 1 + d.size ≤ 4611686018427387904) (hn : n₀ ≤ Bk) (hL : Lies n₀ w d) (hc : Cells3 w Bt 0 d.op d.n d.a d.l d.c) (hck : w.cell? ⟨Bk, 0, none⟩ = some (.func (.func 118) #[] #[])) :
    SeqStopsK Fence.wide n Tryz.prog 139 #[.pointer (some ⟨Bk, 0, none⟩), .pointer (some ⟨Bt, 0, none⟩)] (fun x : {x : Nd // G x} => #[.int .i64 (x.1.1 : Nat), .agg #[.int .i64 x.1.2.op, .int .i64 x.1.2.n, .slice x.1.2.a x.1.2.l x.1.2.c]]) (Keep n₀ Bk) (fun ys => ys.map (·.1) = d.pre 1) (fun pre => pre.map (·.1) <+: d.pre 1) d.size w :=
  fun l J Jx W hW hJ _ hY h0 => by
    have hal : ∀ s W o, (∃ q : List {x : Nd // G x}, q.map (·.1) = s ∧ J q W) → (∃ q : List {x : Nd // G x}, q.map (·.1) = s ∧ J q (W.alloc o)) := fun s W' o h => by
      obtain ⟨q, hq, h⟩ := h
      exact ⟨q, hq, hJ q W' _ none h (World.grownBy_alloc W' o none) (fun r e => by cases e)⟩
    have hBk := lt_cell hck
    have hcW := (hW.cell (p := ⟨Bk, 0, none⟩) hBk).trans hck
    refine callsIn_wide.2 (callsIn_wide (n := 2) |>.1 ?_)
    refine (nodes1G_in G l n₀ Bk Bt Bk hn (Nat.le_refl _) d (fun s W => ∃ q : List {x : Nd // G x}, q.map (·.1) = s ∧ J q W) (fun s W => ∃ q : List {x : Nd // G x}, q.map (·.1) = s ∧ Jx q W) hal hs (fun m pre x W1 hx hj hlt => by
      obtain ⟨q, rfl, hj⟩ := hj
      obtain ⟨fn, tmps, assign, body, hy, hR⟩ := hY q ⟨x, hx⟩ W1 hj (by simpa using hlt)
      refine ⟨fn, tmps, assign, body, hy, RoundIn.mono ⟨hR.1, fun c cs _ => hR.2 c cs (fun d h => by cases h)⟩ ?_⟩
      rintro e w' (⟨h1, h2, h3⟩ | ⟨h1, h2⟩)
      · exact .inl ⟨h1, ⟨q ++ [⟨x, hx⟩], by simp, h2⟩, h3⟩
      · exact .inr ⟨h1, q ++ [⟨x, hx⟩], by simp, h2⟩) W hG (by have := hW.size; omega) (hL.below (hW.mono (by omega))) (hc.below hW (lt_cell hc.c0)) hcW ⟨[], rfl, h0⟩).mono ?_
    rintro e W' ⟨h1, h2⟩
    refine ⟨h1, ?_⟩
    rcases h2 with ⟨ys, rfl, q, hq, hj⟩ | ⟨pre, hpre, q, rfl, hj⟩
    · exact .inl ⟨q, hq, hj⟩
    · exact .inr ⟨q, hpre, hj⟩

end Go.Proofs.YthlegfegkopdkaaGreat

namespace Go.Proofs.YthlegfegkopdkaaGreat
open Go.RowKit Go.Shelf
attribute [local go_sem] Oper.semAt_some

def patOk (met : Nat → Bool) (op n : Int) : Bool := (op == 1 && !met n.toNat) || op == 3
def metN (met : Nat → Bool) (op n : Int) : Nat → Bool := if op = 1 then setB met n.toNat true else met
def patRun : List Nd → (Nat → Bool) → Bool
  | [], _ => true
  | x :: r, met => patOk met x.2.op x.2.n && patRun r (metN met x.2.op x.2.n)
def metsOf : List Nd → (Nat → Bool) → Nat → Bool
  | [], met => met
  | x :: r, met => metsOf r (metN met x.2.op x.2.n)
theorem patRun_append : ∀ (a b : List Nd) (met : Nat → Bool), patRun (a ++ b) met = (patRun a met && patRun b (metsOf a met))
  | [], b, met => by simp [patRun, metsOf]
  | x :: r, b, met => by simp only [List.cons_append, patRun, metsOf, patRun_append r b, Bool.and_assoc]
theorem metsOf_append : ∀ (a b : List Nd) (met : Nat → Bool), metsOf (a ++ b) met = metsOf b (metsOf a met)
  | [], b, met => rfl
  | x :: r, b, met => by simp only [List.cons_append, metsOf]; exact metsOf_append r b _
def patternB (d : DT) : Bool := patRun (d.pre 1) (fun _ => false)

mutual
theorem okV_pre : ∀ (d : DT) (dep : Nat), OkV d.tm → ∀ x ∈ d.pre dep, x.2.op = 1 → 0 ≤ x.2.n ∧ x.2.n < 20
  | .mk op n a l c ks, dep, h => by
    rw [DT.tm, OkV] at h
    rw [DT.pre]
    intro x hx e
    rcases List.mem_cons.1 hx with hx | hx
    · subst hx; exact h.1 (.inl e)
    · exact okVs_pres ks (dep + 1) h.2.2.2 x hx e
theorem okVs_pres : ∀ (ds : List DT) (dep : Nat), OkVs (tms ds) → ∀ x ∈ pres ds dep, x.2.op = 1 → 0 ≤ x.2.n ∧ x.2.n < 20
  | [], dep, _ => by simp [pres]
  | d :: ds, dep, h => by
    rw [tms, OkVs] at h
    rw [pres]
    intro x hx e
    rcases List.mem_append.1 hx with hx | hx
    · exact okV_pre d dep h.1 x hx e
    · exact okVs_pres ds dep h.2 x hx e
end

/-- A node whose variable, where it is one, is in range. -/
abbrev GNd : Type := {x : Nd // x.2.op = 1 → 0 ≤ x.2.n ∧ x.2.n < 20}
def gl (q : List GNd) : List Nd := q.map (·.1)
theorem gl_snoc (q : List GNd) (x : GNd) : gl (q ++ [x]) = gl q ++ [x.1] := by simp [gl]

theorem set_own (B : Nat) (F : List GNd → Nat → Bool) : Own (fun (pre : List GNd) W => SetAt W B (F pre)) := fun s X Y row hs hg hrow => by
  refine (hg.block B (Array.getElem?_eq_some_iff.1 hs).1 (fun e => ?_)).trans hs
  obtain ⟨o, ho, hc⟩ := hrow B e.symm
  rw [show X.heap[B]? = _ from hs] at ho
  cases ho; simp [Obj.isCells] at hc
theorem Keep.setAt {n₀ B b : Nat} (W : World) (h1 : n₀ ≤ b) (h2 : b < B) (i : Nat) (v : Value) : Keep n₀ B W (W.setCell ⟨b, i, none⟩ v) :=
  ⟨(Below.refl _ _).setCell (p := ⟨b, i, none⟩) h1 v, fun k cs ty fr hB hk => by rw [Below.heap_setCell _ _ _ _ (by simp; omega)]; exact hk⟩

set_option maxRecDepth 100000 in
set_option maxHeartbeats 2000000 in
/-- 'isPattern'. -/
theorem isPattern_any (d : DT) (n₀ : Nat) (w : World) (hs : 1 + d.size ≤ 1000000) (hn : n₀ ≤ w.heap.size) (hL : Lies n₀ w d) (hO : OkV d.tm) :
    Calls Tryz.prog 55 #[.agg #[.int .i64 d.op, .int .i64 d.n, .slice d.a d.l d.c]] w fun e w' => e = .returned (.bool (patternB d)) ∧ Below w.heap.size w w' := by
  refine callsIn_wide (n := 10) |>.1 ?_
  refine callsIn_of_wp_marks Tryz.func55 rfl trivial ?_ rfl
  simp only [Tryz.ntmps55, List.size_toArray, List.length_cons, List.length_nil, Nat.reduceAdd, Nat.reduceSub, Array.replicate_succ, Array.replicate_zero, List.push_toArray, List.append_toArray, List.nil_append, List.cons_append]
  gi_wp2_with (refine ⟨trivial, ?_⟩; gi_at_call 88; refine (callsIn_wide.2 (tnodes_any d _)).mono ?_; rintro e w' ⟨rfl, rfl⟩)
  have hB0 : Below w.heap.size w ((((((w.alloc (bx d)).alloc (.cells #[.bool false] 4)).alloc zs).alloc (bx d)).alloc (bx d)).alloc kbx) := by go_grown
  have b1 := ((((Boxed.new (w.alloc (bx d)) 4 (.bool false)).alloc zs).alloc (bx d)).alloc (bx d)).alloc kbx
  have b2 := nw_top (((w.alloc (bx d)).alloc (.cells #[.bool false] 4)).alloc zs) d
  have bk := nw_kids (((w.alloc (bx d)).alloc (.cells #[.bool false] 4)).alloc zs) d
  have b3 := (((SetAt.none ((w.alloc (bx d)).alloc (.cells #[.bool false] 4))).alloc (bx d)).alloc (bx d)).alloc kbx
  rw [World.size_alloc] at b1
  rw [World.size_alloc, World.size_alloc, World.size_alloc] at b2 bk
  rw [World.size_alloc, World.size_alloc] at b3
  refine wpIn_rangeFunc_ownH rfl (by omega) (gf := 139) (lb := nlb (w.heap.size + 1 + 1 + 1)) rfl trivial (enters_of Tryz.func139 (by kernel_rfl) rfl)
    (nodesG_stops (fun x => x.2.op = 1 → 0 ≤ x.2.n ∧ x.2.n < 20) _ w.heap.size (w.heap.size + 1 + 1 + 1 + 1) (w.heap.size + 1 + 1 + 1 + 1 + 1) d _ (okV_pre d 1 hO) (by omega) (by omega) ((hL.below (hB0.mono hn)).wider hn) b2 bk) Keep.kt (Keep.kb (by simp; omega)) (Below.refl _ _) (fun _ => rfl)
    (fun pre W => (((patRun (gl pre) (fun _ => false) = true) ∧ Boxed W (w.heap.size + 1) 4 (.bool false)) ∧ SetAt W (w.heap.size + 1 + 1) (metsOf (gl pre) (fun _ => false))) ∧ Below w.heap.size w W)
    (fun c pre W => ((c = .ret ∧ patRun (gl pre) (fun _ => false) = false) ∧ Boxed W (w.heap.size + 1) 4 (.bool false)) ∧ Below w.heap.size w W)
    (OwnFrom.and (OwnFrom.and (OwnFrom.and (ownFrom_pure _ _) (Own.from (boxed_own _ _ _) _)) (Own.from (set_own _ _) _)) (ownFrom_below (Nat.le_refl _) (by simp; omega)))
    (fun c => OwnFrom.and (OwnFrom.and (ownFrom_pure _ _) (Own.from (boxed_own _ _ _) _)) (ownFrom_below (Nat.le_refl _) (by simp; omega)))
    ⟨⟨⟨rfl, b1⟩, b3⟩, hB0⟩
    (fun x a' W => ∃ Bx, w.heap.size + 1 + 1 < Bx ∧ Box3 W Bx x.1.2 ∧ a' = { tmps := #[.agg #[.int .i64 d.op, .int .i64 d.n, .slice d.a d.l d.c], .pointer (some ⟨w.heap.size, 0, none⟩), .pointer (some ⟨w.heap.size + 1, 0, none⟩), .pointer (some ⟨w.heap.size + 1 + 1, 0, none⟩), undef, .pointer (some ⟨Bx, 0, none⟩), .agg #[.int .i64 d.op, .int .i64 d.n, .slice d.a d.l d.c], .func (.func 139) #[] (nlb (w.heap.size + 1 + 1 + 1)), .int .i64 (x.1.1 : Nat), .agg #[.int .i64 x.1.2.op, .int .i64 x.1.2.n, .slice x.1.2.a x.1.2.l x.1.2.c], undef, undef, undef, undef, undef, undef, undef, undef, undef, undef, undef, undef, undef, undef, undef, undef, undef, undef], defers := [] })
    (fun x a' _ X Y row hs hg hr => by obtain ⟨Bx, e1, e2, e3⟩ := hs; exact ⟨Bx, e1, Box3.own (β := Unit) Bx x.1.2 () X Y row e2 hg (fun r e => (hr r e).2), e3⟩)
    ?assign ?body ?done ?stop
  case assign =>
    rintro l pre x W K ⟨⟨⟨hp, hbx⟩, hst⟩, hB⟩ hK
    simp only [List.zip_toArray, List.zip_cons_cons, List.zip_nil_right, List.size_toArray]
    gi_wp2
    exact hK _ _ ((KeepsOthers.alloc _ _).from _) ((Keep.refl _ _ W).alloc hB.size _) ⟨⟨⟨hp, hbx.alloc _⟩, hst.alloc _⟩, hB.alloc hB.size _⟩ ⟨W.heap.size, hst.lt, Box3.new W x.1.2, rfl⟩
  case body =>
    rintro l pre x a' W hl _ ⟨⟨⟨hp, hbx⟩, hst⟩, hB⟩ ⟨Bx, hBx, b3, rfl⟩ hlt
    obtain ⟨c0, c1, c2⟩ := b3.cells
    have r1 := hbx.cell
    have r2 := hbx.frozen
    have hrun := patRun_append (gl pre) [x.1] (fun _ => false)
    rw [← gl_snoc, hp, Bool.true_and] at hrun
    simp only [patRun, Bool.and_true] at hrun
    have hmet := metsOf_append (gl pre) [x.1] (fun _ => false)
    rw [← gl_snoc] at hmet
    simp only [metsOf] at hmet
    obtain ⟨M, hM⟩ : ∃ M, M = metsOf (gl pre) (fun _ => false) := ⟨_, rfl⟩
    rw [← hM] at hst hrun hmet
    have hmet' := Lib.hid hmet
    have hbf := hbx.set (.bool false)
    by_cases h1 : x.1.2.op = 1
    · obtain ⟨k, hk⟩ : ∃ k : Nat, x.1.2.n = k := ⟨x.1.2.n.toNat, by have := (x.2 h1).1; omega⟩
      have hk20 : k < 20 := by have := (x.2 h1).2; omega
      have ho : (k : Int) < 20 := by omega
      have p1 := hst.cell hk20
      have p2 := hst.frozen k
      have e1 : (x.1.2.op == 1) = true := by simpa using h1
      have e3 : (x.1.2.op != 3) = true := by simp [h1]
      have hpk : patOk M x.1.2.op x.1.2.n = !M k := by simp [patOk, h1, hk]
      rw [hpk] at hrun
      rw [hk] at c1
      cases hMk : M k
      · rw [hMk] at p1 hrun
        have hend := Lib.hid (show (patRun (gl (pre ++ [x])) (fun _ => false) = true ∧ Boxed (W.setCell ⟨w.heap.size + 1 + 1, k, none⟩ (.bool true)) (w.heap.size + 1) 4 (.bool false)) ∧ SetAt (W.setCell ⟨w.heap.size + 1 + 1, k, none⟩ (.bool true)) (w.heap.size + 1 + 1) (metsOf (gl (pre ++ [x])) (fun _ => false)) from
          ⟨⟨hrun, by unfold Boxed; rw [Below.heap_setCell _ _ _ _ (by simp)]; exact hbx⟩, by rw [hmet]; unfold metN; rw [if_pos h1, hk]; exact hst.set hk20 true⟩)
        replace hst := Lib.hid hst
        replace hrun := Lib.hid hrun
        replace h1 := Lib.hid h1
        replace hk := Lib.hid hk
        replace hp := Lib.hid hp
        clear hM hmet hpk hMk
        gi_wp2
        exact ⟨(KeepsOthers.setCell _ _ _).from _, Keep.setAt _ (by omega) (by omega) _ _, hend.out, hB.setCell (p := ⟨w.heap.size + 1 + 1, k, none⟩) (by simp; omega) _⟩
      · rw [hMk] at p1 hrun
        replace hst := Lib.hid hst
        replace hrun := Lib.hid hrun
        replace h1 := Lib.hid h1
        replace hk := Lib.hid hk
        replace hp := Lib.hid hp
        clear hM hmet hpk hMk
        gi_wp2
        exact ⟨(KeepsOthers.setCell _ _ _).from _, ⟨⟨rfl, hrun.out⟩, hbf⟩, hB.setCell (p := ⟨w.heap.size + 1, 0, none⟩) (by simp) _⟩
    · have e1 : (x.1.2.op == 1) = false := by simpa using h1
      have hmet2 := Lib.hid (show metsOf (gl (pre ++ [x])) (fun _ => false) = M from by rw [hmet]; unfold metN; rw [if_neg h1])
      by_cases h3 : x.1.2.op = 3
      · have e3 : (x.1.2.op != 3) = false := by simp [h3]
        have hpk : patOk M x.1.2.op x.1.2.n = true := by simp [patOk, h3]
        rw [hpk] at hrun
        replace hrun := Lib.hid hrun
        replace h1 := Lib.hid h1
        replace h3 := Lib.hid h3
        replace hst := Lib.hid hst
        replace hp := Lib.hid hp
        clear hM hmet hpk
        gi_wp2
        exact ⟨(KeepsOthers.refl _).from _, Keep.refl _ _ _, ⟨⟨hrun.out, hbx⟩, by rw [hmet2.out]; exact hst.out⟩, hB⟩
      · have e3 : (x.1.2.op != 3) = true := by simpa using h3
        have hpk : patOk M x.1.2.op x.1.2.n = false := by simp [patOk, h3, h1]
        rw [hpk] at hrun
        replace hrun := Lib.hid hrun
        replace h1 := Lib.hid h1
        replace h3 := Lib.hid h3
        replace hst := Lib.hid hst
        replace hp := Lib.hid hp
        clear hM hmet hpk
        gi_wp2
        exact ⟨(KeepsOthers.setCell _ _ _).from _, ⟨⟨rfl, hrun.out⟩, hbf⟩, hB.setCell (p := ⟨w.heap.size + 1, 0, none⟩) (by simp) _⟩
  case done =>
    rintro D ys W hD hys ⟨⟨⟨hp, hbx⟩, hst⟩, hB⟩ hK
    have hbx' := hbx.set (.bool true)
    have hK' := (KeepsOthers.setCell W ⟨w.heap.size + 1, 0, none⟩ (.bool true)).same D _ hK rfl
    have r1 := hbx.cell
    have r2 := hbx.frozen
    replace hst := Lib.hid hst
    replace hp := Lib.hid hp
    gi_wp2
    refine ⟨by simp, .inl ⟨_, _, rfl, run_takeDeferred hK', ?_⟩⟩
    have hc5 := cell_kept hbx'.cell (grownBy_putObj' _ D (.deferred none)) (fun r e => by cases e; exact ⟨_, hK', rfl⟩)
    refine ⟨.bool true, ?_, by unfold patternB; rw [← hys]; exact congrArg _ (congrArg _ hp.out.symm), (hB.setCell (p := ⟨w.heap.size + 1, 0, none⟩) (by simp) _).trans (belowK_b (w := w) (Nat.le_refl _) _ D _ _ (by simp at hD; omega) hK' rfl rfl)⟩
    simp [results, Tryz.f55, go_sem, hc5]
  case stop =>
    rintro D c pre W hD hpre ⟨⟨⟨rfl, hx⟩, hbx⟩, hB⟩ hK
    have hpf : Hid (patternB d = false) := Lib.hid (by
      obtain ⟨r, hr⟩ := hpre
      unfold patternB
      rw [← hr, patRun_append]
      rw [show patRun (pre.map (·.1)) (fun _ => false) = false from hx]; rfl)
    clear hx hpre
    gi_wp2
    refine ⟨by simp, .inl ⟨_, _, rfl, run_takeDeferred hK, ?_⟩⟩
    have hc5 := cell_kept hbx.cell (grownBy_putObj' _ D (.deferred none)) (fun r e => by cases e; exact ⟨_, hK, rfl⟩)
    refine ⟨.bool false, ?_, by rw [hpf.out], hB.trans (belowK_b (w := w) (Nat.le_refl _) W D _ _ (by simp at hD; omega) hK rfl rfl)⟩
    simp [results, Tryz.f55, go_sem, hc5]

end Go.Proofs.YthlegfegkopdkaaGreat

namespace Go.Proofs.YthlegfegkopdkaaGreat
open Go.RowKit Go.Shelf

noncomputable def patA (s : Sg) (d : DT) : Bool := checkB s [d] && patternB d

set_option maxRecDepth 100000 in
set_option maxHeartbeats 1000000 in
/-- 'IsPattern'. -/
theorem IsPattern_any (s : Sg) (d : DT) (n₀ : Nat) (w : World) (ac : Option Addr) (lc cc : Nat) (af : Option Addr) (lf cf : Nat) (hs1 : 1 + d.size ≤ 1000000) (hn : n₀ ≤ w.heap.size) (hS : IsSg n₀ w s ac lc cc af lf cf) (hL1 : Lies n₀ w d) :
    Calls Tryz.prog 16 #[.agg #[.slice ac lc cc, .slice af lf cf], .agg #[.int .i64 d.op, .int .i64 d.n, .slice d.a d.l d.c]] w fun e w' =>
      e = .returned (.tuple #[.bool (patA s d), .int .i64 (errOf (checkB s [d]))]) ∧ Below w.heap.size w w' := by
  obtain ⟨W0, hW0⟩ : ∃ W0, W0 = (w.alloc (bs 24 ac lc cc af lf cf)).alloc (bx d) := ⟨_, rfl⟩
  have hB0 : Below w.heap.size w W0 := by rw [hW0]; go_grown
  have hz0 : W0.heap.size = w.heap.size + 1 + 1 := by rw [hW0]; simp
  have hl1 := hL1.below (hB0.mono hn)
  have hC := Check_any s d n₀ W0 ac lc cc af lf cf hs1 (by omega) (hS.below (hB0.mono hn)) hl1
  have a0 : W0.cell? ⟨w.heap.size + 1, 0, none⟩ = some (.int .i64 d.op) := by rw [hW0]; go_cell
  have a1 : W0.cell? ⟨w.heap.size + 1, 1, none⟩ = some (.int .i64 d.n) := by rw [hW0]; go_cell
  have a2 : W0.cell? ⟨w.heap.size + 1, 2, none⟩ = some (.slice d.a d.l d.c) := by rw [hW0]; go_cell
  cases hv : checkB s [d]
  · rw [hv] at hC
    have hv1 : Hid (patA s d = false) := Lib.hid (by unfold patA; rw [hv]; rfl)
    rw [hW0] at hC
    replace hC := Lib.hid hC
    have he : errOf false = 2 := rfl
    clear a0 a1 a2 hl1 hL1 hS hv
    go_enter Tryz.func16, Tryz.ntmps16
    go_wp2_with (go_at_call 14; refine (hC.out).mono ?_; rintro e w1 ⟨rfl, hbe⟩)
    go_ret2
    rw [hW0] at hB0
    exact ⟨by rw [hv1.out]; rfl, hB0.trans (hbe.mono (by simp; omega))⟩
  · have hO := OkV.checked hv (List.mem_singleton.2 rfl)
    have hF := fun (W : World) (hb : Below W0.heap.size W0 W) => isPattern_any d n₀ W hs1 (by have := hb.size; omega) (hl1.below (hb.mono (by omega))) hO
    rw [hv] at hC
    have hv1 : Hid (patA s d = patternB d) := Lib.hid (by unfold patA; rw [hv]; rfl)
    rw [hW0] at hC
    replace hC := Lib.hid hC
    replace hF := Lib.hid hF
    have he : errOf true = 0 := rfl
    clear hl1 hL1 hS hv hO
    go_enter Tryz.func16, Tryz.ntmps16
    go_wp2_with (first
      | (go_at_call 14; refine (hC.out).mono ?_; rintro e w1 ⟨rfl, hbe⟩
         have hb2 := Lib.hid (show Below W0.heap.size W0 w1 from by rw [hW0]; exact hbe)
         have a0' := (hb2.out.cell (p := ⟨w.heap.size + 1, 0, none⟩) (by simp; omega)).trans a0
         have a1' := (hb2.out.cell (p := ⟨w.heap.size + 1, 1, none⟩) (by simp; omega)).trans a1
         have a2' := (hb2.out.cell (p := ⟨w.heap.size + 1, 2, none⟩) (by simp; omega)).trans a2)
      | (go_at_call 55; refine (hF.out _ hb2.out).mono ?_; rintro e w2 ⟨rfl, hbe2⟩))
    go_ret2
    have h1 := hb2.out.size
    exact ⟨by rw [hv1.out]; rfl, hB0.trans ((hb2.out.mono (by omega)).trans (hbe2.mono (by omega)))⟩

end Go.Proofs.YthlegfegkopdkaaGreat

namespace Go.Proofs.YthlegfegkopdkaaGreat
open Go.RowKit Go.Shelf

theorem load_setIn {F : Fence} {n : Nat} {ops : Array Oper} {rest : List Oper} {o : Oper} {a : Act} {w : World} {Q : Exit → Act → World → Prop} (x : Operand) {B : Nat} {f : Nat → Bool} (h : SetAt w B f) (hgd : o.guard = none) (ho : o.op = .load 79 x)
    (hx : a.eval x = .pointer (some ⟨B, 0, none⟩)) (k : wpListIn F n Tryz.prog ops Q rest (a.put o.dst (.agg (vs f))) w) : wpListIn F n Tryz.prog ops Q (o :: rest) a w := by
  refine wpListIn_plain hgd fun K' hK' => ?_
  unfold Oper.wpIn
  refine ⟨by simp [Oper.about, ho], ?_⟩
  rw [Oper.semAt_plain F _ _ (by rw [ho]; intro c hc'; cases hc')]
  simp only [execOp, ho, hx, Instr.loadAt, Instr.sureAddr, Sem.run_bind, Sem.run_pure, Result.andThen_ok, run_loadVar_row w B 79 79 _ (0, 0) _ h u79 rfl (i79 _)]
  exact hK' _ _ k
theorem store_setIn {F : Fence} {n : Nat} {ops : Array Oper} {rest : List Oper} {o : Oper} {a : Act} {w : World} {Q : Exit → Act → World → Prop} (x y : Operand) {B : Nat} {f : Nat → Bool} (g : Nat → Bool) (h : SetAt w B f) (hgd : o.guard = none) (ho : o.op = .store 79 x y)
    (hx : a.eval x = .pointer (some ⟨B, 0, none⟩)) (hy : a.eval y = .agg (vs g)) (k : wpListIn F n Tryz.prog ops Q rest (a.put o.dst undef) (w.setRow B (vs g))) : wpListIn F n Tryz.prog ops Q (o :: rest) a w := by
  refine wpListIn_plain hgd fun K' hK' => ?_
  unfold Oper.wpIn
  refine ⟨by simp [Oper.about, ho], ?_⟩
  rw [Oper.semAt_plain F _ _ (by rw [ho]; intro c hc'; cases hc')]
  simp only [execOp, ho, hx, hy, Instr.storeAt, Instr.sureAddr, Sem.run_bind, Sem.run_pure, Result.andThen_ok, run_storeVar_row w B 79 79 (vs f) (vs g) h (i79 _) (by rw [vs_size, vs_size]) (vs_one _)]
  exact hK' _ _ k

/-- What the walk over all nodes adds to the set. -/
def standN (met : Nat → Bool) (op n : Int) : Nat → Bool := if op = 1 ∨ op = 8 then setB met n.toNat true else met
def standsOf : List Nd → (Nat → Bool) → Nat → Bool
  | [], met => met
  | x :: r, met => standsOf r (standN met x.2.op x.2.n)
theorem standsOf_append : ∀ (a b : List Nd) (met : Nat → Bool), standsOf (a ++ b) met = standsOf b (standsOf a met)
  | [], b, met => rfl
  | x :: r, b, met => by simp only [List.cons_append, standsOf]; exact standsOf_append r b _
mutual
def stT : Tm → (Nat → Bool) → Nat → Bool | .mk op n ks, met => stKs ks (standN met op n)
def stKs : List Tm → (Nat → Bool) → Nat → Bool | [], met => met | t :: ts, met => stKs ts (stT t met)
end
mutual
theorem stands_pre : ∀ (d : DT) (dep : Nat) (met : Nat → Bool), standsOf (d.pre dep) met = stT d.tm met
  | .mk op n _ _ _ ks, dep, met => by rw [DT.pre, DT.tm, stT, standsOf, stands_pres ks (dep + 1)]; rfl
theorem stands_pres : ∀ (ds : List DT) (dep : Nat) (met : Nat → Bool), standsOf (pres ds dep) met = stKs (tms ds) met
  | [], _, _ => by simp [pres, tms, stKs, standsOf]
  | d :: ds, dep, met => by rw [pres, tms, stKs, standsOf_append, stands_pre d dep, stands_pres ds dep]
end
mutual
theorem okV_pre8 : ∀ (d : DT) (dep : Nat), OkV d.tm → ∀ x ∈ d.pre dep, (x.2.op = 1 ∨ x.2.op = 8) → 0 ≤ x.2.n ∧ x.2.n < 20
  | .mk op n a l c ks, dep, h => by
    rw [DT.tm, OkV] at h
    rw [DT.pre]
    intro x hx e
    rcases List.mem_cons.1 hx with hx | hx
    · subst hx; exact h.1 e
    · exact okVs_pres8 ks (dep + 1) h.2.2.2 x hx e
theorem okVs_pres8 : ∀ (ds : List DT) (dep : Nat), OkVs (tms ds) → ∀ x ∈ pres ds dep, (x.2.op = 1 ∨ x.2.op = 8) → 0 ≤ x.2.n ∧ x.2.n < 20
  | [], dep, _ => by simp [pres]
  | d :: ds, dep, h => by
    rw [tms, OkVs] at h
    rw [pres]
    intro x hx e
    rcases List.mem_append.1 hx with hx | hx
    · exact okV_pre8 d dep h.1 x hx e
    · exact okVs_pres8 ds dep h.2 x hx e
end

end Go.Proofs.YthlegfegkopdkaaGreat

namespace Go.Proofs.YthlegfegkopdkaaGreat
open Go.RowKit Go.Shelf
attribute [local go_sem] Oper.semAt_some

/-- A node whose variable, where it is one or a TermLet, is in range. -/
abbrev G8 : Type := {x : Nd // (x.2.op = 1 ∨ x.2.op = 8) → 0 ≤ x.2.n ∧ x.2.n < 20}
def gl8 (q : List G8) : List Nd := q.map (·.1)
theorem gl8_snoc (q : List G8) (x : G8) : gl8 (q ++ [x]) = gl8 q ++ [x.1] := by simp [gl8]
theorem set_own8 (B : Nat) (F : List G8 → Nat → Bool) : Own (fun (pre : List G8) W => SetAt W B (F pre)) := fun s X Y row hs hg hrow => by
  refine (hg.block B (Array.getElem?_eq_some_iff.1 hs).1 (fun e => ?_)).trans hs
  obtain ⟨o, ho, hc⟩ := hrow B e.symm
  rw [show X.heap[B]? = _ from hs] at ho
  cases ho; simp [Obj.isCells] at hc

set_option maxRecDepth 100000 in
set_option maxHeartbeats 2000000 in
/-- 'standing'. -/
theorem standing_any (d : DT) (n₀ : Nat) (w : World) (hs : 1 + d.size ≤ 1000000) (hn : n₀ ≤ w.heap.size) (hL : Lies n₀ w d) (hO : OkV d.tm) :
    Calls Tryz.prog 96 #[.agg #[.int .i64 d.op, .int .i64 d.n, .slice d.a d.l d.c]] w fun e w' => e = .returned (.agg (vs (stT d.tm (fun _ => false)))) ∧ Below w.heap.size w w' := by
  refine callsIn_wide (n := 10) |>.1 ?_
  refine callsIn_of_wp_marks Tryz.func96 rfl trivial ?_ rfl
  simp only [Tryz.ntmps96, List.size_toArray, List.length_cons, List.length_nil, Nat.reduceAdd, Nat.reduceSub, Array.replicate_succ, Array.replicate_zero, List.push_toArray, List.append_toArray, List.nil_append, List.cons_append]
  gi_wp2_with (refine ⟨trivial, ?_⟩; gi_at_call 88; refine (callsIn_wide.2 (tnodes_any d _)).mono ?_; rintro e w' ⟨rfl, rfl⟩)
  have hB0 : Below w.heap.size w ((((((w.alloc (bx d)).alloc zs).alloc zs).alloc (bx d)).alloc (bx d)).alloc kbx) := by go_grown
  have b1 := (((SetAt.none1 w (bx d) zs).alloc (bx d)).alloc (bx d)).alloc kbx
  have b2 := nw_top (((w.alloc (bx d)).alloc zs).alloc zs) d
  have bk := nw_kids (((w.alloc (bx d)).alloc zs).alloc zs) d
  have b3 := (((SetAt.none ((w.alloc (bx d)).alloc zs)).alloc (bx d)).alloc (bx d)).alloc kbx
  rw [World.size_alloc, World.size_alloc, World.size_alloc] at b2 bk
  rw [World.size_alloc, World.size_alloc] at b3
  refine wpIn_rangeFunc_ownH rfl (by omega) (gf := 139) (lb := nlb (w.heap.size + 1 + 1 + 1)) rfl trivial (enters_of Tryz.func139 (by kernel_rfl) rfl)
    (nodesG_stops (fun x => (x.2.op = 1 ∨ x.2.op = 8) → 0 ≤ x.2.n ∧ x.2.n < 20) _ w.heap.size (w.heap.size + 1 + 1 + 1 + 1) (w.heap.size + 1 + 1 + 1 + 1 + 1) d _ (okV_pre8 d 1 hO) (by omega) (by omega) ((hL.below (hB0.mono hn)).wider hn) b2 bk) Keep.kt (Keep.kb (by simp; omega)) (Below.refl _ _) (fun _ => rfl)
    (fun pre W => (SetAt W (w.heap.size + 1) (fun _ => false) ∧ SetAt W (w.heap.size + 1 + 1) (standsOf (gl8 pre) (fun _ => false))) ∧ Below w.heap.size w W)
    (fun _ _ _ => False)
    (OwnFrom.and (OwnFrom.and (Own.from (set_own8 _ (fun _ _ => false)) _) (Own.from (set_own8 _ (fun pre => standsOf (gl8 pre) (fun _ => false))) _)) (ownFrom_below (Nat.le_refl _) (by simp; omega)))
    (fun _ _ _ _ _ hs _ _ => hs)
    ⟨⟨b1, b3⟩, hB0⟩
    (fun x a' W => ∃ Bx, w.heap.size + 1 + 1 < Bx ∧ Box3 W Bx x.1.2 ∧ a' = { tmps := #[.agg #[.int .i64 d.op, .int .i64 d.n, .slice d.a d.l d.c], .pointer (some ⟨w.heap.size, 0, none⟩), .pointer (some ⟨w.heap.size + 1, 0, none⟩), .pointer (some ⟨w.heap.size + 1 + 1, 0, none⟩), undef, .pointer (some ⟨Bx, 0, none⟩), .agg #[.int .i64 d.op, .int .i64 d.n, .slice d.a d.l d.c], .func (.func 139) #[] (nlb (w.heap.size + 1 + 1 + 1)), .int .i64 (x.1.1 : Nat), .agg #[.int .i64 x.1.2.op, .int .i64 x.1.2.n, .slice x.1.2.a x.1.2.l x.1.2.c], undef, undef, undef, undef, undef, undef, undef, undef, undef, undef, undef, undef], defers := [] })
    (fun x a' _ X Y row hs hg hr => by obtain ⟨Bx, e1, e2, e3⟩ := hs; exact ⟨Bx, e1, Box3.own (β := Unit) Bx x.1.2 () X Y row e2 hg (fun r e => (hr r e).2), e3⟩)
    ?assign ?body ?done ?stop
  case assign =>
    rintro l pre x W K ⟨⟨hbx, hst⟩, hB⟩ hK
    simp only [List.zip_toArray, List.zip_cons_cons, List.zip_nil_right, List.size_toArray]
    gi_wp2
    exact hK _ _ ((KeepsOthers.alloc _ _).from _) ((Keep.refl _ _ W).alloc hB.size _) ⟨⟨hbx.alloc _, hst.alloc _⟩, hB.alloc hB.size _⟩ ⟨W.heap.size, hst.lt, Box3.new W x.1.2, rfl⟩
  case body =>
    rintro l pre x a' W hl _ ⟨⟨hbx, hst⟩, hB⟩ ⟨Bx, hBx, b3, rfl⟩ hlt
    obtain ⟨c0, c1, c2⟩ := b3.cells
    have hmet := standsOf_append (gl8 pre) [x.1] (fun _ => false)
    rw [← gl8_snoc] at hmet
    simp only [standsOf] at hmet
    obtain ⟨M, hM⟩ : ∃ M, M = standsOf (gl8 pre) (fun _ => false) := ⟨_, rfl⟩
    rw [← hM] at hst hmet
    by_cases h1 : x.1.2.op = 1 ∨ x.1.2.op = 8
    · obtain ⟨k, hk⟩ : ∃ k : Nat, x.1.2.n = k := ⟨x.1.2.n.toNat, by have := (x.2 h1).1; omega⟩
      have hk20 : k < 20 := by have := (x.2 h1).2; omega
      have ho : (k : Int) < 20 := by omega
      have p1 := hst.cell hk20
      have p2 := hst.frozen k
      rw [hk] at c1
      have hend := Lib.hid (show SetAt (W.setCell ⟨w.heap.size + 1 + 1, k, none⟩ (.bool true)) (w.heap.size + 1) (fun _ => false) ∧ SetAt (W.setCell ⟨w.heap.size + 1 + 1, k, none⟩ (.bool true)) (w.heap.size + 1 + 1) (standsOf (gl8 (pre ++ [x])) (fun _ => false)) from
        ⟨hbx.other (by simp) _, by rw [hmet]; unfold standN; rw [if_pos h1, hk]; exact hst.set hk20 true⟩)
      replace hst := Lib.hid hst
      replace hbx := Lib.hid hbx
      replace hk := Lib.hid hk
      clear hM hmet
      rcases Decidable.em (x.1.2.op = 1) with h | h
      · have e1 : (x.1.2.op == 1) = true := by simpa using h
        replace h := Lib.hid h
        replace h1 := Lib.hid h1
        gi_wp2
        exact ⟨(KeepsOthers.setCell _ _ _).from _, Keep.setAt _ (by omega) (by omega) _ _, hend.out, hB.setCell (p := ⟨w.heap.size + 1 + 1, k, none⟩) (by simp; omega) _⟩
      · have h8 : x.1.2.op = 8 := by omega
        have e1 : (x.1.2.op == 1) = false := by simpa using h
        have e8 : (x.1.2.op == 8) = true := by simpa using h8
        replace h := Lib.hid h
        replace h8 := Lib.hid h8
        replace h1 := Lib.hid h1
        gi_wp2
        exact ⟨(KeepsOthers.setCell _ _ _).from _, Keep.setAt _ (by omega) (by omega) _ _, hend.out, hB.setCell (p := ⟨w.heap.size + 1 + 1, k, none⟩) (by simp; omega) _⟩
    · have e1 : (x.1.2.op == 1) = false := by simp; omega
      have e8 : (x.1.2.op == 8) = false := by simp; omega
      have hmet2 := Lib.hid (show standsOf (gl8 (pre ++ [x])) (fun _ => false) = M from by rw [hmet]; unfold standN; rw [if_neg h1])
      replace hst := Lib.hid hst
      replace h1 := Lib.hid h1
      clear hM hmet
      gi_wp2
      exact ⟨(KeepsOthers.refl _).from _, Keep.refl _ _ _, ⟨hbx, by rw [hmet2.out]; exact hst.out⟩, hB⟩
  case done =>
    rintro D ys W hD hys ⟨⟨hbx, hst⟩, hB⟩ hK
    have hval := stands_pre d 1 (fun _ => false)
    rw [← hys] at hval
    rw [show standsOf (gl8 ys) (fun _ => false) = stT d.tm (fun _ => false) from hval] at hst
    obtain ⟨F, hF⟩ : ∃ F, F = stT d.tm (fun _ => false) := ⟨_, rfl⟩
    rw [← hF] at hst
    replace hF := Lib.hid hF
    clear hval hys
    have hK' := (setRow_other W (w.heap.size + 1) D (vs F) (by simp at hD; omega)).trans hK
    have hsF := hbx.store F
    have hsF' : SetAt ((W.setRow (w.heap.size + 1) (vs F)).putObj D (.deferred none)) (w.heap.size + 1) F :=
      ((grownBy_putObj' _ D (.deferred none)).block (w.heap.size + 1) hsF.lt (fun e => by cases e; simp at hD; omega)).trans hsF
    gi_wp2_with (first
      | (refine load_setIn (.tmp 3) hst rfl rfl rfl ?_)
      | (refine store_setIn (.tmp 2) (.tmp 21) F hbx rfl rfl rfl rfl ?_))
    refine ⟨by simp, .inl ⟨_, _, rfl, run_takeDeferred hK', ?_⟩⟩
    refine ⟨.agg (vs F), results_cell_row rfl _ _ (w.heap.size + 1) 79 _ (0, 0) _ rfl hsF' u79 rfl (i79 _), by rw [hF.out], (below_row hB (by omega) _).trans (belowK_b (w := w) (Nat.le_refl _) _ D _ _ (by simp at hD; omega) hK' rfl rfl)⟩
  case stop =>
    rintro D c pre W _ _ h _
    exact h.elim

end Go.Proofs.YthlegfegkopdkaaGreat

namespace Go.Proofs.YthlegfegkopdkaaGreat
open Go.RowKit Go.Shelf

set_option maxRecDepth 100000 in
set_option maxHeartbeats 600000 in
/-- The reference's 'name'. -/
theorem name_any (s : ByteArray) (w : World) (hs : s.size ≤ 140737488351232) :
    Calls Tryz.prog 90 #[.string s] w fun e w' => e = .returned (.bool (nameB s)) ∧ w = w' := by
  have hin := fun W => in_any (s.size : Nat) 1 8 W
  replace hin := Lib.hid hin
  go_enter Tryz.func90, Tryz.ntmps90
  go_wp2_with fail
  go_loopw [3] (fun i wi => ∃ k : Nat, k ≤ s.size ∧ i = .int .i64 k ∧ wi = w ∧ Hid (∀ i (h : i < s.size), i < k → isLet (s[i]'h).toNat = true)) (fun i _ => s.size - (intOf i).toNat)
  case atStart => exact ⟨0, by omega, rfl, rfl, Lib.hid (fun i h h0 => by omega)⟩
  case round =>
    obtain ⟨k, hk, rfl, rfl, hall⟩ := hrel
    by_cases hp : k < s.size
    · have o1 : (k : Int) < (s.size : Int) := by omega
      cases hl : isLet (s[k]'hp).toNat
      · have hbad : Hid (nameB s = false) := Lib.hid (by
          unfold nameB
          rw [Bool.and_eq_false_iff]
          refine .inr (Bool.eq_false_iff.2 fun h => ?_)
          have := (nameB_all s).1 h k hp
          rw [hl] at this; cases this)
        have hl' : (s[k]'hp).toNat < 65 ∨ (90 < (s[k]'hp).toNat ∧ (s[k]'hp).toNat < 97) ∨ 122 < (s[k]'hp).toNat := by unfold isLet at hl; simp at hl; omega
        clear hl hall
        rcases hl' with h5 | ⟨h5, h6⟩ | h5
        · have d1 : decide (((s[k]'hp).toNat : Int) < 97) = true := by simp <;> omega
          have d3 : decide (((s[k]'hp).toNat : Int) < 65) = true := by simp <;> omega
          go_wp2_with fail
          go_ret
          exact ⟨by rw [hbad.out]; rfl, rfl⟩
        · have d1 : decide (((s[k]'hp).toNat : Int) < 97) = true := by simp <;> omega
          have d3 : decide (((s[k]'hp).toNat : Int) < 65) = false := by simp <;> omega
          have d4 : decide ((90 : Int) < ((s[k]'hp).toNat : Int)) = true := by simp <;> omega
          go_wp2_with fail
          go_ret
          exact ⟨by rw [hbad.out]; rfl, rfl⟩
        · have d1 : decide (((s[k]'hp).toNat : Int) < 97) = false := by simp <;> omega
          have d2 : decide ((122 : Int) < ((s[k]'hp).toNat : Int)) = true := by simp <;> omega
          have d3 : decide (((s[k]'hp).toNat : Int) < 65) = false := by simp <;> omega
          have d4 : decide ((90 : Int) < ((s[k]'hp).toNat : Int)) = true := by simp <;> omega
          go_wp2_with fail
          go_ret
          exact ⟨by rw [hbad.out]; rfl, rfl⟩
      · have hlast : Hid (∀ i (h : i < s.size), i < k + 1 → isLet (s[i]'h).toNat = true) := Lib.hid (fun i h hi => by
          by_cases he : i = k
          · subst he; exact hl
          · exact hall.out i h (by omega))
        have hl' : (97 ≤ (s[k]'hp).toNat ∧ (s[k]'hp).toNat ≤ 122) ∨ (65 ≤ (s[k]'hp).toNat ∧ (s[k]'hp).toNat ≤ 90 ∧ (s[k]'hp).toNat < 97) := by unfold isLet at hl; simp at hl; omega
        clear hl hall
        rcases hl' with ⟨h5, h6⟩ | ⟨h5, h6, h7⟩
        · have d1 : decide (((s[k]'hp).toNat : Int) < 97) = false := by simp <;> omega
          have d2 : decide ((122 : Int) < ((s[k]'hp).toNat : Int)) = false := by simp <;> omega
          go_wp2_with fail
          go_roundw
          case rel => exact ⟨k + 1, by omega, by go_num, by trivial, hlast⟩
          case measure => simp [intOf]; omega
        · have d1 : decide (((s[k]'hp).toNat : Int) < 97) = true := by simp <;> omega
          have d3 : decide (((s[k]'hp).toNat : Int) < 65) = false := by simp <;> omega
          have d4 : decide ((90 : Int) < ((s[k]'hp).toNat : Int)) = false := by simp <;> omega
          go_wp2_with fail
          go_roundw
          case rel => exact ⟨k + 1, by omega, by go_num, by trivial, hlast⟩
          case measure => simp [intOf]; omega
    · have hend : Hid (nameB s = inB (s.size : Nat) 1 8) := Lib.hid (by
        unfold nameB inB
        rw [(nameB_all s).2 (fun i h => hall.out i h (by omega)), Bool.and_true, Bool.eq_iff_iff]
        simp; omega)
      have o1 : ¬ ((k : Int) < (s.size : Int)) := by omega
      clear hall
      go_wp2_with (go_at_call 58; refine (hin.out _).mono ?_; rintro e w' ⟨rfl, rfl⟩)
      go_ret
      exact ⟨by rw [hend.out]; rfl, rfl⟩

end Go.Proofs.YthlegfegkopdkaaGreat

namespace Go.Proofs.YthlegfegkopdkaaGreat
open Go.RowKit Go.Shelf

def shortN (l : List Nm) : Bool := l.all fun x => decide (x.1.size ≤ 30)
def smallB (s : Sg) : Bool := decide (s.cons.length ≤ 16) && (decide (s.funs.length ≤ 12) && (shortN s.cons && shortN s.funs))
theorem shortN_no {l : List Nm} {k : Nat} (h : k < l.length) (hb : 30 < l[k].1.size) : shortN l = false :=
  List.all_eq_false.2 ⟨l[k], List.getElem_mem h, by simpa using hb⟩
theorem shortN_yes {l : List Nm} (h : ∀ k (hk : k < l.length), l[k].1.size ≤ 30) : shortN l = true := by
  rw [shortN, List.all_eq_true]
  intro x hx
  obtain ⟨k, hk, rfl⟩ := List.getElem_of_mem hx
  simpa using h k hk

set_option maxRecDepth 100000 in
set_option maxHeartbeats 1000000 in
/-- The reference's 'SmallSig'. -/
theorem SmallSig_any (s : Sg) (n₀ : Nat) (w : World) (ac : Option Addr) (lc cc : Nat) (af : Option Addr) (lf cf : Nat) (hs : IsSg n₀ w s ac lc cc af lf cf) (hn : n₀ ≤ w.heap.size) :
    Calls Tryz.prog 47 #[.agg #[.slice ac lc cc, .slice af lf cf]] w fun e w' => e = .returned (.bool (smallB s)) ∧ Below w.heap.size w w' := by
  obtain ⟨rfl, hc1, hc2, hk⟩ := hs.cons
  obtain ⟨rfl, hf1, hf2, hkf⟩ := hs.funs
  have hb1 : Below w.heap.size w (w.alloc (.cells #[.slice ac s.cons.length cc, .slice af s.funs.length cf] 24)) := (Below.refl _ _).alloc (Nat.le_refl _) _
  by_cases h16 : s.cons.length ≤ 16
  rotate_left
  · have hv : Hid (smallB s = false) := Lib.hid (by unfold smallB; rw [decide_eq_false h16]; rfl)
    have o1 : (16 : Int) < (s.cons.length : Int) := by omega
    clear hk hkf hs
    go_enter Tryz.func47, Tryz.ntmps47
    go_wp2_with fail
    go_ret
    exact ⟨by rw [hv.out]; rfl, hb1⟩
  by_cases h12 : s.funs.length ≤ 12
  rotate_left
  · have hv : Hid (smallB s = false) := Lib.hid (by unfold smallB; rw [decide_eq_false h12, Bool.false_and, Bool.and_false])
    have o1 : ¬ (16 : Int) < (s.cons.length : Int) := by omega
    have o2 : (12 : Int) < (s.funs.length : Int) := by omega
    clear hk hkf hs
    go_enter Tryz.func47, Tryz.ntmps47
    go_wp2_with fail
    go_ret
    exact ⟨by rw [hv.out]; rfl, hb1⟩
  have hv : Hid (smallB s = (shortN s.cons && shortN s.funs)) := Lib.hid (by unfold smallB; rw [decide_eq_true h16, decide_eq_true h12]; rfl)
  have o1 : ¬ (16 : Int) < (s.cons.length : Int) := by omega
  have o2 : ¬ (12 : Int) < (s.funs.length : Int) := by omega
  clear hs
  go_enter Tryz.func47, Tryz.ntmps47
  go_wp2_with fail
  go_loopw [3] (fun i wi => ∃ k : Nat, k ≤ s.cons.length ∧ i = .int .i64 k ∧ wi = w.alloc (.cells #[.slice ac s.cons.length cc, .slice af s.funs.length cf] 24) ∧ Hid (∀ j (hj : j < s.cons.length), j < k → s.cons[j].1.size ≤ 30)) (fun i _ => s.cons.length - (intOf i).toNat)
  case atStart => exact ⟨0, by omega, rfl, rfl, Lib.hid (fun j h h0 => by omega)⟩
  case round =>
    obtain ⟨k, hkk, rfl, rfl, hall⟩ := hrel
    by_cases hp : k < s.cons.length
    · rcases hk with hk | ⟨b, off, rfl, hbn, hks⟩
      · rw [hk] at hp; simp at hp
      have o3 : (k : Int) < (s.cons.length : Int) := by omega
      have c0 := (hb1.cell (p := ⟨b, off + k * 2, none⟩) (show b < w.heap.size by omega)).trans (hks k hp).1
      clear hkf hks
      by_cases h30 : s.cons[k].1.size ≤ 30
      · have o4 : ¬ (30 : Int) < (s.cons[k].1.size : Int) := by omega
        have hall' : Hid (∀ j (hj : j < s.cons.length), j < k + 1 → s.cons[j].1.size ≤ 30) := Lib.hid (fun j hj h => by
          by_cases e : j = k
          · subst e; exact h30
          · exact hall.out j hj (by omega))
        clear hall
        go_wp2_with fail
        go_roundw
        case rel => exact ⟨k + 1, by omega, by go_num, by trivial, hall'⟩
        case measure => simp [intOf]; omega
      · have o4 : (30 : Int) < (s.cons[k].1.size : Int) := by omega
        have hv' : Hid (smallB s = false) := Lib.hid (by rw [hv.out, shortN_no hp (by omega)]; rfl)
        clear hall
        go_wp2_with fail
        go_ret
        exact ⟨by rw [hv'.out]; rfl, hb1⟩
    · have hc : Hid (smallB s = shortN s.funs) := Lib.hid (by rw [hv.out, shortN_yes (fun j hj => hall.out j hj (by omega))]; rfl)
      have o3 : ¬ (k : Int) < (s.cons.length : Int) := by omega
      clear hall hv hk
      go_wp2_with fail
      go_loopw [4] (fun i wi => ∃ k : Nat, k ≤ s.funs.length ∧ i = .int .i64 k ∧ wi = w.alloc (.cells #[.slice ac s.cons.length cc, .slice af s.funs.length cf] 24) ∧ Hid (∀ j (hj : j < s.funs.length), j < k → s.funs[j].1.size ≤ 30)) (fun i _ => s.funs.length - (intOf i).toNat)
      case atStart => exact ⟨0, by omega, rfl, rfl, Lib.hid (fun j h h0 => by omega)⟩
      case round =>
        obtain ⟨k', hkk', rfl, rfl, hall⟩ := hrel
        by_cases hp' : k' < s.funs.length
        · rcases hkf with hk | ⟨b, off, rfl, hbn, hks⟩
          · rw [hk] at hp'; simp at hp'
          have o4 : (k' : Int) < (s.funs.length : Int) := by omega
          have c0 := (hb1.cell (p := ⟨b, off + k' * 2, none⟩) (show b < w.heap.size by omega)).trans (hks k' hp').1
          clear hks
          by_cases h30 : s.funs[k'].1.size ≤ 30
          · have o5 : ¬ (30 : Int) < (s.funs[k'].1.size : Int) := by omega
            have hall' : Hid (∀ j (hj : j < s.funs.length), j < k' + 1 → s.funs[j].1.size ≤ 30) := Lib.hid (fun j hj h => by
              by_cases e : j = k'
              · subst e; exact h30
              · exact hall.out j hj (by omega))
            clear hall
            go_wp2_with fail
            go_roundw
            case rel => exact ⟨k' + 1, by omega, by go_num, by trivial, hall'⟩
            case measure => simp [intOf]; omega
          · have o5 : (30 : Int) < (s.funs[k'].1.size : Int) := by omega
            have hv' : Hid (smallB s = false) := Lib.hid (by rw [hc.out, shortN_no hp' (by omega)])
            clear hall
            go_wp2_with fail
            go_ret
            exact ⟨by rw [hv'.out]; rfl, hb1⟩
        · have hv' : Hid (smallB s = true) := Lib.hid (by rw [hc.out, shortN_yes (fun j hj => hall.out j hj (by omega))])
          have o4 : ¬ (k' : Int) < (s.funs.length : Int) := by omega
          clear hall
          go_wp2_with fail
          go_ret
          exact ⟨by rw [hv'.out]; rfl, hb1⟩

end Go.Proofs.YthlegfegkopdkaaGreat

namespace Go.Proofs.YthlegfegkopdkaaGreat
open Go.RowKit Go.Shelf

/-- A slice of ints. -/
def IsInts (n₀ : Nat) (w : World) (l : List Int) (a : Option Addr) (len c : Nat) : Prop :=
  len = l.length ∧ len ≤ c ∧ c ≤ 9223372036854775807 ∧ (l = [] ∨ ∃ b off, a = some ⟨b, off, none⟩ ∧ b < n₀ ∧ ∀ k (h : k < l.length), w.cell? ⟨b, off + k, none⟩ = some (.int .i64 l[k]))
theorem IsInts.below {n₀ : Nat} {A B : World} (h : Below n₀ A B) {l : List Int} {a : Option Addr} {len c : Nat} (x : IsInts n₀ A l a len c) : IsInts n₀ B l a len c := by
  obtain ⟨h1, h2, h3, h4⟩ := x
  refine ⟨h1, h2, h3, ?_⟩
  rcases h4 with h4 | ⟨b, off, ha, hb, hk⟩
  · exact .inl h4
  · exact .inr ⟨b, off, ha, hb, fun k hk' => (h.cell (p := ⟨b, off + k, none⟩) hb).trans (hk k hk')⟩

set_option maxRecDepth 100000 in
set_option maxHeartbeats 1000000 in
/-- The reference's 'SameInts'. -/
theorem SameInts_any (l m : List Int) (n₀ : Nat) (w : World) (a : Option Addr) (la ca : Nat) (b : Option Addr) (lb cb : Nat) (hA : IsInts n₀ w l a la ca) (hB : IsInts n₀ w m b lb cb) (hn : n₀ ≤ w.heap.size) :
    Calls Tryz.prog 23 #[.slice a la ca, .slice b lb cb] w fun e w' => e = .returned (.bool (decide (l = m))) ∧ Below w.heap.size w w' := by
  obtain ⟨rfl, ha1, ha2, hka⟩ := hA
  obtain ⟨rfl, hb1, hb2, hkb⟩ := hB
  by_cases hlen : l.length = m.length
  rotate_left
  · have hv : Hid (decide (l = m) = false) := Lib.hid (decide_eq_false (fun h => hlen (by rw [h])))
    have o1 : ((l.length : Int) != (m.length : Int)) = true := by simp; omega
    clear hka hkb
    go_enter Tryz.func23, Tryz.ntmps23
    go_wp2_with fail
    go_ret
    exact ⟨by rw [hv.out]; rfl, Below.refl _ _⟩
  have o1 : ((l.length : Int) != (m.length : Int)) = false := by simp; omega
  replace hlen := Lib.hid hlen
  go_enter Tryz.func23, Tryz.ntmps23
  go_wp2_with fail
  go_loopw [5] (fun i wi => ∃ k : Nat, k ≤ l.length ∧ i = .int .i64 k ∧ Below w.heap.size w wi ∧ Hid (∀ j (hj : j < l.length) (hj' : j < m.length), j < k → l[j] = m[j])) (fun i _ => l.length - (intOf i).toNat)
  case atStart => exact ⟨0, by omega, rfl, Below.refl _ _, Lib.hid (fun j h h' h0 => by omega)⟩
  case round =>
    obtain ⟨k, hkk, rfl, hb, hall⟩ := hrel
    by_cases hp : k < l.length
    · have hp' : k < m.length := by have := hlen.out; omega
      rcases hka with hka | ⟨b1, off1, rfl, hbn1, hks1⟩
      · rw [hka] at hp; simp at hp
      rcases hkb with hkb | ⟨b2, off2, rfl, hbn2, hks2⟩
      · rw [hkb] at hp'; simp at hp'
      have o3 : (k : Int) < (l.length : Int) := by omega
      have o4 : (k : Int) < (m.length : Int) := by omega
      have c0 := (hb.cell (p := ⟨b1, off1 + k, none⟩) (show b1 < w.heap.size by omega)).trans (hks1 k hp)
      have c1 := (hb.cell (p := ⟨b2, off2 + k, none⟩) (show b2 < w.heap.size by omega)).trans (hks2 k hp')
      have d0 := fun dd os => cell_regrown c0 dd os
      have d1 := fun dd os => cell_regrown c1 dd os
      clear hks1 hks2
      go_wp2_with fail
      refine wp_region_quiet_below (by kernel_rfl) (by kernel_rfl) ?_
      repeat (quiet_step (fail))
      refine wpQuiet_nil ?_
      rintro _ ⟨⟨dq, osq⟩, rfl⟩
      have hb3 := below_regrown wr dq osq
      clear d0 d1
      have hz := hb.size
      by_cases he : l[k] = m[k]
      · have hall' : Hid (∀ j (hj : j < l.length) (hj' : j < m.length), j < k + 1 → l[j] = m[j]) := Lib.hid (fun j hj hj' h => by
          by_cases e : j = k
          · subst e; exact he
          · exact hall.out j hj hj' (by omega))
        have e1 : (l[k] != m[k]) = false := by simpa using he
        replace he := Lib.hid he
        clear hall
        go_wp2_with fail
        go_roundw
        case rel => exact ⟨k + 1, by omega, by go_num, hb.trans (hb3.mono hz), hall'⟩
        case measure => simp [intOf]; omega
      · have hv : Hid (decide (l = m) = false) := Lib.hid (decide_eq_false (fun h => he (by subst h; rfl)))
        have e1 : (l[k] != m[k]) = true := by simpa using he
        replace he := Lib.hid he
        clear hall
        go_wp2_with fail
        go_ret
        exact ⟨by rw [hv.out]; rfl, hb.trans (hb3.mono hz)⟩
    · have hv : Hid (decide (l = m) = true) := Lib.hid (decide_eq_true (List.ext_getElem hlen.out (fun j hj hj' => hall.out j hj hj' (by omega))))
      have o3 : ¬ (k : Int) < (l.length : Int) := by omega
      clear hall hka hkb
      go_wp2_with fail
      go_ret
      exact ⟨by rw [hv.out]; rfl, hb⟩

end Go.Proofs.YthlegfegkopdkaaGreat

namespace Go.Proofs.YthlegfegkopdkaaGreat
open Go.RowKit Go.Shelf

/-- A slice of bindings: a variable and its term each. -/
def IsBinds (n₀ : Nat) (w : World) (l : List (Int × Tm)) (a : Option Addr) (len c : Nat) : Prop :=
  len = l.length ∧ len ≤ c ∧ c ≤ 9223372036854775807 ∧ (l = [] ∨ ∃ b off, a = some ⟨b, off, none⟩ ∧ b < n₀ ∧
    ∀ k (h : k < l.length), w.cell? ⟨b, off + k * 4, none⟩ = some (.int .i64 l[k].1) ∧ ∃ a' l' c', Cells3 w b (off + k * 4 + 1) l[k].2.op l[k].2.n a' l' c' ∧ IsTm n₀ w l[k].2 a' l' c')
theorem IsBinds.below {n₀ : Nat} {A B : World} (h : Below n₀ A B) {l : List (Int × Tm)} {a : Option Addr} {len c : Nat} (x : IsBinds n₀ A l a len c) : IsBinds n₀ B l a len c := by
  obtain ⟨h1, h2, h3, h4⟩ := x
  refine ⟨h1, h2, h3, ?_⟩
  rcases h4 with h4 | ⟨b, off, ha, hb, hk⟩
  · exact .inl h4
  · refine .inr ⟨b, off, ha, hb, fun k hk' => ?_⟩
    obtain ⟨q1, a', l', c', q2, q3⟩ := hk k hk'
    exact ⟨(h.cell (p := ⟨b, off + k * 4, none⟩) hb).trans q1, a', l', c', q2.below h hb, IsTm.below h _ q3⟩

def smallT (t : Tm) : Bool := decide (0 ≤ weigh t 50 14)
def smallBs (l : List (Int × Tm)) : Bool := decide (l.length ≤ 25) && l.all fun x => smallT x.2

set_option maxRecDepth 100000 in
set_option maxHeartbeats 1000000 in
/-- The reference's 'SmallBinds'. -/
theorem SmallBinds_any (l : List (Int × Tm)) (n₀ : Nat) (w : World) (a : Option Addr) (la ca : Nat) (hA : IsBinds n₀ w l a la ca) (hn : n₀ ≤ w.heap.size) :
    Calls Tryz.prog 25 #[.slice a la ca] w fun e w' => e = .returned (.bool (smallBs l)) ∧ Below w.heap.size w w' := by
  obtain ⟨rfl, ha1, ha2, hka⟩ := hA
  go_enter Tryz.func25, Tryz.ntmps25
  go_wp2_with fail
  go_loopw [3] (fun i wi => ∃ k : Nat, k ≤ l.length ∧ k ≤ 26 ∧ i = .int .i64 k ∧ Below w.heap.size w wi ∧ Hid (∀ j (hj : j < l.length), j < k → smallT l[j].2 = true)) (fun i _ => l.length - (intOf i).toNat)
  case atStart => exact ⟨0, by omega, by omega, rfl, Below.refl _ _, Lib.hid (fun j h h0 => by omega)⟩
  case round =>
    obtain ⟨k, hkk, hk26, rfl, hb, hall⟩ := hrel
    have hz := hb.size
    by_cases hp : k < l.length
    · have o3 : (k : Int) < (l.length : Int) := by omega
      by_cases h25 : k ≤ 25
      · have o4 : (k : Int) ≤ 25 := by omega
        rcases hka with hka | ⟨b1, off1, rfl, hbn1, hks1⟩
        · rw [hka] at hp; simp at hp
        obtain ⟨-, a', l', c', q2, q3⟩ := hks1 k hp
        obtain ⟨p0, p1, p2⟩ := q2.below (hb.mono hn) hbn1
        have hC := Small_any l[k].2 n₀ wr a' l' c' (IsTm.below (hb.mono hn) _ q3) (by omega)
        rw [show decide (0 ≤ weigh l[k].2 50 14) = smallT l[k].2 from rfl] at hC
        clear hks1 q2 q3
        cases hs : smallT l[k].2
        · have hv : Hid (smallBs l = false) := Lib.hid (by
            unfold smallBs
            rw [Bool.and_eq_false_iff]
            exact .inr (List.all_eq_false.2 ⟨l[k], List.getElem_mem hp, by simp [hs]⟩))
          rw [hs] at hC
          replace hC := Lib.hid hC
          clear hall hs
          go_wp2_with (go_at_call 31; refine (hC.out).mono ?_; rintro e w1 ⟨rfl, hbe⟩)
          go_ret
          exact ⟨by rw [hv.out]; rfl, hb.trans (hbe.mono hz)⟩
        · have hall' : Hid (∀ j (hj : j < l.length), j < k + 1 → smallT l[j].2 = true) := Lib.hid (fun j hj h => by
            by_cases e : j = k
            · subst e; exact hs
            · exact hall.out j hj (by omega))
          rw [hs] at hC
          replace hC := Lib.hid hC
          clear hall hs
          go_wp2_with (go_at_call 31; refine (hC.out).mono ?_; rintro e w1 ⟨rfl, hbe⟩)
          go_roundw
          case rel => exact ⟨k + 1, by omega, by omega, by go_num, hb.trans (hbe.mono hz), hall'⟩
          case measure => simp [intOf]; omega
      · have o4 : ¬ (k : Int) ≤ 25 := by omega
        have o5 : ¬ (l.length : Int) ≤ 25 := by omega
        have hv : Hid (smallBs l = false) := Lib.hid (by unfold smallBs; rw [decide_eq_false (by omega)]; rfl)
        clear hka hall
        go_wp2_with fail
        go_ret
        exact ⟨by rw [hv.out]; simp, hb⟩
    · have o3 : ¬ (k : Int) < (l.length : Int) := by omega
      have hv : Hid (smallBs l = decide ((l.length : Int) ≤ 25)) := Lib.hid (by
        unfold smallBs
        rw [List.all_eq_true.2 (fun x hx => by obtain ⟨j, hj, rfl⟩ := List.getElem_of_mem hx; exact hall.out j hj (by omega)), Bool.and_true, Bool.eq_iff_iff]
        simp; omega)
      clear hka hall
      go_wp2_with fail
      go_ret
      exact ⟨by rw [hv.out]; rfl, hb⟩

end Go.Proofs.YthlegfegkopdkaaGreat

namespace Go.Proofs.YthlegfegkopdkaaGreat
open Go.RowKit Go.Shelf

theorem inf70 : (Tryz.prog.info? 70).map (fun i => (i.zero, i.size, i.bytes)) = some (some (.agg #[.int .i64 0, .int .i64 0, .int .i64 0, .slice none 0 0]), 4, 48) := by kernel_rfl
theorem und46 : Tryz.prog.underlying 46 = some (.slice 70) := by kernel_rfl

/-- A binding as it lies. -/
structure Bd where
  v : Int
  k : Kd
def Bd.cells (b : Bd) : List Value := .int .i64 b.v :: b.k.cells
def flatB : List Bd → List Value
  | [] => []
  | b :: bs => b.cells ++ flatB bs
theorem flatB_snoc (bs : List Bd) (b : Bd) : flatB (bs ++ [b]) = flatB bs ++ b.cells := by
  induction bs with
  | nil => simp [flatB]
  | cons x bs ih => simp [flatB, ih]
theorem flatB_get : ∀ (bs : List Bd) (k : Nat) (h : k < bs.length), (flatB bs)[k * 4]? = some (.int .i64 bs[k].v) ∧ (flatB bs)[k * 4 + 1]? = some (.int .i64 bs[k].k.t.op) ∧ (flatB bs)[k * 4 + 1 + 1]? = some (.int .i64 bs[k].k.t.n) ∧ (flatB bs)[k * 4 + 1 + 2]? = some (.slice bs[k].k.a bs[k].k.l bs[k].k.c)
  | [], k, h => by simp at h
  | b :: bs, 0, _ => by simp [flatB, Bd.cells, Kd.cells]
  | b :: bs, k + 1, h => by
    have := flatB_get bs k (by simpa using h)
    simp only [flatB, Bd.cells, Kd.cells, List.cons_append, List.nil_append, List.getElem_cons_succ]
    rw [show (k + 1) * 4 = k * 4 + 1 + 1 + 1 + 1 by omega, show k * 4 + 1 + 1 + 1 + 1 + 1 = k * 4 + 1 + 1 + 1 + 1 + 1 from rfl]
    simpa using this

/-- The row of bindings that a loop has made. -/
def BRow (base : Nat) (w : World) (L : List (Int × Tm)) (va : Option Addr) (vl vc : Nat) : Prop :=
  ∃ K : List Bd, K.map (fun b => (b.v, b.k.t)) = L ∧ w.ownsRow base 70 4 (.slice va vl vc) L.length (flatB K) ∧ ∀ x ∈ K, TmP (fun b => base ≤ b ∧ (Value.slice va vl vc).ownBlock ≠ some b) w x.k.t x.k.a x.k.l x.k.c
theorem BRow.nil (base : Nat) (w : World) : BRow base w [] none 0 0 := ⟨[], rfl, World.ownsRow_nil _ _ _ _, by simp⟩
theorem BRow.is {base : Nat} {w : World} {L : List (Int × Tm)} {va : Option Addr} {vl vc : Nat} (h : BRow base w L va vl vc) : IsBinds w.heap.size w L va vl vc := by
  obtain ⟨K, h1, h2, h3⟩ := h
  have hlen : K.length = L.length := by rw [← h1, List.length_map]
  rcases h2.2 with ⟨hv, h0⟩ | ⟨g, cap, cur, hv, hg, hcur, hn, hcap, hs, ht⟩
  · cases hv
    exact ⟨h0.symm, by omega, by omega, .inl (List.length_eq_zero_iff.1 h0)⟩
  · cases hv
    obtain ⟨hc, h1', h2', h3', h4⟩ := own_cells h2
    refine ⟨rfl, h1', h2', .inr ⟨g, 0, rfl, h3', fun k hk => ?_⟩⟩
    have hk' : k < K.length := by omega
    obtain ⟨g1, g2, g3, g4⟩ := flatB_get K k hk'
    have e : L[k] = (K[k].v, K[k].k.t) := by simp only [← h1, List.getElem_map]
    rw [e, Nat.zero_add]
    refine ⟨hc _ _ g1, K[k].k.a, K[k].k.l, K[k].k.c, ⟨hc _ _ g2, hc _ _ g3, hc _ _ g4⟩, ?_⟩
    have hx := h3 K[k] (List.getElem_mem hk')
    have hP : ∀ (t : Tm) {a : Option Addr} {l c : Nat}, TmP (fun b => base ≤ b ∧ (Value.slice (some ⟨g, 0, none⟩) L.length vc).ownBlock ≠ some b) w t a l c → TmP (fun b => b < w.heap.size) w t a l c := fun t _ _ _ ht => TmP.move (fun b _ hlt => ⟨hlt, rfl⟩) t ht
    exact TmP.is (fun b hb => hb) _ (hP _ hx)

theorem BRow.step {base : Nat} {wr W W1 w2 : World} {L : List (Int × Tm)} {va : Option Addr} {vl vc g cap : Nat} {v : Int} {t : Tm} {a' : Option Addr} {l' c' : Nat} {K : List Bd} (h1 : K.map (fun b => (b.v, b.k.t)) = L) (h2 : wr.ownsRow base 70 4 (.slice va vl vc) L.length (flatB K)) (h3 : ∀ x ∈ K, TmP (fun b => base ≤ b ∧ (Value.slice va vl vc).ownBlock ≠ some b) wr x.k.t x.k.a x.k.l x.k.c)
    (hA : ∀ j, base ≤ j → j < wr.heap.size → W1.heap[j]? = wr.heap[j]?) (hz : wr.heap.size ≤ W.heap.size) (hb : base ≤ wr.heap.size) (hW : W.heap.size ≤ W1.heap.size) (hk : TmP (fun b => W.heap.size ≤ b ∧ b < W1.heap.size) W1 t a' l' c')
    (hgrow : W1.grownBy w2 (Value.slice va vl vc).ownBlock)
    (hown : w2.ownsRow base 70 4 (.slice (some ⟨g, 0, none⟩) (L.length + 1) cap) (L.length + 1) (flatB K ++ [.int .i64 v, .int .i64 t.op, .int .i64 t.n, .slice a' l' c']))
    (hat : (Value.slice va vl vc).ownBlock = some g ∨ g = W1.heap.size) :
    BRow base w2 (L ++ [(v, t)]) (some ⟨g, 0, none⟩) (L.length + 1) cap := by
  have hnb : ∀ j, (Value.slice va vl vc).ownBlock = some j → base ≤ j ∧ j < wr.heap.size := fun j h => own_base h2 h
  have hne : ∀ j, j < W1.heap.size → (Value.slice va vl vc).ownBlock ≠ some j → (Value.slice (some ⟨g, 0, none⟩) (L.length + 1) cap).ownBlock ≠ some j := fun j hj hn e => by
    have : g = j := by simpa [Value.ownBlock] using e
    subst this
    rcases hat with h | h
    · exact hn h
    · omega
  refine ⟨K ++ [⟨v, ⟨t, a', l', c'⟩⟩], by simp [h1], ?_, ?_⟩
  · rw [flatB_snoc, List.length_append]
    exact hown
  · intro x hx
    rcases List.mem_append.1 hx with hx | hx
    · exact TmP.move (fun b hb' hlt => ⟨⟨hb'.1, hne b (by omega) hb'.2⟩, (hgrow.block b (by omega) (fun e => hb'.2 e.symm)).trans (hA b hb'.1 hlt)⟩) _ (h3 x hx)
    · obtain rfl := List.mem_singleton.1 hx
      refine TmP.move (fun b hb' hlt => ?_) _ hk
      have hnb' : (Value.slice va vl vc).ownBlock ≠ some b := fun e => by have := (hnb b e).2; omega
      exact ⟨⟨by omega, hne b hb'.2 hnb'⟩, hgrow.block b hlt (fun e => hnb' e.symm)⟩

def listB (f : Int → Option DT) (k : Nat) : List (Int × Tm) := (List.range k).filterMap fun v : Nat => (f v).map fun d => ((v : Int), d.tm)
theorem listB_some {f : Int → Option DT} {k : Nat} {d : DT} (h : f (k : Nat) = some d) : listB f (k + 1) = listB f k ++ [((k : Int), d.tm)] := by
  simp [listB, List.range_succ, h]
theorem listB_none {f : Int → Option DT} {k : Nat} (h : f (k : Nat) = none) : listB f (k + 1) = listB f k := by
  simp [listB, List.range_succ, h]
theorem listB_len (f : Int → Option DT) (k : Nat) : (listB f k).length ≤ k := by
  have := List.length_filterMap_le (fun v : Nat => (f v).map fun d => ((v : Int), d.tm)) (List.range k); simpa [listB] using this

set_option maxRecDepth 100000 in
set_option maxHeartbeats 1000000 in
theorem mlist_any (w : World) (bm nb n₀ : Nat) (f : Int → Option DT) (hm : TMap w bm nb f) (hE : Els (fun d => Lies n₀ w d ∧ d.size ≤ 1000000) f) (hn : n₀ ≤ w.heap.size) :
    Calls Tryz.prog 75 #[.map (some bm)] w fun e w' => ∃ va vl vc, e = .returned (.slice va vl vc) ∧ BRow w.heap.size w' (listB f 20) va vl vc ∧ Below w.heap.size w w' := by
  obtain ⟨i0, hi, hz0, hz1, hz2⟩ := info_parts inf70
  have hmlt := hm.lt
  replace hm := Lib.hid hm
  replace hE := Lib.hid hE
  go_enter Tryz.func75, Tryz.ntmps75
  go_wp2_with fail
  go_loopw [3, 4, 5, 6, 7] (fun v _ _ _ i wi => ∃ k : Nat, ∃ va vl vc, k ≤ 20 ∧ i = .int .i64 k ∧ v = .slice va vl vc ∧ Hid (BRow w.heap.size wi (listB f k) va vl vc) ∧ Below w.heap.size w wi) (fun _ _ _ _ i _ => 20 - (intOf i).toNat)
  case atStart => exact ⟨0, none, 0, 0, by omega, rfl, rfl, BRow.nil _ _, Below.refl _ _⟩
  case round =>
    obtain ⟨k, va, vl, vc, hk, rfl, rfl, hB, hb⟩ := hrel
    have hz := hb.size
    by_cases hlt : k < 20
    · have o1 : (k : Int) < 20 := by omega
      have hmr := hm.out.same (hb.block _ hmlt)
      cases hf : f (k : Nat) with
      | none =>
        have hl := hmr.look_none und100 (i := (k : Nat)) (by omega) hf
        have hn1 := Lib.hid (listB_none hf)
        clear hmr hf
        go_wp2_with fail
        go_roundw
        case rel =>
          refine ⟨k + 1, va, vl, vc, by omega, by go_num, rfl, ?_, hb.alloc hz _⟩
          rw [hn1.out]
          obtain ⟨K, h1, h2, h3⟩ := hB.out
          exact ⟨K, h1, h2.alloc _, fun x hx => TmP.move (fun b hb' hlt => ⟨hb', Below.heap_alloc _ _ b hlt⟩) _ (h3 x hx)⟩
        case measure => simp [intOf]; omega
      | some d =>
        have hl := hmr.look_some und100 (i := (k : Nat)) (by omega) hf
        obtain ⟨hLd, hsd⟩ := hE.out _ _ hf
        have hC := clone_any d.size hsd d n₀ (wr.alloc (bx d)) (Nat.le_refl _) (hLd.below ((hb.alloc hz _).mono hn)) (by simp; omega)
        have hn1 := Lib.hid (listB_some hf)
        have hlen := listB_len f k
        replace hC := Lib.hid hC
        clear hmr hf hLd
        go_wp2_with fail
        refine (hC.out).mono ?_
        rintro e w1 ⟨a', l', c', rfl, hF, -, hT⟩
        have hz1' : wr.heap.size + 1 ≤ w1.heap.size := by have := hT.size; simpa using this
        have hA : ∀ j, j < wr.heap.size → w1.heap[j]? = wr.heap[j]? := fun j hj => (hT.b0.block j (by simp; omega)).trans (Below.heap_alloc _ _ j hj)
        obtain ⟨K, h1, h2, h3⟩ := hB.out
        have h2' := own_stays (w' := w1) h2 (fun g _ hg => hA g hg)
        replace hT := Lib.hid hT
        replace hA := Lib.hid hA
        replace hF := Lib.hid hF
        replace h1 := Lib.hid h1
        replace h3 := Lib.hid h3
        replace h2 := Lib.hid h2
        replace h2' := Lib.hid h2'
        go_wp2_with (first
          | (at_builtin; refine wpList_append_lies _ rfl _ _ 46 rfl w.heap.size 70 i0 _ 4 48 und46 hi hz0 hz1 hz2 rfl (by omega) (.slice va vl vc) (listB f k).length (flatB K) rfl (h2'.out.alloc _)
              ⟨w1.heap.size, 0, none⟩ 1 1 [.int .i64 (k : Int), .int .i64 d.tm.op, .int .i64 d.tm.n, .slice a' l' c'] rfl rfl (World.news_of_block (cs := #[.int .i64 (k : Int), .int .i64 d.tm.op, .int .i64 d.tm.n, .slice a' l' c']) (t := 70) (fr := (0, 0)) (heap_new' _ rfl)) (by simp [Value.oneCell'])
              (by omega) (by unfold maxLen; omega) (by omega) (by simp; omega) (w1.heap.size + 1) (by simp) ?_; intro gg cap2 w2 hown1 hgrow hat hlt2))
        go_roundw
        case rel =>
          have hst := BRow.step (v := (k : Int)) (W := wr.alloc (bx d)) (W1 := w1.alloc (.cells #[.int .i64 (k : Int), .int .i64 d.tm.op, .int .i64 d.tm.n, .slice a' l' c'] 70)) h1.out h2.out h3.out (fun j _ hj => (Below.heap_alloc _ _ j (by omega)).trans (hA.out j hj)) (by simp) hz (by simp; omega)
            (TmP.move (fun b hb' hlt => ⟨⟨hb'.1, by have := hb'.2; simp; omega⟩, Below.heap_alloc _ _ b hlt⟩) _ hF.out) hgrow hown1 (by simpa using hat)
          refine ⟨k + 1, _, _, _, by omega, by go_num, rfl, by rw [hn1.out]; exact hst, ?_⟩
          exact (((hb.alloc hz (bx d)).trans (hT.out.b0.mono (by simp; omega))).alloc (by omega) _).grown hgrow (by simp; omega) (fun q hq => (own_base h2.out hq).1)
        case measure => simp [intOf]; omega
    · have : k = 20 := by omega
      subst this
      go_wp2_with fail
      go_ret
      exact ⟨va, vl, vc, rfl, hB.out, hb⟩

end Go.Proofs.YthlegfegkopdkaaGreat

namespace Go.Proofs.YthlegfegkopdkaaGreat
open Go.RowKit Go.Shelf

theorem und99 : Tryz.prog.underlying 99 = some (.map 3 28) := by kernel_rfl
/-- A scope of 'put' as cells: the bindings' map, the variables that stand in them, those that are bound here. -/
def psA (bm : Nat) (f g : Nat → Bool) : Array Value := #[.map (some bm)] ++ vs f ++ vs g
theorem psA_size (bm : Nat) (f g : Nat → Bool) : (psA bm f g).size = 41 := by simp [psA, vs_size]
theorem psA_map (bm : Nat) (f g : Nat → Bool) : (psA bm f g)[0]? = some (.map (some bm)) := by
  unfold psA; rw [Array.getElem?_append_left (by simp [vs_size]), Array.getElem?_append_left (by simp)]; simp
theorem psA_bound (bm : Nat) (f g : Nat → Bool) {k : Nat} (h : k < 20) : (psA bm f g)[21 + k]? = some (.bool (g k)) := by
  unfold psA
  rw [Array.getElem?_append_right (by simp [vs_size]; try omega)]
  simp only [Array.size_append, vs_size, List.size_toArray, List.length_cons, List.length_nil]
  rw [show 21 + k - (0 + 1 + 20) = k by omega]; exact vs_get g h
theorem psA_stand (bm : Nat) (f g : Nat → Bool) {k : Nat} (h : k < 20) : (psA bm f g)[1 + k]? = some (.bool (f k)) := by
  unfold psA
  rw [Array.getElem?_append_left (by simp [vs_size]; try omega), Array.getElem?_append_right (by simp)]
  simp only [List.size_toArray, List.length_cons, List.length_nil]
  rw [show 1 + k - (0 + 1) = k by omega]; exact vs_get f h
theorem psA_set (bm : Nat) (f g : Nat → Bool) {k : Nat} (b : Bool) (h : k < 20) : (psA bm f g).setIfInBounds (21 + k) (.bool b) = psA bm f (setB g k b) := by
  have hv := vs_set g b h
  unfold psA
  rw [← hv]
  have hs : ∀ C : Array Value, ∀ i, (#[Value.map (some bm)] ++ vs f ++ C)[i]? = if i < 21 then (#[Value.map (some bm)] ++ vs f)[i]? else C[i - 21]? := fun C i => by
    rw [Array.getElem?_append]
    simp only [Array.size_append, vs_size, List.size_toArray, List.length_cons, List.length_nil]
  apply Array.ext_getElem?
  intro i
  rw [Array.getElem?_setIfInBounds, hs, hs]
  by_cases hi : 21 + k = i
  · subst hi
    rw [if_pos rfl, if_pos (by simp [vs_size]; omega), if_neg (by omega), show 21 + k - 21 = k by omega, Array.getElem?_setIfInBounds, if_pos rfl, if_pos (by rw [vs_size]; exact h)]
  · rw [if_neg hi]
    by_cases h21 : i < 21
    · rw [if_pos h21, if_pos h21]
    · rw [if_neg h21, if_neg h21, Array.getElem?_setIfInBounds, if_neg (by omega)]
def PsAt (w : World) (B bm : Nat) (f g : Nat → Bool) : Prop := w.heap[B]? = some (.cells (psA bm f g) 125 (0, 0))
theorem PsAt.lt {w : World} {B bm : Nat} {f g : Nat → Bool} (h : PsAt w B bm f g) : B < w.heap.size := (Array.getElem?_eq_some_iff.1 h).1
theorem PsAt.map {w : World} {B bm : Nat} {f g : Nat → Bool} (h : PsAt w B bm f g) : w.cell? ⟨B, 0, none⟩ = some (.map (some bm)) := by rw [cell_of_row w B 0 _ 125 (0, 0) h, psA_map]
theorem PsAt.bound {w : World} {B bm : Nat} {f g : Nat → Bool} (h : PsAt w B bm f g) {k : Nat} (hk : k < 20) : w.cell? ⟨B, 21 + k, none⟩ = some (.bool (g k)) := by rw [cell_of_row w B (21 + k) _ 125 (0, 0) h, psA_bound bm f g hk]
theorem PsAt.frozen {w : World} {B bm : Nat} {f g : Nat → Bool} (h : PsAt w B bm f g) (k : Nat) : w.frozen? ⟨B, k, none⟩ = false := frozen_of_row w B k _ 125 h
theorem i125' : (Tryz.prog.info? 125).map (·.size) = some 41 := by kernel_rfl
theorem i125 (bm : Nat) (f g : Nat → Bool) : (Tryz.prog.info? 125).map (·.size) = some (psA bm f g).size := by rw [psA_size]; exact i125'
theorem psA_one (bm : Nat) (f g : Nat → Bool) : (psA bm f g).all (·.oneCell') = true := by
  unfold psA; rw [Array.all_append, Array.all_append, vs_one, vs_one]; simp [Value.oneCell']
theorem load_ps {ops : Array Oper} {rest : List Oper} {o : Oper} {a : Act} {w : World} {Q : Exit → Act → World → Prop} (x : Operand) {B bm : Nat} {f g : Nat → Bool} (h : PsAt w B bm f g) (hgd : o.guard = none) (ho : o.op = .load 125 x)
    (hx : a.eval x = .pointer (some ⟨B, 0, none⟩)) (k : wpList Tryz.prog ops Q rest (a.put o.dst (.agg (psA bm f g))) w) : wpList Tryz.prog ops Q (o :: rest) a w := by
  exact wpList_load_row hgd 125 x ho B hx 125 _ (0, 0) _ h Tryz.underlying125 rfl (i125 _ _ _) k
theorem store_ps {ops : Array Oper} {rest : List Oper} {o : Oper} {a : Act} {w : World} {Q : Exit → Act → World → Prop} (x y : Operand) {B : Nat} {cs : Array Value} {bm : Nat} {f g : Nat → Bool} (h : w.heap[B]? = some (.cells cs 125 (0, 0))) (hc : cs.size = 41) (hgd : o.guard = none) (ho : o.op = .store 125 x y)
    (hx : a.eval x = .pointer (some ⟨B, 0, none⟩)) (hy : a.eval y = .agg (psA bm f g)) (k : wpList Tryz.prog ops Q rest (a.put o.dst undef) (w.setRow B (psA bm f g))) : wpList Tryz.prog ops Q (o :: rest) a w :=
  wpList_store_row hgd 125 x y ho B _ hx hy 125 _ h (i125 _ _ _) (by rw [psA_size, hc]) (psA_one _ _ _) k

def zeD : DT := .mk 0 0 none 0 0 []
/-- What 'find' answers: a term, and whether it is put in here. -/
def findD (F : Int → Option DT) (g : Nat → Bool) (v : Nat) : DT × Bool := match F (v : Int) with | some d => (d, !g v) | none => (zeD, false)

set_option maxRecDepth 100000 in
set_option maxHeartbeats 1000000 in
theorem find_any (w : World) (bm nb : Nat) (F : Int → Option DT) (f g : Nat → Bool) (v : Nat) (hv : v < 20) (hm : TMap w bm nb F) :
    Calls Tryz.prog 119 #[.agg (psA bm f g), .int .i64 (v : Nat)] w fun e w' => e = .returned (.tuple #[dv (findD F g v).1, .bool (findD F g v).2]) ∧ Below w.heap.size w w' := by
  have hp : PsAt (w.alloc (.cells (psA bm f g) 125)) w.heap.size bm f g := heap_alloc_new w _
  obtain ⟨w0, hw0⟩ : ∃ w0, w0 = (w.alloc (.cells (psA bm f g) 125)).alloc zer3 := ⟨_, rfl⟩
  have hp0 : PsAt w0 w.heap.size bm f g := by rw [hw0]; exact heap_old hp
  have hz0 : w0.heap.size = w.heap.size + 1 + 1 := by rw [hw0]; simp
  have hB0 : Below w.heap.size w w0 := by rw [hw0]; go_grown
  have hm0 := hm.same (hB0.block _ hm.lt)
  have c0 := hp0.map
  have ov : (v : Int) < 20 := by omega
  have hr0 : w0.heap[w.heap.size + 1]? = some zer3 := by rw [hw0]; exact heap_new' _ (by simp)
  cases hF : F (v : Int) with
  | none =>
    have hl := hm0.look_none und99 (i := (v : Nat)) (by omega) hF
    have hfd : findD F g v = (zeD, false) := by unfold findD; rw [hF]
    rw [hfd]
    rw [hw0] at hl c0
    replace hp0 := Lib.hid hp0
    clear hF hfd hm hm0 hp
    go_enter Tryz.func119, Tryz.ntmps119
    go_wp2_with fail
    go_region
    go_wp2_with fail
    exact bodyPost_ret (v := .tuple #[.agg #[.int .i64 0, .int .i64 0, .slice none 0 0], .bool false]) (by simp [results, Tryz.f119, go_sem]) rfl ⟨rfl, by go_grown⟩
  | some d =>
    have hl := hm0.look_some und99 (i := (v : Nat)) (by omega) hF
    have hfd : findD F g v = (d, !g v) := by unfold findD; rw [hF]
    have c1 := psA_bound bm f g hv
    rw [hfd]
    rw [hw0] at hl c0
    replace hp0 := Lib.hid hp0
    clear hF hfd hm hm0 hp
    cases hg : g v
    all_goals
      rw [hg] at c1
      replace hg := Lib.hid hg
      go_enter Tryz.func119, Tryz.ntmps119
      go_wp2_with fail
      go_region
      all_goals
        go_wp2_with fail
    · exact bodyPost_ret (v := .tuple #[.agg #[.int .i64 d.op, .int .i64 d.n, .slice d.a d.l d.c], .bool true]) (by simp [results, Tryz.f119, go_sem]) rfl ⟨rfl, by go_grown⟩
    · exact bodyPost_ret (v := .tuple #[.agg #[.int .i64 d.op, .int .i64 d.n, .slice d.a d.l d.c], .bool false]) (by simp [results, Tryz.f119, go_sem]) rfl ⟨rfl, by go_grown⟩

/-- A set with one variable more. -/
theorem PsAt.other {w : World} {B bm : Nat} {f g : Nat → Bool} (h : PsAt w B bm f g) {p : Addr} (hp : B ≠ p.block) (v : Value) : PsAt (w.setCell p v) B bm f g := by
  unfold PsAt; rw [heap_setCell_other w p B v hp]; exact h

def zps : Array Value := Array.replicate 41 (.bool false)

set_option maxRecDepth 100000 in
set_option maxHeartbeats 1000000 in
theorem pinside_any (w : World) (bm : Nat) (f g : Nat → Bool) (v : Nat) (hv : v < 20) :
    Calls Tryz.prog 141 #[.agg (psA bm f g), .int .i64 (v : Nat)] w fun e w' => e = .returned (.agg (psA bm f (setB g v true))) ∧ Below w.heap.size w w' := by
  have ov : (v : Int) < 20 := by omega
  have c1 := psA_bound bm f g hv
  obtain ⟨b, hb⟩ : ∃ b, b = g v := ⟨_, rfl⟩
  rw [← hb] at c1
  replace hb := Lib.hid hb
  go_enter Tryz.func141, Tryz.ntmps141
  go_upto_region 2 with fail
  rw [psA_set bm f g true hv]
  generalize hzc : (#[Value.map none, Value.bool false, Value.bool false, Value.bool false, Value.bool false, Value.bool false, Value.bool false, Value.bool false, Value.bool false, Value.bool false, Value.bool false, Value.bool false, Value.bool false, Value.bool false, Value.bool false, Value.bool false, Value.bool false, Value.bool false, Value.bool false, Value.bool false, Value.bool false, Value.bool false, Value.bool false, Value.bool false, Value.bool false, Value.bool false, Value.bool false, Value.bool false, Value.bool false, Value.bool false, Value.bool false, Value.bool false, Value.bool false, Value.bool false, Value.bool false, Value.bool false, Value.bool false, Value.bool false, Value.bool false, Value.bool false, Value.bool false] : Array Value) = zc
  have hzs : Hid (zc.size = 41) := by rw [← hzc]; rfl
  replace hzc := Lib.hid hzc
  have hq1 : PsAt ((w.alloc (.cells (psA bm f (setB g v true)) 125)).alloc (.cells zc 125)) w.heap.size bm f (setB g v true) := heap_old (heap_new' _ rfl)
  have hq2 : ((w.alloc (.cells (psA bm f (setB g v true)) 125)).alloc (.cells zc 125)).heap[w.heap.size + 1]? = some (.cells zc 125 (0, 0)) := heap_new' _ (by simp)
  have hB : Below w.heap.size w ((w.alloc (.cells (psA bm f (setB g v true)) 125)).alloc (.cells zc 125)) := by go_grown
  obtain ⟨w0, hw0⟩ : ∃ w0, w0 = ((w.alloc (.cells (psA bm f (setB g v true)) 125)).alloc (.cells zc 125)) := ⟨_, rfl⟩
  rw [← hw0] at hq1 hq2 hB ⊢
  replace hw0 := Lib.hid hw0
  clear c1
  replace hq1 := Lib.hid hq1
  replace hq2 := Lib.hid hq2
  go_wp2_with (first
    | refine load_ps (.tmp 2) hq1.out rfl rfl rfl ?_
    | refine store_ps (.tmp 4) (.tmp 8) hq2.out hzs.out rfl rfl rfl rfl ?_)
  exact bodyPost_ret (results_cell_row rfl _ _ (w.heap.size + 1) 125 _ (0, 0) _ rfl (setRow_heap w0 (w.heap.size + 1) _ _ 125 (0, 0) hq2.out) Tryz.underlying125 rfl (i125 _ _ _)) rfl ⟨rfl, below_row hB (by omega) _⟩

end Go.Proofs.YthlegfegkopdkaaGreat
