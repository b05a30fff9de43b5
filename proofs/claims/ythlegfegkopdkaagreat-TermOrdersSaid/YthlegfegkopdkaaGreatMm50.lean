/- Own text, joined of: R12 R13 X3. The reference's 'ordered'. · The reference's 'Order', 'Variant'; the law's 'blank'. · TermOrders, of arguments that lie in memory. -/
import Derived.Test.YthlegfegkopdkaaGreatMm47
import Derived.Test.YthlegfegkopdkaaGreatMm48
import Derived.Test.YthlegfegkopdkaaGreatMm49

namespace Go.Proofs.YthlegfegkopdkaaGreat
open Go.RowKit Go.Shelf Go.Sort

theorem ordered_any (N : Nat) : OrdR N := by
  induction N with
  | zero => intro t _ _ _ _ _ _ _ _ _ _ h; have := size_pos t; omega
  | succ N ih =>
    intro t bound free next n₀ w a l c vb vf hs ht hO hn hb hf hbl hfl hnx
    by_cases h1 : t.op = 1
    · obtain ⟨-, h2, -, -⟩ := hO.open
      obtain ⟨e, -⟩ := ht.open
      rw [h2 h1] at e
      simp only [List.length_nil] at e
      subst e
      exact ordered_var t bound free next w a c vb vf hO hb hf hbl hfl (by have := size_pos t; omega) h1
    · by_cases h8 : t.op = 8
      · exact ordered_let N ih t bound free next n₀ w a l c vb vf hs ht hO hn hb hf hbl hfl hnx h1 h8
      · exact ordered_node N ih t bound free next n₀ w a l c vb vf hs ht hO hn hb hf hbl hfl hnx h1 h8

end Go.Proofs.YthlegfegkopdkaaGreat

namespace Go.Proofs.YthlegfegkopdkaaGreat
open Go.RowKit Go.Shelf Go.Sort

set_option maxRecDepth 100000 in
set_option maxHeartbeats 1000000 in
theorem blank_any (op n : Int) (a : Option Addr) (l c : Nat) (w : World) :
    Calls Tryz.prog 28 #[.agg #[.int .i64 op, .int .i64 n, .slice a l c]] w fun e w' => e = .returned (.bool ((op == 0) && (n == 0) && (l == 0))) ∧ Below w.heap.size w w' := by
  have hb : Below w.heap.size w (w.alloc (.cells #[.int .i64 op, .int .i64 n, .slice a l c] 28)) := bal _ _
  replace hb := Lib.hid hb
  cases h1 : op == 0
  · go_enter Tryz.func28, Tryz.ntmps28
    go_wp2_with fail
    go_ret
    exact ⟨rfl, hb.out⟩
  · cases h2 : n == 0
    · go_enter Tryz.func28, Tryz.ntmps28
      go_wp2_with fail
      go_ret
      exact ⟨rfl, hb.out⟩
    · have e : ((l : Int) == 0) = (l == 0) := by rw [Bool.eq_iff_iff]; simp
      go_enter Tryz.func28, Tryz.ntmps28
      go_wp2_with fail
      go_ret
      exact ⟨by simp, hb.out⟩

set_option maxRecDepth 100000 in
set_option maxHeartbeats 2000000 in
/-- The reference's 'Order'. -/
theorem rOrder_any (t : Tm) (n₀ : Nat) (w : World) (a : Option Addr) (l c : Nat) (ht : IsTm n₀ w t a l c) (hO : OkV t) (hn : n₀ ≤ w.heap.size) (hs : t.size ≤ 1000000) :
    Calls Tryz.prog 35 #[.agg #[.int .i64 t.op, .int .i64 t.n, .slice a l c]] w fun e w' => ∃ a' l' c', e = .returned (.tuple #[.agg #[.int .i64 (ordE t).1.op, .int .i64 (ordE t).1.n, .slice a' l' c'], .int .i64 ((ordE t).2.count : Nat)]) ∧ Fresh w w' (ordE t).1 a' l' c' ∧ Below w.heap.size w w' := by
  obtain ⟨w0, hw0⟩ : ∃ W, W = (w.alloc (.cells #[.int .i64 t.op, .int .i64 t.n, .slice a l c] 28)).alloc zT := ⟨_, rfl⟩
  have hz0 : w0.heap.size = w.heap.size + 2 := by rw [hw0]; simp
  have hB0 : Below w.heap.size w w0 := by rw [hw0]; go_grown
  have hrs : w0.heap[w.heap.size + 1]? = some zT := by rw [hw0]; exact heap_new' _ (by simp)
  have hC := ordered_any t.size t [] [] 0 n₀ w0 a l c (.slice none 0 0) (.slice none 0 0) (Nat.le_refl _) (IsTm.below (hB0.mono hn) _ ht) hO (by omega) (World.ownsRow_nil _ _ _ _) (World.ownsRow_nil _ _ _ _) (by simp) (by simp) (by omega)
  change Calls _ _ _ _ (OrdEnd w0 _ (ordE t).1 (ordE t).2) at hC
  obtain ⟨r, hr⟩ : ∃ r, r = ordE t := ⟨_, rfl⟩
  rw [← hr] at hC ⊢
  rw [hw0] at hC
  replace hC := Lib.hid hC
  clear hr hO ht
  go_enter Tryz.func35, Tryz.ntmps35
  go_upto_region 99 with fail
  refine (hC.out).mono ?_
  rintro e w1 ⟨a', l', c', vf, free, rfl, hF, hr5, -, -, hB1⟩
  rw [← hw0] at hF hB1
  obtain ⟨a5, l5, c5, rfl⟩ := hr5.slice
  have hz1 := hB1.size
  have g1 : w1.heap[w.heap.size + 1]? = some zT := (hB1.block _ (by omega)).trans hrs
  go_upto_region 2 with fail
  obtain ⟨W, hW⟩ : ∃ W, W = (w1.alloc (.cells #[.int .i64 r.1.op, .int .i64 r.1.n, .slice a' l' c'] 28)).alloc (.cells #[.slice none 0 0, .slice a5 l5 c5, .int .i64 (r.2.count : Nat)] 96) := ⟨_, rfl⟩
  rw [← hW]
  have k4 : W.heap[w1.heap.size]? = some (.cells #[.int .i64 r.1.op, .int .i64 r.1.n, .slice a' l' c'] 28 (0, 0)) := by rw [hW]; exact heap_old (heap_new'' _ _)
  have k5 : W.heap[w1.heap.size + 1]? = some (.cells #[.slice none 0 0, .slice a5 l5 c5, .int .i64 (r.2.count : Nat)] 96 (0, 0)) := by rw [hW]; exact heap_new' _ (by simp)
  have gW : W.heap[w.heap.size + 1]? = some zT := by rw [hW]; exact heap_old (heap_old g1)
  have hBW : Below w1.heap.size w1 W := by rw [hW]; exact Below.up (bal _ _) (bal _ _)
  replace k4 := Lib.hid k4
  replace k5 := Lib.hid k5
  replace gW := Lib.hid gW
  replace hBW := Lib.hid hBW
  replace hF := Lib.hid hF
  replace hB1 := Lib.hid hB1
  replace hB0 := Lib.hid hB0
  replace hz1 := Lib.hid hz1
  replace hz0 := Lib.hid hz0
  clear hW hrs g1 hr5 hC hw0
  refine region_named (S := fun W' => W'.heap[w1.heap.size]? = some (.cells #[.int .i64 r.1.op, .int .i64 r.1.n, .slice a' l' c'] 28 (0, 0)) ∧ W'.heap[w1.heap.size + 1]? = some (.cells #[.slice none 0 0, .slice a5 l5 c5, .int .i64 (r.2.count : Nat)] 96 (0, 0))) (by kernel_rfl) (fun x hx => ?_)
  have hq : Hid (x.heap[w1.heap.size]? = some (.cells #[.int .i64 r.1.op, .int .i64 r.1.n, .slice a' l' c'] 28 (0, 0)) ∧ x.heap[w1.heap.size + 1]? = some (.cells #[.slice none 0 0, .slice a5 l5 c5, .int .i64 (r.2.count : Nat)] 96 (0, 0))) := Lib.hid (by rw [hx]; exact ⟨k4.out, k5.out⟩)
  replace gW : Hid (x.heap[w.heap.size + 1]? = some zT) := Lib.hid (by rw [hx]; exact gW.out)
  replace hBW : Hid (Below w1.heap.size w1 x) := Lib.hid (by rw [hx]; exact hBW.out.drew)
  clear hx k4 k5
  refine takeH 0 12 (.agg #[.int .i64 r.1.op, .int .i64 r.1.n, .slice a' l' c']) rfl rfl (by kernel_rfl) (by kernel_rfl) (by kernel_rfl) (fun _ _ _ h => h) (by rfl) (by intro W hSw; obtain ⟨⟨j0, j1, j2⟩, -⟩ := c3_cells hSw.1; clear hSw; go_simp) hq.out ?_
  try simp only [List.setIfInBounds_toArray, List.set_cons_zero, List.set_cons_succ]
  refine takeH 1 13 (.pointer (some ⟨w1.heap.size + 1, 2, none⟩)) rfl rfl (by kernel_rfl) (by kernel_rfl) (by kernel_rfl) (fun _ _ _ h => h) (by rfl) (by intro W hSw; clear hSw; go_simp) hq.out ?_
  try simp only [List.setIfInBounds_toArray, List.set_cons_zero, List.set_cons_succ]
  refine takeH 2 14 (.int .i64 (r.2.count : Nat)) rfl rfl (by kernel_rfl) (by kernel_rfl) (by kernel_rfl) (fun _ _ _ h => h) (by rfl) (by intro W hSw; obtain ⟨⟨j0, j1, j2⟩, -⟩ := c3_cells hSw.2; clear hSw; go_simp) hq.out ?_
  try simp only [List.setIfInBounds_toArray, List.set_cons_zero, List.set_cons_succ]
  refine wpAnyH_ready (rs := [3]) (by kernel_rfl) (by simp) ?_
  refine AllReadyH.cons rfl (fun K hKc => ?_) AllReadyH.nil
  obtain ⟨⟨q0, q1, q2⟩, q3, q4, q5⟩ := c3_cells gW.out
  go_simp
  clear q0 q1 q2 q3 q4 q5
  obtain ⟨Z, hZ⟩ : ∃ Z, Z = (((x.setCell ⟨w.heap.size + 1, 0, none⟩ (.int .i64 r.1.op)).setCell ⟨w.heap.size + 1, 1, none⟩ (.int .i64 r.1.n)).setCell ⟨w.heap.size + 1, 2, none⟩ (.slice a' l' c')) := ⟨_, rfl⟩
  rw [← hZ]
  have hs := set3 (.int .i64 r.1.op) (.int .i64 r.1.n) (.slice a' l' c') gW.out
  have ho := fun k (hk : k ≠ w.heap.size + 1) => set3_other (w := x) (B := w.heap.size + 1) (.int .i64 r.1.op) (.int .i64 r.1.n) (.slice a' l' c') hk
  have hbs := set3_below (w := x) (B := w.heap.size + 1) (n := w.heap.size) (.int .i64 r.1.op) (.int .i64 r.1.n) (.slice a' l' c') (by omega)
  rw [← hZ] at hs ho hbs
  replace hq := Lib.hid (And.intro ((ho _ (by have := hz1.out; have := hz0.out; omega)).trans hq.out.1) ((ho _ (by have := hz1.out; have := hz0.out; omega)).trans hq.out.2))
  have hFZ : Hid (Fresh w Z r.1 a' l' c') := Lib.hid (Fresh.up hF.out (by have := hz0.out; omega) (fun b h1 h2 => (ho b (by have := hz0.out; omega)).trans (hBW.out.block b h2)) (Nat.le_trans hBW.out.size hbs.size))
  have hBZ : Hid (Below w.heap.size w Z) := Lib.hid (Below.trans (Below.up hB0.out (Below.up hB1.out hBW.out)) hbs)
  replace hs := Lib.hid hs
  clear hbs ho hZ hF hB0 hB1 hBW gW
  refine hKc _ _ hq.out (fun _ => ?_)
  clear hKc K
  try simp only [List.setIfInBounds_toArray, List.set_cons_zero, List.set_cons_succ]
  refine takeH 4 3 (.int .i64 (r.2.count : Nat)) rfl rfl (by kernel_rfl) (by kernel_rfl) (by kernel_rfl) (fun _ _ _ h => h) (by rfl) (by intro W hSw; clear hSw; go_simp) hq.out ?_
  try simp only [List.setIfInBounds_toArray, List.set_cons_zero, List.set_cons_succ]
  refine wpAnyH_done (by kernel_rfl) ?_ _
  clear hq
  go_wp2_with fail
  obtain ⟨⟨r0, r1, r2⟩, -⟩ := c3_cells hs.out
  refine bodyPost_ret (v := .tuple #[.agg #[.int .i64 r.1.op, .int .i64 r.1.n, .slice a' l' c'], .int .i64 (r.2.count : Nat)]) (by simp [results, Tryz.f35, go_sem, r0, r1, r2]) rfl ?_
  exact ⟨a', l', c', rfl, hFZ.out, hBZ.out⟩

set_option maxRecDepth 100000 in
set_option maxHeartbeats 2000000 in
/-- The reference's 'Variant'. -/
theorem rVariant_any (t u : Tm) (n₀ : Nat) (w : World) (a : Option Addr) (l c : Nat) (a₂ : Option Addr) (l₂ c₂ : Nat) (ht : IsTm n₀ w t a l c) (hu : IsTm n₀ w u a₂ l₂ c₂) (hO1 : OkV t) (hO2 : OkV u) (hn : n₀ ≤ w.heap.size) (hs1 : t.size ≤ 1000000) (hs2 : u.size ≤ 1000000) :
    Calls Tryz.prog 36 #[.agg #[.int .i64 t.op, .int .i64 t.n, .slice a l c], .agg #[.int .i64 u.op, .int .i64 u.n, .slice a₂ l₂ c₂]] w fun e w' => e = .returned (.bool (sameB (ordE t).1 (ordE u).1)) ∧ Below w.heap.size w w' := by
  obtain ⟨W0, hW0⟩ : ∃ W0, W0 = (w.alloc (.cells #[.int .i64 t.op, .int .i64 t.n, .slice a l c] 28)).alloc (.cells #[.int .i64 u.op, .int .i64 u.n, .slice a₂ l₂ c₂] 28) := ⟨_, rfl⟩
  have hB0 : Below w.heap.size w W0 := by rw [hW0]; go_grown
  have hz0 : W0.heap.size = w.heap.size + 1 + 1 := by rw [hW0]; simp
  have bx' : W0.heap[w.heap.size + 1]? = some (.cells #[.int .i64 u.op, .int .i64 u.n, .slice a₂ l₂ c₂] 28 (0, 0)) := by rw [hW0]; exact heap_new' _ (by simp)
  have hI1 := rOrder_any t n₀ W0 a l c (IsTm.below (hB0.mono hn) _ ht) hO1 (by omega) hs1
  have hI2 := fun (W : World) (hb : Below W0.heap.size W0 W) => rOrder_any u n₀ W a₂ l₂ c₂ (IsTm.below (Below.mono (Below.up hB0 hb) hn) _ hu) hO2 (by have := hb.size; omega) hs2
  obtain ⟨r, hr⟩ : ∃ r, r = ordE t := ⟨_, rfl⟩
  obtain ⟨q, hq⟩ : ∃ q, q = ordE u := ⟨_, rfl⟩
  rw [← hr] at hI1
  rw [← hq] at hI2
  rw [← hr, ← hq]
  rw [hW0] at hI1
  replace hI1 := Lib.hid hI1
  replace hI2 := Lib.hid hI2
  clear hr hq hO1 hO2 ht hu
  go_enter Tryz.func36, Tryz.ntmps36
  go_upto_region 99 with fail
  refine (hI1.out).mono ?_
  rintro e w2 ⟨a, l, c, rfl, hF, hB2⟩
  rw [← hW0] at hF hB2
  have hz2 := hB2.size
  obtain ⟨wb, hwb⟩ : ∃ wb, wb = w2.alloc (.cells #[.int .i64 r.1.op, .int .i64 r.1.n, .slice a l c] 28) := ⟨_, rfl⟩
  have hBb : Below w2.heap.size w2 wb := by rw [hwb]; exact (Below.refl _ _).alloc (Nat.le_refl _) _
  have hb2 : Below W0.heap.size W0 wb := hB2.trans (hBb.mono (by omega))
  have nb := heap_new'' w2 (.cells #[.int .i64 r.1.op, .int .i64 r.1.n, .slice a l c] 28)
  rw [← hwb] at nb
  have hzb : wb.heap.size = w2.heap.size + 1 := by rw [hwb]; simp
  obtain ⟨⟨e0, e1, e2⟩, -⟩ := c3_cells ((hb2.block (w.heap.size + 1) (by omega)).trans bx')
  have hJ2 := hI2.out wb hb2
  rw [hwb] at hJ2 e0 e1 e2
  replace hJ2 := Lib.hid hJ2
  replace hb2 := Lib.hid hb2
  replace nb := Lib.hid nb
  replace hBb := Lib.hid hBb
  replace hwb := Lib.hid hwb
  have hD1 := Lib.hid (hF.is)
  clear hF
  go_upto_region 99 with fail
  refine (hJ2.out).mono ?_
  rintro e w3 ⟨a', l', c', rfl, hF', hB3⟩
  rw [← hwb.out] at hB3 hF'
  have hz3 := hB3.size
  obtain ⟨wf, hwf⟩ : ∃ wf, wf = w3.alloc (.cells #[.int .i64 q.1.op, .int .i64 q.1.n, .slice a' l' c'] 28) := ⟨_, rfl⟩
  have hBf : Below w3.heap.size w3 wf := by rw [hwf]; exact (Below.refl _ _).alloc (Nat.le_refl _) _
  have hSm := Same_any r.1.size r.1 q.1 w3.heap.size wf a l c a' l' c' (Nat.le_refl _) (IsTm.wider (by omega) _ (IsTm.below (hBf.mono (by omega)) _ (IsTm.below (hB3.mono (by omega)) _ (IsTm.below hBb.out _ hD1.out)))) (IsTm.below hBf _ hF'.is) hBf.size
  rw [hwf] at hSm
  have nb2 := heap_old (o := .cells #[.int .i64 q.1.op, .int .i64 q.1.n, .slice a' l' c'] 28) ((hB3.block w2.heap.size (by omega)).trans nb.out)
  obtain ⟨⟨k0, k1, k2⟩, -⟩ := c3_cells nb2
  replace hSm := Lib.hid hSm
  replace hB3 := Lib.hid hB3
  replace hBf := Lib.hid hBf
  replace hwf := Lib.hid hwf
  replace nb2 := Lib.hid nb2
  clear hF' e0 e1 e2
  go_upto_region 99 with fail
  refine (hSm.out).mono ?_
  rintro e w4 ⟨rfl, hB4⟩
  rw [← hwf.out] at hB4
  replace hB4 := Lib.hid hB4
  go_wp2_with fail
  go_ret
  exact ⟨rfl, Below.up hB0 (Below.up hb2.out (Below.up hB3.out (Below.up hBf.out hB4.out)))⟩

end Go.Proofs.YthlegfegkopdkaaGreat

namespace Go.Proofs.YthlegfegkopdkaaGreat
open Go.RowKit Go.Shelf Go.Sort

theorem small2o (s : Sg) (d x : DT) (n₀ : Nat) (w : World) (ac : Option Addr) (lc cc : Nat) (af : Option Addr) (lf cf : Nat) (hs : IsSg n₀ w s ac lc cc af lf cf) (h1 : Lies n₀ w d) (h2 : Lies n₀ w x) (hn : n₀ ≤ w.heap.size) :
    Calls Tryz.prog 11 #[.agg #[.slice ac lc cc, .slice af lf cf], .slice (some ⟨w.heap.size, 0, none⟩) 2 2] (w.alloc (.cells #[.int .i64 d.op, .int .i64 d.n, .slice d.a d.l d.c, .int .i64 x.op, .int .i64 x.n, .slice x.a x.l x.c] 28))
      fun e w' => e = .returned (.bool (smallDs [d, x] && smallB s)) ∧ Below w.heap.size w w' := by
  have hb := bal w (.cells #[.int .i64 d.op, .int .i64 d.n, .slice d.a d.l d.c, .int .i64 x.op, .int .i64 x.n, .slice x.a x.l x.c] 28)
  refine (small_any s [d, x] (w.heap.size + 1) _ ac lc cc af lf cf w.heap.size 0 2 ((hs.below (hb.mono hn)).wider (by omega)) (two_lies' h1 h2 hn) (by omega) ⟨by simp, by omega⟩ (by simp)).mono ?_
  rintro e w' ⟨he, h⟩
  exact ⟨he, hb.trans (h.mono (by simp))⟩
theorem given1o (s : Sg) (d : DT) (n₀ : Nat) (w : World) (ac : Option Addr) (lc cc : Nat) (af : Option Addr) (lf cf : Nat) (hs : IsSg n₀ w s ac lc cc af lf cf) (h1 : Lies n₀ w d) (hn : n₀ ≤ w.heap.size) :
    Calls Tryz.prog 19 #[.agg #[.slice ac lc cc, .slice af lf cf], .slice (some ⟨w.heap.size, 0, none⟩) 1 1] (w.alloc (.cells #[.int .i64 d.op, .int .i64 d.n, .slice d.a d.l d.c] 28))
      fun e w' => e = .returned (.bool (checkB s [d])) ∧ Below w.heap.size w w' := by
  have hb := bal w (.cells #[.int .i64 d.op, .int .i64 d.n, .slice d.a d.l d.c] 28)
  refine (given_any s [d] (w.heap.size + 1) _ ac lc cc af lf cf w.heap.size 0 1 ((hs.below (hb.mono hn)).wider (by omega)) (one_lies' h1 hn) (by omega) ⟨by simp, by omega⟩ (by simp)).mono ?_
  rintro e w' ⟨he, h⟩
  exact ⟨by rw [he]; rfl, hb.trans (h.mono (by simp))⟩
theorem check_two (s : Sg) (d x : DT) : checkB s [d, x] = (checkB s [d] && checkB s [x]) := by
  unfold checkB
  simp only [List.all_cons, List.all_nil, Bool.and_true]
  cases sigB s <;> cases formedB s d.tm <;> cases formedB s x.tm <;> rfl
theorem Fresh.none_l {w w' : World} {op n : Int} {a : Option Addr} {l c : Nat} (h : Fresh w w' (.mk op n []) a l c) : l = 0 := by
  obtain ⟨h1, -⟩ := h.is.open
  exact h1

/-- What is known of the answers: the program's 'Order' (a term T, an error E), 'Variant' (V); the reference's (R, K). -/
def OrdCase (c1 c2 : Bool) (T R Q : Tm) (E : Int) (V : Bool) (K : Nat) : Prop :=
  V = (c1 && c2 && sameB R Q) ∧ ((c1 = false ∧ T = .mk 0 0 [] ∧ E = 2) ∨ (c1 = true ∧ 20 < K ∧ T = .mk 0 0 [] ∧ E = 3) ∨ (c1 = true ∧ K ≤ 20 ∧ T = R ∧ E = 0))
theorem ord_case (s : Sg) (d x : DT) : OrdCase (checkB s [d]) (checkB s [x]) (orderA s d).1 (ordE d.tm).1 (ordE x.tm).1 (orderA s d).2 (variantA s d x) (ordE d.tm).2.count := by
  refine ⟨by unfold variantA; rw [check_two], ?_⟩
  unfold orderA
  cases h : checkB s [d]
  · exact .inl ⟨rfl, by simp, by simp⟩
  · by_cases h2 : 20 < (ordE d.tm).2.count
    · exact .inr (.inl ⟨rfl, h2, by simp [h2], by simp [h2]⟩)
    · exact .inr (.inr ⟨rfl, by omega, by simp [h2], by simp [h2]⟩)

set_option maxRecDepth 100000 in
set_option maxHeartbeats 8000000 in
theorem TermOrders_any (s : Sg) (d x : DT) (n₀ : Nat) (w : World) (ac : Option Addr) (lc cc : Nat) (af : Option Addr) (lf cf : Nat) (hs : IsSg n₀ w s ac lc cc af lf cf) (h1 : Lies n₀ w d) (h2 : Lies n₀ w x) (hn : n₀ ≤ w.heap.size) :
    Calls Tryz.prog 5 #[.agg #[.slice ac lc cc, .slice af lf cf], .agg #[.int .i64 d.op, .int .i64 d.n, .slice d.a d.l d.c], .agg #[.int .i64 x.op, .int .i64 x.n, .slice x.a x.l x.c]] w
      fun e w' => e = .returned (.bool true) ∧ Below w.heap.size w w' := by
  obtain ⟨wa, hwa⟩ : ∃ W, W = bs1 w ac lc cc af lf cf := ⟨_, rfl⟩
  obtain ⟨wb, hwb⟩ : ∃ W, W = bt1 wa d := ⟨_, rfl⟩
  obtain ⟨W0, hW0⟩ : ∃ W, W = bt1 wb x := ⟨_, rfl⟩
  have hza : wa.heap.size = w.heap.size + 1 := by rw [hwa]; simp
  have hzb : wb.heap.size = w.heap.size + 1 + 1 := by rw [hwb]; simp [hza]
  have hz0 : W0.heap.size = w.heap.size + 1 + 1 + 1 := by rw [hW0]; simp [hzb]
  have ba : Below w.heap.size w wa := by rw [hwa]; exact bal _ _
  have bb : Below wa.heap.size wa wb := by rw [hwb]; exact bal _ _
  have bd : Below wb.heap.size wb W0 := by rw [hW0]; exact bal _ _
  have hB0 : Below w.heap.size w W0 := Below.up ba (Below.up bb bd)
  have hcells : Hid (∀ W, Below W0.heap.size W0 W → (W.cell? ⟨w.heap.size, 0, none⟩ = some (.slice ac lc cc) ∧ W.cell? ⟨w.heap.size, 1, none⟩ = some (.slice af lf cf)) ∧ (W.cell? ⟨w.heap.size + 1, 0, none⟩ = some (.int .i64 d.op) ∧ W.cell? ⟨w.heap.size + 1, 1, none⟩ = some (.int .i64 d.n) ∧ W.cell? ⟨w.heap.size + 1, 2, none⟩ = some (.slice d.a d.l d.c)) ∧ (W.cell? ⟨w.heap.size + 1 + 1, 0, none⟩ = some (.int .i64 x.op) ∧ W.cell? ⟨w.heap.size + 1 + 1, 1, none⟩ = some (.int .i64 x.n) ∧ W.cell? ⟨w.heap.size + 1 + 1, 2, none⟩ = some (.slice x.a x.l x.c))) := Lib.hid (fun W h => by
    have e0 := box_s hwa (Nat.le_refl _) (Below.up bb (Below.up bd h))
    have e1 := box_t hwb (Nat.le_refl _) (Below.up bd h)
    have e2 := box_t hW0 (Nat.le_refl _) h
    rw [hza] at e1; rw [hzb] at e2
    exact ⟨e0, e1, e2⟩)
  have hlie : Hid (∀ W, Below W0.heap.size W0 W → n₀ ≤ W.heap.size ∧ IsSg n₀ W s ac lc cc af lf cf ∧ Lies n₀ W d ∧ Lies n₀ W x) := Lib.hid (fun W h => by
    have hb := (Below.up hB0 h).mono hn
    exact ⟨by have := h.size; omega, hs.below hb, h1.below hb, h2.below hb⟩)
  have hG : Calls Tryz.prog 11 #[.agg #[.slice ac lc cc, .slice af lf cf], .slice (some ⟨W0.heap.size, 0, none⟩) 2 2] (W0.alloc (.cells #[.int .i64 d.op, .int .i64 d.n, .slice d.a d.l d.c, .int .i64 x.op, .int .i64 x.n, .slice x.a x.l x.c] 28))
      fun e w' => e = .returned (.bool (smallDs [d, x] && smallB s)) ∧ Below W0.heap.size W0 w' := by
    obtain ⟨q0, q1, q2, q3⟩ := hlie.out W0 (Below.refl _ _)
    exact small2o s d x n₀ W0 ac lc cc af lf cf q1 q2 q3 q0
  have hb0 : Hid (∀ W, Below (w.heap.size + 1 + 1 + 1) (bt1 (bt1 (bs1 w ac lc cc af lf cf) d) x) W → Below W0.heap.size W0 W) := Lib.hid (fun W h => by rw [hz0, hW0, hwb, hwa]; exact h)
  rw [hz0, hW0, hwb, hwa] at hG
  have hKn := fun W => known_any W
  replace hKn := Lib.hid hKn
  have hsm : Hid ((smallDs [d, x] && smallB s) = true → smallT d.tm = true ∧ smallT x.tm = true) := Lib.hid (fun h => by
    simp only [smallDs, List.all_cons, List.all_nil, Bool.and_true, Bool.and_eq_true] at h
    exact h.1)
  obtain ⟨g, hg⟩ : ∃ g, g = (smallDs [d, x] && smallB s) := ⟨_, rfl⟩
  rw [← hg] at hG hsm
  have hcase := ord_case s d x
  have h33 : Hid (smallT d.tm = true → ∀ W, Below W0.heap.size W0 W → Calls Tryz.prog 33 #[.agg #[.slice ac lc cc, .slice af lf cf], .agg #[.int .i64 d.op, .int .i64 d.n, .slice d.a d.l d.c]] W fun e w' => ∃ a l c, e = .returned (.tuple #[.agg #[.int .i64 (orderA s d).1.op, .int .i64 (orderA s d).1.n, .slice a l c], .int .i64 (orderA s d).2]) ∧ Fresh W w' (orderA s d).1 a l c ∧ Below W.heap.size W w') := Lib.hid (fun h W hW => by
    obtain ⟨q0, q1, q2, q3⟩ := hlie.out W hW
    exact Order_any s d n₀ W ac lc cc af lf cf (small_size h) q0 q1 q2)
  have h34 : Hid (smallT d.tm = true → smallT x.tm = true → ∀ W, Below W0.heap.size W0 W → Calls Tryz.prog 34 #[.agg #[.slice ac lc cc, .slice af lf cf], .agg #[.int .i64 d.op, .int .i64 d.n, .slice d.a d.l d.c], .agg #[.int .i64 x.op, .int .i64 x.n, .slice x.a x.l x.c]] W fun e w' => e = .returned (.tuple #[.bool (variantA s d x), .int .i64 (errOf (checkB s [d] && checkB s [x]))]) ∧ Below W.heap.size W w') := Lib.hid (fun h h' W hW => by
    obtain ⟨q0, q1, q2, q3⟩ := hlie.out W hW
    have := Variant_any s d x n₀ W ac lc cc af lf cf (small_size h) (small_size h') q0 q1 q2 q3
    rw [check_two] at this
    exact this)
  have h19 : Hid (∀ W, Below W0.heap.size W0 W → Calls Tryz.prog 19 #[.agg #[.slice ac lc cc, .slice af lf cf], .slice (some ⟨W.heap.size, 0, none⟩) 1 1] (W.alloc (.cells #[.int .i64 d.op, .int .i64 d.n, .slice d.a d.l d.c] 28)) fun e w' => e = .returned (.bool (checkB s [d])) ∧ Below W.heap.size W w') := Lib.hid (fun W hW => by
    obtain ⟨q0, q1, q2, q3⟩ := hlie.out W hW
    exact given1o s d n₀ W ac lc cc af lf cf q1 q2 q0)
  have h19x : Hid (∀ W, Below W0.heap.size W0 W → Calls Tryz.prog 19 #[.agg #[.slice ac lc cc, .slice af lf cf], .slice (some ⟨W.heap.size, 0, none⟩) 1 1] (W.alloc (.cells #[.int .i64 x.op, .int .i64 x.n, .slice x.a x.l x.c] 28)) fun e w' => e = .returned (.bool (checkB s [x])) ∧ Below W.heap.size W w') := Lib.hid (fun W hW => by
    obtain ⟨q0, q1, q2, q3⟩ := hlie.out W hW
    exact given1o s x n₀ W ac lc cc af lf cf q1 q3 q0)
  have h35 : Hid (smallT d.tm = true → checkB s [d] = true → (∀ W, Below W0.heap.size W0 W → Calls Tryz.prog 35 #[.agg #[.int .i64 d.op, .int .i64 d.n, .slice d.a d.l d.c]] W fun e w' => ∃ a l c, e = .returned (.tuple #[.agg #[.int .i64 (ordE d.tm).1.op, .int .i64 (ordE d.tm).1.n, .slice a l c], .int .i64 ((ordE d.tm).2.count : Nat)]) ∧ Fresh W w' (ordE d.tm).1 a l c ∧ Below W.heap.size W w') ∧ decide (0 ≤ weigh (ordE d.tm).1 50 14) = true) := Lib.hid (fun h hc => by
    have hO := OkV.checked hc (List.mem_singleton.2 rfl)
    refine ⟨fun W hW => ?_, small_ordE hO h⟩
    obtain ⟨q0, q1, q2, q3⟩ := hlie.out W hW
    have := rOrder_any d.tm n₀ W d.a d.l d.c (Lies.isTm _ q2) hO q0 (by have := small_size h; rw [size_tm]; omega)
    simp only [DT.tm_op, DT.tm_n] at this
    exact this)
  have h36 : Hid (smallT d.tm = true → smallT x.tm = true → checkB s [d] = true → checkB s [x] = true → ∀ W, Below W0.heap.size W0 W → Calls Tryz.prog 36 #[.agg #[.int .i64 d.op, .int .i64 d.n, .slice d.a d.l d.c], .agg #[.int .i64 x.op, .int .i64 x.n, .slice x.a x.l x.c]] W fun e w' => e = .returned (.bool (sameB (ordE d.tm).1 (ordE x.tm).1)) ∧ Below W.heap.size W w') := Lib.hid (fun h h' hc hc' W hW => by
    have hO := OkV.checked hc (List.mem_singleton.2 rfl)
    have hO' := OkV.checked hc' (List.mem_singleton.2 rfl)
    obtain ⟨q0, q1, q2, q3⟩ := hlie.out W hW
    have := rVariant_any d.tm x.tm n₀ W d.a d.l d.c x.a x.l x.c (Lies.isTm _ q2) (Lies.isTm _ q3) hO hO' q0 (by have := small_size h; rw [size_tm]; omega) (by have := small_size h'; rw [size_tm]; omega)
    simp only [DT.tm_op, DT.tm_n] at this
    exact this)
  obtain ⟨T, hT⟩ : ∃ T, T = (orderA s d).1 := ⟨_, rfl⟩
  obtain ⟨E, hE⟩ : ∃ T, T = (orderA s d).2 := ⟨_, rfl⟩
  obtain ⟨R, hR⟩ : ∃ T, T = (ordE d.tm).1 := ⟨_, rfl⟩
  obtain ⟨K, hK⟩ : ∃ T, T = (ordE d.tm).2.count := ⟨_, rfl⟩
  obtain ⟨Q, hQ⟩ : ∃ T, T = (ordE x.tm).1 := ⟨_, rfl⟩
  obtain ⟨V, hV⟩ : ∃ T, T = variantA s d x := ⟨_, rfl⟩
  obtain ⟨c1, hc1⟩ : ∃ T, T = checkB s [d] := ⟨_, rfl⟩
  obtain ⟨c2, hc2⟩ : ∃ T, T = checkB s [x] := ⟨_, rfl⟩
  rw [← hT, ← hE, ← hR, ← hK, ← hQ, ← hV, ← hc1, ← hc2] at hcase
  rw [← hT, ← hE] at h33
  rw [← hV, ← hc1, ← hc2] at h34
  rw [← hc1] at h19
  rw [← hc2] at h19x
  rw [← hR, ← hK, ← hc1] at h35
  rw [← hR, ← hQ, ← hc1, ← hc2] at h36
  clear hT hE hR hK hQ hV hc1 hc2
  replace hG := Lib.hid hG
  replace hB0 := Lib.hid hB0
  replace hcase := Lib.hid hcase
  clear hs h1 h2 ba bb bd hW0 hz0 hza hzb hwa hwb hg hlie
  go_enter Tryz.func5, Tryz.ntmps5
  go_upto_region 99 with fail
  refine (hG.out).mono ?_
  rintro e w1 ⟨rfl, hbe⟩
  replace hbe := Lib.hid (hb0.out _ hbe)
  clear hG
  cases g
  · go_wp2_with (go_at_call 12; refine (hKn.out _).mono ?_; rintro e w2 ⟨rfl, hbe2⟩)
    go_ret
    exact ⟨rfl, Below.up hB0.out (Below.up hbe.out hbe2)⟩
  obtain ⟨sm1, sm2⟩ := hsm.out rfl
  replace h33 := Lib.hid (h33.out sm1)
  replace h34 := Lib.hid (h34.out sm1 sm2)
  replace h35 := Lib.hid (h35.out sm1)
  replace h36 := Lib.hid (h36.out sm1 sm2)
  clear hsm sm1 sm2 hb0
  obtain ⟨hVe, hcs⟩ := hcase.out
  clear hcase

  obtain ⟨hc, hT, hE⟩ | ⟨hc, hK, hT, hE⟩ | ⟨hc, hK, hT, hE⟩ := hcs
  · subst hVe hc hE
    rw [hT] at h33
    clear hT h35 h36
    simp only [Tm.op, Tm.n] at h33
    obtain ⟨⟨s0, s1⟩, ⟨p0, p1, p2⟩, ⟨p3, p4, p5⟩⟩ := hcells.out _ hbe.out
    have hC := h33.out _ hbe.out
    try simp only [errOf, if_true, Bool.false_eq_true, if_false, Bool.true_and, Bool.false_and, Bool.and_false, Bool.and_true] at hC
    replace hC := Lib.hid hC
    go_upto_region 99 with fail
    refine (hC.out).mono ?_
    rintro e wn ⟨ax, lx, cx, rfl, hFx, hbe2⟩
    clear hC s0 s1 p0 p1 p2 p3 p4 p5
    replace hbe := Lib.hid (Below.up hbe.out hbe2)
    clear hbe2
    obtain rfl := hFx.none_l
    clear hFx
    obtain ⟨Bx, hBx⟩ : ∃ n, n = wn.heap.size := ⟨_, rfl⟩
    have hbx : Below wn.heap.size wn (wn.alloc (.cells #[.int .i64 0, .int .i64 0, .slice ax 0 cx] 28)) := bal _ _
    have kx : Hid (∀ W, Below (wn.heap.size + 1) (wn.alloc (.cells #[.int .i64 0, .int .i64 0, .slice ax 0 cx] 28)) W → W.heap[Bx]? = some (.cells #[.int .i64 0, .int .i64 0, .slice ax 0 cx] 28 (0, 0))) := Lib.hid (fun W h => (h.block Bx (by rw [hBx]; omega)).trans (by rw [hBx]; exact heap_new'' _ _))
    have hbX := Lib.hid (Below.up hbe.out hbx)
    have hC := h34.out _ hbX.out
    try simp only [errOf, Bool.false_eq_true, if_false, Bool.false_and] at hC
    replace hC := Lib.hid hC
    obtain ⟨⟨s0, s1⟩, ⟨p0, p1, p2⟩, ⟨p3, p4, p5⟩⟩ := hcells.out _ hbX.out
    clear hbx
    replace hBx := Lib.hid hBx
    go_upto_region 99 with fail
    refine (hC.out).mono ?_
    rintro e w3 ⟨rfl, hbe2⟩
    clear hC s0 s1 p0 p1 p2 p3 p4 p5
    rw [← hBx.out]
    have hX : Hid (Below (wn.heap.size + 1) (wn.alloc (.cells #[.int .i64 0, .int .i64 0, .slice ax 0 cx] 28)) w3) := Lib.hid (by simpa using hbe2)
    replace kx := Lib.hid (fun W (h : Below w3.heap.size w3 W) => kx.out W (Below.trans hX.out (h.mono (by have := hX.out.size; simpa using this))))
    replace hbe := Lib.hid (Below.up hbX.out hbe2)
    clear hbe2 hbX hX hBx
    have hsince : Hid (Below w3.heap.size w3 w3) := Lib.hid (Below.refl _ _)
    obtain ⟨⟨s0, s1⟩, ⟨p0, p1, p2⟩, ⟨p3, p4, p5⟩⟩ := hcells.out _ hbe.out
    have hC := h19.out _ hbe.out
    try simp only [errOf, if_true, Bool.false_eq_true, if_false, Bool.true_and, Bool.false_and, Bool.and_false, Bool.and_true] at hC
    replace hC := Lib.hid hC
    go_upto_region 99 with fail
    refine (hC.out).mono ?_
    rintro e wm ⟨rfl, hbe2⟩
    clear hC s0 s1 p0 p1 p2 p3 p4 p5
    obtain ⟨wn, hwn⟩ : ∃ W, W = wm := ⟨_, rfl⟩
    rw [← hwn] at hbe2 ⊢
    clear hwn
    replace hsince := Lib.hid (Below.up hsince.out hbe2)
    replace hbe := Lib.hid (Below.up hbe.out hbe2)
    clear hbe2
    obtain ⟨⟨x0, x1, x2⟩, -⟩ := c3_cells (kx.out _ hsince.out)
    have hC : Calls Tryz.prog 28 #[.agg #[.int .i64 0, .int .i64 0, .slice ax 0 cx]] wn fun e w' => e = .returned (.bool true) ∧ Below wn.heap.size wn w' := blank_any 0 0 ax 0 cx wn
    replace hC := Lib.hid hC
    go_upto_region 99 with fail
    refine (hC.out).mono ?_
    rintro e wm ⟨rfl, hbe2⟩
    clear hC x0 x1 x2
    replace hbe := Lib.hid (Below.up hbe.out hbe2)
    clear hbe2
    go_wp2_with (go_at_call 12; refine (hKn.out _).mono ?_; rintro e wl ⟨rfl, hbe2⟩)
    go_ret
    exact ⟨rfl, Below.up hB0.out (Below.up hbe.out hbe2)⟩
  · subst hVe hc hE
    rw [hT] at h33
    clear hT
    replace h35 := Lib.hid (h35.out rfl)
    replace h36 := Lib.hid (h36.out rfl)
    cases c2
    · simp only [Bool.and_false, Bool.false_and] at h34
      clear h36
      simp only [Tm.op, Tm.n] at h33
      obtain ⟨⟨s0, s1⟩, ⟨p0, p1, p2⟩, ⟨p3, p4, p5⟩⟩ := hcells.out _ hbe.out
      have hC := h33.out _ hbe.out
      try simp only [errOf, if_true, Bool.false_eq_true, if_false, Bool.true_and, Bool.false_and, Bool.and_false, Bool.and_true] at hC
      replace hC := Lib.hid hC
      go_upto_region 99 with fail
      refine (hC.out).mono ?_
      rintro e wn ⟨ax, lx, cx, rfl, hFx, hbe2⟩
      clear hC s0 s1 p0 p1 p2 p3 p4 p5
      replace hbe := Lib.hid (Below.up hbe.out hbe2)
      clear hbe2
      obtain rfl := hFx.none_l
      clear hFx
      obtain ⟨Bx, hBx⟩ : ∃ n, n = wn.heap.size := ⟨_, rfl⟩
      have hbx : Below wn.heap.size wn (wn.alloc (.cells #[.int .i64 0, .int .i64 0, .slice ax 0 cx] 28)) := bal _ _
      have kx : Hid (∀ W, Below (wn.heap.size + 1) (wn.alloc (.cells #[.int .i64 0, .int .i64 0, .slice ax 0 cx] 28)) W → W.heap[Bx]? = some (.cells #[.int .i64 0, .int .i64 0, .slice ax 0 cx] 28 (0, 0))) := Lib.hid (fun W h => (h.block Bx (by rw [hBx]; omega)).trans (by rw [hBx]; exact heap_new'' _ _))
      have hbX := Lib.hid (Below.up hbe.out hbx)
      have hC := h34.out _ hbX.out
      try simp only [errOf, Bool.false_eq_true, if_false] at hC
      replace hC := Lib.hid hC
      obtain ⟨⟨s0, s1⟩, ⟨p0, p1, p2⟩, ⟨p3, p4, p5⟩⟩ := hcells.out _ hbX.out
      clear hbx
      replace hBx := Lib.hid hBx
      go_upto_region 99 with fail
      refine (hC.out).mono ?_
      rintro e w3 ⟨rfl, hbe2⟩
      clear hC s0 s1 p0 p1 p2 p3 p4 p5
      rw [← hBx.out]
      have hX : Hid (Below (wn.heap.size + 1) (wn.alloc (.cells #[.int .i64 0, .int .i64 0, .slice ax 0 cx] 28)) w3) := Lib.hid (by simpa using hbe2)
      replace kx := Lib.hid (fun W (h : Below w3.heap.size w3 W) => kx.out W (Below.trans hX.out (h.mono (by have := hX.out.size; simpa using this))))
      replace hbe := Lib.hid (Below.up hbX.out hbe2)
      clear hbe2 hbX hX hBx
      have hsince : Hid (Below w3.heap.size w3 w3) := Lib.hid (Below.refl _ _)
      obtain ⟨⟨s0, s1⟩, ⟨p0, p1, p2⟩, ⟨p3, p4, p5⟩⟩ := hcells.out _ hbe.out
      have hC := h19.out _ hbe.out
      try simp only [errOf, if_true, Bool.false_eq_true, if_false, Bool.true_and, Bool.false_and, Bool.and_false, Bool.and_true] at hC
      replace hC := Lib.hid hC
      go_upto_region 99 with fail
      refine (hC.out).mono ?_
      rintro e wm ⟨rfl, hbe2⟩
      clear hC s0 s1 p0 p1 p2 p3 p4 p5
      obtain ⟨wn, hwn⟩ : ∃ W, W = wm := ⟨_, rfl⟩
      rw [← hwn] at hbe2 ⊢
      clear hwn
      replace hsince := Lib.hid (Below.up hsince.out hbe2)
      replace hbe := Lib.hid (Below.up hbe.out hbe2)
      clear hbe2
      obtain ⟨h35', hsm⟩ := h35.out
      replace h35' := Lib.hid h35'
      replace hsm := Lib.hid hsm
      clear h35
      obtain ⟨⟨s0, s1⟩, ⟨p0, p1, p2⟩, ⟨p3, p4, p5⟩⟩ := hcells.out _ hbe.out
      have hC := h35'.out _ hbe.out
      try simp only [errOf, if_true, Bool.false_eq_true, if_false, Bool.true_and, Bool.false_and, Bool.and_false, Bool.and_true] at hC
      replace hC := Lib.hid hC
      go_upto_region 99 with fail
      refine (hC.out).mono ?_
      rintro e wm ⟨ay, ly, cy, rfl, hFy, hbe2⟩
      clear hC s0 s1 p0 p1 p2 p3 p4 p5
      obtain ⟨wn, hwn⟩ : ∃ W, W = wm := ⟨_, rfl⟩
      rw [← hwn] at hbe2 ⊢
      rw [← hwn] at hFy
      clear hwn
      replace hsince := Lib.hid (Below.up hsince.out hbe2)
      replace hbe := Lib.hid (Below.up hbe.out hbe2)
      clear hbe2
      have hDy := hFy.is
      clear hFy h35'
      obtain ⟨w5, hw5⟩ : ∃ W, W = wn.alloc (.cells #[.int .i64 R.op, .int .i64 R.n, .slice ay ly cy] 28) := ⟨_, rfl⟩
      have hb5 : Below wn.heap.size wn w5 := by rw [hw5]; exact bal _ _
      have hz5 : w5.heap.size = wn.heap.size + 1 := by rw [hw5]; simp
      obtain ⟨By, hBy⟩ : ∃ n, n = wn.heap.size := ⟨_, rfl⟩
      have ky : w5.heap[By]? = some (.cells #[.int .i64 R.op, .int .i64 R.n, .slice ay ly cy] 28 (0, 0)) := by rw [hw5, hBy]; exact heap_new'' _ _
      replace hDy := IsTm.wider hb5.size _ (IsTm.below hb5 _ hDy)
      replace hbe := Lib.hid (Below.up hbe.out hb5)
      replace hsince := Lib.hid (Below.up hsince.out hb5)
      obtain ⟨⟨s0, s1⟩, ⟨p0, p1, p2⟩, ⟨p3, p4, p5⟩⟩ := hcells.out _ hbe.out
      clear hb5 hz5
      replace hDy := Lib.hid hDy
      replace ky := Lib.hid ky
      have o1 : (20 : Int) < (K : Nat) := by omega
      clear hK
      rw [hw5] at s0 s1 p0 p1 p2 p3 p4 p5
      replace hw5 := Lib.hid hw5
      replace hBy := Lib.hid hBy
      obtain ⟨⟨x0, x1, x2⟩, -⟩ := c3_cells (kx.out _ hsince.out)
      have hC : Calls Tryz.prog 28 #[.agg #[.int .i64 0, .int .i64 0, .slice ax 0 cx]] w5 fun e w' => e = .returned (.bool true) ∧ Below w5.heap.size w5 w' := blank_any 0 0 ax 0 cx w5
      rw [hw5.out] at hC x0 x1 x2
      replace hC := Lib.hid hC
      go_upto_region 99 with fail
      refine (hC.out).mono ?_
      rintro e wm ⟨rfl, hbe2⟩
      clear hC x0 x1 x2
      clear s0 s1 p0 p1 p2 p3 p4 p5
      rw [← hw5.out] at hbe2
      rw [← hBy.out]
      replace ky := Lib.hid ((hbe2.block _ (Array.getElem?_eq_some_iff.1 ky.out).1).trans ky.out)
      replace hDy := Lib.hid (IsTm.wider hbe2.size _ (IsTm.below hbe2 _ hDy.out))
      replace hsince := Lib.hid (Below.up hsince.out hbe2)
      replace hbe := Lib.hid (Below.up hbe.out hbe2)
      clear hbe2
      obtain ⟨w6, hw6⟩ : ∃ W, W = wm := ⟨_, rfl⟩
      rw [← hw6] at ky hDy hsince hbe ⊢
      clear hw6
      clear hw5 hBy
      clear ky hDy hsm
      obtain ⟨⟨s0, s1⟩, ⟨p0, p1, p2⟩, ⟨p3, p4, p5⟩⟩ := hcells.out _ hbe.out
      have hC := h19x.out _ hbe.out
      try simp only [errOf, if_true, Bool.false_eq_true, if_false, Bool.true_and, Bool.false_and, Bool.and_false, Bool.and_true] at hC
      replace hC := Lib.hid hC
      go_upto_region 99 with fail
      refine (hC.out).mono ?_
      rintro e wm ⟨rfl, hbe2⟩
      clear hC s0 s1 p0 p1 p2 p3 p4 p5
      obtain ⟨wn, hwn⟩ : ∃ W, W = wm := ⟨_, rfl⟩
      rw [← hwn] at hbe2 ⊢
      clear hwn
      replace hsince := Lib.hid (Below.up hsince.out hbe2)
      replace hbe := Lib.hid (Below.up hbe.out hbe2)
      clear hbe2
      go_wp2_with (go_at_call 12; refine (hKn.out _).mono ?_; rintro e wl ⟨rfl, hbe2⟩)
      go_ret
      exact ⟨rfl, Below.up hB0.out (Below.up hbe.out hbe2)⟩
    obtain ⟨b, hb⟩ : ∃ b, b = sameB R Q := ⟨_, rfl⟩
    replace h36 := Lib.hid (h36.out rfl)
    rw [← hb] at h36 h34
    simp only [Bool.and_true, Bool.true_and] at h34
    clear hb
    cases b
    · simp only [Tm.op, Tm.n] at h33
      obtain ⟨⟨s0, s1⟩, ⟨p0, p1, p2⟩, ⟨p3, p4, p5⟩⟩ := hcells.out _ hbe.out
      have hC := h33.out _ hbe.out
      try simp only [errOf, if_true, Bool.false_eq_true, if_false, Bool.true_and, Bool.false_and, Bool.and_false, Bool.and_true] at hC
      replace hC := Lib.hid hC
      go_upto_region 99 with fail
      refine (hC.out).mono ?_
      rintro e wn ⟨ax, lx, cx, rfl, hFx, hbe2⟩
      clear hC s0 s1 p0 p1 p2 p3 p4 p5
      replace hbe := Lib.hid (Below.up hbe.out hbe2)
      clear hbe2
      obtain rfl := hFx.none_l
      clear hFx
      obtain ⟨Bx, hBx⟩ : ∃ n, n = wn.heap.size := ⟨_, rfl⟩
      have hbx : Below wn.heap.size wn (wn.alloc (.cells #[.int .i64 0, .int .i64 0, .slice ax 0 cx] 28)) := bal _ _
      have kx : Hid (∀ W, Below (wn.heap.size + 1) (wn.alloc (.cells #[.int .i64 0, .int .i64 0, .slice ax 0 cx] 28)) W → W.heap[Bx]? = some (.cells #[.int .i64 0, .int .i64 0, .slice ax 0 cx] 28 (0, 0))) := Lib.hid (fun W h => (h.block Bx (by rw [hBx]; omega)).trans (by rw [hBx]; exact heap_new'' _ _))
      have hbX := Lib.hid (Below.up hbe.out hbx)
      have hC := h34.out _ hbX.out
      try simp only [errOf, if_true] at hC
      replace hC := Lib.hid hC
      obtain ⟨⟨s0, s1⟩, ⟨p0, p1, p2⟩, ⟨p3, p4, p5⟩⟩ := hcells.out _ hbX.out
      clear hbx
      replace hBx := Lib.hid hBx
      go_upto_region 99 with fail
      refine (hC.out).mono ?_
      rintro e w3 ⟨rfl, hbe2⟩
      clear hC s0 s1 p0 p1 p2 p3 p4 p5
      rw [← hBx.out]
      have hX : Hid (Below (wn.heap.size + 1) (wn.alloc (.cells #[.int .i64 0, .int .i64 0, .slice ax 0 cx] 28)) w3) := Lib.hid (by simpa using hbe2)
      replace kx := Lib.hid (fun W (h : Below w3.heap.size w3 W) => kx.out W (Below.trans hX.out (h.mono (by have := hX.out.size; simpa using this))))
      replace hbe := Lib.hid (Below.up hbX.out hbe2)
      clear hbe2 hbX hX hBx
      have hsince : Hid (Below w3.heap.size w3 w3) := Lib.hid (Below.refl _ _)
      obtain ⟨⟨s0, s1⟩, ⟨p0, p1, p2⟩, ⟨p3, p4, p5⟩⟩ := hcells.out _ hbe.out
      have hC := h19.out _ hbe.out
      try simp only [errOf, if_true, Bool.false_eq_true, if_false, Bool.true_and, Bool.false_and, Bool.and_false, Bool.and_true] at hC
      replace hC := Lib.hid hC
      go_upto_region 99 with fail
      refine (hC.out).mono ?_
      rintro e wm ⟨rfl, hbe2⟩
      clear hC s0 s1 p0 p1 p2 p3 p4 p5
      obtain ⟨wn, hwn⟩ : ∃ W, W = wm := ⟨_, rfl⟩
      rw [← hwn] at hbe2 ⊢
      clear hwn
      replace hsince := Lib.hid (Below.up hsince.out hbe2)
      replace hbe := Lib.hid (Below.up hbe.out hbe2)
      clear hbe2
      obtain ⟨h35', hsm⟩ := h35.out
      replace h35' := Lib.hid h35'
      replace hsm := Lib.hid hsm
      clear h35
      obtain ⟨⟨s0, s1⟩, ⟨p0, p1, p2⟩, ⟨p3, p4, p5⟩⟩ := hcells.out _ hbe.out
      have hC := h35'.out _ hbe.out
      try simp only [errOf, if_true, Bool.false_eq_true, if_false, Bool.true_and, Bool.false_and, Bool.and_false, Bool.and_true] at hC
      replace hC := Lib.hid hC
      go_upto_region 99 with fail
      refine (hC.out).mono ?_
      rintro e wm ⟨ay, ly, cy, rfl, hFy, hbe2⟩
      clear hC s0 s1 p0 p1 p2 p3 p4 p5
      obtain ⟨wn, hwn⟩ : ∃ W, W = wm := ⟨_, rfl⟩
      rw [← hwn] at hbe2 ⊢
      rw [← hwn] at hFy
      clear hwn
      replace hsince := Lib.hid (Below.up hsince.out hbe2)
      replace hbe := Lib.hid (Below.up hbe.out hbe2)
      clear hbe2
      have hDy := hFy.is
      clear hFy h35'
      obtain ⟨w5, hw5⟩ : ∃ W, W = wn.alloc (.cells #[.int .i64 R.op, .int .i64 R.n, .slice ay ly cy] 28) := ⟨_, rfl⟩
      have hb5 : Below wn.heap.size wn w5 := by rw [hw5]; exact bal _ _
      have hz5 : w5.heap.size = wn.heap.size + 1 := by rw [hw5]; simp
      obtain ⟨By, hBy⟩ : ∃ n, n = wn.heap.size := ⟨_, rfl⟩
      have ky : w5.heap[By]? = some (.cells #[.int .i64 R.op, .int .i64 R.n, .slice ay ly cy] 28 (0, 0)) := by rw [hw5, hBy]; exact heap_new'' _ _
      replace hDy := IsTm.wider hb5.size _ (IsTm.below hb5 _ hDy)
      replace hbe := Lib.hid (Below.up hbe.out hb5)
      replace hsince := Lib.hid (Below.up hsince.out hb5)
      obtain ⟨⟨s0, s1⟩, ⟨p0, p1, p2⟩, ⟨p3, p4, p5⟩⟩ := hcells.out _ hbe.out
      clear hb5 hz5
      replace hDy := Lib.hid hDy
      replace ky := Lib.hid ky
      have o1 : (20 : Int) < (K : Nat) := by omega
      clear hK
      rw [hw5] at s0 s1 p0 p1 p2 p3 p4 p5
      replace hw5 := Lib.hid hw5
      replace hBy := Lib.hid hBy
      obtain ⟨⟨x0, x1, x2⟩, -⟩ := c3_cells (kx.out _ hsince.out)
      have hC : Calls Tryz.prog 28 #[.agg #[.int .i64 0, .int .i64 0, .slice ax 0 cx]] w5 fun e w' => e = .returned (.bool true) ∧ Below w5.heap.size w5 w' := blank_any 0 0 ax 0 cx w5
      rw [hw5.out] at hC x0 x1 x2
      replace hC := Lib.hid hC
      go_upto_region 99 with fail
      refine (hC.out).mono ?_
      rintro e wm ⟨rfl, hbe2⟩
      clear hC x0 x1 x2
      clear s0 s1 p0 p1 p2 p3 p4 p5
      rw [← hw5.out] at hbe2
      rw [← hBy.out]
      replace ky := Lib.hid ((hbe2.block _ (Array.getElem?_eq_some_iff.1 ky.out).1).trans ky.out)
      replace hDy := Lib.hid (IsTm.wider hbe2.size _ (IsTm.below hbe2 _ hDy.out))
      replace hsince := Lib.hid (Below.up hsince.out hbe2)
      replace hbe := Lib.hid (Below.up hbe.out hbe2)
      clear hbe2
      obtain ⟨w6, hw6⟩ : ∃ W, W = wm := ⟨_, rfl⟩
      rw [← hw6] at ky hDy hsince hbe ⊢
      clear hw6
      clear hw5 hBy
      clear ky hDy hsm
      obtain ⟨⟨s0, s1⟩, ⟨p0, p1, p2⟩, ⟨p3, p4, p5⟩⟩ := hcells.out _ hbe.out
      have hC := h19x.out _ hbe.out
      try simp only [errOf, if_true, Bool.false_eq_true, if_false, Bool.true_and, Bool.false_and, Bool.and_false, Bool.and_true] at hC
      replace hC := Lib.hid hC
      go_upto_region 99 with fail
      refine (hC.out).mono ?_
      rintro e wm ⟨rfl, hbe2⟩
      clear hC s0 s1 p0 p1 p2 p3 p4 p5
      obtain ⟨wn, hwn⟩ : ∃ W, W = wm := ⟨_, rfl⟩
      rw [← hwn] at hbe2 ⊢
      clear hwn
      replace hsince := Lib.hid (Below.up hsince.out hbe2)
      replace hbe := Lib.hid (Below.up hbe.out hbe2)
      clear hbe2
      obtain ⟨⟨s0, s1⟩, ⟨p0, p1, p2⟩, ⟨p3, p4, p5⟩⟩ := hcells.out _ hbe.out
      have hC := h36.out _ hbe.out
      try simp only [errOf, if_true, Bool.false_eq_true, if_false, Bool.true_and, Bool.false_and, Bool.and_false, Bool.and_true] at hC
      replace hC := Lib.hid hC
      go_upto_region 99 with fail
      refine (hC.out).mono ?_
      rintro e wm ⟨rfl, hbe2⟩
      clear hC s0 s1 p0 p1 p2 p3 p4 p5
      obtain ⟨wn, hwn⟩ : ∃ W, W = wm := ⟨_, rfl⟩
      rw [← hwn] at hbe2 ⊢
      clear hwn
      replace hsince := Lib.hid (Below.up hsince.out hbe2)
      replace hbe := Lib.hid (Below.up hbe.out hbe2)
      clear hbe2
      go_wp2_with (go_at_call 12; refine (hKn.out _).mono ?_; rintro e wl ⟨rfl, hbe2⟩)
      go_ret
      exact ⟨rfl, Below.up hB0.out (Below.up hbe.out hbe2)⟩
    · simp only [Tm.op, Tm.n] at h33
      obtain ⟨⟨s0, s1⟩, ⟨p0, p1, p2⟩, ⟨p3, p4, p5⟩⟩ := hcells.out _ hbe.out
      have hC := h33.out _ hbe.out
      try simp only [errOf, if_true, Bool.false_eq_true, if_false, Bool.true_and, Bool.false_and, Bool.and_false, Bool.and_true] at hC
      replace hC := Lib.hid hC
      go_upto_region 99 with fail
      refine (hC.out).mono ?_
      rintro e wn ⟨ax, lx, cx, rfl, hFx, hbe2⟩
      clear hC s0 s1 p0 p1 p2 p3 p4 p5
      replace hbe := Lib.hid (Below.up hbe.out hbe2)
      clear hbe2
      obtain rfl := hFx.none_l
      clear hFx
      obtain ⟨Bx, hBx⟩ : ∃ n, n = wn.heap.size := ⟨_, rfl⟩
      have hbx : Below wn.heap.size wn (wn.alloc (.cells #[.int .i64 0, .int .i64 0, .slice ax 0 cx] 28)) := bal _ _
      have kx : Hid (∀ W, Below (wn.heap.size + 1) (wn.alloc (.cells #[.int .i64 0, .int .i64 0, .slice ax 0 cx] 28)) W → W.heap[Bx]? = some (.cells #[.int .i64 0, .int .i64 0, .slice ax 0 cx] 28 (0, 0))) := Lib.hid (fun W h => (h.block Bx (by rw [hBx]; omega)).trans (by rw [hBx]; exact heap_new'' _ _))
      have hbX := Lib.hid (Below.up hbe.out hbx)
      have hC := h34.out _ hbX.out
      try simp only [errOf, if_true] at hC
      replace hC := Lib.hid hC
      obtain ⟨⟨s0, s1⟩, ⟨p0, p1, p2⟩, ⟨p3, p4, p5⟩⟩ := hcells.out _ hbX.out
      clear hbx
      replace hBx := Lib.hid hBx
      go_upto_region 99 with fail
      refine (hC.out).mono ?_
      rintro e w3 ⟨rfl, hbe2⟩
      clear hC s0 s1 p0 p1 p2 p3 p4 p5
      rw [← hBx.out]
      have hX : Hid (Below (wn.heap.size + 1) (wn.alloc (.cells #[.int .i64 0, .int .i64 0, .slice ax 0 cx] 28)) w3) := Lib.hid (by simpa using hbe2)
      replace kx := Lib.hid (fun W (h : Below w3.heap.size w3 W) => kx.out W (Below.trans hX.out (h.mono (by have := hX.out.size; simpa using this))))
      replace hbe := Lib.hid (Below.up hbX.out hbe2)
      clear hbe2 hbX hX hBx
      have hsince : Hid (Below w3.heap.size w3 w3) := Lib.hid (Below.refl _ _)
      obtain ⟨⟨s0, s1⟩, ⟨p0, p1, p2⟩, ⟨p3, p4, p5⟩⟩ := hcells.out _ hbe.out
      have hC := h19.out _ hbe.out
      try simp only [errOf, if_true, Bool.false_eq_true, if_false, Bool.true_and, Bool.false_and, Bool.and_false, Bool.and_true] at hC
      replace hC := Lib.hid hC
      go_upto_region 99 with fail
      refine (hC.out).mono ?_
      rintro e wm ⟨rfl, hbe2⟩
      clear hC s0 s1 p0 p1 p2 p3 p4 p5
      obtain ⟨wn, hwn⟩ : ∃ W, W = wm := ⟨_, rfl⟩
      rw [← hwn] at hbe2 ⊢
      clear hwn
      replace hsince := Lib.hid (Below.up hsince.out hbe2)
      replace hbe := Lib.hid (Below.up hbe.out hbe2)
      clear hbe2
      obtain ⟨h35', hsm⟩ := h35.out
      replace h35' := Lib.hid h35'
      replace hsm := Lib.hid hsm
      clear h35
      obtain ⟨⟨s0, s1⟩, ⟨p0, p1, p2⟩, ⟨p3, p4, p5⟩⟩ := hcells.out _ hbe.out
      have hC := h35'.out _ hbe.out
      try simp only [errOf, if_true, Bool.false_eq_true, if_false, Bool.true_and, Bool.false_and, Bool.and_false, Bool.and_true] at hC
      replace hC := Lib.hid hC
      go_upto_region 99 with fail
      refine (hC.out).mono ?_
      rintro e wm ⟨ay, ly, cy, rfl, hFy, hbe2⟩
      clear hC s0 s1 p0 p1 p2 p3 p4 p5
      obtain ⟨wn, hwn⟩ : ∃ W, W = wm := ⟨_, rfl⟩
      rw [← hwn] at hbe2 ⊢
      rw [← hwn] at hFy
      clear hwn
      replace hsince := Lib.hid (Below.up hsince.out hbe2)
      replace hbe := Lib.hid (Below.up hbe.out hbe2)
      clear hbe2
      have hDy := hFy.is
      clear hFy h35'
      obtain ⟨w5, hw5⟩ : ∃ W, W = wn.alloc (.cells #[.int .i64 R.op, .int .i64 R.n, .slice ay ly cy] 28) := ⟨_, rfl⟩
      have hb5 : Below wn.heap.size wn w5 := by rw [hw5]; exact bal _ _
      have hz5 : w5.heap.size = wn.heap.size + 1 := by rw [hw5]; simp
      obtain ⟨By, hBy⟩ : ∃ n, n = wn.heap.size := ⟨_, rfl⟩
      have ky : w5.heap[By]? = some (.cells #[.int .i64 R.op, .int .i64 R.n, .slice ay ly cy] 28 (0, 0)) := by rw [hw5, hBy]; exact heap_new'' _ _
      replace hDy := IsTm.wider hb5.size _ (IsTm.below hb5 _ hDy)
      replace hbe := Lib.hid (Below.up hbe.out hb5)
      replace hsince := Lib.hid (Below.up hsince.out hb5)
      obtain ⟨⟨s0, s1⟩, ⟨p0, p1, p2⟩, ⟨p3, p4, p5⟩⟩ := hcells.out _ hbe.out
      clear hb5 hz5
      replace hDy := Lib.hid hDy
      replace ky := Lib.hid ky
      have o1 : (20 : Int) < (K : Nat) := by omega
      clear hK
      rw [hw5] at s0 s1 p0 p1 p2 p3 p4 p5
      replace hw5 := Lib.hid hw5
      replace hBy := Lib.hid hBy
      obtain ⟨⟨x0, x1, x2⟩, -⟩ := c3_cells (kx.out _ hsince.out)
      have hC : Calls Tryz.prog 28 #[.agg #[.int .i64 0, .int .i64 0, .slice ax 0 cx]] w5 fun e w' => e = .returned (.bool true) ∧ Below w5.heap.size w5 w' := blank_any 0 0 ax 0 cx w5
      rw [hw5.out] at hC x0 x1 x2
      replace hC := Lib.hid hC
      go_upto_region 99 with fail
      refine (hC.out).mono ?_
      rintro e wm ⟨rfl, hbe2⟩
      clear hC x0 x1 x2
      clear s0 s1 p0 p1 p2 p3 p4 p5
      rw [← hw5.out] at hbe2
      rw [← hBy.out]
      replace ky := Lib.hid ((hbe2.block _ (Array.getElem?_eq_some_iff.1 ky.out).1).trans ky.out)
      replace hDy := Lib.hid (IsTm.wider hbe2.size _ (IsTm.below hbe2 _ hDy.out))
      replace hsince := Lib.hid (Below.up hsince.out hbe2)
      replace hbe := Lib.hid (Below.up hbe.out hbe2)
      clear hbe2
      obtain ⟨w6, hw6⟩ : ∃ W, W = wm := ⟨_, rfl⟩
      rw [← hw6] at ky hDy hsince hbe ⊢
      clear hw6
      clear hw5 hBy
      clear ky hDy hsm
      obtain ⟨⟨s0, s1⟩, ⟨p0, p1, p2⟩, ⟨p3, p4, p5⟩⟩ := hcells.out _ hbe.out
      have hC := h19x.out _ hbe.out
      try simp only [errOf, if_true, Bool.false_eq_true, if_false, Bool.true_and, Bool.false_and, Bool.and_false, Bool.and_true] at hC
      replace hC := Lib.hid hC
      go_upto_region 99 with fail
      refine (hC.out).mono ?_
      rintro e wm ⟨rfl, hbe2⟩
      clear hC s0 s1 p0 p1 p2 p3 p4 p5
      obtain ⟨wn, hwn⟩ : ∃ W, W = wm := ⟨_, rfl⟩
      rw [← hwn] at hbe2 ⊢
      clear hwn
      replace hsince := Lib.hid (Below.up hsince.out hbe2)
      replace hbe := Lib.hid (Below.up hbe.out hbe2)
      clear hbe2
      obtain ⟨⟨s0, s1⟩, ⟨p0, p1, p2⟩, ⟨p3, p4, p5⟩⟩ := hcells.out _ hbe.out
      have hC := h36.out _ hbe.out
      try simp only [errOf, if_true, Bool.false_eq_true, if_false, Bool.true_and, Bool.false_and, Bool.and_false, Bool.and_true] at hC
      replace hC := Lib.hid hC
      go_upto_region 99 with fail
      refine (hC.out).mono ?_
      rintro e wm ⟨rfl, hbe2⟩
      clear hC s0 s1 p0 p1 p2 p3 p4 p5
      obtain ⟨wn, hwn⟩ : ∃ W, W = wm := ⟨_, rfl⟩
      rw [← hwn] at hbe2 ⊢
      clear hwn
      replace hsince := Lib.hid (Below.up hsince.out hbe2)
      replace hbe := Lib.hid (Below.up hbe.out hbe2)
      clear hbe2
      go_wp2_with (go_at_call 12; refine (hKn.out _).mono ?_; rintro e wl ⟨rfl, hbe2⟩)
      go_ret
      exact ⟨rfl, Below.up hB0.out (Below.up hbe.out hbe2)⟩
  · subst hVe hc hE
    rw [hT] at h33
    clear hT
    replace h35 := Lib.hid (h35.out rfl)
    replace h36 := Lib.hid (h36.out rfl)
    cases c2
    · simp only [Bool.and_false, Bool.false_and] at h34
      clear h36
      obtain ⟨⟨s0, s1⟩, ⟨p0, p1, p2⟩, ⟨p3, p4, p5⟩⟩ := hcells.out _ hbe.out
      have hC := h33.out _ hbe.out
      try simp only [errOf, if_true, Bool.false_eq_true, if_false, Bool.true_and, Bool.false_and, Bool.and_false, Bool.and_true] at hC
      replace hC := Lib.hid hC
      go_upto_region 99 with fail
      refine (hC.out).mono ?_
      rintro e wn ⟨ax, lx, cx, rfl, hFx, hbe2⟩
      clear hC s0 s1 p0 p1 p2 p3 p4 p5
      replace hbe := Lib.hid (Below.up hbe.out hbe2)
      clear hbe2
      have hDx := Lib.hid hFx.is
      clear hFx
      obtain ⟨Bx, hBx⟩ : ∃ n, n = wn.heap.size := ⟨_, rfl⟩
      have hbx : Below wn.heap.size wn (wn.alloc (.cells #[.int .i64 R.op, .int .i64 R.n, .slice ax lx cx] 28)) := bal _ _
      have kx : Hid (∀ W, Below (wn.heap.size + 1) (wn.alloc (.cells #[.int .i64 R.op, .int .i64 R.n, .slice ax lx cx] 28)) W → W.heap[Bx]? = some (.cells #[.int .i64 R.op, .int .i64 R.n, .slice ax lx cx] 28 (0, 0))) := Lib.hid (fun W h => (h.block Bx (by rw [hBx]; omega)).trans (by rw [hBx]; exact heap_new'' _ _))
      replace hDx : Hid (∀ W, Below (wn.heap.size + 1) (wn.alloc (.cells #[.int .i64 R.op, .int .i64 R.n, .slice ax lx cx] 28)) W → IsTm W.heap.size W R ax lx cx) := Lib.hid (fun W h => IsTm.wider (Nat.le_trans hbx.size (by have := h.size; simpa using this)) _ (IsTm.below (Below.trans hbx (h.mono (by omega))) _ hDx.out))
      have hbX := Lib.hid (Below.up hbe.out hbx)
      have hC := h34.out _ hbX.out
      try simp only [errOf, Bool.false_eq_true, if_false] at hC
      replace hC := Lib.hid hC
      obtain ⟨⟨s0, s1⟩, ⟨p0, p1, p2⟩, ⟨p3, p4, p5⟩⟩ := hcells.out _ hbX.out
      clear hbx
      replace hBx := Lib.hid hBx
      go_upto_region 99 with fail
      refine (hC.out).mono ?_
      rintro e w3 ⟨rfl, hbe2⟩
      clear hC s0 s1 p0 p1 p2 p3 p4 p5
      rw [← hBx.out]
      have hX : Hid (Below (wn.heap.size + 1) (wn.alloc (.cells #[.int .i64 R.op, .int .i64 R.n, .slice ax lx cx] 28)) w3) := Lib.hid (by simpa using hbe2)
      replace kx := Lib.hid (fun W (h : Below w3.heap.size w3 W) => kx.out W (Below.trans hX.out (h.mono (by have := hX.out.size; simpa using this))))
      replace hDx := Lib.hid (fun W (h : Below w3.heap.size w3 W) => hDx.out W (Below.trans hX.out (h.mono (by have := hX.out.size; simpa using this))))
      replace hbe := Lib.hid (Below.up hbX.out hbe2)
      clear hbe2 hbX hX hBx
      have hsince : Hid (Below w3.heap.size w3 w3) := Lib.hid (Below.refl _ _)
      obtain ⟨⟨s0, s1⟩, ⟨p0, p1, p2⟩, ⟨p3, p4, p5⟩⟩ := hcells.out _ hbe.out
      have hC := h19.out _ hbe.out
      try simp only [errOf, if_true, Bool.false_eq_true, if_false, Bool.true_and, Bool.false_and, Bool.and_false, Bool.and_true] at hC
      replace hC := Lib.hid hC
      go_upto_region 99 with fail
      refine (hC.out).mono ?_
      rintro e wm ⟨rfl, hbe2⟩
      clear hC s0 s1 p0 p1 p2 p3 p4 p5
      obtain ⟨wn, hwn⟩ : ∃ W, W = wm := ⟨_, rfl⟩
      rw [← hwn] at hbe2 ⊢
      clear hwn
      replace hsince := Lib.hid (Below.up hsince.out hbe2)
      replace hbe := Lib.hid (Below.up hbe.out hbe2)
      clear hbe2
      obtain ⟨h35', hsm⟩ := h35.out
      replace h35' := Lib.hid h35'
      replace hsm := Lib.hid hsm
      clear h35
      obtain ⟨⟨s0, s1⟩, ⟨p0, p1, p2⟩, ⟨p3, p4, p5⟩⟩ := hcells.out _ hbe.out
      have hC := h35'.out _ hbe.out
      try simp only [errOf, if_true, Bool.false_eq_true, if_false, Bool.true_and, Bool.false_and, Bool.and_false, Bool.and_true] at hC
      replace hC := Lib.hid hC
      go_upto_region 99 with fail
      refine (hC.out).mono ?_
      rintro e wm ⟨ay, ly, cy, rfl, hFy, hbe2⟩
      clear hC s0 s1 p0 p1 p2 p3 p4 p5
      obtain ⟨wn, hwn⟩ : ∃ W, W = wm := ⟨_, rfl⟩
      rw [← hwn] at hbe2 ⊢
      rw [← hwn] at hFy
      clear hwn
      replace hsince := Lib.hid (Below.up hsince.out hbe2)
      replace hbe := Lib.hid (Below.up hbe.out hbe2)
      clear hbe2
      have hDy := hFy.is
      clear hFy h35'
      obtain ⟨w5, hw5⟩ : ∃ W, W = wn.alloc (.cells #[.int .i64 R.op, .int .i64 R.n, .slice ay ly cy] 28) := ⟨_, rfl⟩
      have hb5 : Below wn.heap.size wn w5 := by rw [hw5]; exact bal _ _
      have hz5 : w5.heap.size = wn.heap.size + 1 := by rw [hw5]; simp
      obtain ⟨By, hBy⟩ : ∃ n, n = wn.heap.size := ⟨_, rfl⟩
      have ky : w5.heap[By]? = some (.cells #[.int .i64 R.op, .int .i64 R.n, .slice ay ly cy] 28 (0, 0)) := by rw [hw5, hBy]; exact heap_new'' _ _
      replace hDy := IsTm.wider hb5.size _ (IsTm.below hb5 _ hDy)
      replace hbe := Lib.hid (Below.up hbe.out hb5)
      replace hsince := Lib.hid (Below.up hsince.out hb5)
      obtain ⟨⟨s0, s1⟩, ⟨p0, p1, p2⟩, ⟨p3, p4, p5⟩⟩ := hcells.out _ hbe.out
      clear hb5 hz5
      replace hDy := Lib.hid hDy
      replace ky := Lib.hid ky
      have o1 : ¬ (20 : Int) < (K : Nat) := by omega
      have o2 : (K : Int) ≤ 20 := by omega
      clear hK
      obtain ⟨⟨x0, x1, x2⟩, -⟩ := c3_cells (kx.out _ hsince.out)
      have hC := Small_any R w5.heap.size w5 ax lx cx (hDx.out _ hsince.out) (Nat.le_refl _)
      rw [hsm.out] at hC
      rw [hw5] at s0 s1 p0 p1 p2 p3 p4 p5 hC x0 x1 x2
      replace hC := Lib.hid hC
      replace hw5 := Lib.hid hw5
      replace hBy := Lib.hid hBy
      go_upto_region 99 with fail
      refine (hC.out).mono ?_
      rintro e wm ⟨rfl, hbe2⟩
      clear hC x0 x1 x2 s0 s1 p0 p1 p2 p3 p4 p5
      rw [← hw5.out] at hbe2
      rw [← hBy.out]
      replace ky := Lib.hid ((hbe2.block _ (Array.getElem?_eq_some_iff.1 ky.out).1).trans ky.out)
      replace hDy := Lib.hid (IsTm.wider hbe2.size _ (IsTm.below hbe2 _ hDy.out))
      replace hsince := Lib.hid (Below.up hsince.out hbe2)
      replace hbe := Lib.hid (Below.up hbe.out hbe2)
      clear hbe2
      obtain ⟨w6, hw6⟩ : ∃ W, W = wm := ⟨_, rfl⟩
      rw [← hw6] at ky hDy hsince hbe ⊢
      clear hw6
      clear hw5 hBy
      obtain ⟨⟨x0, x1, x2⟩, -⟩ := c3_cells (kx.out _ hsince.out)
      obtain ⟨⟨y0, y1, y2⟩, -⟩ := c3_cells ky.out
      obtain ⟨⟨s0, s1⟩, ⟨p0, p1, p2⟩, ⟨p3, p4, p5⟩⟩ := hcells.out _ hbe.out
      have hC := Same_any R.size R R w6.heap.size w6 ax lx cx ay ly cy (Nat.le_refl _) (hDx.out _ hsince.out) hDy.out (Nat.le_refl _)
      rw [sameB_refl] at hC
      replace hC := Lib.hid hC
      go_upto_region 99 with fail
      refine (hC.out).mono ?_
      rintro e wm ⟨rfl, hbe2⟩
      clear hC x0 x1 x2 y0 y1 y2 s0 s1 p0 p1 p2 p3 p4 p5
      replace ky := Lib.hid ((hbe2.block _ (Array.getElem?_eq_some_iff.1 ky.out).1).trans ky.out)
      replace hDy := Lib.hid (IsTm.wider hbe2.size _ (IsTm.below hbe2 _ hDy.out))
      replace hsince := Lib.hid (Below.up hsince.out hbe2)
      replace hbe := Lib.hid (Below.up hbe.out hbe2)
      clear hbe2
      obtain ⟨w7, hw6⟩ : ∃ W, W = wm := ⟨_, rfl⟩
      rw [← hw6] at ky hDy hsince hbe ⊢
      clear hw6
      clear ky hDy hsm
      obtain ⟨⟨s0, s1⟩, ⟨p0, p1, p2⟩, ⟨p3, p4, p5⟩⟩ := hcells.out _ hbe.out
      have hC := h19x.out _ hbe.out
      try simp only [errOf, if_true, Bool.false_eq_true, if_false, Bool.true_and, Bool.false_and, Bool.and_false, Bool.and_true] at hC
      replace hC := Lib.hid hC
      go_upto_region 99 with fail
      refine (hC.out).mono ?_
      rintro e wm ⟨rfl, hbe2⟩
      clear hC s0 s1 p0 p1 p2 p3 p4 p5
      obtain ⟨wn, hwn⟩ : ∃ W, W = wm := ⟨_, rfl⟩
      rw [← hwn] at hbe2 ⊢
      clear hwn
      replace hsince := Lib.hid (Below.up hsince.out hbe2)
      replace hbe := Lib.hid (Below.up hbe.out hbe2)
      clear hbe2
      go_wp2_with (go_at_call 12; refine (hKn.out _).mono ?_; rintro e wl ⟨rfl, hbe2⟩)
      go_ret
      exact ⟨rfl, Below.up hB0.out (Below.up hbe.out hbe2)⟩
    obtain ⟨b, hb⟩ : ∃ b, b = sameB R Q := ⟨_, rfl⟩
    replace h36 := Lib.hid (h36.out rfl)
    rw [← hb] at h36 h34
    simp only [Bool.and_true, Bool.true_and] at h34
    clear hb
    cases b
    · obtain ⟨⟨s0, s1⟩, ⟨p0, p1, p2⟩, ⟨p3, p4, p5⟩⟩ := hcells.out _ hbe.out
      have hC := h33.out _ hbe.out
      try simp only [errOf, if_true, Bool.false_eq_true, if_false, Bool.true_and, Bool.false_and, Bool.and_false, Bool.and_true] at hC
      replace hC := Lib.hid hC
      go_upto_region 99 with fail
      refine (hC.out).mono ?_
      rintro e wn ⟨ax, lx, cx, rfl, hFx, hbe2⟩
      clear hC s0 s1 p0 p1 p2 p3 p4 p5
      replace hbe := Lib.hid (Below.up hbe.out hbe2)
      clear hbe2
      have hDx := Lib.hid hFx.is
      clear hFx
      obtain ⟨Bx, hBx⟩ : ∃ n, n = wn.heap.size := ⟨_, rfl⟩
      have hbx : Below wn.heap.size wn (wn.alloc (.cells #[.int .i64 R.op, .int .i64 R.n, .slice ax lx cx] 28)) := bal _ _
      have kx : Hid (∀ W, Below (wn.heap.size + 1) (wn.alloc (.cells #[.int .i64 R.op, .int .i64 R.n, .slice ax lx cx] 28)) W → W.heap[Bx]? = some (.cells #[.int .i64 R.op, .int .i64 R.n, .slice ax lx cx] 28 (0, 0))) := Lib.hid (fun W h => (h.block Bx (by rw [hBx]; omega)).trans (by rw [hBx]; exact heap_new'' _ _))
      replace hDx : Hid (∀ W, Below (wn.heap.size + 1) (wn.alloc (.cells #[.int .i64 R.op, .int .i64 R.n, .slice ax lx cx] 28)) W → IsTm W.heap.size W R ax lx cx) := Lib.hid (fun W h => IsTm.wider (Nat.le_trans hbx.size (by have := h.size; simpa using this)) _ (IsTm.below (Below.trans hbx (h.mono (by omega))) _ hDx.out))
      have hbX := Lib.hid (Below.up hbe.out hbx)
      have hC := h34.out _ hbX.out
      try simp only [errOf, if_true] at hC
      replace hC := Lib.hid hC
      obtain ⟨⟨s0, s1⟩, ⟨p0, p1, p2⟩, ⟨p3, p4, p5⟩⟩ := hcells.out _ hbX.out
      clear hbx
      replace hBx := Lib.hid hBx
      go_upto_region 99 with fail
      refine (hC.out).mono ?_
      rintro e w3 ⟨rfl, hbe2⟩
      clear hC s0 s1 p0 p1 p2 p3 p4 p5
      rw [← hBx.out]
      have hX : Hid (Below (wn.heap.size + 1) (wn.alloc (.cells #[.int .i64 R.op, .int .i64 R.n, .slice ax lx cx] 28)) w3) := Lib.hid (by simpa using hbe2)
      replace kx := Lib.hid (fun W (h : Below w3.heap.size w3 W) => kx.out W (Below.trans hX.out (h.mono (by have := hX.out.size; simpa using this))))
      replace hDx := Lib.hid (fun W (h : Below w3.heap.size w3 W) => hDx.out W (Below.trans hX.out (h.mono (by have := hX.out.size; simpa using this))))
      replace hbe := Lib.hid (Below.up hbX.out hbe2)
      clear hbe2 hbX hX hBx
      have hsince : Hid (Below w3.heap.size w3 w3) := Lib.hid (Below.refl _ _)
      obtain ⟨⟨s0, s1⟩, ⟨p0, p1, p2⟩, ⟨p3, p4, p5⟩⟩ := hcells.out _ hbe.out
      have hC := h19.out _ hbe.out
      try simp only [errOf, if_true, Bool.false_eq_true, if_false, Bool.true_and, Bool.false_and, Bool.and_false, Bool.and_true] at hC
      replace hC := Lib.hid hC
      go_upto_region 99 with fail
      refine (hC.out).mono ?_
      rintro e wm ⟨rfl, hbe2⟩
      clear hC s0 s1 p0 p1 p2 p3 p4 p5
      obtain ⟨wn, hwn⟩ : ∃ W, W = wm := ⟨_, rfl⟩
      rw [← hwn] at hbe2 ⊢
      clear hwn
      replace hsince := Lib.hid (Below.up hsince.out hbe2)
      replace hbe := Lib.hid (Below.up hbe.out hbe2)
      clear hbe2
      obtain ⟨h35', hsm⟩ := h35.out
      replace h35' := Lib.hid h35'
      replace hsm := Lib.hid hsm
      clear h35
      obtain ⟨⟨s0, s1⟩, ⟨p0, p1, p2⟩, ⟨p3, p4, p5⟩⟩ := hcells.out _ hbe.out
      have hC := h35'.out _ hbe.out
      try simp only [errOf, if_true, Bool.false_eq_true, if_false, Bool.true_and, Bool.false_and, Bool.and_false, Bool.and_true] at hC
      replace hC := Lib.hid hC
      go_upto_region 99 with fail
      refine (hC.out).mono ?_
      rintro e wm ⟨ay, ly, cy, rfl, hFy, hbe2⟩
      clear hC s0 s1 p0 p1 p2 p3 p4 p5
      obtain ⟨wn, hwn⟩ : ∃ W, W = wm := ⟨_, rfl⟩
      rw [← hwn] at hbe2 ⊢
      rw [← hwn] at hFy
      clear hwn
      replace hsince := Lib.hid (Below.up hsince.out hbe2)
      replace hbe := Lib.hid (Below.up hbe.out hbe2)
      clear hbe2
      have hDy := hFy.is
      clear hFy h35'
      obtain ⟨w5, hw5⟩ : ∃ W, W = wn.alloc (.cells #[.int .i64 R.op, .int .i64 R.n, .slice ay ly cy] 28) := ⟨_, rfl⟩
      have hb5 : Below wn.heap.size wn w5 := by rw [hw5]; exact bal _ _
      have hz5 : w5.heap.size = wn.heap.size + 1 := by rw [hw5]; simp
      obtain ⟨By, hBy⟩ : ∃ n, n = wn.heap.size := ⟨_, rfl⟩
      have ky : w5.heap[By]? = some (.cells #[.int .i64 R.op, .int .i64 R.n, .slice ay ly cy] 28 (0, 0)) := by rw [hw5, hBy]; exact heap_new'' _ _
      replace hDy := IsTm.wider hb5.size _ (IsTm.below hb5 _ hDy)
      replace hbe := Lib.hid (Below.up hbe.out hb5)
      replace hsince := Lib.hid (Below.up hsince.out hb5)
      obtain ⟨⟨s0, s1⟩, ⟨p0, p1, p2⟩, ⟨p3, p4, p5⟩⟩ := hcells.out _ hbe.out
      clear hb5 hz5
      replace hDy := Lib.hid hDy
      replace ky := Lib.hid ky
      have o1 : ¬ (20 : Int) < (K : Nat) := by omega
      have o2 : (K : Int) ≤ 20 := by omega
      clear hK
      obtain ⟨⟨x0, x1, x2⟩, -⟩ := c3_cells (kx.out _ hsince.out)
      have hC := Small_any R w5.heap.size w5 ax lx cx (hDx.out _ hsince.out) (Nat.le_refl _)
      rw [hsm.out] at hC
      rw [hw5] at s0 s1 p0 p1 p2 p3 p4 p5 hC x0 x1 x2
      replace hC := Lib.hid hC
      replace hw5 := Lib.hid hw5
      replace hBy := Lib.hid hBy
      go_upto_region 99 with fail
      refine (hC.out).mono ?_
      rintro e wm ⟨rfl, hbe2⟩
      clear hC x0 x1 x2 s0 s1 p0 p1 p2 p3 p4 p5
      rw [← hw5.out] at hbe2
      rw [← hBy.out]
      replace ky := Lib.hid ((hbe2.block _ (Array.getElem?_eq_some_iff.1 ky.out).1).trans ky.out)
      replace hDy := Lib.hid (IsTm.wider hbe2.size _ (IsTm.below hbe2 _ hDy.out))
      replace hsince := Lib.hid (Below.up hsince.out hbe2)
      replace hbe := Lib.hid (Below.up hbe.out hbe2)
      clear hbe2
      obtain ⟨w6, hw6⟩ : ∃ W, W = wm := ⟨_, rfl⟩
      rw [← hw6] at ky hDy hsince hbe ⊢
      clear hw6
      clear hw5 hBy
      obtain ⟨⟨x0, x1, x2⟩, -⟩ := c3_cells (kx.out _ hsince.out)
      obtain ⟨⟨y0, y1, y2⟩, -⟩ := c3_cells ky.out
      obtain ⟨⟨s0, s1⟩, ⟨p0, p1, p2⟩, ⟨p3, p4, p5⟩⟩ := hcells.out _ hbe.out
      have hC := Same_any R.size R R w6.heap.size w6 ax lx cx ay ly cy (Nat.le_refl _) (hDx.out _ hsince.out) hDy.out (Nat.le_refl _)
      rw [sameB_refl] at hC
      replace hC := Lib.hid hC
      go_upto_region 99 with fail
      refine (hC.out).mono ?_
      rintro e wm ⟨rfl, hbe2⟩
      clear hC x0 x1 x2 y0 y1 y2 s0 s1 p0 p1 p2 p3 p4 p5
      replace ky := Lib.hid ((hbe2.block _ (Array.getElem?_eq_some_iff.1 ky.out).1).trans ky.out)
      replace hDy := Lib.hid (IsTm.wider hbe2.size _ (IsTm.below hbe2 _ hDy.out))
      replace hsince := Lib.hid (Below.up hsince.out hbe2)
      replace hbe := Lib.hid (Below.up hbe.out hbe2)
      clear hbe2
      obtain ⟨w7, hw6⟩ : ∃ W, W = wm := ⟨_, rfl⟩
      rw [← hw6] at ky hDy hsince hbe ⊢
      clear hw6
      clear ky hDy hsm
      obtain ⟨⟨s0, s1⟩, ⟨p0, p1, p2⟩, ⟨p3, p4, p5⟩⟩ := hcells.out _ hbe.out
      have hC := h19x.out _ hbe.out
      try simp only [errOf, if_true, Bool.false_eq_true, if_false, Bool.true_and, Bool.false_and, Bool.and_false, Bool.and_true] at hC
      replace hC := Lib.hid hC
      go_upto_region 99 with fail
      refine (hC.out).mono ?_
      rintro e wm ⟨rfl, hbe2⟩
      clear hC s0 s1 p0 p1 p2 p3 p4 p5
      obtain ⟨wn, hwn⟩ : ∃ W, W = wm := ⟨_, rfl⟩
      rw [← hwn] at hbe2 ⊢
      clear hwn
      replace hsince := Lib.hid (Below.up hsince.out hbe2)
      replace hbe := Lib.hid (Below.up hbe.out hbe2)
      clear hbe2
      obtain ⟨⟨s0, s1⟩, ⟨p0, p1, p2⟩, ⟨p3, p4, p5⟩⟩ := hcells.out _ hbe.out
      have hC := h36.out _ hbe.out
      try simp only [errOf, if_true, Bool.false_eq_true, if_false, Bool.true_and, Bool.false_and, Bool.and_false, Bool.and_true] at hC
      replace hC := Lib.hid hC
      go_upto_region 99 with fail
      refine (hC.out).mono ?_
      rintro e wm ⟨rfl, hbe2⟩
      clear hC s0 s1 p0 p1 p2 p3 p4 p5
      obtain ⟨wn, hwn⟩ : ∃ W, W = wm := ⟨_, rfl⟩
      rw [← hwn] at hbe2 ⊢
      clear hwn
      replace hsince := Lib.hid (Below.up hsince.out hbe2)
      replace hbe := Lib.hid (Below.up hbe.out hbe2)
      clear hbe2
      go_wp2_with (go_at_call 12; refine (hKn.out _).mono ?_; rintro e wl ⟨rfl, hbe2⟩)
      go_ret
      exact ⟨rfl, Below.up hB0.out (Below.up hbe.out hbe2)⟩
    · obtain ⟨⟨s0, s1⟩, ⟨p0, p1, p2⟩, ⟨p3, p4, p5⟩⟩ := hcells.out _ hbe.out
      have hC := h33.out _ hbe.out
      try simp only [errOf, if_true, Bool.false_eq_true, if_false, Bool.true_and, Bool.false_and, Bool.and_false, Bool.and_true] at hC
      replace hC := Lib.hid hC
      go_upto_region 99 with fail
      refine (hC.out).mono ?_
      rintro e wn ⟨ax, lx, cx, rfl, hFx, hbe2⟩
      clear hC s0 s1 p0 p1 p2 p3 p4 p5
      replace hbe := Lib.hid (Below.up hbe.out hbe2)
      clear hbe2
      have hDx := Lib.hid hFx.is
      clear hFx
      obtain ⟨Bx, hBx⟩ : ∃ n, n = wn.heap.size := ⟨_, rfl⟩
      have hbx : Below wn.heap.size wn (wn.alloc (.cells #[.int .i64 R.op, .int .i64 R.n, .slice ax lx cx] 28)) := bal _ _
      have kx : Hid (∀ W, Below (wn.heap.size + 1) (wn.alloc (.cells #[.int .i64 R.op, .int .i64 R.n, .slice ax lx cx] 28)) W → W.heap[Bx]? = some (.cells #[.int .i64 R.op, .int .i64 R.n, .slice ax lx cx] 28 (0, 0))) := Lib.hid (fun W h => (h.block Bx (by rw [hBx]; omega)).trans (by rw [hBx]; exact heap_new'' _ _))
      replace hDx : Hid (∀ W, Below (wn.heap.size + 1) (wn.alloc (.cells #[.int .i64 R.op, .int .i64 R.n, .slice ax lx cx] 28)) W → IsTm W.heap.size W R ax lx cx) := Lib.hid (fun W h => IsTm.wider (Nat.le_trans hbx.size (by have := h.size; simpa using this)) _ (IsTm.below (Below.trans hbx (h.mono (by omega))) _ hDx.out))
      have hbX := Lib.hid (Below.up hbe.out hbx)
      have hC := h34.out _ hbX.out
      try simp only [errOf, if_true] at hC
      replace hC := Lib.hid hC
      obtain ⟨⟨s0, s1⟩, ⟨p0, p1, p2⟩, ⟨p3, p4, p5⟩⟩ := hcells.out _ hbX.out
      clear hbx
      replace hBx := Lib.hid hBx
      go_upto_region 99 with fail
      refine (hC.out).mono ?_
      rintro e w3 ⟨rfl, hbe2⟩
      clear hC s0 s1 p0 p1 p2 p3 p4 p5
      rw [← hBx.out]
      have hX : Hid (Below (wn.heap.size + 1) (wn.alloc (.cells #[.int .i64 R.op, .int .i64 R.n, .slice ax lx cx] 28)) w3) := Lib.hid (by simpa using hbe2)
      replace kx := Lib.hid (fun W (h : Below w3.heap.size w3 W) => kx.out W (Below.trans hX.out (h.mono (by have := hX.out.size; simpa using this))))
      replace hDx := Lib.hid (fun W (h : Below w3.heap.size w3 W) => hDx.out W (Below.trans hX.out (h.mono (by have := hX.out.size; simpa using this))))
      replace hbe := Lib.hid (Below.up hbX.out hbe2)
      clear hbe2 hbX hX hBx
      have hsince : Hid (Below w3.heap.size w3 w3) := Lib.hid (Below.refl _ _)
      obtain ⟨⟨s0, s1⟩, ⟨p0, p1, p2⟩, ⟨p3, p4, p5⟩⟩ := hcells.out _ hbe.out
      have hC := h19.out _ hbe.out
      try simp only [errOf, if_true, Bool.false_eq_true, if_false, Bool.true_and, Bool.false_and, Bool.and_false, Bool.and_true] at hC
      replace hC := Lib.hid hC
      go_upto_region 99 with fail
      refine (hC.out).mono ?_
      rintro e wm ⟨rfl, hbe2⟩
      clear hC s0 s1 p0 p1 p2 p3 p4 p5
      obtain ⟨wn, hwn⟩ : ∃ W, W = wm := ⟨_, rfl⟩
      rw [← hwn] at hbe2 ⊢
      clear hwn
      replace hsince := Lib.hid (Below.up hsince.out hbe2)
      replace hbe := Lib.hid (Below.up hbe.out hbe2)
      clear hbe2
      obtain ⟨h35', hsm⟩ := h35.out
      replace h35' := Lib.hid h35'
      replace hsm := Lib.hid hsm
      clear h35
      obtain ⟨⟨s0, s1⟩, ⟨p0, p1, p2⟩, ⟨p3, p4, p5⟩⟩ := hcells.out _ hbe.out
      have hC := h35'.out _ hbe.out
      try simp only [errOf, if_true, Bool.false_eq_true, if_false, Bool.true_and, Bool.false_and, Bool.and_false, Bool.and_true] at hC
      replace hC := Lib.hid hC
      go_upto_region 99 with fail
      refine (hC.out).mono ?_
      rintro e wm ⟨ay, ly, cy, rfl, hFy, hbe2⟩
      clear hC s0 s1 p0 p1 p2 p3 p4 p5
      obtain ⟨wn, hwn⟩ : ∃ W, W = wm := ⟨_, rfl⟩
      rw [← hwn] at hbe2 ⊢
      rw [← hwn] at hFy
      clear hwn
      replace hsince := Lib.hid (Below.up hsince.out hbe2)
      replace hbe := Lib.hid (Below.up hbe.out hbe2)
      clear hbe2
      have hDy := hFy.is
      clear hFy h35'
      obtain ⟨w5, hw5⟩ : ∃ W, W = wn.alloc (.cells #[.int .i64 R.op, .int .i64 R.n, .slice ay ly cy] 28) := ⟨_, rfl⟩
      have hb5 : Below wn.heap.size wn w5 := by rw [hw5]; exact bal _ _
      have hz5 : w5.heap.size = wn.heap.size + 1 := by rw [hw5]; simp
      obtain ⟨By, hBy⟩ : ∃ n, n = wn.heap.size := ⟨_, rfl⟩
      have ky : w5.heap[By]? = some (.cells #[.int .i64 R.op, .int .i64 R.n, .slice ay ly cy] 28 (0, 0)) := by rw [hw5, hBy]; exact heap_new'' _ _
      replace hDy := IsTm.wider hb5.size _ (IsTm.below hb5 _ hDy)
      replace hbe := Lib.hid (Below.up hbe.out hb5)
      replace hsince := Lib.hid (Below.up hsince.out hb5)
      obtain ⟨⟨s0, s1⟩, ⟨p0, p1, p2⟩, ⟨p3, p4, p5⟩⟩ := hcells.out _ hbe.out
      clear hb5 hz5
      replace hDy := Lib.hid hDy
      replace ky := Lib.hid ky
      have o1 : ¬ (20 : Int) < (K : Nat) := by omega
      have o2 : (K : Int) ≤ 20 := by omega
      clear hK
      obtain ⟨⟨x0, x1, x2⟩, -⟩ := c3_cells (kx.out _ hsince.out)
      have hC := Small_any R w5.heap.size w5 ax lx cx (hDx.out _ hsince.out) (Nat.le_refl _)
      rw [hsm.out] at hC
      rw [hw5] at s0 s1 p0 p1 p2 p3 p4 p5 hC x0 x1 x2
      replace hC := Lib.hid hC
      replace hw5 := Lib.hid hw5
      replace hBy := Lib.hid hBy
      go_upto_region 99 with fail
      refine (hC.out).mono ?_
      rintro e wm ⟨rfl, hbe2⟩
      clear hC x0 x1 x2 s0 s1 p0 p1 p2 p3 p4 p5
      rw [← hw5.out] at hbe2
      rw [← hBy.out]
      replace ky := Lib.hid ((hbe2.block _ (Array.getElem?_eq_some_iff.1 ky.out).1).trans ky.out)
      replace hDy := Lib.hid (IsTm.wider hbe2.size _ (IsTm.below hbe2 _ hDy.out))
      replace hsince := Lib.hid (Below.up hsince.out hbe2)
      replace hbe := Lib.hid (Below.up hbe.out hbe2)
      clear hbe2
      obtain ⟨w6, hw6⟩ : ∃ W, W = wm := ⟨_, rfl⟩
      rw [← hw6] at ky hDy hsince hbe ⊢
      clear hw6
      clear hw5 hBy
      obtain ⟨⟨x0, x1, x2⟩, -⟩ := c3_cells (kx.out _ hsince.out)
      obtain ⟨⟨y0, y1, y2⟩, -⟩ := c3_cells ky.out
      obtain ⟨⟨s0, s1⟩, ⟨p0, p1, p2⟩, ⟨p3, p4, p5⟩⟩ := hcells.out _ hbe.out
      have hC := Same_any R.size R R w6.heap.size w6 ax lx cx ay ly cy (Nat.le_refl _) (hDx.out _ hsince.out) hDy.out (Nat.le_refl _)
      rw [sameB_refl] at hC
      replace hC := Lib.hid hC
      go_upto_region 99 with fail
      refine (hC.out).mono ?_
      rintro e wm ⟨rfl, hbe2⟩
      clear hC x0 x1 x2 y0 y1 y2 s0 s1 p0 p1 p2 p3 p4 p5
      replace ky := Lib.hid ((hbe2.block _ (Array.getElem?_eq_some_iff.1 ky.out).1).trans ky.out)
      replace hDy := Lib.hid (IsTm.wider hbe2.size _ (IsTm.below hbe2 _ hDy.out))
      replace hsince := Lib.hid (Below.up hsince.out hbe2)
      replace hbe := Lib.hid (Below.up hbe.out hbe2)
      clear hbe2
      obtain ⟨w7, hw6⟩ : ∃ W, W = wm := ⟨_, rfl⟩
      rw [← hw6] at ky hDy hsince hbe ⊢
      clear hw6
      clear ky hDy hsm
      obtain ⟨⟨s0, s1⟩, ⟨p0, p1, p2⟩, ⟨p3, p4, p5⟩⟩ := hcells.out _ hbe.out
      have hC := h19x.out _ hbe.out
      try simp only [errOf, if_true, Bool.false_eq_true, if_false, Bool.true_and, Bool.false_and, Bool.and_false, Bool.and_true] at hC
      replace hC := Lib.hid hC
      go_upto_region 99 with fail
      refine (hC.out).mono ?_
      rintro e wm ⟨rfl, hbe2⟩
      clear hC s0 s1 p0 p1 p2 p3 p4 p5
      obtain ⟨wn, hwn⟩ : ∃ W, W = wm := ⟨_, rfl⟩
      rw [← hwn] at hbe2 ⊢
      clear hwn
      replace hsince := Lib.hid (Below.up hsince.out hbe2)
      replace hbe := Lib.hid (Below.up hbe.out hbe2)
      clear hbe2
      obtain ⟨⟨s0, s1⟩, ⟨p0, p1, p2⟩, ⟨p3, p4, p5⟩⟩ := hcells.out _ hbe.out
      have hC := h36.out _ hbe.out
      try simp only [errOf, if_true, Bool.false_eq_true, if_false, Bool.true_and, Bool.false_and, Bool.and_false, Bool.and_true] at hC
      replace hC := Lib.hid hC
      go_upto_region 99 with fail
      refine (hC.out).mono ?_
      rintro e wm ⟨rfl, hbe2⟩
      clear hC s0 s1 p0 p1 p2 p3 p4 p5
      obtain ⟨wn, hwn⟩ : ∃ W, W = wm := ⟨_, rfl⟩
      rw [← hwn] at hbe2 ⊢
      clear hwn
      replace hsince := Lib.hid (Below.up hsince.out hbe2)
      replace hbe := Lib.hid (Below.up hbe.out hbe2)
      clear hbe2
      go_wp2_with (go_at_call 12; refine (hKn.out _).mono ?_; rintro e wl ⟨rfl, hbe2⟩)
      go_ret
      exact ⟨rfl, Below.up hB0.out (Below.up hbe.out hbe2)⟩

end Go.Proofs.YthlegfegkopdkaaGreat
