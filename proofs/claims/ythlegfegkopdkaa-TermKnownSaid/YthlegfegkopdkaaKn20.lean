/- Own text, joined of: O2 O3. 'order', the plain side; a term that was put into a slot's block. · 'order': a variable, a node. -/
import Derived.Test.YthlegfegkopdkaaKn11
import Derived.Test.YthlegfegkopdkaaKn19

namespace Go.Proofs.Ythlegfegkopdkaa
open Go.RowKit Go.Shelf

mutual
def ordT (fb : Int → Option Int) (s : OS) : Tm → Tm × OS
  | .mk op n ks =>
    if op = 1 then (.mk 1 (numO fb s n).1 [], (numO fb s n).2)
    else if op = 8 then (.mk 8 s.count (ordL fb (updI fb n s.count) s.next ks).1, (ordL fb (updI fb n s.count) s.next ks).2)
    else (.mk op n (ordTs fb s ks).1, (ordTs fb s ks).2)
def ordTs (fb : Int → Option Int) (s : OS) : List Tm → List Tm × OS
  | [] => ([], s)
  | t :: ts => ((ordT fb s t).1 :: (ordTs fb (ordT fb s t).2 ts).1, (ordTs fb (ordT fb s t).2 ts).2)
def ordL (fb fi : Int → Option Int) (s : OS) : List Tm → List Tm × OS
  | [] => ([], s)
  | t :: ts => ((ordT fb s t).1 :: (ordTs fi (ordT fb s t).2 ts).1, (ordTs fi (ordT fb s t).2 ts).2)
end
theorem ordT_eq (fb : Int → Option Int) (s : OS) (t : Tm) : ordT fb s t = if t.op = 1 then (.mk 1 (numO fb s t.n).1 [], (numO fb s t.n).2)
    else if t.op = 8 then (.mk 8 s.count (ordL fb (updI fb t.n s.count) s.next t.kids).1, (ordL fb (updI fb t.n s.count) s.next t.kids).2)
    else (.mk t.op t.n (ordTs fb s t.kids).1, (ordTs fb s t.kids).2) := by cases t; rw [ordT]; rfl
theorem numO_count (fb : Int → Option Int) (s : OS) (v : Int) : (numO fb s v).2.count ≤ s.count + 1 := by
  unfold numO; split
  · simp
  · split
    · simp
    · simp
mutual
theorem ordT_count (fb : Int → Option Int) : ∀ (t : Tm) (s : OS), (ordT fb s t).2.count ≤ s.count + t.size
  | .mk op n ks, s => by
    rw [ordT, Tm.size]
    split
    · have := numO_count fb s n; simp only; omega
    · split
      · have := ordL_count fb (updI fb n s.count) ks s.next; simp only [OS.next] at this ⊢; omega
      · have := ordTs_count fb ks s; simp only; omega
theorem ordTs_count (fb : Int → Option Int) : ∀ (ks : List Tm) (s : OS), (ordTs fb s ks).2.count ≤ s.count + sizes ks
  | [], s => by simp [ordTs, sizes]
  | t :: ts, s => by
    rw [ordTs, sizes]
    have h1 := ordT_count fb t s
    have h2 := ordTs_count fb ts (ordT fb s t).2
    simp only; omega
theorem ordL_count (fb fi : Int → Option Int) : ∀ (ks : List Tm) (s : OS), (ordL fb fi s ks).2.count ≤ s.count + sizes ks
  | [], s => by simp [ordL, sizes]
  | t :: ts, s => by
    rw [ordL, sizes]
    have h1 := ordT_count fb t s
    have h2 := ordTs_count fi ts (ordT fb s t).2
    simp only; omega
end
theorem ordTs_snoc (fb : Int → Option Int) : ∀ (ks : List Tm) (s : OS) (t : Tm), ordTs fb s (ks ++ [t]) = ((ordTs fb s ks).1 ++ [(ordT fb (ordTs fb s ks).2 t).1], (ordT fb (ordTs fb s ks).2 t).2)
  | [], s, t => by simp [ordTs]
  | k :: ks, s, t => by rw [List.cons_append, ordTs, ordTs_snoc fb ks _ t, ordTs]; rfl
def ordAt (fb : Int → Option Int) (s : OS) (ks : List Tm) (k : Nat) : OS := (ordTs fb s (ks.take k)).2
def ordK (fb : Int → Option Int) (s : OS) (ks : List Tm) (k : Nat) : Tm := if h : k < ks.length then (ordT fb (ordAt fb s ks k) ks[k]).1 else .mk 0 0 []
theorem ordAt_zero (fb : Int → Option Int) (s : OS) (ks : List Tm) : ordAt fb s ks 0 = s := by simp [ordAt, ordTs]
theorem ordAt_succ (fb : Int → Option Int) (s : OS) (ks : List Tm) {k : Nat} (h : k < ks.length) : ordAt fb s ks (k + 1) = (ordT fb (ordAt fb s ks k) ks[k]).2 := by
  unfold ordAt; rw [List.take_succ_eq_append_getElem h, ordTs_snoc]
theorem ordAt_all (fb : Int → Option Int) (s : OS) (ks : List Tm) : ordAt fb s ks ks.length = (ordTs fb s ks).2 := by simp [ordAt]
theorem ordK_map (fb : Int → Option Int) (s : OS) (ks : List Tm) (k : Nat) (hk : k ≤ ks.length) : (List.range k).map (ordK fb s ks) = (ordTs fb s (ks.take k)).1 := by
  induction k with
  | zero => simp [ordTs]
  | succ k ih =>
    rw [List.range_succ, List.map_append, ih (by omega), List.take_succ_eq_append_getElem (by omega), ordTs_snoc]
    simp only [List.map_cons, List.map_nil]
    congr 2
    unfold ordK; rw [dif_pos (by omega)]; rfl
theorem ordK_all (fb : Int → Option Int) (s : OS) (ks : List Tm) : (List.range ks.length).map (ordK fb s ks) = (ordTs fb s ks).1 := by
  rw [ordK_map _ _ _ _ (Nat.le_refl _), List.take_length]
theorem ordAt_count (fb : Int → Option Int) (s : OS) (ks : List Tm) (k : Nat) : (ordAt fb s ks k).count ≤ s.count + sizes (ks.take k) := ordTs_count fb _ s

theorem Turns.drew {R : Nat → Prop} {a b : World} (h : Turns R a b) : Turns R a b.drew := ⟨h.os, h.tape, h.output, h.size, h.block⟩
theorem Turns.cell {R : Nat → Prop} {a b : World} (h : Turns R a b) {k o : Nat} {v : Value} (hr : ¬ R k) (hc : a.cell? ⟨k, o, none⟩ = some v) : b.cell? ⟨k, o, none⟩ = some v :=
  (World.cell?_of_block (h.block k (lt_cell hc) hr)).trans hc

/-- A slot points to a new block that holds a new term. -/
def Slot3 (lo : Nat) (t : Tm) (s : Value) (W : World) : Prop := ∃ B a l c, s = .pointer (some ⟨B, 0, none⟩) ∧ W.heap[B]? = some (.cells #[.int .i64 t.op, .int .i64 t.n, .slice a l c] 32 (0, 0)) ∧ lo ≤ B ∧ TmP (fun b => lo ≤ b ∧ b < W.heap.size ∧ b ≠ B) W t a l c
theorem Slot3.stays {lo : Nat} {t : Tm} {s : Value} {W W' : World} (h : Slot3 lo t s W) (hs : ∀ b, lo ≤ b → b < W.heap.size → W'.heap[b]? = W.heap[b]?) (hz : W.heap.size ≤ W'.heap.size) : Slot3 lo t s W' := by
  obtain ⟨B, a, l, c, h1, h2, h3, h4⟩ := h
  exact ⟨B, a, l, c, h1, (hs B h3 (Array.getElem?_eq_some_iff.1 h2).1).trans h2, h3, TmP.move (fun b hb _ => ⟨⟨hb.1, by omega, hb.2.2⟩, hs b hb.1 hb.2.1⟩) _ h4⟩
theorem Slot3.before {lo B : Nat} {t : Tm} {w1 W : World} {x y z : Value} {a : Option Addr} {l c : Nat} (hB : w1.heap[B]? = some (.cells #[x, y, z] 32 (0, 0))) (hlo : lo ≤ B) (hW : B < W.heap.size) (hF : Fresh W w1 t a l c) :
    Slot3 lo t (.pointer (some ⟨B, 0, none⟩)) (((w1.setCell ⟨B, 0, none⟩ (.int .i64 t.op)).setCell ⟨B, 1, none⟩ (.int .i64 t.n)).setCell ⟨B, 2, none⟩ (.slice a l c)) := by
  refine ⟨B, a, l, c, rfl, set3 _ _ _ hB, hlo, TmP.move (fun b hb _ => ⟨⟨by omega, ?_, by omega⟩, set3_other _ _ _ (by omega)⟩) _ hF⟩
  have := (set3_below (w := w1) (B := B) (n := B) (.int .i64 t.op) (.int .i64 t.n) (.slice a l c) (Nat.le_refl _)).size
  omega
theorem Slot3.behind {lo B : Nat} {t : Tm} {w1 W : World} {a : Option Addr} {l c : Nat} (hB : B = w1.heap.size) (hlo : lo ≤ W.heap.size) (hW : W.heap.size ≤ w1.heap.size) (hF : Fresh W w1 t a l c) :
    Slot3 lo t (.pointer (some ⟨B, 0, none⟩)) (w1.alloc (.cells #[.int .i64 t.op, .int .i64 t.n, .slice a l c] 32)) := by
  subst hB
  exact ⟨w1.heap.size, a, l, c, rfl, heap_new' _ rfl, by omega, TmP.move (fun b hb _ => ⟨⟨by omega, by simp; omega, by omega⟩, Below.heap_alloc _ _ _ hb.2⟩) _ hF⟩

end Go.Proofs.Ythlegfegkopdkaa

namespace Go.Proofs.Ythlegfegkopdkaa
open Go.RowKit Go.Shelf

abbrev ordR (Bs bf : Nat) : Nat → Prop := fun b => b = Bs ∨ b = bf
abbrev dv (d : DT) : Value := .agg #[.int .i64 d.op, .int .i64 d.n, .slice d.a d.l d.c]
def OrdSpec (N : Nat) : Prop := ∀ (d : DT) (n₀ : Nat) (w : World) (Bs bf bb nb : Nat) (fb : Int → Option Int) (s : OS), d.size ≤ N → Lies n₀ w d → n₀ ≤ Bs → n₀ ≤ bf → n₀ ≤ w.heap.size → ScopeAt Bs bf s w → IMap w bb nb fb → bb ≠ Bs → bb ≠ bf →
  nb + d.size ≤ 1000000 → s.count + d.size ≤ 1000000 → OkV d.tm →
  Calls Try.prog 51 #[oscope Bs bb, dv d] w (Makes (ordR Bs bf) w (ordT fb s d.tm).1 (ScopeAt Bs bf (ordT fb s d.tm).2))

abbrev zer3 : Obj := .cells #[.int .i64 0, .int .i64 0, .slice none 0 0] 32
abbrev ord0 (w : World) (Bs bb : Nat) (d : DT) : World := ((w.alloc (.cells #[.pointer (some ⟨Bs, 0, none⟩), .map (some bb)] 102)).alloc (bx d)).alloc zer3
theorem ord0_facts (w : World) (Bs bb : Nat) (d : DT) : (ord0 w Bs bb d).heap[w.heap.size]? = some (.cells #[.pointer (some ⟨Bs, 0, none⟩), .map (some bb)] 102 (0, 0)) ∧ (ord0 w Bs bb d).heap[w.heap.size + 1]? = some (bx d) ∧
    (ord0 w Bs bb d).heap[w.heap.size + 1 + 1]? = some zer3 ∧ (ord0 w Bs bb d).heap.size = w.heap.size + 3 ∧ Below w.heap.size w (ord0 w Bs bb d) :=
  ⟨heap_old (heap_old (heap_new' _ rfl)), heap_old (heap_new' _ (by simp)), heap_new' _ (by simp), by simp, by go_grown⟩

/-- The end of a function that stores a term into its result's block and returns. -/
theorem makes_end {R : Nat → Prop} {w w0 w1 W : World} {t : Tm} {J : World → Prop} {B : Nat} {a : Option Addr} {l c : Nat} (h0 : Below w.heap.size w w0) (hT : Turns R w0 w1) (hF : Fresh w0 w1 t a l c) (hJ : J W) (hB : w.heap.size ≤ B ∧ B < w0.heap.size)
    (s2 : ∀ k, k ≠ B → W.heap[k]? = w1.heap[k]?) (s3 : Below B w1 W) : Makes R w t J (.returned (.agg #[.int .i64 t.op, .int .i64 t.n, .slice a l c])) W :=
  ⟨a, l, c, rfl, hF.up h0.size (fun b h1 _ => s2 b (by omega)) s3.size, hJ, (((Turns.of0 h0 : Turns R w w0)).trans hT).then (s3.mono hB.1)⟩

set_option maxRecDepth 100000 in
set_option maxHeartbeats 1000000 in
theorem order_var (d : DT) (w : World) (Bs bf bb nb : Nat) (fb : Int → Option Int) (s : OS) (hS : ScopeAt Bs bf s w) (hb : IMap w bb nb fb) (hc : s.count ≤ 1000000) (hop : d.op = 1) (hv : 0 ≤ d.n ∧ d.n < 20) :
    Calls Try.prog 51 #[oscope Bs bb, dv d] w (Makes (ordR Bs bf) w (ordT fb s d.tm).1 (ScopeAt Bs bf (ordT fb s d.tm).2)) := by
  obtain ⟨f1, f2, f3, f4, f5⟩ := ord0_facts w Bs bb d
  have hlt := hS.lt
  have hN := number_any (ord0 w Bs bb d) Bs bf bb nb fb s d.n hv (hS.same (f5.block _ hlt.1) (f5.block _ hlt.2)) (hb.same (f5.block _ hb.lt)) hc
  have hV := fun n W => varTerm_any n W
  rw [ordT_eq, DT.tm_op, DT.tm_n, if_pos hop]
  have e1 : (d.op == 1) = true := by simpa using hop
  obtain ⟨r, hr⟩ : ∃ r, r = numO fb s d.n := ⟨_, rfl⟩
  rw [← hr] at hN ⊢
  replace hN := Lib.hid hN
  replace hV := Lib.hid hV
  replace f3 := Lib.hid f3
  replace f5 := Lib.hid f5
  clear f1 f2 hr hop
  go_enter Try.func51, Try.ntmps51
  go_wp2_with fail
  refine (hN.out).mono ?_
  rintro e w1 ⟨rfl, hS1, hT1⟩
  have q1 := Lib.hid ((hT1.block (w.heap.size + 1 + 1) (by omega) (by omega)).trans f3.out)
  replace hT1 := Lib.hid hT1
  replace hS1 := Lib.hid hS1
  go_wp2_with fail
  refine (hV.out _ _).mono ?_
  rintro e w2 ⟨a, l, c, rfl, hF, -, hT2⟩
  have hz1 := hT1.out.size
  have q2 := (hT2.block (w.heap.size + 1 + 1) (by omega) id).trans q1.out
  obtain ⟨⟨p0, p1, p2⟩, p3, p4, p5⟩ := c3_cells q2
  obtain ⟨W3, e3, -, ⟨g0, g1, g2⟩, s2, s3⟩ := stored3 (.int .i64 (Tm.mk 1 r.1 []).op) (.int .i64 (Tm.mk 1 r.1 []).n) (.slice a l c) q2
  replace hF := Lib.hid hF
  replace hT2 := Lib.hid hT2
  replace e3 := Lib.hid e3
  replace g0 := Lib.hid g0
  replace g1 := Lib.hid g1
  replace g2 := Lib.hid g2
  clear q2
  go_wp2_with fail
  rw [← e3.out]
  have h0 := g0.out
  have h1 := g1.out
  have h2 := g2.out
  have hT3 : Turns (ordR Bs bf) (ord0 w Bs bb d) w2 := hT1.out.trans (hT2.out.mono (fun _ _ h => h.elim))
  have hS2 := hS1.out.lt
  refine bodyPost_ret (v := .agg #[.int .i64 (Tm.mk 1 r.1 []).op, .int .i64 (Tm.mk 1 r.1 []).n, .slice a l c]) (by simp [results, Try.f51, go_sem, h0, h1, h2]) rfl ?_
  exact makes_end (t := .mk 1 r.1 []) f5.out hT3 (hF.out.up (by omega) (fun _ _ _ => rfl) (Nat.le_refl _)) (hS1.out.same ((s2 Bs (by omega)).trans (hT2.out.block _ hS2.1 id)) ((s2 bf (by omega)).trans (hT2.out.block _ hS2.2 id))) (B := w.heap.size + 1 + 1) (by omega) s2 s3

set_option maxRecDepth 100000 in
set_option maxHeartbeats 1000000 in
theorem order_node (N : Nat) (ih : OrdSpec N) (d : DT) (n₀ : Nat) (w : World) (Bs bf bb nb : Nat) (fb : Int → Option Int) (s : OS) (hs : d.size ≤ N + 1) (hL : Lies n₀ w d) (hB1 : n₀ ≤ Bs) (hB2 : n₀ ≤ bf) (hn : n₀ ≤ w.heap.size) (hS : ScopeAt Bs bf s w) (hb : IMap w bb nb fb) (n1 : bb ≠ Bs) (n2 : bb ≠ bf)
    (c1 : nb + d.size ≤ 1000000) (c2 : s.count + d.size ≤ 1000000) (hO : OkV d.tm) (h1 : d.op ≠ 1) (h8 : d.op ≠ 8) :
    Calls Try.prog 51 #[oscope Bs bb, dv d] w (Makes (ordR Bs bf) w (ordT fb s d.tm).1 (ScopeAt Bs bf (ordT fb s d.tm).2)) := by
  obtain ⟨f1, f2, f3, f4, f5⟩ := ord0_facts w Bs bb d
  have hlt := hS.lt
  have hsz := dsize_eq d
  have hL0 := hL.below (f5.mono hn)
  have hlen : d.kids.length ≤ dsizes d.kids := by
    have h1 := length_le_sizes (tms d.kids); rw [sizes_tms, tms_map, List.length_map] at h1; exact h1
  have hOk : OkVs d.tm.kids := by cases d; simp only [DT.tm, OkV] at hO; exact hO.2.2.2
  have hC := rebuild_any d 51 #[oscope Bs bb] #[] (enters_of Try.func51 (by kernel_rfl) rfl) (ordR Bs bf) (ordK fb s d.tm.kids) (fun k W => ScopeAt Bs bf (ordAt fb s d.tm.kids k) W ∧ IMap W bb nb fb) n₀ (ord0 w Bs bb d) (by omega) (by omega) hL0
    (fun b hb => by rcases hb with rfl | rfl <;> omega)
    (fun k W W' hI hBl => ⟨hI.1.same (hBl.block _ (by omega)) (hBl.block _ (by omega)), hI.2.same (hBl.block _ (by have := hb.lt; omega))⟩)
    (fun k hk W hI hT => by
      rcases (hL0.open).2.2.2 with h | ⟨b, off, ha, hbb, hks⟩
      · rw [h] at hk; simp at hk
      · have hsk := dsize_kid d.kids k hk
        have hkt : k < d.tm.kids.length := by rw [DT.tm_kids, List.length_map]; exact hk
        have hke : d.tm.kids[k] = d.kids[k].tm := by simp only [DT.tm_kids, List.getElem_map]
        have hca := ordAt_count fb s d.tm.kids k
        have htk : sizes (d.tm.kids.take k) = dsizes (d.kids.take k) := by rw [DT.tm_kids, ← List.map_take, ← tms_map, sizes_tms]
        have hC := ih d.kids[k] n₀ W Bs bf bb nb fb (ordAt fb s d.tm.kids k) (by omega) (((LiesAll.get _ hks k hk).2).below (hT.below (by omega) (fun j hj hr => by rcases hr with rfl | rfl <;> omega))) hB1 hB2 (by have := hT.size; omega) hI.1 hI.2 n1 n2 (by omega) (by omega) (by
          rw [← hke]; exact OkVs_get _ _ hkt hOk)
        refine hC.mono ?_
        rintro e W' ⟨a, l, c, rfl, hF, hJ, hT'⟩
        have hk1 : ordK fb s d.tm.kids k = (ordT fb (ordAt fb s d.tm.kids k) d.kids[k].tm).1 := by unfold ordK; rw [dif_pos hkt, hke]
        rw [hk1]
        refine ⟨a, l, c, rfl, hF, ⟨?_, hI.2.same (hT'.block _ hI.2.lt (by rintro (h | h); exact n1 h; exact n2 h))⟩, hT'⟩
        rw [ordAt_succ _ _ _ hkt, hke]; exact hJ)
    ⟨by rw [ordAt_zero]; exact hS.same (f5.block _ hlt.1) (f5.block _ hlt.2), hb.same (f5.block _ hb.lt)⟩
  have hkl : d.kids.length = d.tm.kids.length := by rw [DT.tm_kids, List.length_map]
  rw [hkl, ordK_all, ordAt_all] at hC
  rw [ordT_eq, DT.tm_op, DT.tm_n, if_neg h1, if_neg h8]
  have e1 : (d.op == 1) = false := by simpa using h1
  have e8 : (d.op == 8) = false := by simpa using h8
  obtain ⟨r, hr⟩ : ∃ r, r = ordTs fb s d.tm.kids := ⟨_, rfl⟩
  rw [← hr] at hC ⊢
  replace hC := Lib.hid hC
  replace f3 := Lib.hid f3
  replace f5 := Lib.hid f5
  replace hsz := Lib.hid hsz
  replace hkl := Lib.hid hkl
  clear f1 f2 hr h1 h8 hL hL0 hS hb hOk hO ih hlen
  go_enter Try.func51, Try.ntmps51
  go_wp2_with fail
  refine (hC.out).mono ?_
  rintro e w1 ⟨a, l, c, rfl, hF, ⟨hS1, -⟩, hT1⟩
  have q1 := (hT1.block (w.heap.size + 1 + 1) (by omega) (by rintro (h | h) <;> omega)).trans f3.out
  obtain ⟨⟨p0, p1, p2⟩, p3, p4, p5⟩ := c3_cells q1
  obtain ⟨W3, e3, -, ⟨g0, g1, g2⟩, s2, s3⟩ := stored3 (.int .i64 (Tm.mk d.op d.n r.1).op) (.int .i64 (Tm.mk d.op d.n r.1).n) (.slice a l c) q1
  replace hF := Lib.hid hF
  replace hT1 := Lib.hid hT1
  replace hS1 := Lib.hid hS1
  replace e3 := Lib.hid e3
  replace g0 := Lib.hid g0
  replace g1 := Lib.hid g1
  replace g2 := Lib.hid g2
  clear q1
  go_wp2_with fail
  rw [← e3.out]
  have h0 := g0.out
  have h1 := g1.out
  have h2 := g2.out
  refine bodyPost_ret (v := .agg #[.int .i64 (Tm.mk d.op d.n r.1).op, .int .i64 (Tm.mk d.op d.n r.1).n, .slice a l c]) (by simp [results, Try.f51, go_sem, h0, h1, h2]) rfl ?_
  exact makes_end f5.out hT1.out hF.out (hS1.out.same (s2 Bs (by omega)) (s2 bf (by omega))) (B := w.heap.size + 1 + 1) (by omega) s2 s3

end Go.Proofs.Ythlegfegkopdkaa
