/- Own text, joined of: O1. Maps from integers; the scope of 'order': next, number, inside. -/
import Derived.Maps.Keyed
import Derived.Maps.OwnSet
import Derived.Shelf.SlMaps.Clone
import Derived.OneCell
import Derived.Test.YthlegfegkopdkaaKn09
import Derived.Test.YthlegfegkopdkaaKn10

namespace Go.Proofs.Ythlegfegkopdkaa
open Go.RowKit Go.Shelf

theorem und3 : Try.prog.underlying 3 = some (.int .i64) := by kernel_rfl
theorem und137 : Try.prog.underlying 98 = some (.map 3 3) := by kernel_rfl
theorem lawI : Go.Maps.Keyed Try.prog 3 := Go.Maps.int_keyed und3
theorem keyI {i : Int} (h : 0 ≤ i ∧ i < 1000000) : keyOf Try.prog 3 (.int .i64 i) = some (.int .i64 i) :=
  Go.Maps.keyOf_int_mk und3 (by
    show (decide (IntKind.i64.min ≤ i) && decide (i ≤ IntKind.i64.max)) = true
    rw [show IntKind.i64.min = -9223372036854775808 from rfl, show IntKind.i64.max = 9223372036854775807 from rfl]
    simp; omega)

theorem MapV.same {P : Program} {k : TypeId} {w w' : World} {b n : Nat} {f : Lit → Option Value} (h : MapV P k w b n f) (hb : w'.heap[b]? = w.heap[b]?) : MapV P k w' b n f := by
  obtain ⟨D, ⟨es, clock, h1, h2⟩, hf⟩ := h
  exact ⟨D, ⟨es, clock, hb.trans h1, h2⟩, hf⟩

/-- Block b is a map from integers that holds f. -/
def IMap (w : World) (b n : Nat) (f : Int → Option Int) : Prop := ∃ g, MapV Try.prog 3 w b n g ∧ ∀ i, g (.int .i64 i) = (f i).map (fun v => Value.int .i64 v)
def updI {α : Type} (f : Int → Option α) (i : Int) (v : α) : Int → Option α := fun j => if j = i then some v else f j
theorem IMap.lt {w : World} {b n : Nat} {f : Int → Option Int} (h : IMap w b n f) : b < w.heap.size := by obtain ⟨g, h, _⟩ := h; exact h.lt
theorem IMap.same {w w' : World} {b n : Nat} {f : Int → Option Int} (h : IMap w b n f) (hb : w'.heap[b]? = w.heap[b]?) : IMap w' b n f := by obtain ⟨g, h, e⟩ := h; exact ⟨g, h.same hb, e⟩
theorem IMap.made (w : World) : IMap (w.alloc (.map #[] 0)) w.heap.size 0 (fun _ => none) := ⟨_, MapV.made w _ _, fun _ => rfl⟩
theorem zero3 (w : World) : (zeroValue 3).run Try.prog w = .ok (.int .i64 0) w := by kernel_rfl
theorem IMap.look {w : World} {b n : Nat} {f : Int → Option Int} (h : IMap w b n f) {i : Int} (hi : 0 ≤ i ∧ i < 1000000) :
    (Instr.lookup 98 (.map (some b)) (.int .i64 i) true).run Try.prog w = .ok (.tuple #[.int .i64 ((f i).getD 0), .bool (f i).isSome]) w := by
  obtain ⟨g, h, e⟩ := h
  rw [h.look_ok lawI und137 (zero3 w) (keyI hi), e i]
  cases f i <;> rfl
theorem IMap.store {w' : World} {b n : Nat} {f : Int → Option Int} {g : Lit → Option Value} {i v : Int} (e : ∀ i, g (.int .i64 i) = (f i).map (fun v => Value.int .i64 v)) (h : MapV Try.prog 3 w' b n (upd g (.int .i64 i) (.int .i64 v))) : IMap w' b n (updI f i v) := by
  refine ⟨_, h, fun j => ?_⟩
  unfold updI
  by_cases hj : j = i
  · subst hj; rw [upd_same, if_pos rfl]; rfl
  · rw [upd_other _ _ (fun e => hj (by cases e; rfl)), if_neg hj, e j]

def scopeB (bf : Nat) (c : Nat) : Obj := .cells #[.map (some bf), .int .i64 (c : Int)] 100
abbrev oscope (Bs bb : Nat) : Value := .agg #[.pointer (some ⟨Bs, 0, none⟩), .map (some bb)]

theorem c2_cells {w : World} {B ty : Nat} {x y : Value} (h : w.heap[B]? = some (.cells #[x, y] ty (0, 0))) :
    (w.cell? ⟨B, 0, none⟩ = some x ∧ w.cell? ⟨B, 1, none⟩ = some y) ∧ w.frozen? ⟨B, 0, none⟩ = false ∧ w.frozen? ⟨B, 1, none⟩ = false :=
  ⟨⟨by rw [cell_of_row w B 0 _ ty (0, 0) h]; rfl, by rw [cell_of_row w B 1 _ ty (0, 0) h]; rfl⟩, frozen_of_row w B 0 _ ty h, frozen_of_row w B 1 _ ty h⟩

set_option maxRecDepth 100000 in
set_option maxHeartbeats 1000000 in
theorem next_any (w : World) (Bs bf bb c : Nat) (h : w.heap[Bs]? = some (scopeB bf c)) (hc : c ≤ 1000000) :
    Calls Try.prog 77 #[oscope Bs bb] w fun e w' => e = .returned (.int .i64 (c : Nat)) ∧ w'.heap[Bs]? = some (scopeB bf (c + 1)) ∧ Turns (fun b => b = Bs) w w' := by
  unfold scopeB at h ⊢
  obtain ⟨⟨c0, c1⟩, f0, f1⟩ := c2_cells h
  have hlt := (Array.getElem?_eq_some_iff.1 h).1
  have d1 : ∀ o, (w.alloc o).cell? ⟨Bs, 1, none⟩ = some (.int .i64 (c : Nat)) := fun o => (c2_cells (heap_old h)).1.2
  have d2 : ∀ o, (w.alloc o).frozen? ⟨Bs, 1, none⟩ = false := fun o => (c2_cells (heap_old h)).2.2
  have hne : ¬ w.heap.size = Bs := by omega
  replace h := Lib.hid h
  go_enter Try.func77, Try.ntmps77
  go_wp2_with fail
  go_ret
  have hh := heap_setCell_same w Bs 1 _ 100 (.int .i64 ((c : Int) + 1)) h.out
  exact ⟨rfl, heap_old (hh.trans (by go_simp)), ((Turns.refl (fun b => b = Bs) w).setCell (p := ⟨Bs, 1, none⟩) (fun _ => rfl) _).alloc _⟩

set_option maxRecDepth 100000 in
set_option maxHeartbeats 1000000 in
theorem mclone_any (b n : Nat) (f : Int → Option Int) (w : World) (hm : IMap w b n f) :
    Calls Try.prog 94 #[.map (some b)] w fun e w' => e = .returned (.map (some w.heap.size)) ∧ IMap w' w.heap.size n f ∧ Below w.heap.size w w' ∧ w'.heap.size = w.heap.size + 1 := by
  obtain ⟨g, ⟨D, ⟨es, clock, hb, h2⟩, hf⟩, e⟩ := hm
  have hq := fun w => run_eql_map_nil_sl (P := Try.prog) w 98 _ _ (some b) und137
  replace e := Lib.hid e
  replace hf := Lib.hid hf
  replace h2 := Lib.hid h2
  have hbb := Lib.hid hb
  clear hb
  go_enter Try.func94, Try.ntmps94
  go_wp2
  rw [run_callFunc_extern Try.func100 (by kernel_rfl) (by kernel_rfl) (by kernel_rfl) (e := Extern.MapsClone.clone) (by kernel_rfl), run_maps_clone_sl w 98 hbb.out]
  simp only [Result.andThen]
  rw [Oper.upon_value]
  go_wp2
  rw [run_typeAssert_map_sl _ 98 20 _ _ _ und137]
  simp only [Result.andThen]
  rw [Oper.upon_value]
  go_wp2
  go_ret
  exact ⟨rfl, ⟨g, ⟨D, ⟨es, clock, heap_new' _ rfl, h2.out⟩, hf.out⟩, e.out⟩, by go_grown, by simp⟩

structure OS where
  free : Int → Option Int
  count : Nat
def OS.next (s : OS) : OS := ⟨s.free, s.count + 1⟩
def numO (fb : Int → Option Int) (s : OS) (v : Int) : Int × OS :=
  match fb v with
  | some n => (n, s)
  | none => match s.free v with
    | some n => (n, s)
    | none => (s.count, ⟨updI s.free v s.count, s.count + 1⟩)

def ScopeAt (Bs bf : Nat) (s : OS) (w : World) : Prop := w.heap[Bs]? = some (scopeB bf s.count) ∧ ∃ nf, nf ≤ s.count ∧ IMap w bf nf s.free
theorem ScopeAt.same {Bs bf : Nat} {s : OS} {w w' : World} (h : ScopeAt Bs bf s w) (h1 : w'.heap[Bs]? = w.heap[Bs]?) (h2 : w'.heap[bf]? = w.heap[bf]?) : ScopeAt Bs bf s w' := by
  obtain ⟨g1, nf, g2, g3⟩ := h
  exact ⟨h1.trans g1, nf, g2, g3.same h2⟩
theorem ScopeAt.lt {Bs bf : Nat} {s : OS} {w : World} (h : ScopeAt Bs bf s w) : Bs < w.heap.size ∧ bf < w.heap.size := by
  obtain ⟨g1, nf, g2, g3⟩ := h
  exact ⟨(Array.getElem?_eq_some_iff.1 g1).1, g3.lt⟩
theorem ScopeAt.ne {Bs bf : Nat} {s : OS} {w : World} (h : ScopeAt Bs bf s w) : Bs ≠ bf := by
  obtain ⟨g1, nf, g2, g, ⟨D, ⟨es, clock, h1, _⟩, _⟩, _⟩ := h
  intro e; subst e; rw [g1] at h1; unfold scopeB at h1; cases h1

set_option maxRecDepth 100000 in
set_option maxHeartbeats 1000000 in
theorem number_any (w : World) (Bs bf bb nb : Nat) (fb : Int → Option Int) (s : OS) (v : Int) (hv : 0 ≤ v ∧ v < 20) (hS : ScopeAt Bs bf s w) (hb : IMap w bb nb fb) (hc : s.count ≤ 1000000) :
    Calls Try.prog 76 #[oscope Bs bb, .int .i64 v] w fun e w' => e = .returned (.int .i64 (numO fb s v).1) ∧ ScopeAt Bs bf (numO fb s v).2 w' ∧ Turns (fun b => b = Bs ∨ b = bf) w w' := by
  have hlt := hS.lt
  have hne := hS.ne
  obtain ⟨h1, nf, hnf, h2⟩ := hS
  have k1 := keyI (i := v) ⟨hv.1, by omega⟩
  have hl1 := fun o => (hb.same (w' := w.alloc o) (Below.heap_alloc _ _ _ hb.lt)).look (i := v) ⟨hv.1, by omega⟩
  have hl2 := fun o => (h2.same (w' := w.alloc o) (Below.heap_alloc _ _ _ hlt.2)).look (i := v) ⟨hv.1, by omega⟩
  have d0 : ∀ o, (w.alloc o).cell? ⟨Bs, 0, none⟩ = some (.map (some bf)) := fun o => (c2_cells (heap_old (by unfold scopeB at h1; exact h1))).1.1
  cases e1 : fb v with
  | some m =>
    have hr : Hid (numO fb s v = (m, s)) := by unfold numO; rw [e1]; rfl
    rw [e1] at hl1
    simp only [Option.getD_some, Option.isSome_some] at hl1
    have hS' : Hid (ScopeAt Bs bf s w) := ⟨h1, nf, hnf, h2⟩
    clear hl2 h1 h2 hb e1 hne
    go_enter Try.func76, Try.ntmps76
    go_wp2_with fail
    go_ret
    rw [hr.out]
    exact ⟨rfl, hS'.out.same (Below.heap_alloc _ _ _ hlt.1) (Below.heap_alloc _ _ _ hlt.2), (Turns.refl _ w).alloc _⟩
  | none =>
    rw [e1] at hl1
    simp only [Option.getD_none, Option.isSome_none] at hl1
    cases e2 : s.free v with
    | some m =>
      have hr : Hid (numO fb s v = (m, s)) := by unfold numO; rw [e1]; simp only [e2]; trivial
      rw [e2] at hl2
      simp only [Option.getD_some, Option.isSome_some] at hl2
      have hS' : Hid (ScopeAt Bs bf s w) := ⟨h1, nf, hnf, h2⟩
      clear h1 h2 hb e1 e2 hne
      go_enter Try.func76, Try.ntmps76
      go_wp2_with fail
      go_ret
      rw [hr.out]
      exact ⟨rfl, hS'.out.same (Below.heap_alloc _ _ _ hlt.1) (Below.heap_alloc _ _ _ hlt.2), (Turns.refl _ w).alloc _⟩
    | none =>
      have hr : Hid (numO fb s v = ((s.count : Int), ⟨updI s.free v s.count, s.count + 1⟩)) := by unfold numO; rw [e1]; simp only [e2]; trivial
      rw [e2] at hl2
      simp only [Option.getD_none, Option.isSome_none] at hl2
      obtain ⟨g, hm, hg⟩ := h2
      obtain ⟨w0, hw0⟩ : ∃ w0, w0 = w.alloc (.cells #[.pointer (some ⟨Bs, 0, none⟩), .map (some bb)] 102) := ⟨_, rfl⟩
      have hN := next_any w0 Bs bf bb s.count (by rw [hw0]; exact heap_old h1) hc
      have hbx : w0.heap[w.heap.size]? = some (.cells #[.pointer (some ⟨Bs, 0, none⟩), .map (some bb)] 102 (0, 0)) := by rw [hw0]; exact heap_new' _ rfl
      have hm0 : MapV Try.prog 3 w0 bf nf g := by rw [hw0]; exact hm.alloc _
      have hz0 : w0.heap.size = w.heap.size + 1 := by rw [hw0]; simp
      have hT0 : Turns (fun b => b = Bs ∨ b = bf) w w0 := by rw [hw0]; exact (Turns.refl _ w).alloc _
      rw [hw0] at hN
      replace hN := Lib.hid hN
      replace hg := Lib.hid hg
      replace hm0 := Lib.hid hm0
      replace hT0 := Lib.hid hT0
      clear h1 hm hb e1 e2
      go_enter Try.func76, Try.ntmps76
      go_wp2_with fail
      refine (hN.out).mono ?_
      rintro e w1 ⟨rfl, hs1, ht1⟩
      rw [← hw0] at ht1
      have hm1 := Lib.hid (hm0.out.same (ht1.block bf (by omega) (fun e => hne e.symm)))
      obtain ⟨⟨b0, b1⟩, -⟩ := c2_cells ((ht1.block w.heap.size (by omega) (by omega)).trans hbx)
      have hs2 := Lib.hid hs1
      unfold scopeB at hs1
      obtain ⟨⟨a0, a1⟩, -⟩ := c2_cells hs1
      replace hs1 := Lib.hid hs1
      replace ht1 := Lib.hid ht1
      replace hbx := Lib.hid hbx
      clear hl1 hl2 d0
      go_wp2_with (first | (at_mapUpdate; refine wpList_mapStore _ rfl _ _ _ 98 rfl lawI und137 bf nf _ rfl hm1.out (by unfold maxLen; omega) _ _ _ rfl rfl k1 trivial ?_; intro w2 hm2 hg2))
      go_ret
      rw [hr.out]
      refine ⟨rfl, ⟨?_, nf + 1, by show nf + 1 ≤ s.count + 1; omega, IMap.store hg.out hm2⟩, ?_⟩
      · exact (hg2.block Bs (Array.getElem?_eq_some_iff.1 hs2.out).1 (fun e => hne (by cases e; rfl))).trans hs2.out
      · exact (hT0.out.trans (ht1.out.mono (fun k _ h => .inl h))).grown hg2 (fun k e _ => .inr (by cases e; rfl))

theorem set2 {w : World} {B ty : Nat} {x y : Value} (x' y' : Value) (h : w.heap[B]? = some (.cells #[x, y] ty (0, 0))) : ((w.setCell ⟨B, 0, none⟩ x').setCell ⟨B, 1, none⟩ y').heap[B]? = some (.cells #[x', y'] ty (0, 0)) := by
  have h1 := heap_setCell_same w B 0 _ ty x' h
  have h2 := heap_setCell_same _ B 1 _ ty y' h1
  rw [h2]; rfl

theorem sel_far {w1 w2 : World} {A ty : Nat} {x y x' y' : Value} {row : Option Nat} (hg : w1.grownBy w2 row) (h1 : w1.heap[A]? = some (.cells #[x, y] ty (0, 0))) (h2 : w1.heap[A + 1]? = some (.cells #[x', y'] ty (0, 0))) (hr : row = some (A + 1 + 1)) :
    w2.cell? ⟨A, 0, none⟩ = some x ∧ w2.cell? ⟨A, 1, none⟩ = some y ∧ w2.cell? ⟨A + 1, 0, none⟩ = some x' ∧ w2.cell? ⟨A + 1, 1, none⟩ = some y' ∧ w2.frozen? ⟨A + 1, 0, none⟩ = false ∧ w2.frozen? ⟨A + 1, 1, none⟩ = false ∧ Hid (w2.heap[A + 1]? = some (.cells #[x', y'] ty (0, 0))) := by
  have g1 := (hg.block A (Array.getElem?_eq_some_iff.1 h1).1 (by rw [hr]; simp; omega)).trans h1
  have g2 := (hg.block (A + 1) (Array.getElem?_eq_some_iff.1 h2).1 (by rw [hr]; simp)).trans h2
  have c1 := c2_cells g1
  have c2 := c2_cells g2
  exact ⟨c1.1.1, c1.1.2, c2.1.1, c2.1.2, c2.2.1, c2.2.2, g2⟩

set_option maxRecDepth 100000 in
set_option maxHeartbeats 1000000 in
theorem inside_any (w : World) (Bs bb nb : Nat) (fb : Int → Option Int) (v c : Int) (hv : 0 ≤ v ∧ v < 20) (hb : IMap w bb nb fb) (hn : nb ≤ 1000000) :
    Calls Try.prog 78 #[oscope Bs bb, .int .i64 v, .int .i64 c] w fun e w' => ∃ bb', e = .returned (oscope Bs bb') ∧ IMap w' bb' (nb + 1) (updI fb v c) ∧ w.heap.size ≤ bb' ∧ Below w.heap.size w w' := by
  have k1 := keyI (i := v) ⟨hv.1, by omega⟩
  obtain ⟨w0, hw0⟩ : ∃ w0, w0 = (w.alloc (.cells #[.pointer (some ⟨Bs, 0, none⟩), .map (some bb)] 102)).alloc (.cells #[.pointer none, .map none] 102) := ⟨_, rfl⟩
  have hz0 : w0.heap.size = w.heap.size + 2 := by rw [hw0]; simp
  have hB0 : Below w.heap.size w w0 := by rw [hw0]; go_grown
  have hbx : w0.heap[w.heap.size]? = some (.cells #[.pointer (some ⟨Bs, 0, none⟩), .map (some bb)] 102 (0, 0)) := by rw [hw0]; exact heap_old (heap_new' _ rfl)
  have hrs : w0.heap[w.heap.size + 1]? = some (.cells #[.pointer none, .map none] 102 (0, 0)) := by rw [hw0]; exact heap_new' _ (by simp)
  have hC := mclone_any bb nb fb w0 (hb.same (hB0.block bb hb.lt))
  rw [hw0] at hC
  replace hC := Lib.hid hC
  go_enter Try.func78, Try.ntmps78
  go_wp2_with fail
  refine (hC.out).mono ?_
  rintro e w1 ⟨rfl, ⟨g, hm, hg⟩, hB1, hz1⟩
  rw [← hw0] at hB1 hz1 hm
  have hbx1 := (hB1.block w.heap.size (by omega)).trans hbx
  have hrs1 := (hB1.block (w.heap.size + 1) (by omega)).trans hrs
  obtain ⟨⟨b0, b1⟩, -⟩ := c2_cells hbx1
  obtain ⟨⟨r0, r1⟩, r2, r3⟩ := c2_cells hrs1
  replace hg := Lib.hid hg
  have hmm := Lib.hid hm
  rw [hz0] at hmm
  replace hB0 := Lib.hid hB0
  replace hB1 := Lib.hid hB1
  replace hbx := Lib.hid hbx
  replace hrs := Lib.hid hrs
  replace hbx1 := Lib.hid hbx1
  replace hrs1 := Lib.hid hrs1
  replace hz1 := Lib.hid hz1
  clear hm hw0
  go_wp2_with (first | (at_mapUpdate; refine wpList_mapStore _ rfl _ _ _ 98 rfl lawI und137 (w.heap.size + 1 + 1) nb _ rfl hmm.out (by unfold maxLen; omega) _ _ _ rfl rfl k1 trivial ?_; intro w2 hm2 hg2; have hk := sel_far hg2 hbx1.out hrs1.out rfl; have t0 := hk.1; have t1 := hk.2.1; have t2 := hk.2.2.1; have t3 := hk.2.2.2.1; have t4 := hk.2.2.2.2.1; have t5 := hk.2.2.2.2.2.1; have t6 := hk.2.2.2.2.2.2; clear hk))
  have hm3 : MapV Try.prog 3 w2 (w.heap.size + 1 + 1) (nb + 1) (upd g (.int .i64 v) (.int .i64 c)) := hm2
  have hW := set2 (.pointer (some ⟨Bs, 0, none⟩)) (.map (some (w.heap.size + 1 + 1))) t6.out
  have hO := fun k (h : k ≠ w.heap.size + 1) => (heap_setCell_other (w2.setCell ⟨w.heap.size + 1, 0, none⟩ (.pointer (some ⟨Bs, 0, none⟩))) ⟨w.heap.size + 1, 1, none⟩ k (.map (some (w.heap.size + 1 + 1))) h).trans (heap_setCell_other w2 ⟨w.heap.size + 1, 0, none⟩ k (.pointer (some ⟨Bs, 0, none⟩)) h)
  have hB := (((hB0.out.trans (hB1.out.mono (by omega))).grown hg2 (by have := hB1.out.size; omega) (fun q hq => by cases hq; omega)).setCell (p := ⟨w.heap.size + 1, 0, none⟩) (by simp) (.pointer (some ⟨Bs, 0, none⟩))).setCell (p := ⟨w.heap.size + 1, 1, none⟩) (by simp) (.map (some (w.heap.size + 1 + 1)))
  obtain ⟨W3, hW3⟩ : ∃ W3, W3 = (w2.setCell ⟨w.heap.size + 1, 0, none⟩ (.pointer (some ⟨Bs, 0, none⟩))).setCell ⟨w.heap.size + 1, 1, none⟩ (.map (some (w.heap.size + 1 + 1))) := ⟨_, rfl⟩
  rw [← hW3] at hW hO hB ⊢
  obtain ⟨⟨y0, y1⟩, -⟩ := c2_cells hW
  exact bodyPost_ret (v := oscope Bs (w.heap.size + 1 + 1)) (by simp [results, Try.f78, go_sem, y0, y1]) rfl ⟨w.heap.size + 1 + 1, rfl, (IMap.store hg.out hm3).same (hO _ (by omega)), by omega, hB⟩

end Go.Proofs.Ythlegfegkopdkaa
