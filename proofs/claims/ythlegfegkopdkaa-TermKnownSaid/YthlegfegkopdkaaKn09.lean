/- Own text, joined of: G1 G2 B1 G3. 'rebuild': a node with what is made of its kids. · 'varTerm', 'clone'. · 'slices.EqualFunc' over terms, 'same'. -/
import Derived.Deep.AppendLies
import Derived.Deep.RegionLaw
import Derived.OwnWalk
import Derived.Test.YthlegfegkopdkaaKn01
import Derived.Test.YthlegfegkopdkaaKn08

namespace Go.Proofs.Ythlegfegkopdkaa
open Go.RowKit Go.Shelf

theorem inf28 : (Try.prog.info? 32).map (fun i => (i.zero, i.size, i.bytes)) = some (some (.agg #[.int .i64 0, .int .i64 0, .slice none 0 0]), 3, 40) := by kernel_rfl
theorem und26 : Try.prog.underlying 30 = some (.slice 32) := by kernel_rfl

def Fresh (w w' : World) (t : Tm) (a : Option Addr) (l c : Nat) : Prop := TmP (fun b => w.heap.size ≤ b ∧ b < w'.heap.size) w' t a l c

/-- What a call that makes a term comes to. -/
def Makes (R : Nat → Prop) (w : World) (t : Tm) (J : World → Prop) (e : Ending) (w' : World) : Prop :=
  ∃ a l c, e = .returned (.agg #[.int .i64 t.op, .int .i64 t.n, .slice a l c]) ∧ Fresh w w' t a l c ∧ J w' ∧ Turns R w w'

theorem c3_cells {w : World} {B ty : Nat} {x y z : Value} (h : w.heap[B]? = some (.cells #[x, y, z] ty (0, 0))) :
    (w.cell? ⟨B, 0, none⟩ = some x ∧ w.cell? ⟨B, 1, none⟩ = some y ∧ w.cell? ⟨B, 2, none⟩ = some z) ∧ (w.frozen? ⟨B, 0, none⟩ = false ∧ w.frozen? ⟨B, 1, none⟩ = false ∧ w.frozen? ⟨B, 2, none⟩ = false) :=
  ⟨⟨by rw [cell_of_row w B 0 _ ty (0, 0) h]; rfl, by rw [cell_of_row w B 1 _ ty (0, 0) h]; rfl, by rw [cell_of_row w B 2 _ ty (0, 0) h]; rfl⟩, frozen_of_row w B 0 _ ty h, frozen_of_row w B 1 _ ty h, frozen_of_row w B 2 _ ty h⟩

theorem heap_new' {w : World} {B : Nat} (o : Obj) (h : B = w.heap.size) : (w.alloc o).heap[B]? = some o := by subst h; exact World.alloc_heap_new w o
theorem heap_old {w : World} {B : Nat} {o x : Obj} (h : w.heap[B]? = some x) : (w.alloc o).heap[B]? = some x := by
  rw [Below.heap_alloc w o B (Array.getElem?_eq_some_iff.1 h).1]; exact h

theorem set3 {w : World} {B ty : Nat} {x y z : Value} (x' y' z' : Value) (h : w.heap[B]? = some (.cells #[x, y, z] ty (0, 0))) :
    (((w.setCell ⟨B, 0, none⟩ x').setCell ⟨B, 1, none⟩ y').setCell ⟨B, 2, none⟩ z').heap[B]? = some (.cells #[x', y', z'] ty (0, 0)) := by
  have h1 := heap_setCell_same w B 0 _ ty x' h
  have h2 := heap_setCell_same _ B 1 _ ty y' h1
  have h3 := heap_setCell_same _ B 2 _ ty z' h2
  rw [h3]; rfl
theorem set3_other {w : World} {B k : Nat} (x' y' z' : Value) (h : k ≠ B) : (((w.setCell ⟨B, 0, none⟩ x').setCell ⟨B, 1, none⟩ y').setCell ⟨B, 2, none⟩ z').heap[k]? = w.heap[k]? := by
  rw [heap_setCell_other _ _ _ _ h, heap_setCell_other _ _ _ _ h, heap_setCell_other _ _ _ _ h]
theorem set3_below {w : World} {B n : Nat} (x' y' z' : Value) (h : n ≤ B) : Below n w (((w.setCell ⟨B, 0, none⟩ x').setCell ⟨B, 1, none⟩ y').setCell ⟨B, 2, none⟩ z') :=
  (((Below.refl _ _).setCell (p := ⟨B, 0, none⟩) h _).setCell (p := ⟨B, 1, none⟩) h _).setCell (p := ⟨B, 2, none⟩) h _

theorem fresh_of {w wr W : World} {base n : Nat} {F : Nat → Tm} {va : Option Addr} {vl vc : Nat} {K : List Kd} (op nn : Int) (r1 : K.map (·.t) = (List.range n).map F) (r4 : wr.ownsRow base 32 3 (.slice va vl vc) n (flat K))
    (r5 : ∀ x ∈ K, TmP (fun b => base ≤ b ∧ (Value.slice va vl vc).ownBlock ≠ some b) wr x.t x.a x.l x.c) (hb : w.heap.size ≤ base) (hW : ∀ k, base ≤ k → k < wr.heap.size → W.heap[k]? = wr.heap[k]?) (hz : wr.heap.size ≤ W.heap.size) :
    Fresh w W (.mk op nn ((List.range n).map F)) va vl vc := by
  simp only [Fresh, TmP]
  have hlen : ((List.range n).map F).length = n := by simp
  rcases r4.2 with ⟨hv, rfl⟩ | ⟨g, cap, cur, hv, hg, hcur, hn, hcap, hs, ht⟩
  · cases hv
    exact ⟨by simp, by omega, by omega, .inl (by simp)⟩
  · cases hv
    obtain ⟨hc, h1, h2, h3, h4⟩ := own_cells r4
    refine ⟨by rw [hlen], h1, h2, .inr ⟨g, 0, rfl, ⟨by omega, by omega⟩, ?_⟩⟩
    rw [← r1]
    refine kids_of_flat K 0 (fun j u hu => ?_) (fun x hx => ?_)
    · rw [Nat.zero_add]
      exact (World.cell?_of_block (hW g h4 h3)).trans (hc j u hu)
    · exact TmP.move (fun b hb' hlt => ⟨⟨by omega, by omega⟩, hW b hb'.1 hlt⟩) _ (r5 x hx)

def RelK (R : Nat → Prop) (w : World) (d : DT) (F : Nat → Tm) (Inv : Nat → World → Prop) (k : Nat) (wr : World) : Prop :=
  ∃ (K : List Kd) (va : Option Addr) (vl vc : Nat), K.map (·.t) = (List.range k).map F ∧ wr.heap[w.heap.size + 1 + 1]? = some (.cells #[.int .i64 d.op, .int .i64 d.n, .slice va vl vc] 32 (0, 0)) ∧
    wr.heap[w.heap.size + 1]? = some (.cells #[.int .i64 0, .int .i64 0, .slice none 0 0] 32 (0, 0)) ∧
    wr.ownsRow (w.heap.size + 1 + 1 + 1) 32 3 (.slice va vl vc) k (flat K) ∧ (∀ x ∈ K, TmP (fun b => w.heap.size + 3 ≤ b ∧ (Value.slice va vl vc).ownBlock ≠ some b) wr x.t x.a x.l x.c) ∧ Inv k wr ∧ Turns R w wr

theorem own_stays {w w' : World} {base : Nat} {e : TypeId} {size : Nat} {v : Value} {n : Nat} {xs : List Value} (h : w.ownsRow base e size v n xs) (hs : ∀ g, base ≤ g → g < w.heap.size → w'.heap[g]? = w.heap[g]?) : w'.ownsRow base e size v n xs := by
  refine ⟨h.1, ?_⟩
  rcases h.2 with h0 | ⟨g, cap, cur, hv, hb, hg, rest⟩
  · exact .inl h0
  · exact .inr ⟨g, cap, cur, hv, hb, (hs g hb (Array.getElem?_eq_some_iff.1 hg).1).trans hg, rest⟩
theorem own_base {w : World} {base : Nat} {e : TypeId} {size : Nat} {v : Value} {n : Nat} {xs : List Value} (h : w.ownsRow base e size v n xs) {g : Nat} (hg : v.ownBlock = some g) : base ≤ g ∧ g < w.heap.size := by
  rcases h.2 with ⟨h0, _⟩ | ⟨g', cap, cur, hv, hb, hg', rest⟩
  · subst h0; cases hg
  · subst hv; cases hg; exact ⟨hb, (Array.getElem?_eq_some_iff.1 hg').1⟩

theorem rel_step {R : Nat → Prop} {w : World} {d : DT} {F : Nat → Tm} {Inv : Nat → World → Prop} {k : Nat} {wr W1 w2 : World} {K : List Kd} {va : Option Addr} {vl vc g cap : Nat} {a' : Option Addr} {l' c' : Nat}
    (hst : ∀ k W W', Inv k W → Below w.heap.size W W' → Inv k W')
    (r1 : K.map (·.t) = (List.range k).map F) (r2 : wr.heap[w.heap.size + 1 + 1]? = some (.cells #[.int .i64 d.op, .int .i64 d.n, .slice va vl vc] 32 (0, 0)))
    (r3 : wr.heap[w.heap.size + 1]? = some (.cells #[.int .i64 0, .int .i64 0, .slice none 0 0] 32 (0, 0)))
    (r4 : wr.ownsRow (w.heap.size + 1 + 1 + 1) 32 3 (.slice va vl vc) k (flat K)) (r5 : ∀ x ∈ K, TmP (fun b => w.heap.size + 3 ≤ b ∧ (Value.slice va vl vc).ownBlock ≠ some b) wr x.t x.a x.l x.c)
    (hA : ∀ j, w.heap.size ≤ j → j < wr.heap.size → W1.heap[j]? = wr.heap[j]?) (hz : wr.heap.size ≤ W1.heap.size)
    (hk : TmP (fun b => wr.heap.size ≤ b ∧ b < W1.heap.size) W1 (F k) a' l' c')
    (hgrow : W1.grownBy w2 (Value.slice va vl vc).ownBlock)
    (hown : w2.ownsRow (w.heap.size + 1 + 1 + 1) 32 3 (.slice (some ⟨g, 0, none⟩) (k + 1) cap) (k + 1) (flat K ++ [.int .i64 (F k).op, .int .i64 (F k).n, .slice a' l' c']))
    (hat : (Value.slice va vl vc).ownBlock = some g ∨ g = W1.heap.size) (hI : Inv (k + 1) W1) (hT : Turns R w W1) :
    RelK R w d F Inv (k + 1) (w2.setCell ⟨w.heap.size + 1 + 1, 2, none⟩ (.slice (some ⟨g, 0, none⟩) (k + 1) cap)) := by
  have hz1 := (Array.getElem?_eq_some_iff.1 r2).1
  have hown1 := own_stays (w' := W1) r4 (fun g hg hlt => hA g (by omega) hlt)
  have hfar : ∀ j, j < wr.heap.size → (Value.slice va vl vc).ownBlock ≠ some j → w.heap.size ≤ j → w2.heap[j]? = wr.heap[j]? := fun j hj hne hw => (hgrow.block j (by omega) (fun e => hne e.symm)).trans (hA j hw hj)
  have hnb : ∀ j, (Value.slice va vl vc).ownBlock = some j → w.heap.size + 1 + 1 + 1 ≤ j ∧ j < wr.heap.size := fun j h => own_base r4 h
  have hset : ∀ j, j ≠ w.heap.size + 1 + 1 → (w2.setCell ⟨w.heap.size + 1 + 1, 2, none⟩ (.slice (some ⟨g, 0, none⟩) (k + 1) cap)).heap[j]? = w2.heap[j]? := fun j h => heap_setCell_other _ _ _ _ h
  have hg3 : w.heap.size + 3 ≤ g := by
    rcases hat with h | h
    · have := (hnb g h).1; omega
    · omega
  have hW2 : Below w.heap.size W1 w2 := (Below.refl _ _).grown hgrow (by omega) (fun q hq => by have := (hnb q hq).1; omega)
  have hB : Below w.heap.size W1 (w2.setCell ⟨w.heap.size + 1 + 1, 2, none⟩ (.slice (some ⟨g, 0, none⟩) (k + 1) cap)) := hW2.setCell (by simp; omega) _
  refine ⟨K ++ [⟨F k, a', l', c'⟩], some ⟨g, 0, none⟩, k + 1, cap, ?_, ?_, ?_, ?_, ?_, hst _ _ _ hI hB, hT.then hB⟩
  · simp [List.range_succ, r1]
  · have h2 := (hfar (w.heap.size + 1 + 1) hz1 (fun e => by have := (hnb _ e).1; omega) (by omega)).trans r2
    rw [heap_setCell_same w2 _ 2 _ 32 _ h2]; rfl
  · rw [hset _ (by omega)]
    exact (hfar (w.heap.size + 1) (by omega) (fun e => by have := (hnb _ e).1; omega) (by omega)).trans r3
  · rw [flat_snoc]
    exact own_stays hown (fun j hj _ => hset j (by omega))
  · intro x hx
    have hne : ∀ j, j < W1.heap.size → (Value.slice va vl vc).ownBlock ≠ some j → (Value.slice (some ⟨g, 0, none⟩) (k + 1) cap).ownBlock ≠ some j := fun j hj hn e => by
      have : g = j := by simpa [Value.ownBlock] using e
      subst this
      rcases hat with h | h
      · exact hn h
      · omega
    rcases List.mem_append.1 hx with hx | hx
    · refine TmP.move (fun b hb hlt => ⟨⟨hb.1, hne b (by omega) hb.2⟩, ?_⟩) _ (r5 x hx)
      rw [hset b (by omega)]
      exact hfar b hlt hb.2 (by omega)
    · obtain rfl := List.mem_singleton.1 hx
      refine TmP.move (fun b hb hlt => ?_) _ hk
      have hnb' : (Value.slice va vl vc).ownBlock ≠ some b := fun e => by have := (hnb b e).2; omega
      refine ⟨⟨by omega, hne b hb.2 hnb'⟩, ?_⟩
      rw [hset b (by omega)]
      exact hgrow.block b hlt (fun e => hnb' e.symm)

theorem rel_step2 {R : Nat → Prop} {w : World} {d : DT} {F : Nat → Tm} {Inv : Nat → World → Prop} {k : Nat} {wr w1 w2 : World} {K : List Kd} {va : Option Addr} {vl vc g cap : Nat} {a' : Option Addr} {l' c' : Nat} {o o' : Obj}
    (hst : ∀ k W W', Inv k W → Below w.heap.size W W' → Inv k W')
    (r1 : K.map (·.t) = (List.range k).map F) (r2 : wr.heap[w.heap.size + 1 + 1]? = some (.cells #[.int .i64 d.op, .int .i64 d.n, .slice va vl vc] 32 (0, 0)))
    (r3 : wr.heap[w.heap.size + 1]? = some (.cells #[.int .i64 0, .int .i64 0, .slice none 0 0] 32 (0, 0)))
    (r4 : wr.ownsRow (w.heap.size + 1 + 1 + 1) 32 3 (.slice va vl vc) k (flat K)) (r5 : ∀ x ∈ K, TmP (fun b => w.heap.size + 3 ≤ b ∧ (Value.slice va vl vc).ownBlock ≠ some b) wr x.t x.a x.l x.c)
    (hz : w.heap.size ≤ wr.heap.size) (n5 : ∀ j, w.heap.size ≤ j → j < wr.heap.size → w1.heap[j]? = wr.heap[j]?) (n7 : wr.heap.size < w1.heap.size)
    (hT0 : Turns R w (wr.alloc o)) (ht' : Fresh ((wr.alloc o).drew) w1 (F k) a' l' c') (hT' : Turns R ((wr.alloc o).drew) w1) (hI' : Inv (k + 1) w1)
    (hgrow : (w1.alloc o').grownBy w2 (Value.slice va vl vc).ownBlock)
    (hown : w2.ownsRow (w.heap.size + 1 + 1 + 1) 32 3 (.slice (some ⟨g, 0, none⟩) (k + 1) cap) (k + 1) (flat K ++ [.int .i64 (F k).op, .int .i64 (F k).n, .slice a' l' c']))
    (hat : (Value.slice va vl vc).ownBlock = some g ∨ g = w1.heap.size + 1) :
    RelK R w d F Inv (k + 1) (w2.setCell ⟨w.heap.size + 1 + 1, 2, none⟩ (.slice (some ⟨g, 0, none⟩) (k + 1) cap)) := by
  refine rel_step (W1 := w1.alloc o') hst r1 r2 r3 r4 r5 (fun j h1 h2 => (Below.heap_alloc w1 o' j (by omega)).trans (n5 j h1 h2)) (by simp; omega) ?_ hgrow hown (by simpa using hat) (hst _ _ _ hI' ((Below.refl _ _).alloc (by omega) _)) ?_
  · refine TmP.move (fun b hb hlt => ⟨⟨?_, ?_⟩, Below.heap_alloc w1 o' b hlt⟩) _ ht'
    · have := hb.1; simp [World.drew] at this; omega
    · simp; omega
  · exact ((hT0.then ((Below.refl _ _).drew)).trans hT').alloc _
theorem made_at {R : Nat → Prop} {w wr w1 : World} {d : DT} {n₀ k : Nat} {va : Option Addr} {vl vc : Nat} {xs : List Value} {o : Obj} (hR : ∀ b, R b → n₀ ≤ b ∧ b < w.heap.size)
    (r2 : wr.heap[w.heap.size + 1 + 1]? = some (.cells #[.int .i64 d.op, .int .i64 d.n, .slice va vl vc] 32 (0, 0))) (r4 : wr.ownsRow (w.heap.size + 1 + 1 + 1) 32 3 (.slice va vl vc) k xs) (_hz : w.heap.size ≤ wr.heap.size)
    (hT : Turns R ((wr.alloc o).drew) w1) : Hid (w1.heap[w.heap.size + 1 + 1]? = some (.cells #[.int .i64 d.op, .int .i64 d.n, .slice va vl vc] 32 (0, 0))) ∧ w1.cell? ⟨w.heap.size + 1 + 1, 2, none⟩ = some (.slice va vl vc) ∧ w1.frozen? ⟨w.heap.size + 1 + 1, 2, none⟩ = false ∧
      Hid (w1.ownsRow (w.heap.size + 1 + 1 + 1) 32 3 (.slice va vl vc) k xs) ∧ w.heap.size + 1 + 1 + 1 ≤ w1.heap.size ∧ Hid (∀ j, w.heap.size ≤ j → j < wr.heap.size → w1.heap[j]? = wr.heap[j]?) ∧
      (∀ o, (w1.alloc o).cell? ⟨w.heap.size + 1 + 1, 2, none⟩ = some (.slice va vl vc)) ∧ wr.heap.size < w1.heap.size := by
  have hs : wr.heap.size + 1 ≤ w1.heap.size := by have := hT.size; simpa [World.drew] using this
  have hA : ∀ j, w.heap.size ≤ j → j < wr.heap.size → w1.heap[j]? = wr.heap[j]? := fun j h1 h2 =>
    (hT.block j (by simp [World.drew]; omega) (fun hr => by have := (hR j hr).2; omega)).trans (Below.heap_alloc wr o j h2)
  have hb := (Array.getElem?_eq_some_iff.1 r2).1
  have h2 := (hA _ (by omega) hb).trans r2
  exact ⟨h2, (c3_cells h2).1.2.2, (c3_cells h2).2.2.2, own_stays r4 (fun g h1 h2 => hA g (by omega) h2), by omega, hA, fun o => (c3_cells (heap_old h2)).1.2.2, hs⟩
theorem grow_made {w1 w2 : World} {o : Obj} {base Bm n size ty : Nat} {e : TypeId} {v x y z : Value} {xs : List Value} (hg : (w1.alloc o).grownBy w2 v.ownBlock) (ho : w1.ownsRow base e size v n xs) (hb : Bm < base)
    (h : w1.heap[Bm]? = some (.cells #[x, y, z] ty (0, 0))) : w2.cell? ⟨Bm, 2, none⟩ = some z ∧ w2.frozen? ⟨Bm, 2, none⟩ = false := by
  have h2 : w2.heap[Bm]? = some (.cells #[x, y, z] ty (0, 0)) := (hg.block Bm (by have := (Array.getElem?_eq_some_iff.1 h).1; simp; omega) (fun e => by have := own_base ho e.symm; omega)).trans (heap_old h)
  exact ⟨(c3_cells h2).1.2.2, (c3_cells h2).2.2.2⟩

set_option maxRecDepth 100000 in
set_option maxHeartbeats 1000000 in
theorem rebuild_any (d : DT) (gf : Nat) (first cap : Array Value) (eg : ∀ args w, (callFunc gf args).run Try.prog w = .ok (.enter gf args) w)
    (R : Nat → Prop) (F : Nat → Tm) (Inv : Nat → World → Prop) (n₀ : Nat) (w : World) (hlen : d.kids.length ≤ 1000000) (hn : n₀ ≤ w.heap.size) (hL : Lies n₀ w d) (hR : ∀ b, R b → n₀ ≤ b ∧ b < w.heap.size)
    (hst : ∀ k W W', Inv k W → Below w.heap.size W W' → Inv k W')
    (hf : ∀ k (h : k < d.kids.length) W, Inv k W → Turns R w W → Calls Try.prog gf (first.push (.agg #[.int .i64 d.kids[k].op, .int .i64 d.kids[k].n, .slice d.kids[k].a d.kids[k].l d.kids[k].c]) ++ cap) W (Makes R W (F k) (Inv (k + 1))))
    (h0 : Inv 0 w) :
    Calls Try.prog 65 #[.agg #[.int .i64 d.op, .int .i64 d.n, .slice d.a d.l d.c], .func (.func gf) first cap] w (Makes R w (.mk d.op d.n ((List.range d.kids.length).map F)) (Inv d.kids.length)) := by
  obtain ⟨hl, hlc, hc, hk⟩ := hL.open
  replace hf := Lib.hid hf
  replace h0 := Lib.hid h0
  replace hst := Lib.hid hst
  replace hl := Lib.hid hl
  replace hR := Lib.hid hR
  obtain ⟨i0, hi, hz0, hz1, hz2⟩ := info_parts inf28
  go_enter Try.func65, Try.ntmps65
  go_wp2_with fail
  go_loopw [7, 16] (fun _ i wr => ∃ k : Nat, k ≤ d.l ∧ i = .int .i64 k ∧ RelK R w d F Inv k wr) (fun _ i _ => d.l - (intOf i).toNat)
  case atStart =>
    refine ⟨0, by omega, rfl, [], _, _, _, rfl, ?_, ?_, World.ownsRow_nil _ _ _ _, by simp, hst.out _ _ _ h0.out ?_, (((Turns.refl R w).alloc _).alloc _).alloc _⟩
    · exact heap_new' _ (by simp)
    · exact heap_old (heap_new' _ (by simp))
    · go_grown
  case round =>
    obtain ⟨k, hk1, rfl, hI⟩ := hrel
    by_cases hlt : k < d.l
    · obtain ⟨K, va, vl, vc, r1, r2, r3, r4, r5, r6, r7⟩ := hI
      obtain ⟨⟨p0, p1, p2⟩, p3, p4, p5⟩ := c3_cells r2
      have hkd : k < d.kids.length := by have := hl.out; omega
      rcases hk with hk | ⟨b, off, ha, hbn, hks⟩
      · rw [hk] at hkd; simp at hkd
      have hB7 := r7.below hn (fun b hb hr => by have := (hR.out b hr).1; omega)
      obtain ⟨g1, g2⟩ := LiesAll.get _ hks k hkd
      obtain ⟨c0, c1, c2⟩ := g1.below hB7 hbn
      have hz := r7.size
      have hzz := (Array.getElem?_eq_some_iff.1 r2).1
      have o1 : (k : Int) < (d.l : Int) := by omega
      obtain ⟨wo, hwo⟩ : ∃ wo, wo = wr.alloc (.cells #[.int .i64 d.kids[k].op, .int .i64 d.kids[k].n, .slice d.kids[k].a d.kids[k].l d.kids[k].c] 32) := ⟨_, rfl⟩
      have hBo : Below wr.heap.size wr wo := by rw [hwo]; go_grown
      have hIo : Inv k wo := hst.out _ _ _ r6 (hBo.mono hz)
      have hTo : Turns R w wo := r7.then (hBo.mono hz)
      have hC := hf.out k hkd wo.drew (hst.out _ _ _ hIo ((Below.refl _ _).drew)) (hTo.then ((Below.refl _ _).drew))
      rw [hwo] at hC
      replace hC := Lib.hid hC
      clear hks g1 g2 hL
      replace r1 := Lib.hid r1
      replace r2 := Lib.hid r2
      replace r3 := Lib.hid r3
      replace r5 := Lib.hid r5
      rw [ha]
      have hb1 := Lib.hid r4
      clear r4
      go_wp2_with fail
      go_region_law (first
        | (go_simp; refine (hC.out).mono ?_; rintro e w1 ⟨a', l', c', rfl, ht', hI', hT'⟩; obtain ⟨n0, n1, n3, n2, n4, n5, n6, n7⟩ := made_at hR.out r2.out hb1.out hz hT')
        | (refine step_append_lies _ (by rfl) _ _ _ (by rfl) (w.heap.size + 1 + 1 + 1) 32 i0 _ 3 40 und26 hi hz0 hz1 hz2 rfl (by omega) (.slice va vl vc) k (flat K) (by rfl) (n2.out.alloc _)
            ⟨w1.heap.size, 0, none⟩ 1 1 [.int .i64 (F k).op, .int .i64 (F k).n, .slice a' l' c'] (by rfl) (by rfl) (World.news_of_block (cs := #[.int .i64 (F k).op, .int .i64 (F k).n, .slice a' l' c']) (t := 32) (fr := (0, 0)) (heap_new' _ rfl)) (by simp [Value.oneCell'])
            (by omega) (by unfold maxLen; omega) (by omega) (by simp; omega) (w1.heap.size + 1) (by simp) ?_; intro gg cap2 w2 hown1 hgrow hat hlt2; have m1 := grow_made hgrow n2.out (by omega) n0.out; have m2 := m1.1; have m3 := m1.2; clear m1))
      all_goals
        have hrel := Lib.hid (rel_step2 hst.out r1.out r2.out r3.out hb1.out r5.out hz n5.out n7 (by rw [hwo] at hTo; exact hTo) ht' hT' hI' hgrow hown1 hat)
        clear m2 m3 n0 n1 n2 n3 n4 n5 n6 n7
        go_wp2_with fail
        go_roundw
        case rel => exact ⟨k + 1, by omega, by go_num, hrel.out⟩
        case measure => simp [intOf]; omega
    · have : k = d.l := by omega
      subst this
      obtain ⟨K, va, vl, vc, r1, r2, r3, r4, r5, r6, r7⟩ := hI
      obtain ⟨⟨p0, p1, p2⟩, -⟩ := c3_cells r2
      obtain ⟨⟨q0, q1, q2⟩, q3, q4, q5⟩ := c3_cells r3
      replace r1 := Lib.hid r1
      replace r2 := Lib.hid r2
      replace r3 := Lib.hid r3
      replace r4 := Lib.hid r4
      replace r5 := Lib.hid r5
      go_wp2_with fail
      obtain ⟨W3, hW3⟩ : ∃ W3, W3 = (((wr.setCell ⟨w.heap.size + 1, 0, none⟩ (.int .i64 d.op)).setCell ⟨w.heap.size + 1, 1, none⟩ (.int .i64 d.n)).setCell ⟨w.heap.size + 1, 2, none⟩ (.slice va vl vc)) := ⟨_, rfl⟩
      rw [← hW3]
      have s1 := set3 (.int .i64 d.op) (.int .i64 d.n) (.slice va vl vc) r3.out
      have s2 := fun k (h : k ≠ w.heap.size + 1) => set3_other (w := wr) (.int .i64 d.op) (.int .i64 d.n) (.slice va vl vc) h
      have s3 := set3_below (w := wr) (B := w.heap.size + 1) (n := w.heap.size) (.int .i64 d.op) (.int .i64 d.n) (.slice va vl vc) (by omega)
      rw [← hW3] at s1 s2 s3
      obtain ⟨⟨g0, g1, g2⟩, -⟩ := c3_cells s1
      have hfr := fresh_of (w := w) (W := W3) d.op d.n r1.out r4.out r5.out (by omega) (fun k h1 _ => s2 k (by omega)) s3.size
      rw [hl.out] at hfr r6
      exact bodyPost_ret (v := .agg #[.int .i64 (Tm.mk d.op d.n ((List.range d.kids.length).map F)).op, .int .i64 (Tm.mk d.op d.n ((List.range d.kids.length).map F)).n, .slice va vl vc]) (by simp [results, Try.f65, go_sem, g0, g1, g2, Tm.op, Tm.n]) rfl ⟨va, vl, vc, rfl, hfr, hst.out _ _ _ r6 s3, r7.then s3⟩
end Go.Proofs.Ythlegfegkopdkaa

namespace Go.Proofs.Ythlegfegkopdkaa
open Go.RowKit Go.Shelf

theorem Fresh.up {w w0 w1 W : World} {t : Tm} {a : Option Addr} {l c : Nat} (h : Fresh w0 w1 t a l c) (h1 : w.heap.size ≤ w0.heap.size) (h2 : ∀ b, w0.heap.size ≤ b → b < w1.heap.size → W.heap[b]? = w1.heap[b]?) (h3 : w1.heap.size ≤ W.heap.size) : Fresh w W t a l c :=
  TmP.move (fun b hb _ => ⟨⟨by omega, by omega⟩, h2 b hb.1 hb.2⟩) _ h
theorem Fresh.nil (w w' : World) (op n : Int) : Fresh w w' (.mk op n []) none 0 0 := by
  simp only [Fresh, TmP]; exact ⟨rfl, by omega, by omega, .inl trivial⟩
theorem Fresh.is {w w' : World} {t : Tm} {a : Option Addr} {l c : Nat} (h : Fresh w w' t a l c) : IsTm w'.heap.size w' t a l c := TmP.is (fun _ hb => hb.2) _ h

abbrev noR : Nat → Prop := fun _ => False
theorem Turns.b0 {w w' : World} (h : Turns noR w w') : Below w.heap.size w w' := h.below (Nat.le_refl _) (fun _ _ h => h)
theorem Turns.of0 {R : Nat → Prop} {w w' : World} (h : Below w.heap.size w w') : Turns R w w' := Turns.of_below h (fun _ hk _ => hk)

def onKids (ds : List DT) (f : DT → Tm) (k : Nat) : Tm := if h : k < ds.length then f ds[k] else .mk 0 0 []
theorem onKids_at {ds : List DT} (f : DT → Tm) {k : Nat} (h : k < ds.length) : onKids ds f k = f ds[k] := by unfold onKids; rw [dif_pos h]
theorem onKids_map (ds : List DT) (f : DT → Tm) : (List.range ds.length).map (onKids ds f) = ds.map f := by
  apply List.ext_getElem
  · simp
  · intro i h1 h2
    simp only [List.getElem_map, List.getElem_range]
    exact onKids_at f (by simpa using h1)

/-- What a store of a term into the result's block leaves. -/
theorem stored3 {w1 : World} {B : Nat} {x y z : Value} (x' y' z' : Value) (h : w1.heap[B]? = some (.cells #[x, y, z] 32 (0, 0))) :
    ∃ W, W = (((w1.setCell ⟨B, 0, none⟩ x').setCell ⟨B, 1, none⟩ y').setCell ⟨B, 2, none⟩ z') ∧ W.heap[B]? = some (.cells #[x', y', z'] 32 (0, 0)) ∧ (W.cell? ⟨B, 0, none⟩ = some x' ∧ W.cell? ⟨B, 1, none⟩ = some y' ∧ W.cell? ⟨B, 2, none⟩ = some z') ∧ (∀ k, k ≠ B → W.heap[k]? = w1.heap[k]?) ∧ Below B w1 W :=
  ⟨_, rfl, set3 _ _ _ h, (c3_cells (set3 _ _ _ h)).1, fun _ hk => set3_other _ _ _ hk, set3_below _ _ _ (Nat.le_refl _)⟩

set_option maxRecDepth 100000 in
theorem varTerm_any (n : Int) (w : World) : Calls Try.prog 57 #[.int .i64 n] w (Makes noR w (.mk 1 n []) (fun _ => True)) := by
  go_enter Try.func57, Try.ntmps57
  go_wp2_with fail
  exact bodyPost_ret (v := .agg #[.int .i64 1, .int .i64 n, .slice none 0 0]) (by simp [results, Try.f57, go_sem]) rfl ⟨none, 0, 0, rfl, Fresh.nil _ _ _ _, trivial, Turns.of0 (by go_grown)⟩

set_option maxRecDepth 100000 in
set_option maxHeartbeats 1000000 in
theorem clone_any (N : Nat) (hN : N ≤ 1000000) : ∀ (d : DT) (n₀ : Nat) (w : World), d.size ≤ N → Lies n₀ w d → n₀ ≤ w.heap.size →
    Calls Try.prog 53 #[.agg #[.int .i64 d.op, .int .i64 d.n, .slice d.a d.l d.c]] w (Makes noR w d.tm (fun _ => True)) := by
  induction N with
  | zero => intro d _ _ h; have := dsize_pos d; omega
  | succ N ih =>
    intro d n₀ w hs hL hn
    replace ih := ih (by omega)
    obtain ⟨w0, hw0⟩ : ∃ w0, w0 = (w.alloc (bx d)).alloc (.cells #[.int .i64 0, .int .i64 0, .slice none 0 0] 32) := ⟨_, rfl⟩
    have hB0 : Below w.heap.size w w0 := by rw [hw0]; go_grown
    have hz0 : w0.heap.size = w.heap.size + 1 + 1 := by rw [hw0]; simp
    have hr0 : w0.heap[w.heap.size + 1]? = some (.cells #[.int .i64 0, .int .i64 0, .slice none 0 0] 32 (0, 0)) := by rw [hw0]; exact heap_new' _ (by simp)
    have hsz := dsize_eq d
    have hlen : d.kids.length ≤ dsizes d.kids := by
      have h1 := length_le_sizes (tms d.kids); rw [sizes_tms, tms_map, List.length_map] at h1; exact h1
    have hL0 := hL.below (hB0.mono hn)
    have hC := rebuild_any d 53 #[] #[] (enters_of Try.func53 (by kernel_rfl) rfl) noR (onKids d.kids DT.tm) (fun _ _ => True) n₀ w0 (by omega) (by omega) hL0 (fun _ h => h.elim) (fun _ _ _ _ _ => trivial)
      (fun k hk W _ hT => by
        rcases (hL0.open).2.2.2 with h | ⟨b, off, ha, hb, hks⟩
        · rw [h] at hk; simp at hk
        · rw [onKids_at _ hk]
          have := dsize_kid d.kids k hk
          exact ih d.kids[k] n₀ W (by omega) (((LiesAll.get _ hks k hk).2).below (hT.b0.mono (by omega))) (by have := hT.size; omega))
      trivial
    rw [onKids_map, ← DT.tm_kids, show Tm.mk d.op d.n d.tm.kids = d.tm by cases d; simp [DT.tm, DT.op, DT.n, Tm.kids]] at hC
    rw [hw0] at hC
    replace hC := Lib.hid hC
    replace hsz := Lib.hid hsz
    clear ih hL hL0 hlen
    go_enter Try.func53, Try.ntmps53
    go_wp2_with fail
    refine (hC.out).mono ?_
    rintro e w1 ⟨a, l, c, rfl, hF, -, hT⟩
    rw [← hw0] at hF hT
    have hr1 := (hT.block _ (by omega) id).trans hr0
    obtain ⟨⟨q0, q1, q2⟩, q3, q4, q5⟩ := c3_cells hr1
    obtain ⟨W3, e3, -, ⟨g0, g1, g2⟩, s2, s3⟩ := stored3 (.int .i64 d.tm.op) (.int .i64 d.tm.n) (.slice a l c) hr1
    replace hF := Lib.hid hF
    replace hT := Lib.hid hT
    clear hr1 hr0
    replace e3 := Lib.hid e3
    replace g0 := Lib.hid g0
    replace g1 := Lib.hid g1
    replace g2 := Lib.hid g2
    go_wp2_with fail
    rw [← e3.out]
    have h0 := g0.out
    have h1 := g1.out
    have h2 := g2.out
    exact bodyPost_ret (v := .agg #[.int .i64 d.tm.op, .int .i64 d.tm.n, .slice a l c]) (by simp [results, Try.f53, go_sem, h0, h1, h2]) rfl
      ⟨a, l, c, rfl, hF.out.up (by omega) (fun b h1 _ => s2 b (by omega)) s3.size, trivial, Turns.of0 (hB0.trans ((hT.out.b0.mono (by omega)).trans (s3.mono (by omega))))⟩

end Go.Proofs.Ythlegfegkopdkaa

namespace Go.Proofs.Ythlegfegkopdkaa
open Go.RowKit

mutual
def sameB : Tm → Tm → Bool
  | .mk o n ks, .mk o' n' ks' => o == o' && n == n' && sames ks ks'
def sames : List Tm → List Tm → Bool
  | [], [] => true
  | t :: ts, u :: us => sameB t u && sames ts us
  | _, _ => false
end
theorem sameB_eq (t u : Tm) : sameB t u = (t.op == u.op && t.n == u.n && sames t.kids u.kids) := by cases t; cases u; rfl
theorem sames_len : ∀ (a b : List Tm), a.length ≠ b.length → sames a b = false
  | [], [], h => by simp at h
  | [], _ :: _, _ => by simp [sames]
  | _ :: _, [], _ => by simp [sames]
  | t :: ts, u :: us, h => by simp only [sames, sames_len ts us (by simpa using h), Bool.and_false]
theorem sames_drop (a b : List Tm) (k : Nat) (h : k < a.length) (h' : k < b.length) : sames (a.drop k) (b.drop k) = (sameB a[k] b[k] && sames (a.drop (k + 1)) (b.drop (k + 1))) := by
  rw [List.drop_eq_getElem_cons h, List.drop_eq_getElem_cons h', sames]

set_option maxRecDepth 100000 in
set_option maxHeartbeats 1000000 in
theorem Same_any (N : Nat) : ∀ (t u : Tm) (n₀ : Nat) (w : World) (a : Option Addr) (l c : Nat) (a₂ : Option Addr) (l₂ c₂ : Nat), t.size ≤ N → IsTm n₀ w t a l c → IsTm n₀ w u a₂ l₂ c₂ → n₀ ≤ w.heap.size →
    Calls Try.prog 15 #[.agg #[.int .i64 t.op, .int .i64 t.n, .slice a l c], .agg #[.int .i64 u.op, .int .i64 u.n, .slice a₂ l₂ c₂]] w fun e w' => e = .returned (.bool (sameB t u)) ∧ Below w.heap.size w w' := by
  induction N with
  | zero => intro t _ _ _ _ _ _ _ _ _ h; have := size_pos t; omega
  | succ N ih =>
    intro t u n₀ w a l c a₂ l₂ c₂ hs ht hu hn
    replace ih := Lib.hid ih
    obtain ⟨rfl, hlc, hc, hk⟩ := ht.open
    obtain ⟨rfl, hlc2, hcc2, hk2⟩ := hu.open
    have hsz := Lib.hid (size_eq t)
    have hsb : sizes t.kids ≤ N := by have := hsz.out; omega
    have hv := Lib.hid (sameB_eq t u)
    have hw2 := two_boxes w (.cells #[.int .i64 t.op, .int .i64 t.n, .slice a t.kids.length c] 32) (.cells #[.int .i64 u.op, .int .i64 u.n, .slice a₂ u.kids.length c₂] 32)
    by_cases ho : t.op = u.op
    rotate_left
    · have ho' : (t.op != u.op) = true := by simpa using ho
      replace hv : Hid (sameB t u = false) := Lib.hid (by rw [hv.out]; simp [ho])
      clear ho hk hk2 ht hu
      go_enter Try.func15, Try.ntmps15
      go_wp2_with fail
      go_ret
      exact ⟨by rw [hv.out]; rfl, hw2⟩
    have ho' : (t.op != u.op) = false := by simpa using ho
    by_cases hnn : t.n = u.n
    rotate_left
    · have hn' : (t.n != u.n) = true := by simpa using hnn
      replace hv : Hid (sameB t u = false) := Lib.hid (by rw [hv.out]; simp [hnn])
      clear ho hnn hk hk2 ht hu
      go_enter Try.func15, Try.ntmps15
      go_wp2_with fail
      go_ret
      exact ⟨by rw [hv.out]; rfl, hw2⟩
    have hn' : (t.n != u.n) = false := by simpa using hnn
    by_cases hl : t.kids.length = u.kids.length
    rotate_left
    · have hl' : ((t.kids.length : Int) != (u.kids.length : Int)) = true := by simp; omega
      replace hv : Hid (sameB t u = false) := Lib.hid (by rw [hv.out, sames_len _ _ hl]; simp)
      clear ho hnn hl hk hk2 ht hu
      go_enter Try.func15, Try.ntmps15
      go_wp2_with fail
      go_ret
      exact ⟨by rw [hv.out]; rfl, hw2⟩
    have hl' : ((t.kids.length : Int) != (u.kids.length : Int)) = false := by simp; omega
    have hle : t.kids.length ≤ u.kids.length := by omega
    have hge : u.kids.length ≤ t.kids.length := by omega
    replace hv : Hid (sameB t u = sames t.kids u.kids) := Lib.hid (by rw [hv.out, ho, hnn]; simp)
    clear ho hnn hl
    go_enter Try.func15, Try.ntmps15
    go_wp2_with fail
    clear ho' hn' hl'
    go_loopw [5] (fun i wr => ∃ k : Nat, k ≤ t.kids.length ∧ i = .int .i64 k ∧ Hid (sameB t u = sames (t.kids.drop k) (u.kids.drop k)) ∧ Below (w.heap.size + 2) ((w.alloc (.cells #[.int .i64 t.op, .int .i64 t.n, .slice a t.kids.length c] 32)).alloc (.cells #[.int .i64 u.op, .int .i64 u.n, .slice a₂ u.kids.length c₂] 32)) wr) (fun i _ => t.kids.length - (intOf i).toNat)
    case atStart => exact ⟨0, by omega, rfl, Lib.hid (by rw [hv.out]; rfl), Below.refl _ _⟩
    case round =>
      obtain ⟨k, hk1, rfl, hvk, hb⟩ := hrel
      have hbw := hw2.trans (hb.mono (by omega))
      have hz := hb.size
      rw [World.size_alloc, World.size_alloc] at hz
      have hc2 : wr.cell? ⟨w.heap.size, 2, none⟩ = some (.slice a t.kids.length c) := by rw [hb.cell (by simp)]; go_cell
      have hc3 : wr.cell? ⟨w.heap.size + 1, 2, none⟩ = some (.slice a₂ u.kids.length c₂) := by rw [hb.cell (by simp)]; go_cell
      by_cases hlt : k < t.kids.length
      · rcases hk with hk | ⟨b, off, rfl, hbn, hks⟩
        · rw [hk] at hlt; simp at hlt
        rcases hk2 with hk2 | ⟨b₂, off₂, rfl, hbn2, hks2⟩
        · exfalso; have h0 : u.kids.length = 0 := by rw [hk2]; rfl
          omega
        obtain ⟨a', l', c', h3, ht'⟩ := IsKids.get _ hks k hlt
        replace h3 := h3.below (hbw.mono hn) hbn
        replace ht' := (IsTm.below (hbw.mono hn) _ ht')
        obtain ⟨d0, d1, d2⟩ := h3
        obtain ⟨a'', l'', c'', h4, hu'⟩ := IsKids.get _ hks2 k (by omega)
        replace h4 := h4.below (hbw.mono hn) hbn2
        replace hu' := (IsTm.below (hbw.mono hn) _ hu')
        obtain ⟨f0, f1, f2⟩ := h4
        have hlt2 : k < u.kids.length := by omega
        have hsk := size_kid t.kids k hlt
        have hC := ih.out t.kids[k] (u.kids[k]'hlt2) n₀ wr.drew a' l' c' a'' l'' c'' (by omega) (IsTm.below ((Below.refl _ _).drew) _ ht') (IsTm.below ((Below.refl _ _).drew) _ hu') (by show n₀ ≤ wr.heap.size; omega)
        have hvs := Lib.hid (sames_drop t.kids u.kids k hlt hlt2)
        clear hks ht ht' hu hks2 hu'
        cases hbv : sameB t.kids[k] (u.kids[k]'hlt2)
        all_goals
          rw [hbv] at hC
          replace hC := Lib.hid hC
          replace hbv := Lib.hid hbv
          go_wp2_with fail
          go_still_tail 10, (by kernel_rfl)
          change wpList _ _ _ _ _ wr.drew
          go_wp2_with (go_at_call 15; refine (hC.out).mono ?_; rintro e w' ⟨rfl, hb'⟩)
        · go_ret
          exact ⟨by rw [hvk.out, hvs.out, hbv.out]; rfl, hbw.trans (((Below.refl _ _).drew).trans (hb'.mono (by show _ ≤ wr.heap.size; omega)))⟩
        · go_roundw
          case rel => exact ⟨k + 1, by omega, by go_num, Lib.hid (by rw [hvk.out, hvs.out, hbv.out]; rfl), (hb.drew).trans (hb'.mono hz)⟩
          case measure => simp [intOf]; omega
      · have hkl : k = t.kids.length := by omega
        subst hkl
        have hvt : Hid (sameB t u = true) := by
          have := hvk.out
          rw [List.drop_length, show List.drop t.kids.length u.kids = [] from List.drop_eq_nil_of_le hge] at this
          exact this.trans (by simp [sames])
        clear hvk
        go_wp2_with fail
        go_ret
        exact ⟨by rw [hvt.out]; rfl, hbw⟩

end Go.Proofs.Ythlegfegkopdkaa

namespace Go.Proofs.Ythlegfegkopdkaa
open Go.RowKit Go.Shelf

set_option maxRecDepth 100000 in
set_option maxHeartbeats 1000000 in
theorem equalFunc_len (a a2 : Option Addr) (l c l2 c2 : Nat) (fn : Fn) (first cap : Array Value) (w : World) (hne : ((l : Int) != (l2 : Int)) = true) :
    Calls Try.prog 52 #[.slice a l c, .slice a2 l2 c2, .func fn first cap] w fun e w' => e = .returned (.bool false) ∧ w = w' := by
  go_enter Try.func52, Try.ntmps52
  go_wp2_with fail
  go_ret
  exact ⟨rfl, rfl⟩

set_option maxRecDepth 100000 in
set_option maxHeartbeats 1000000 in
theorem equalFunc_any (g : Nat) (first cap : Array Value) (eg : ∀ args w, (callFunc g args).run Try.prog w = .ok (.enter g args) w)
    (ds es : List DT) (a a2 : Option Addr) (c c2 : Nat) (hlen : ds.length = es.length) (hc1 : ds.length ≤ c) (hc2 : c ≤ 9223372036854775807)
    (Inv : Nat → World → Prop) (Stop : World → Prop) (hal : ∀ k W o, Inv k W → Inv k (W.alloc o))
    (hcell : ∀ k W (h : k < ds.length) (h2 : k < es.length), Inv k W → ∃ b off b2 off2, a = some ⟨b, off, none⟩ ∧ a2 = some ⟨b2, off2, none⟩ ∧ Cells3 W b (off + k * 3) ds[k].op ds[k].n ds[k].a ds[k].l ds[k].c ∧ Cells3 W b2 (off2 + k * 3) es[k].op es[k].n es[k].a es[k].l es[k].c)
    (hf : ∀ k (h : k < ds.length) (h2 : k < es.length) W, Inv k W → Calls Try.prog g (first ++ (#[.agg #[.int .i64 ds[k].op, .int .i64 ds[k].n, .slice ds[k].a ds[k].l ds[k].c], .agg #[.int .i64 es[k].op, .int .i64 es[k].n, .slice es[k].a es[k].l es[k].c]] ++ cap)) W fun e W' => (e = .returned (.bool true) ∧ Inv (k + 1) W') ∨ (e = .returned (.bool false) ∧ Stop W'))
    (W : World) (h0 : Inv 0 W) :
    Calls Try.prog 52 #[.slice a ds.length c, .slice a2 es.length c2, .func (.func g) first cap] W fun e W' => (e = .returned (.bool true) ∧ Inv ds.length W') ∨ (e = .returned (.bool false) ∧ Stop W') := by
  replace hf := Lib.hid hf
  replace hcell := Lib.hid hcell
  replace h0 := Lib.hid h0
  replace hal := Lib.hid hal
  have hl : ((ds.length : Int) != (es.length : Int)) = false := by simp; omega
  have hle : ds.length ≤ es.length := by omega
  replace hlen := Lib.hid hlen
  go_enter Try.func52, Try.ntmps52
  go_wp2_with fail
  go_loopw [7, 8, 9, 17] (fun _ _ _ i wr => ∃ k : Nat, k ≤ ds.length ∧ i = .int .i64 k ∧ Hid (Inv k wr)) (fun _ _ _ i _ => ds.length - (intOf i).toNat)
  case atStart => exact ⟨0, by omega, rfl, h0⟩
  case round =>
    obtain ⟨k, hk1, rfl, hI⟩ := hrel
    by_cases hlt : k < ds.length
    · have hlt2 : k < es.length := by omega
      have o2 : (k : Int) < (es.length : Int) := by omega
      obtain ⟨b, off, b2, off2, rfl, rfl, ⟨d0, d1, d2⟩, ⟨e0, e1, e2⟩⟩ := hcell.out k wr hlt hlt2 hI.out
      have f0 : ∀ o, (wr.alloc o).cell? ⟨b2, off2 + k * 3, none⟩ = some (.int .i64 es[k].op) := fun o => by rw [World.cell?_alloc_lt _ _ _ (World.block_lt_of_cell? wr _ e0)]; exact e0
      have f1 : ∀ o, (wr.alloc o).cell? ⟨b2, off2 + k * 3 + 1, none⟩ = some (.int .i64 es[k].n) := fun o => by rw [World.cell?_alloc_lt _ _ _ (World.block_lt_of_cell? wr _ e1)]; exact e1
      have f2 : ∀ o, (wr.alloc o).cell? ⟨b2, off2 + k * 3 + 2, none⟩ = some (.slice es[k].a es[k].l es[k].c) := fun o => by rw [World.cell?_alloc_lt _ _ _ (World.block_lt_of_cell? wr _ e2)]; exact e2
      have hC := Lib.hid (hf.out k hlt hlt2 _ (hal.out k _ (.cells #[.int .i64 es[k].op, .int .i64 es[k].n, .slice es[k].a es[k].l es[k].c] 32) (hal.out k wr (.cells #[.int .i64 ds[k].op, .int .i64 ds[k].n, .slice ds[k].a ds[k].l ds[k].c] 32) hI.out)))
      go_wp2_with fail
      refine (hC.out).mono ?_
      rintro e W' (⟨rfl, hI'⟩ | ⟨rfl, hS'⟩)
      · replace hI' := Lib.hid hI'
        go_wp2_with fail
        go_roundw
        case rel => exact ⟨k + 1, by omega, by go_num, hI'⟩
        case measure => simp [intOf]; omega
      · replace hS' := Lib.hid hS'
        go_wp2_with fail
        go_ret
        exact .inr ⟨rfl, hS'.out⟩
    · have : k = ds.length := by omega
      subst this
      go_wp2_with fail
      go_ret
      exact .inl ⟨rfl, hI.out⟩

set_option maxRecDepth 100000 in
set_option maxHeartbeats 2000000 in
theorem same_any (N : Nat) : ∀ (d x : DT) (n₀ : Nat) (w : World), d.size ≤ N → Lies n₀ w d → Lies n₀ w x → n₀ ≤ w.heap.size →
    Calls Try.prog 28 #[.agg #[.int .i64 d.op, .int .i64 d.n, .slice d.a d.l d.c], .agg #[.int .i64 x.op, .int .i64 x.n, .slice x.a x.l x.c]] w fun e w' => e = .returned (.bool (sameB d.tm x.tm)) ∧ Below w.heap.size w w' := by
  induction N with
  | zero => intro d _ _ _ h; have := dsize_pos d; omega
  | succ N ih =>
    intro d x n₀ w hs hL hX hn
    have hsz := dsize_eq d
    obtain ⟨W0, hW0⟩ : ∃ W0, W0 = (w.alloc (bx d)).alloc (bx x) := ⟨_, rfl⟩
    have hB0 : Below w.heap.size w W0 := by rw [hW0]; go_grown
    have hz0 : W0.heap.size = w.heap.size + 1 + 1 := by rw [hW0]; simp
    have hL0 := hL.below (hB0.mono hn)
    have hX0 := hX.below (hB0.mono hn)
    have hv := sameB_eq d.tm x.tm
    rw [DT.tm_op, DT.tm_op, DT.tm_n, DT.tm_n, DT.tm_kids, DT.tm_kids] at hv
    cases ho : d.op == x.op
    · rw [ho] at hv
      replace hv := Lib.hid hv
      clear ih hL hX hL0 hX0 hsz
      rw [hW0] at hB0
      go_enter Try.func28, Try.ntmps28
      go_wp2_with fail
      go_ret
      exact ⟨by rw [hv.out]; rfl, hB0⟩
    rw [ho] at hv
    cases hnn : d.n == x.n
    · rw [hnn] at hv
      replace hv := Lib.hid hv
      clear ih hL hX hL0 hX0 hsz
      rw [hW0] at hB0
      go_enter Try.func28, Try.ntmps28
      go_wp2_with fail
      go_ret
      exact ⟨by rw [hv.out]; rfl, hB0⟩
    rw [hnn] at hv
    simp only [Bool.true_and] at hv
    obtain ⟨hl1, hlc1, hc1, hk1⟩ := hL0.open
    obtain ⟨hl2, hlc2, hc2, hk2⟩ := hX0.open
    have hC : Calls Try.prog 52 #[.slice d.a d.l d.c, .slice x.a x.l x.c, .func (.func 28) #[] #[]] W0 fun e w' => e = .returned (.bool (sameB d.tm x.tm)) ∧ Below W0.heap.size W0 w' := by
      by_cases hlen : d.kids.length = x.kids.length
      · rw [hl1, hl2]
        refine (equalFunc_any 28 #[] #[] (enters_of Try.func28 (by kernel_rfl) rfl) d.kids x.kids d.a x.a d.c x.c hlen (by omega) hc1
          (fun k W => Below W0.heap.size W0 W ∧ sames (d.kids.map DT.tm) (x.kids.map DT.tm) = sames ((d.kids.map DT.tm).drop k) ((x.kids.map DT.tm).drop k))
          (fun W => Below W0.heap.size W0 W ∧ sames (d.kids.map DT.tm) (x.kids.map DT.tm) = false)
          (fun k W o h => ⟨h.1.alloc h.1.size o, h.2⟩) (fun k W h h2 hI => ?_) (fun k h h2 W hI => ?_) W0 ⟨Below.refl _ _, by simp⟩).mono ?_
        · rcases hk1 with hk1 | ⟨b, off, ha, hb, hks⟩
          · rw [hk1] at h; simp at h
          rcases hk2 with hk2 | ⟨b2, off2, ha2, hb2, hks2⟩
          · rw [hk2] at h2; simp at h2
          exact ⟨b, off, b2, off2, ha, ha2, ((LiesAll.get _ hks k h).1).below (hI.1.mono (by omega)) hb, ((LiesAll.get _ hks2 k h2).1).below (hI.1.mono (by omega)) hb2⟩
        · rcases hk1 with hk1 | ⟨b, off, ha, hb, hks⟩
          · rw [hk1] at h; simp at h
          rcases hk2 with hk2 | ⟨b2, off2, ha2, hb2, hks2⟩
          · rw [hk2] at h2; simp at h2
          have hsk := dsize_kid d.kids k h
          have hz := hI.1.size
          refine (ih d.kids[k] x.kids[k] n₀ W (by omega) (((LiesAll.get _ hks k h).2).below (hI.1.mono (by omega))) (((LiesAll.get _ hks2 k h2).2).below (hI.1.mono (by omega))) (by omega)).mono ?_
          rintro e W' ⟨rfl, hb'⟩
          have hB' := hI.1.trans (hb'.mono hz)
          have hst := sames_drop (d.kids.map DT.tm) (x.kids.map DT.tm) k (by simpa using h) (by simpa using h2)
          simp only [List.getElem_map] at hst
          cases hv2 : sameB d.kids[k].tm x.kids[k].tm
          · refine .inr ⟨rfl, hB', ?_⟩
            rw [hI.2, hst, hv2, Bool.false_and]
          · refine .inl ⟨rfl, hB', ?_⟩
            rw [hI.2, hst, hv2, Bool.true_and]
        · rintro e W' (⟨rfl, hb, he⟩ | ⟨rfl, hb, he⟩)
          · refine ⟨?_, hb⟩
            rw [hv, he, List.drop_eq_nil_of_le (by simp), List.drop_eq_nil_of_le (by simp; omega)]; rfl
          · exact ⟨by rw [hv, he], hb⟩
      · refine (equalFunc_len d.a x.a d.l d.c x.l x.c (.func 28) #[] #[] W0 (by rw [hl1, hl2]; simp; omega)).mono ?_
        rintro e W' ⟨rfl, rfl⟩
        exact ⟨by rw [hv, sames_len _ _ (by simpa using hlen)], Below.refl _ _⟩
    rw [hW0] at hC
    replace hC := Lib.hid hC
    clear ih hL hX hL0 hX0 hsz hv hk1 hk2 hl1 hl2 hlc1 hlc2 hc1 hc2
    go_enter Try.func28, Try.ntmps28
    go_wp2_with fail
    refine (hC.out).mono ?_
    rintro e w1 ⟨rfl, hb⟩
    rw [← hW0] at hb
    replace hb := Lib.hid hb
    cases hv2 : sameB d.tm x.tm
    all_goals
      replace hv2 := Lib.hid hv2
      go_wp2_with fail
      go_ret
      exact ⟨by rw [hv2.out]; rfl, hB0.trans (hb.out.mono (by omega))⟩

end Go.Proofs.Ythlegfegkopdkaa
