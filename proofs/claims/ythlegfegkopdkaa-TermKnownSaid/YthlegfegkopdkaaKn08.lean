/- Own text, joined of: C8.  -/
import Derived.Deep.Draws
import Derived.RangeFuncBox
import Derived.RangeFuncNested
import Derived.RangeFuncBound
import Derived.RangeFuncCalls
import Derived.RangeFuncLeaves
import Derived.Shelf.Abstract
import Derived.WalkKit
import Derived.OwnWalkIn
import Derived.TacticsInMore
import Derived.LoopNIn
import Derived.LoopIn
import Derived.Laws.EntriesVeiled
import Derived.Test.YthlegfegkopdkaaKn06
import Derived.Test.YthlegfegkopdkaaKn07

namespace Go.Proofs.Ythlegfegkopdkaa
open Go.RowKit Go.Shelf Go.Sort
attribute [local go_sem] Oper.semAt_some

abbrev bs (t : TypeId) (ac : Option Addr) (lc cc : Nat) (af : Option Addr) (lf cf : Nat) : Obj := .cells #[.slice ac lc cc, .slice af lf cf] t

theorem cells_own {β : Type} (B : Nat) (cs : Array Value) (ty : TypeId) : Own (fun (_ : β) W => W.heap[B]? = some (.cells cs ty (0, 0))) := fun s X Y row hs hg hrow => by
  refine (hg.block B (Array.getElem?_eq_some_iff.1 hs).1 (fun e => ?_)).trans hs
  obtain ⟨o, ho, hc⟩ := hrow B e.symm
  rw [hs] at ho
  cases ho; simp [Obj.isCells] at hc

def fI (s : Sg) (w : World) (ac : Option Addr) (lc cc : Nat) (af : Option Addr) (lf cf : Nat) (pre : List Nd) (W : World) : Prop := ((((pre.length ≤ 40 ∧ ∀ x ∈ pre, goodNd s x = true) ∧ Boxed W (w.heap.size + 1 + 1) 4 (.bool false)) ∧ Boxed W (w.heap.size + 1 + 1 + 1 + 1 + 1 + 1) 3 (.int .i64 (pre.length : Nat))) ∧ (W.heap[w.heap.size + 1 + 1 + 1 + 1 + 1]? = some (.cells musts 93 (0, 0)) ∧ W.heap[w.heap.size + 1 + 1 + 1]? = some (bs 91 ac lc cc af lf cf))) ∧ (Below w.heap.size w W ∧ w.heap.size + 8 ≤ W.heap.size)
def fX (s : Sg) (w : World) (c : Code) (pre : List Nd) (W : World) : Prop := ((c = .ret ∧ (40 < pre.length ∨ ∃ x ∈ pre, goodNd s x = false)) ∧ Boxed W (w.heap.size + 1 + 1) 4 (.bool false)) ∧ Below w.heap.size w W
theorem fI_own (s : Sg) (w : World) (ac : Option Addr) (lc cc : Nat) (af : Option Addr) (lf cf : Nat) (B : Nat) (hB : w.heap.size ≤ B) : OwnFrom B (fI s w ac lc cc af lf cf) :=
  (OwnFrom.and (OwnFrom.and (OwnFrom.and (OwnFrom.and (ownFrom_pure _ _) (Own.from (boxed_own _ _ _) _)) (Own.from (boxed_own _ _ _) _)) (OwnFrom.and (Own.from (cells_own _ _ _) _) (Own.from (cells_own _ _ _) _))) (OwnFrom.and (ownFrom_below (Nat.le_refl _) hB) (fun _ _X _Y _row hs hg _ => Nat.le_trans hs hg.size)))
theorem fX_own (s : Sg) (w : World) (B : Nat) (hB : w.heap.size ≤ B) (c : Code) : OwnFrom B (fX s w c) :=
  OwnFrom.and (OwnFrom.and (ownFrom_pure _ _) (Own.from (boxed_own _ _ _) _)) (ownFrom_below (Nat.le_refl _) hB)

theorem nodeOk_out (s : Sg) (op n : Int) (k : Nat) (h : ¬ (1 ≤ op ∧ op ≤ 15)) : nodeOk s op n k = false := by
  unfold nodeOk; repeat (rw [if_neg (by omega)])
theorem must_at (s : Sg) (op : Int) (h1 : 1 ≤ op) (h2 : op ≤ 15) : ∃ f, musts[op.toNat]? = some (fv f) ∧ (∀ args w, (callFunc f args).run Try.prog w = .ok (.enter f args) w) ∧
    ∀ (n₀ : Nat) (w : World) (ac : Option Addr) (lc cc : Nat) (af : Option Addr) (lf cf : Nat) (n : Int) (a : Option Addr) (l c : Nat), IsSg n₀ w s ac lc cc af lf cf → n₀ ≤ w.heap.size →
      Calls Try.prog f #[.agg #[.slice ac lc cc, .slice af lf cf], .agg #[.int .i64 op, .int .i64 n, .slice a l c]] w fun e w' => e = .returned (.bool (nodeOk s op n l)) ∧ Below w.heap.size w w' := by
  have h : op = 1 ∨ op = 2 ∨ op = 3 ∨ op = 4 ∨ op = 5 ∨ op = 8 ∨ (6 ≤ op ∧ op ≤ 15 ∧ op ≠ 8) := by omega
  rcases h with rfl | rfl | rfl | rfl | rfl | rfl | ⟨h3, h4, h5⟩
  · exact ⟨66, rfl, enters_of Try.func66 (by kernel_rfl) rfl, fun n₀ w ac lc cc af lf cf n a l c _ _ => g_variable s w ac lc cc af lf cf n a l c⟩
  · exact ⟨67, rfl, enters_of Try.func67 (by kernel_rfl) rfl, fun n₀ w ac lc cc af lf cf n a l c _ _ => g_integer s w ac lc cc af lf cf n a l c⟩
  · exact ⟨68, rfl, enters_of Try.func68 (by kernel_rfl) rfl, fun n₀ w ac lc cc af lf cf n a l c hs hn => g_constructor s n₀ w ac lc cc af lf cf n a l c hs hn⟩
  · exact ⟨69, rfl, enters_of Try.func69 (by kernel_rfl) rfl, fun n₀ w ac lc cc af lf cf n a l c hs hn => g_call s n₀ w ac lc cc af lf cf n a l c hs hn⟩
  · exact ⟨70, rfl, enters_of Try.func70 (by kernel_rfl) rfl, fun n₀ w ac lc cc af lf cf n a l c hs hn => g_part s n₀ w ac lc cc af lf cf n a l c hs hn⟩
  · exact ⟨72, rfl, enters_of Try.func72 (by kernel_rfl) rfl, fun n₀ w ac lc cc af lf cf n a l c _ _ => g_let s w ac lc cc af lf cf n a l c⟩
  · refine ⟨71, ?_, enters_of Try.func71 (by kernel_rfl) rfl, fun n₀ w ac lc cc af lf cf n a l c _ _ => g_two s w ac lc cc af lf cf n a l c op h3 h4 h5⟩
    have h : op = 6 ∨ op = 7 ∨ op = 9 ∨ op = 10 ∨ op = 11 ∨ op = 12 ∨ op = 13 ∨ op = 14 ∨ op = 15 := by omega
    rcases h with rfl | rfl | rfl | rfl | rfl | rfl | rfl | rfl | rfl <;> rfl

theorem keeps_below {B : Nat} {W W' : World} (h : Below W.heap.size W W') : KeepsFrom B W W' :=
  ⟨h.size, fun k o _ hk _ => by rw [h.block k (Array.getElem?_eq_some_iff.1 hk).1]; exact hk⟩
theorem keep_below {n₀ B : Nat} {W W' : World} (h : Below W.heap.size W W') (hn : n₀ ≤ W.heap.size) : Keep n₀ B W W' :=
  ⟨h.mono hn, fun k cs ty fr _ hk => by rw [h.block k (Array.getElem?_eq_some_iff.1 hk).1]; exact hk⟩
theorem boxed_below {B : Nat} {t : TypeId} {v : Value} {W W' : World} (hb : Boxed W B t v) (h : Below W.heap.size W W') : Boxed W' B t v := by
  unfold Boxed; rw [h.block B hb.lt]; exact hb

def nils : Array Value := #[.nilFunc, .nilFunc, .nilFunc, .nilFunc, .nilFunc, .nilFunc, .nilFunc, .nilFunc, .nilFunc, .nilFunc, .nilFunc, .nilFunc, .nilFunc, .nilFunc, .nilFunc, .nilFunc]
set_option maxRecDepth 100000 in
set_option maxHeartbeats 4000000 in
theorem store_musts (W : World) : (storeCells ⟨W.heap.size, 0, none⟩ musts.toList).run Try.prog (W.alloc (.cells nils 93)) = .ok () (W.alloc (.cells musts 93)) := by
  unfold musts nils fv
  go_simp

set_option maxRecDepth 100000 in
set_option maxHeartbeats 4000000 in
/-- 'formed'. -/
theorem formed_any (s : Sg) (d : DT) (n₀ : Nat) (w : World) (ac : Option Addr) (lc cc : Nat) (af : Option Addr) (lf cf : Nat) (hs : 1 + d.size ≤ 1000000) (hn : n₀ ≤ w.heap.size) (hS : IsSg n₀ w s ac lc cc af lf cf) (hL : Lies n₀ w d) :
    Calls Try.prog 25 #[.agg #[.slice ac lc cc, .slice af lf cf], .agg #[.int .i64 d.op, .int .i64 d.n, .slice d.a d.l d.c]] w fun e w' => e = .returned (.bool (formedB s d.tm)) ∧ Below w.heap.size w w' := by
  refine callsIn_wide (n := 10) |>.1 ?_
  refine callsIn_of_wp_marks Try.func25 rfl trivial ?_ rfl
  simp only [Try.ntmps25, List.size_toArray, List.length_cons, List.length_nil, Nat.reduceAdd, Nat.reduceSub, Array.replicate_succ, Array.replicate_zero, List.push_toArray, List.append_toArray, List.nil_append, List.cons_append]
  have hst := store_musts (((((w.alloc (bs 27 ac lc cc af lf cf)).alloc (bx d)).alloc (.cells #[.bool false] 4)).alloc (bs 91 ac lc cc af lf cf)).alloc (.cells musts 93))
  simp only [World.size_alloc, nils] at hst
  gi_wp2_with (first
    | (refine ⟨trivial, ?_⟩; gi_at_call 47; refine (callsIn_wide.2 (mustHave_any _)).mono ?_; rintro e w' ⟨rfl, rfl⟩)
    | (refine ⟨trivial, ?_⟩; gi_at_call 39; refine (callsIn_wide.2 (tnodes_any d _)).mono ?_; rintro e w' ⟨rfl, rfl⟩))
  obtain ⟨W0, hW0⟩ : ∃ W0, W0 = (((((((((w.alloc (bs 27 ac lc cc af lf cf)).alloc (bx d)).alloc (.cells #[.bool false] 4)).alloc (bs 91 ac lc cc af lf cf)).alloc (.cells musts 93)).alloc (.cells musts 93)).alloc (.cells #[.int .i64 0] 3)).alloc (bx d)).alloc (bx d)).alloc kbx := ⟨_, rfl⟩
  have hB0 : Below w.heap.size w W0 := by rw [hW0]; go_grown
  have hsz : W0.heap.size = w.heap.size + 10 := by rw [hW0]; simp
  have b1 : Boxed W0 (w.heap.size + 1 + 1) 4 (.bool false) := by rw [hW0]; have := Boxed.new ((w.alloc (bs 27 ac lc cc af lf cf)).alloc (bx d)) 4 (.bool false); simp only [World.size_alloc] at this; exact ((((((this.alloc _).alloc _).alloc _).alloc _).alloc _).alloc _).alloc _
  have b2 : Boxed W0 (w.heap.size + 1 + 1 + 1 + 1 + 1 + 1) 3 (.int .i64 0) := by rw [hW0]; have := Boxed.new ((((((w.alloc (bs 27 ac lc cc af lf cf)).alloc (bx d)).alloc (.cells #[.bool false] 4)).alloc (bs 91 ac lc cc af lf cf)).alloc (.cells musts 93)).alloc (.cells musts 93)) 3 (.int .i64 0); simp only [World.size_alloc] at this; exact ((this.alloc _).alloc _).alloc _
  have b3 : W0.heap[w.heap.size + 1 + 1 + 1 + 1 + 1]? = some (.cells musts 93 (0, 0)) := by
    rw [hW0]
    have := World.alloc_heap_new (((((w.alloc (bs 27 ac lc cc af lf cf)).alloc (bx d)).alloc (.cells #[.bool false] 4)).alloc (bs 91 ac lc cc af lf cf)).alloc (.cells musts 93)) (.cells musts 93)
    simp only [World.size_alloc] at this
    rw [Below.heap_alloc _ _ _ (by simp), Below.heap_alloc _ _ _ (by simp), Below.heap_alloc _ _ _ (by simp), Below.heap_alloc _ _ _ (by simp)]; exact this
  have b4 : W0.heap[w.heap.size + 1 + 1 + 1]? = some (bs 91 ac lc cc af lf cf) := by
    rw [hW0]
    have := World.alloc_heap_new (((w.alloc (bs 27 ac lc cc af lf cf)).alloc (bx d)).alloc (.cells #[.bool false] 4)) (bs 91 ac lc cc af lf cf)
    simp only [World.size_alloc] at this
    rw [Below.heap_alloc _ _ _ (by simp), Below.heap_alloc _ _ _ (by simp), Below.heap_alloc _ _ _ (by simp), Below.heap_alloc _ _ _ (by simp), Below.heap_alloc _ _ _ (by simp), Below.heap_alloc _ _ _ (by simp)]; exact this
  have bk : W0.cell? ⟨w.heap.size + 1 + 1 + 1 + 1 + 1 + 1 + 1 + 1 + 1, 0, none⟩ = some (.func (.func 62) #[] #[]) := by
    rw [hW0]; have := nw_kids (((((((w.alloc (bs 27 ac lc cc af lf cf)).alloc (bx d)).alloc (.cells #[.bool false] 4)).alloc (bs 91 ac lc cc af lf cf)).alloc (.cells musts 93)).alloc (.cells musts 93)).alloc (.cells #[.int .i64 0] 3)) d; simp only [World.size_alloc] at this; exact this
  have b5 : Cells3 W0 (w.heap.size + 1 + 1 + 1 + 1 + 1 + 1 + 1 + 1) 0 d.op d.n d.a d.l d.c := by
    rw [hW0]; have := nw_top (((((((w.alloc (bs 27 ac lc cc af lf cf)).alloc (bx d)).alloc (.cells #[.bool false] 4)).alloc (bs 91 ac lc cc af lf cf)).alloc (.cells musts 93)).alloc (.cells musts 93)).alloc (.cells #[.int .i64 0] 3)) d; simp only [World.size_alloc] at this; exact this
  rw [show (((((((((w.alloc (bs 27 ac lc cc af lf cf)).alloc (bx d)).alloc (.cells #[.bool false] 4)).alloc (bs 91 ac lc cc af lf cf)).alloc (.cells musts 93)).alloc (.cells musts 93)).alloc (.cells #[.int .i64 0] 3)).alloc (bx d)).alloc (bx d)).alloc kbx = W0 from hW0.symm]
  clear hW0 hst
  replace hsz : W0.heap.size ≤ w.heap.size + 10 ∧ w.heap.size + 10 ≤ W0.heap.size := by omega
  obtain ⟨hsz, hsz'⟩ := hsz
  refine wpIn_rangeFunc_ownH rfl (by omega) (gf := 87) (lb := nlb (w.heap.size + 1 + 1 + 1 + 1 + 1 + 1 + 1)) rfl trivial (enters_of Try.func87 (by kernel_rfl) rfl)
    (nodes_stops _ w.heap.size (w.heap.size + 1 + 1 + 1 + 1 + 1 + 1 + 1 + 1) (w.heap.size + 1 + 1 + 1 + 1 + 1 + 1 + 1 + 1 + 1) d W0 (by omega) (by omega) ((hL.below (hB0.mono hn)).wider hn) b5 bk) Keep.kt (Keep.kb (by omega)) (Below.refl _ _) (fun _ => rfl)
    (fI s w ac lc cc af lf cf) (fX s w) (fI_own s w ac lc cc af lf cf _ (by omega)) (fX_own s w _ (by omega))
    ⟨⟨⟨⟨by simp, b1⟩, b2⟩, b3, b4⟩, hB0, by omega⟩
    (fun x a' W => ∃ Bx, w.heap.size + 1 + 1 + 1 + 1 + 1 + 1 + 1 < Bx ∧ Box3 W Bx x.2 ∧ a' = { tmps := #[.agg #[.slice ac lc cc, .slice af lf cf], .agg #[.int .i64 d.op, .int .i64 d.n, .slice d.a d.l d.c], .pointer (some ⟨w.heap.size, 0, none⟩), .pointer (some ⟨w.heap.size + 1, 0, none⟩), .pointer (some ⟨w.heap.size + 1 + 1, 0, none⟩), .pointer (some ⟨w.heap.size + 1 + 1 + 1, 0, none⟩), .pointer (some ⟨w.heap.size + 1 + 1 + 1 + 1 + 1, 0, none⟩), .pointer (some ⟨w.heap.size + 1 + 1 + 1 + 1 + 1 + 1, 0, none⟩), .int .i64 (x.1 : Nat), .pointer (some ⟨Bx, 0, none⟩), .agg #[.slice ac lc cc, .slice af lf cf], .agg #[.slice ac lc cc, .slice af lf cf], .agg musts, .agg #[.int .i64 d.op, .int .i64 d.n, .slice d.a d.l d.c], .func (.func 87) #[] (nlb (w.heap.size + 1 + 1 + 1 + 1 + 1 + 1 + 1)), .int .i64 (x.1 : Nat), .agg #[.int .i64 x.2.op, .int .i64 x.2.n, .slice x.2.a x.2.l x.2.c], undef, undef, undef, undef, undef, undef, undef, undef, undef, undef, undef, undef, undef, undef, undef, undef, undef, undef, undef, undef, undef, undef, undef, undef, undef, undef], defers := [] })
    (fun x a' _ X Y row hs hg hr => by obtain ⟨Bx, e1, e2, e3⟩ := hs; exact ⟨Bx, e1, Box3.own (β := Unit) Bx x.2 () X Y row e2 hg (fun r e => (hr r e).2), e3⟩)
    ?assign ?body ?done ?stop
  case assign =>
    rintro l pre x W K hI hK
    obtain ⟨⟨⟨⟨hp, r1⟩, r2⟩, r3, r4⟩, hB, h8⟩ := hI
    simp only [List.zip_toArray, List.zip_cons_cons, List.zip_nil_right, List.size_toArray]
    replace hp := Lib.hid hp
    gi_wp2
    have hz := hB.size
    have hBx := (Keep.refl w.heap.size (w.heap.size + 1 + 1 + 1 + 1 + 1 + 1 + 1 + 1 + 1) W).alloc hz (bx x.2)
    exact hK _ _ ((KeepsOthers.alloc _ _).from _) hBx ⟨⟨⟨⟨hp.out, r1.alloc _⟩, r2.alloc _⟩, by rw [Below.heap_alloc _ _ _ (Array.getElem?_eq_some_iff.1 r3).1]; exact r3, by rw [Below.heap_alloc _ _ _ (Array.getElem?_eq_some_iff.1 r4).1]; exact r4⟩, hB.alloc hz _, by simp; omega⟩ ⟨W.heap.size, by omega, Box3.new W x.2, rfl⟩
  case body =>
    rintro l pre x a' W hl hr hI ⟨Bx, hBx, b3, rfl⟩ hlt
    obtain ⟨⟨⟨⟨hp, r1⟩, r2⟩, r3, r4⟩, hB, h8⟩ := hI
    have hlen := hp.1
    obtain ⟨c0, c1, c2⟩ := b3.cells
    have q1 := r1.cell
    have q2 := r1.frozen
    have q3 := r2.cell
    have q4 := r2.frozen
    replace hp := Lib.hid hp
    have hset : Keep w.heap.size (w.heap.size + 1 + 1 + 1 + 1 + 1 + 1 + 1 + 1 + 1) W (W.setCell ⟨w.heap.size + 1 + 1 + 1 + 1 + 1 + 1, 0, none⟩ (.int .i64 ((pre.length : Int) + 1))) := Keep.set W (by omega) (by omega) _
    clear hr hl
    by_cases h40 : 40 < pre.length + 1
    · gi_wp2_with fail
      refine ⟨((KeepsOthers.setCell _ _ _).trans (KeepsOthers.setCell _ _ _)).from _, ⟨⟨rfl, .inl (by simp; omega)⟩, ?_⟩, ?_⟩
      · exact (r1.other (by simp) _).set _
      · exact (hB.setCell (p := ⟨w.heap.size + 1 + 1 + 1 + 1 + 1 + 1, 0, none⟩) (by simp; omega) _).setCell (p := ⟨w.heap.size + 1 + 1, 0, none⟩) (by simp; omega) _
    by_cases h12 : 12 < x.1
    · gi_wp2_with fail
      refine ⟨((KeepsOthers.setCell _ _ _).trans (KeepsOthers.setCell _ _ _)).from _, ⟨⟨rfl, .inr ⟨x, by simp, by simp [goodNd]; omega⟩⟩, ?_⟩, ?_⟩
      · exact (r1.other (by simp) _).set _
      · exact (hB.setCell (p := ⟨w.heap.size + 1 + 1 + 1 + 1 + 1 + 1, 0, none⟩) (by simp; omega) _).setCell (p := ⟨w.heap.size + 1 + 1, 0, none⟩) (by simp; omega) _
    obtain ⟨W2, hW2⟩ : ∃ W2, W2 = W.setCell ⟨w.heap.size + 1 + 1 + 1 + 1 + 1 + 1, 0, none⟩ (.int .i64 ((pre.length : Int) + 1)) := ⟨_, rfl⟩
    have c0' : W2.cell? ⟨Bx, 0, none⟩ = some (.int .i64 x.2.op) := by rw [hW2, World.cell?_setCell_other _ _ _ _ (by simp <;> omega)]; exact c0
    have c1' : W2.cell? ⟨Bx, 1, none⟩ = some (.int .i64 x.2.n) := by rw [hW2, World.cell?_setCell_other _ _ _ _ (by simp <;> omega)]; exact c1
    have c2' : W2.cell? ⟨Bx, 2, none⟩ = some (.slice x.2.a x.2.l x.2.c) := by rw [hW2, World.cell?_setCell_other _ _ _ _ (by simp <;> omega)]; exact c2
    have g0 : W2.cell? ⟨w.heap.size + 1 + 1 + 1, 0, none⟩ = some (.slice ac lc cc) := by rw [hW2, World.cell?_setCell_other _ _ _ _ (by simp)]; simp [World.cell?, r4]
    have g1 : W2.cell? ⟨w.heap.size + 1 + 1 + 1, 1, none⟩ = some (.slice af lf cf) := by rw [hW2, World.cell?_setCell_other _ _ _ _ (by simp)]; simp [World.cell?, r4]
    have rb : Boxed W2 (w.heap.size + 1 + 1) 4 (.bool false) := by rw [hW2]; exact r1.other (by simp) _
    have hB2 : Below w.heap.size w W2 := by rw [hW2]; exact hB.setCell (p := ⟨w.heap.size + 1 + 1 + 1 + 1 + 1 + 1, 0, none⟩) (by simp; omega) _
    have rcn : Boxed W2 (w.heap.size + 1 + 1 + 1 + 1 + 1 + 1) 3 (.int .i64 ((pre.length : Int) + 1)) := by rw [hW2]; exact r2.set _
    have hKF : KeepsFrom W0.heap.size W W2 := by rw [hW2]; exact (KeepsOthers.setCell _ _ _).from _
    have hW2b : ∀ k, k ≠ w.heap.size + 1 + 1 + 1 + 1 + 1 + 1 → W2.heap[k]? = W.heap[k]? := fun k hk => by rw [hW2]; exact Below.heap_setCell _ _ _ _ hk
    rw [← hW2] at hset
    have hz2 : W2.heap.size = W.heap.size := by rw [hW2]; simp [World.setCell]
    replace hW2b := Lib.hid hW2b
    by_cases hop : 1 ≤ x.2.op ∧ x.2.op ≤ 15
    · obtain ⟨f, e1, e2, e3⟩ := must_at s x.2.op hop.1 hop.2
      have m0 : W2.cell? ⟨w.heap.size + 1 + 1 + 1 + 1 + 1, x.2.op.toNat, none⟩ = some (fv f) := by rw [hW2, World.cell?_setCell_other _ _ _ _ (by simp)]; simp [World.cell?, r3, e1]
      replace r3 := Lib.hid r3
      replace r4 := Lib.hid r4
      have hC := fun dd os => (e3 n₀ (grow (redrawn W2 dd) os) ac lc cc af lf cf x.2.n x.2.a x.2.l x.2.c (hS.below ((hB2.trans ((below_regrown W2 dd os).mono hB2.size)).mono hn)) (by have := (below_regrown W2 dd os).size; have := hB2.size; omega)).regrown_of
      gi_wp2_with fail
      rw [← hW2]
      clear hW2
      refine wpIn_round_quiet_below (by kernel_rfl) (by kernel_rfl) (by kernel_rfl) ?hq ?_
      case hq => rintro ⟨a, w, h⟩; simp [Exit.then, Exit.inBlock, ownPostG] at h
      have d0 := fun dd os => cell_regrown c0' dd os
      have d1 := fun dd os => cell_regrown c1' dd os
      have d2 := fun dd os => cell_regrown c2' dd os
      have d3 := fun dd os => cell_regrown g0 dd os
      have d4 := fun dd os => cell_regrown g1 dd os
      have d5 := fun dd os => cell_regrown m0 dd os
      have o1 : (0 : Int) ≤ x.2.op := by omega
      have o2 : x.2.op < (16 : Int) := by omega
      have o3 : decide (x.2.op < 1) = false := by simp; omega
      have o4 : decide ((16 : Int) ≤ x.2.op) = false := by simp; omega
      clear c0' c1' c2' g0 g1 m0 c0 c1 c2 b3 r1 r2 q1 q2 q3 q4 b1 b2 b4 b5
      repeat (quiet_step (first | exact hC _ _))
      refine wpQuiet_nil ?_
      rintro _ ⟨⟨dq, osq⟩, rfl⟩
      have hb3 := below_regrown W2 dq osq
      obtain ⟨W3, hW3⟩ : ∃ W3, W3 = grow (redrawn W2 dq) osq := ⟨_, rfl⟩
      simp only [← hW3] at hb3 ⊢
      have rb3 := boxed_below rb hb3
      have rc3 := boxed_below rcn hb3
      have q1 := rb3.cell
      have q2 := rb3.frozen
      have hz3 := hb3.size
      clear hW3 d0 d1 d2 d3 d4
      clear d5 hC
      cases hno : nodeOk s x.2.op x.2.n x.2.l
      · replace hno := Lib.hid hno
        gi_wp2_with fail
        refine ⟨(hKF.trans (keeps_below hb3)).trans ((KeepsOthers.setCell _ _ _).from _), ⟨⟨rfl, .inr ⟨x, by simp, by simp [goodNd, hno.out]⟩⟩, rb3.set _⟩, ?_⟩
        exact (hB2.trans (hb3.mono hB2.size)).setCell (p := ⟨w.heap.size + 1 + 1, 0, none⟩) (by simp; omega) _
      · replace hno := Lib.hid hno
        gi_wp2_with fail
        refine ⟨hKF.trans (keeps_below hb3), hset.trans (keep_below hb3 hB2.size), ⟨⟨⟨⟨by simp; omega, fun y hy => (List.mem_append.1 hy).elim (hp.out.2 y) (fun e => by simp at e; subst e; simp [goodNd, hno.out]; omega)⟩, rb3⟩, by simpa using rc3⟩, by rw [hb3.block _ (by omega), hW2b.out _ (by omega)]; exact r3.out, by rw [hb3.block _ (by omega), hW2b.out _ (by omega)]; exact r4.out⟩, hB2.trans (hb3.mono hB2.size), by omega⟩
    · have o3 : decide (x.2.op < 1) = true ∨ (decide (x.2.op < 1) = false ∧ decide ((16 : Int) ≤ x.2.op) = true) := by simp; omega
      gi_wp2_with fail
      rw [← hW2]
      clear hW2
      refine wpIn_round_quiet_below (by kernel_rfl) (by kernel_rfl) (by kernel_rfl) ?hq2 ?_
      case hq2 => rintro ⟨a, w, h⟩; simp [Exit.then, Exit.inBlock, ownPostG] at h
      have d0 := fun dd os => cell_regrown c0' dd os
      have d1 := fun dd os => cell_regrown c1' dd os
      have d2 := fun dd os => cell_regrown c2' dd os
      have d3 := fun dd os => cell_regrown g0 dd os
      have d4 := fun dd os => cell_regrown g1 dd os
      clear c0' c1' c2' g0 g1 c0 c1 c2 b3 r1 r2 q1 q2 q3 q4 b1 b2 b4 b5
      rcases o3 with o3 | ⟨o3, o4⟩
      all_goals
        repeat (any_goals (first | go_big_quiet_step (fail) | quiet_step (fail)))
        skip
        refine wpQuiet_nil ?_
        rintro _ ⟨⟨dq, osq⟩, rfl⟩
        have hb3 := below_regrown W2 dq osq
        obtain ⟨W3, hW3⟩ : ∃ W3, W3 = grow (redrawn W2 dq) osq := ⟨_, rfl⟩
        simp only [← hW3] at hb3 ⊢
        have rb3 := boxed_below rb hb3
        have rc3 := boxed_below rcn hb3
        have q1 := rb3.cell
        have q2 := rb3.frozen
        have hz3 := hb3.size
        clear hW3 d0 d1 d2 d3 d4
        gi_wp2_with fail
        refine ⟨(hKF.trans (keeps_below hb3)).trans ((KeepsOthers.setCell _ _ _).from _), ⟨⟨rfl, .inr ⟨x, by simp, by rw [goodNd, nodeOk_out s x.2.op x.2.n x.2.l (by omega), Bool.and_false]⟩⟩, rb3.set _⟩, ?_⟩
        exact (hB2.trans (hb3.mono hB2.size)).setCell (p := ⟨w.heap.size + 1 + 1, 0, none⟩) (by simp; omega) _
  case done =>
    rintro D ys W hD rfl hI hK
    obtain ⟨⟨⟨⟨hp, r1⟩, r2⟩, r3, r4⟩, hB, h8⟩ := hI
    have hbx' := r1.set (.bool true)
    have hK' := (KeepsOthers.setCell W ⟨w.heap.size + 1 + 1, 0, none⟩ (.bool true)).same D _ hK rfl
    have q1 := r1.cell
    have q2 := r1.frozen
    replace hp := Lib.hid hp
    clear r2 r3 r4 b1 b2 b3 b4 b5
    gi_wp2
    refine ⟨by simp, .inl ⟨_, _, rfl, run_takeDeferred hK', ?_⟩⟩
    have hc5 := cell_kept hbx'.cell (grownBy_putObj' _ D (.deferred none)) (fun r e => by cases e; exact ⟨_, hK', rfl⟩)
    refine ⟨.bool true, ?_, ?_, (hB.setCell (p := ⟨w.heap.size + 1 + 1, 0, none⟩) (by simp; omega) _).trans (belowK_b (w := w) (Nat.le_refl _) _ D _ _ (by omega) hK' rfl rfl)⟩
    · simp [results, Try.f25, go_sem, hc5]
    · rw [formed_pre s hL, List.all_eq_true.2 hp.out.2, decide_eq_true (by have := hp.out.1; rw [pre_length] at this; exact this)]; rfl
  case stop =>
    rintro D c pre W hD hpre ⟨⟨⟨rfl, hbad⟩, r1⟩, hB⟩ hK
    replace hbad := Lib.hid hbad
    clear b1 b2 b3 b4 b5
    gi_wp2
    refine ⟨by simp, .inl ⟨_, _, rfl, run_takeDeferred hK, ?_⟩⟩
    have hc5 := cell_kept r1.cell (grownBy_putObj' _ D (.deferred none)) (fun r e => by cases e; exact ⟨_, hK, rfl⟩)
    refine ⟨.bool false, ?_, ?_, hB.trans (belowK_b (w := w) (Nat.le_refl _) W D _ _ (by omega) hK rfl rfl)⟩
    · simp [results, Try.f25, go_sem, hc5]
    · rw [formed_pre s hL]
      rcases hbad.out with h | ⟨x, hx, hf⟩
      · rw [decide_eq_false (by have h1 := hpre.length_le; rw [pre_length] at h1; omega)]; rfl
      · rw [List.all_eq_false.2 ⟨x, hpre.subset hx, by simp [hf]⟩, Bool.and_false]

end Go.Proofs.Ythlegfegkopdkaa
