/- Own text, joined of: C3 C4 A3 A4.  -/
import Derived.RangeFuncBox
import Derived.RangeFuncNested
import Derived.RangeFuncBound
import Derived.RangeFuncCalls
import Derived.RangeFuncLeaves
import Derived.Shelf.Abstract
import Derived.WalkKit
import Derived.OwnWalkIn
import Derived.TacticsInMore
import Derived.LoopNIn
import Derived.LoopIn
import Derived.Laws.EntriesVeiled
import Derived.Test.YthlegfegkopdkaaKn03

namespace Go.Proofs.Ythlegfegkopdkaa
open Go.RowKit Go.Shelf
attribute [local go_sem] Oper.semAt_some

abbrev bx (d : DT) : Obj := .cells #[.int .i64 d.op, .int .i64 d.n, .slice d.a d.l d.c] 32
theorem Keep.set {n₀ B b : Nat} (W : World) (h1 : n₀ ≤ b) (h2 : b < B) (v : Value) : Keep n₀ B W (W.setCell ⟨b, 0, none⟩ v) :=
  ⟨(Below.refl _ _).setCell (p := ⟨b, 0, none⟩) h1 v, fun k cs ty fr hB hk => by rw [Below.heap_setCell _ _ _ _ (by simp; omega)]; exact hk⟩

set_option maxRecDepth 100000 in
set_option maxHeartbeats 2000000 in
/-- 'size': how many nodes a term has. -/
theorem size_any (d : DT) (n₀ : Nat) (w : World) (hs : 1 + d.size ≤ 1000000) (hn : n₀ ≤ w.heap.size) (hL : Lies n₀ w d) :
    Calls Try.prog 85 #[.agg #[.int .i64 d.op, .int .i64 d.n, .slice d.a d.l d.c]] w fun e w' => e = .returned (.int .i64 (d.size : Nat)) ∧ Below w.heap.size w w' := by
  refine callsIn_wide (n := 10) |>.1 ?_
  refine callsIn_of_wp_marks Try.func85 rfl trivial ?_ rfl
  simp only [Try.ntmps85, List.size_toArray, List.length_cons, List.length_nil, Nat.reduceAdd, Nat.reduceSub, Array.replicate_succ, Array.replicate_zero, List.push_toArray, List.append_toArray, List.nil_append, List.cons_append]
  gi_wp2_with (refine ⟨trivial, ?_⟩; gi_at_call 39; refine (callsIn_wide.2 (tnodes_any d _)).mono ?_; rintro e w' ⟨rfl, rfl⟩)
  have hB0 : Below w.heap.size w (((((w.alloc (bx d)).alloc (.cells #[.int .i64 0] 3)).alloc (bx d)).alloc (bx d)).alloc kbx) := by go_grown
  have b1 := (((Boxed.new (w.alloc (bx d)) 3 (.int .i64 0)).alloc (bx d)).alloc (bx d)).alloc kbx
  have b2 := nw_top ((w.alloc (bx d)).alloc (.cells #[.int .i64 0] 3)) d
  have bk := nw_kids ((w.alloc (bx d)).alloc (.cells #[.int .i64 0] 3)) d
  rw [World.size_alloc] at b1
  rw [World.size_alloc, World.size_alloc] at b2 bk
  refine wpIn_rangeFunc_ownF rfl (by omega) (gf := 87) (lb := nlb (w.heap.size + 1 + 1)) rfl trivial (enters_of Try.func87 (by kernel_rfl) rfl)
    (nodes_stops _ w.heap.size (w.heap.size + 1 + 1 + 1) (w.heap.size + 1 + 1 + 1 + 1) d _ (by omega) (by omega) ((hL.below (hB0.mono hn)).wider hn) b2 bk) Keep.kt (Keep.kb (by simp; omega)) (Below.refl _ _) (fun _ => rfl)
    (fun pre W => Boxed W (w.heap.size + 1) 3 (.int .i64 (pre.length : Nat)) ∧ Below w.heap.size w W)
    (fun _ _ _ => False)
    (OwnFrom.and (Own.from (boxed_own _ _ _) _) (ownFrom_below (Nat.le_refl _) (by simp; omega)))
    (fun _ _ _ _ _ hs _ _ => hs)
    ⟨b1, hB0⟩
    (fun x => { tmps := #[.agg #[.int .i64 d.op, .int .i64 d.n, .slice d.a d.l d.c], .pointer (some ⟨w.heap.size, 0, none⟩), .int .i64 0, .pointer (some ⟨w.heap.size + 1, 0, none⟩), .agg #[.int .i64 d.op, .int .i64 d.n, .slice d.a d.l d.c], .func (.func 87) #[] (nlb (w.heap.size + 1 + 1)), .int .i64 (x.1 : Nat), .agg #[.int .i64 x.2.op, .int .i64 x.2.n, .slice x.2.a x.2.l x.2.c], undef, undef, undef], defers := [] }) ?assign ?body ?done ?stop
  case assign =>
    intro l x W K hK
    gi_wp2
    simp only [List.zip_toArray, List.zip_cons_cons, List.zip_nil_right, List.size_toArray]
    exact hK
  case body =>
    rintro l pre x W ⟨hbx, hB⟩ hlt
    have c1 := hbx.cell
    have f1 := hbx.frozen
    gi_wp2
    refine ⟨KeepsOthers.setCell _ _ _, Keep.set _ (by omega) (by omega) _, ?_, hB.setCell (p := ⟨w.heap.size + 1, 0, none⟩) (by simp) _⟩
    have := hbx.set (.int .i64 ((pre.length : Int) + 1))
    simpa using this
  case done =>
    rintro D ys W hD rfl ⟨hbx, hB⟩ hK
    have c1 := hbx.cell
    gi_wp2
    refine ⟨by simp, .inl ⟨_, _, rfl, run_takeDeferred hK, ?_⟩⟩
    exact ⟨_, results_tmp rfl _ _ _, by simp [pre_length], hB.trans (belowK_b (w := w) (Nat.le_refl _) W D _ _ (by simp at hD; omega) hK rfl rfl)⟩
  case stop =>
    rintro D c pre W _ _ h _
    exact h.elim

end Go.Proofs.Ythlegfegkopdkaa

namespace Go.Proofs.Ythlegfegkopdkaa
open Go.RowKit Go.Shelf
attribute [local go_sem] Oper.semAt_some

mutual
def allN (p : Int → Int → Bool) : Tm → Bool | .mk op n ks => p op n && allNs p ks
def allNs (p : Int → Int → Bool) : List Tm → Bool | [] => true | t :: ts => allN p t && allNs p ts
end
mutual
theorem pre_all (p : Int → Int → Bool) : ∀ (d : DT) (dep : Nat), (d.pre dep).all (fun x => p x.2.op x.2.n) = allN p d.tm
  | .mk op n _ _ _ ks, dep => by rw [DT.pre, DT.tm, allN, List.all_cons, pres_all p ks (dep + 1)]; rfl
theorem pres_all (p : Int → Int → Bool) : ∀ (ds : List DT) (dep : Nat), (pres ds dep).all (fun x => p x.2.op x.2.n) = allNs p (tms ds)
  | [], _ => by simp [pres, tms, allNs]
  | d :: ds, dep => by simp [pres, tms, allNs, pre_all p d dep, pres_all p ds dep]
end
theorem allN_false {p : Int → Int → Bool} {d : DT} {pre : List Nd} {x : Nd} (hp : pre <+: d.pre 1) (hx : x ∈ pre) (hf : p x.2.op x.2.n = false) : allN p d.tm = false := by
  rw [← pre_all p d 1, List.all_eq_false]
  exact ⟨x, hp.subset hx, by simp [hf]⟩
theorem allN_true {p : Int → Int → Bool} {d : DT} (h : ∀ x ∈ d.pre 1, p x.2.op x.2.n = true) : allN p d.tm = true := by
  rw [← pre_all p d 1, List.all_eq_true]
  exact h

def Box3 (W : World) (B : Nat) (d : DT) : Prop := W.heap[B]? = some (bx d)
theorem Box3.new (W : World) (d : DT) : Box3 (W.alloc (bx d)) W.heap.size d := World.alloc_heap_new W _
theorem Box3.lt {W : World} {B : Nat} {d : DT} (h : Box3 W B d) : B < W.heap.size := (Array.getElem?_eq_some_iff.1 h).1
theorem Box3.cells {W : World} {B : Nat} {d : DT} (h : Box3 W B d) : Cells3 W B 0 d.op d.n d.a d.l d.c := by
  unfold Box3 bx at h; exact ⟨by simp [World.cell?, h], by simp [World.cell?, h], by simp [World.cell?, h]⟩
theorem Box3.own {β : Type} (B : Nat) (d : DT) : Own (fun (_ : β) W => Box3 W B d) := fun s X Y row hs hg hrow => by
  refine (hg.block B hs.lt (fun e => ?_)).trans hs
  obtain ⟨o, ho, hc⟩ := hrow B e.symm
  rw [show X.heap[B]? = _ from hs] at ho
  cases ho; simp [Obj.isCells] at hc

def groundB (t : Tm) : Bool := allN (fun op _ => !(op == 1)) t

set_option maxRecDepth 100000 in
set_option maxHeartbeats 2000000 in
/-- 'isGround'. -/
theorem isGround_any (d : DT) (n₀ : Nat) (w : World) (hs : 1 + d.size ≤ 1000000) (hn : n₀ ≤ w.heap.size) (hL : Lies n₀ w d) :
    Calls Try.prog 21 #[.agg #[.int .i64 d.op, .int .i64 d.n, .slice d.a d.l d.c]] w fun e w' => e = .returned (.bool (groundB d.tm)) ∧ Below w.heap.size w w' := by
  refine callsIn_wide (n := 10) |>.1 ?_
  refine callsIn_of_wp_marks Try.func21 rfl trivial ?_ rfl
  simp only [Try.ntmps21, List.size_toArray, List.length_cons, List.length_nil, Nat.reduceAdd, Nat.reduceSub, Array.replicate_succ, Array.replicate_zero, List.push_toArray, List.append_toArray, List.nil_append, List.cons_append]
  gi_wp2_with (refine ⟨trivial, ?_⟩; gi_at_call 39; refine (callsIn_wide.2 (tnodes_any d _)).mono ?_; rintro e w' ⟨rfl, rfl⟩)
  have hB0 : Below w.heap.size w (((((w.alloc (bx d)).alloc (.cells #[.bool false] 4)).alloc (bx d)).alloc (bx d)).alloc kbx) := by go_grown
  have b1 := (((Boxed.new (w.alloc (bx d)) 4 (.bool false)).alloc (bx d)).alloc (bx d)).alloc kbx
  have b2 := nw_top ((w.alloc (bx d)).alloc (.cells #[.bool false] 4)) d
  have bk := nw_kids ((w.alloc (bx d)).alloc (.cells #[.bool false] 4)) d
  rw [World.size_alloc] at b1
  rw [World.size_alloc, World.size_alloc] at b2 bk
  refine wpIn_rangeFunc_ownH rfl (by omega) (gf := 87) (lb := nlb (w.heap.size + 1 + 1)) rfl trivial (enters_of Try.func87 (by kernel_rfl) rfl)
    (nodes_stops _ w.heap.size (w.heap.size + 1 + 1 + 1) (w.heap.size + 1 + 1 + 1 + 1) d _ (by omega) (by omega) ((hL.below (hB0.mono hn)).wider hn) b2 bk) Keep.kt (Keep.kb (by simp; omega)) (Below.refl _ _) (fun _ => rfl)
    (fun pre W => ((∀ x ∈ pre, (!(x.2.op == 1)) = true) ∧ Boxed W (w.heap.size + 1) 4 (.bool false)) ∧ Below w.heap.size w W)
    (fun c pre W => ((c = .ret ∧ ∃ x ∈ pre, (!(x.2.op == 1)) = false) ∧ Boxed W (w.heap.size + 1) 4 (.bool false)) ∧ Below w.heap.size w W)
    (OwnFrom.and (OwnFrom.and (ownFrom_pure _ _) (Own.from (boxed_own _ _ _) _)) (ownFrom_below (Nat.le_refl _) (by simp; omega)))
    (fun c => OwnFrom.and (OwnFrom.and (ownFrom_pure _ _) (Own.from (boxed_own _ _ _) _)) (ownFrom_below (Nat.le_refl _) (by simp; omega)))
    ⟨⟨by simp, b1⟩, hB0⟩
    (fun x a' W => ∃ Bx, w.heap.size + 1 < Bx ∧ Box3 W Bx x.2 ∧ a' = { tmps := #[.agg #[.int .i64 d.op, .int .i64 d.n, .slice d.a d.l d.c], .pointer (some ⟨w.heap.size, 0, none⟩), .pointer (some ⟨w.heap.size + 1, 0, none⟩), undef, .pointer (some ⟨Bx, 0, none⟩), .agg #[.int .i64 d.op, .int .i64 d.n, .slice d.a d.l d.c], .func (.func 87) #[] (nlb (w.heap.size + 1 + 1)), .int .i64 (x.1 : Nat), .agg #[.int .i64 x.2.op, .int .i64 x.2.n, .slice x.2.a x.2.l x.2.c], undef, undef, undef], defers := [] })
    (fun x a' _ X Y row hs hg hr => by obtain ⟨Bx, e1, e2, e3⟩ := hs; exact ⟨Bx, e1, Box3.own (β := Unit) Bx x.2 () X Y row e2 hg (fun r e => (hr r e).2), e3⟩)
    ?assign ?body ?done ?stop
  case assign =>
    rintro l pre x W K ⟨⟨hp, hbx⟩, hB⟩ hK
    simp only [List.zip_toArray, List.zip_cons_cons, List.zip_nil_right, List.size_toArray]
    gi_wp2
    exact hK _ _ ((KeepsOthers.alloc _ _).from _) ((Keep.refl _ _ W).alloc hB.size _) ⟨⟨hp, hbx.alloc _⟩, hB.alloc hB.size _⟩ ⟨W.heap.size, hbx.lt, Box3.new W x.2, rfl⟩
  case body =>
    rintro l pre x a' W hl _ ⟨⟨hp, hbx⟩, hB⟩ ⟨Bx, hBx, b3, rfl⟩ hlt
    obtain ⟨c0, c1, c2⟩ := b3.cells
    have r1 := hbx.cell
    have r2 := hbx.frozen
    gi_wp2
    · rename_i hx
      have hb' := hbx.set (.bool false)
      exact ⟨(KeepsOthers.setCell _ _ _).from _, ⟨⟨rfl, x, List.mem_append.2 (.inr (by simp)), by simpa using hx⟩, hb'⟩, hB.setCell (p := ⟨w.heap.size + 1, 0, none⟩) (by simp) _⟩
    · rename_i hx
      exact ⟨(KeepsOthers.refl _).from _, Keep.refl _ _ _, ⟨fun y hy => (List.mem_append.1 hy).elim (hp y) (fun e => by simp at e; subst e; simpa using hx), hbx⟩, hB⟩
  case done =>
    rintro D ys W hD rfl ⟨⟨hp, hbx⟩, hB⟩ hK
    have hbx' := hbx.set (.bool true)
    have hK' := (KeepsOthers.setCell W ⟨w.heap.size + 1, 0, none⟩ (.bool true)).same D _ hK rfl
    have r1 := hbx.cell
    have r2 := hbx.frozen
    gi_wp2
    refine ⟨by simp, .inl ⟨_, _, rfl, run_takeDeferred hK', ?_⟩⟩
    have hc5 := cell_kept hbx'.cell (grownBy_putObj' _ D (.deferred none)) (fun r e => by cases e; exact ⟨_, hK', rfl⟩)
    refine ⟨.bool true, ?_, by unfold groundB; rw [allN_true (p := fun op _ => !(op == 1)) hp], (hB.setCell (p := ⟨w.heap.size + 1, 0, none⟩) (by simp) _).trans (belowK_b (w := w) (Nat.le_refl _) _ D _ _ (by simp at hD; omega) hK' rfl rfl)⟩
    simp [results, Try.f21, go_sem, hc5]
  case stop =>
    rintro D c pre W hD hpre ⟨⟨⟨rfl, x, hin, hx⟩, hbx⟩, hB⟩ hK
    gi_wp2
    refine ⟨by simp, .inl ⟨_, _, rfl, run_takeDeferred hK, ?_⟩⟩
    have hc5 := cell_kept hbx.cell (grownBy_putObj' _ D (.deferred none)) (fun r e => by cases e; exact ⟨_, hK, rfl⟩)
    refine ⟨.bool false, ?_, by unfold groundB; rw [allN_false (p := fun op _ => !(op == 1)) hpre hin hx], hB.trans (belowK_b (w := w) (Nat.le_refl _) W D _ _ (by simp at hD; omega) hK rfl rfl)⟩
    simp [results, Try.f21, go_sem, hc5]

def valOp (op : Int) : Bool := (decide (1 ≤ op) && decide (op ≤ 3)) || op == 5
def valueB (t : Tm) : Bool := allN (fun op _ => valOp op) t

set_option maxRecDepth 100000 in
set_option maxHeartbeats 2000000 in
/-- 'isValue'. -/
theorem isValue_any (d : DT) (n₀ : Nat) (w : World) (hs : 1 + d.size ≤ 1000000) (hn : n₀ ≤ w.heap.size) (hL : Lies n₀ w d) :
    Calls Try.prog 20 #[.agg #[.int .i64 d.op, .int .i64 d.n, .slice d.a d.l d.c]] w fun e w' => e = .returned (.bool (valueB d.tm)) ∧ Below w.heap.size w w' := by
  refine callsIn_wide (n := 10) |>.1 ?_
  refine callsIn_of_wp_marks Try.func20 rfl trivial ?_ rfl
  simp only [Try.ntmps20, List.size_toArray, List.length_cons, List.length_nil, Nat.reduceAdd, Nat.reduceSub, Array.replicate_succ, Array.replicate_zero, List.push_toArray, List.append_toArray, List.nil_append, List.cons_append]
  gi_wp2_with (refine ⟨trivial, ?_⟩; gi_at_call 39; refine (callsIn_wide.2 (tnodes_any d _)).mono ?_; rintro e w' ⟨rfl, rfl⟩)
  have hB0 : Below w.heap.size w (((((w.alloc (bx d)).alloc (.cells #[.bool false] 4)).alloc (bx d)).alloc (bx d)).alloc kbx) := by go_grown
  have b1 := (((Boxed.new (w.alloc (bx d)) 4 (.bool false)).alloc (bx d)).alloc (bx d)).alloc kbx
  have b2 := nw_top ((w.alloc (bx d)).alloc (.cells #[.bool false] 4)) d
  have bk := nw_kids ((w.alloc (bx d)).alloc (.cells #[.bool false] 4)) d
  rw [World.size_alloc] at b1
  rw [World.size_alloc, World.size_alloc] at b2 bk
  refine wpIn_rangeFunc_ownH rfl (by omega) (gf := 87) (lb := nlb (w.heap.size + 1 + 1)) rfl trivial (enters_of Try.func87 (by kernel_rfl) rfl)
    (nodes_stops _ w.heap.size (w.heap.size + 1 + 1 + 1) (w.heap.size + 1 + 1 + 1 + 1) d _ (by omega) (by omega) ((hL.below (hB0.mono hn)).wider hn) b2 bk) Keep.kt (Keep.kb (by simp; omega)) (Below.refl _ _) (fun _ => rfl)
    (fun pre W => ((∀ x ∈ pre, valOp x.2.op = true) ∧ Boxed W (w.heap.size + 1) 4 (.bool false)) ∧ Below w.heap.size w W)
    (fun c pre W => ((c = .ret ∧ ∃ x ∈ pre, valOp x.2.op = false) ∧ Boxed W (w.heap.size + 1) 4 (.bool false)) ∧ Below w.heap.size w W)
    (OwnFrom.and (OwnFrom.and (ownFrom_pure _ _) (Own.from (boxed_own _ _ _) _)) (ownFrom_below (Nat.le_refl _) (by simp; omega)))
    (fun c => OwnFrom.and (OwnFrom.and (ownFrom_pure _ _) (Own.from (boxed_own _ _ _) _)) (ownFrom_below (Nat.le_refl _) (by simp; omega)))
    ⟨⟨by simp, b1⟩, hB0⟩
    (fun x a' W => ∃ Bx, w.heap.size + 1 < Bx ∧ Box3 W Bx x.2 ∧ a' = { tmps := #[.agg #[.int .i64 d.op, .int .i64 d.n, .slice d.a d.l d.c], .pointer (some ⟨w.heap.size, 0, none⟩), .pointer (some ⟨w.heap.size + 1, 0, none⟩), undef, .pointer (some ⟨Bx, 0, none⟩), .agg #[.int .i64 d.op, .int .i64 d.n, .slice d.a d.l d.c], .func (.func 87) #[] (nlb (w.heap.size + 1 + 1)), .int .i64 (x.1 : Nat), .agg #[.int .i64 x.2.op, .int .i64 x.2.n, .slice x.2.a x.2.l x.2.c], undef, undef, undef, undef, undef, undef, undef], defers := [] })
    (fun x a' _ X Y row hs hg hr => by obtain ⟨Bx, e1, e2, e3⟩ := hs; exact ⟨Bx, e1, Box3.own (β := Unit) Bx x.2 () X Y row e2 hg (fun r e => (hr r e).2), e3⟩)
    ?assign ?body ?done ?stop
  case assign =>
    rintro l pre x W K ⟨⟨hp, hbx⟩, hB⟩ hK
    simp only [List.zip_toArray, List.zip_cons_cons, List.zip_nil_right, List.size_toArray]
    gi_wp2
    exact hK _ _ ((KeepsOthers.alloc _ _).from _) ((Keep.refl _ _ W).alloc hB.size _) ⟨⟨hp, hbx.alloc _⟩, hB.alloc hB.size _⟩ ⟨W.heap.size, hbx.lt, Box3.new W x.2, rfl⟩
  case body =>
    rintro l pre x a' W hl _ ⟨⟨hp, hbx⟩, hB⟩ ⟨Bx, hBx, b3, rfl⟩ hlt
    obtain ⟨c0, c1, c2⟩ := b3.cells
    have r1 := hbx.cell
    have r2 := hbx.frozen
    by_cases hx : valOp x.2.op = true
    · have hx' : x.2.op = 1 ∨ x.2.op = 2 ∨ x.2.op = 3 ∨ x.2.op = 5 := by simp [valOp] at hx; omega
      replace hx := Lib.hid hx
      have hend := Lib.hid (show KeepsFrom (((((w.alloc (bx d)).alloc (.cells #[.bool false] 4)).alloc (bx d)).alloc (bx d)).alloc kbx).heap.size W W ∧ Keep w.heap.size (w.heap.size + 1 + 1 + 1 + 1) W W ∧ ((∀ y ∈ pre ++ [x], valOp y.2.op = true) ∧ Boxed W (w.heap.size + 1) 4 (.bool false)) ∧ Below w.heap.size w W from
        ⟨(KeepsOthers.refl _).from _, Keep.refl _ _ _, ⟨fun y hy => (List.mem_append.1 hy).elim (hp y) (fun e => by simp at e; subst e; exact hx.out), hbx⟩, hB⟩)
      gi_wp2
      all_goals first | exact hend.out | (exfalso; simp at *; omega)
    · have hx' : ¬ (x.2.op = 1 ∨ x.2.op = 2 ∨ x.2.op = 3 ∨ x.2.op = 5) := by simp [valOp] at hx; omega
      have e1 : (x.2.op == 1) = false := by simp; omega
      have e2 : (x.2.op == 2) = false := by simp; omega
      have e3 : (x.2.op == 3) = false := by simp; omega
      have e5 : (x.2.op == 5) = false := by simp; omega
      replace hx := Lib.hid (Bool.eq_false_iff.2 hx)
      clear hx'
      gi_wp2
      have hb' := hbx.set (.bool false)
      exact ⟨(KeepsOthers.setCell _ _ _).from _, ⟨⟨rfl, x, List.mem_append.2 (.inr (by simp)), hx.out⟩, hb'⟩, hB.setCell (p := ⟨w.heap.size + 1, 0, none⟩) (by simp) _⟩
  case done =>
    rintro D ys W hD rfl ⟨⟨hp, hbx⟩, hB⟩ hK
    have hbx' := hbx.set (.bool true)
    have hK' := (KeepsOthers.setCell W ⟨w.heap.size + 1, 0, none⟩ (.bool true)).same D _ hK rfl
    have r1 := hbx.cell
    have r2 := hbx.frozen
    gi_wp2
    refine ⟨by simp, .inl ⟨_, _, rfl, run_takeDeferred hK', ?_⟩⟩
    have hc5 := cell_kept hbx'.cell (grownBy_putObj' _ D (.deferred none)) (fun r e => by cases e; exact ⟨_, hK', rfl⟩)
    refine ⟨.bool true, ?_, by unfold valueB; rw [allN_true (p := fun op _ => valOp op) hp], (hB.setCell (p := ⟨w.heap.size + 1, 0, none⟩) (by simp) _).trans (belowK_b (w := w) (Nat.le_refl _) _ D _ _ (by simp at hD; omega) hK' rfl rfl)⟩
    simp [results, Try.f20, go_sem, hc5]
  case stop =>
    rintro D c pre W hD hpre ⟨⟨⟨rfl, x, hin, hx⟩, hbx⟩, hB⟩ hK
    gi_wp2
    refine ⟨by simp, .inl ⟨_, _, rfl, run_takeDeferred hK, ?_⟩⟩
    have hc5 := cell_kept hbx.cell (grownBy_putObj' _ D (.deferred none)) (fun r e => by cases e; exact ⟨_, hK, rfl⟩)
    refine ⟨.bool false, ?_, by unfold valueB; rw [allN_false (p := fun op _ => valOp op) hpre hin hx], hB.trans (belowK_b (w := w) (Nat.le_refl _) W D _ _ (by simp at hD; omega) hK rfl rfl)⟩
    simp [results, Try.f20, go_sem, hc5]

end Go.Proofs.Ythlegfegkopdkaa

namespace Go.Proofs.Ythlegfegkopdkaa
open Go.RowKit

theorem two_boxes (w : World) (o p : Obj) : Below w.heap.size w ((w.alloc o).alloc p) := ((Below.refl _ _).alloc (Nat.le_refl _) _).alloc (by simp) _

theorem nodeOk_3 (s : Sg) (n : Int) (k : Nat) : nodeOk s 3 n k = (inB n 0 (s.cons.length - 1) && decide ((k : Int) = argsOf s.cons n)) := by simp [nodeOk]
theorem nodeOk_4 (s : Sg) (n : Int) (k : Nat) : nodeOk s 4 n k = (inB n 0 (s.funs.length - 1) && decide ((k : Int) = argsOf s.funs n)) := by simp [nodeOk]
theorem nodeOk_5 (s : Sg) (n : Int) (k : Nat) : nodeOk s 5 n k = (inB n 0 (s.funs.length - 1) && decide ((k : Int) < argsOf s.funs n)) := by simp [nodeOk]

/-- The node's tests where its Op names no row of the signature. -/
def Plain (op : Int) : Prop := op < 3 ∨ 5 < op
end Go.Proofs.Ythlegfegkopdkaa

namespace Go.Proofs.Ythlegfegkopdkaa
open Go.RowKit

theorem argsOf_get (l : List Nm) (n : Nat) (h : n < l.length) : argsOf l (n : Int) = l[n].2 := by
  unfold argsOf; simp [List.getElem?_eq_getElem h]

end Go.Proofs.Ythlegfegkopdkaa
