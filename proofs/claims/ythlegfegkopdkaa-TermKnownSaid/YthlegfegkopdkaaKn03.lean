/- Own text, joined of: C2.  -/
import Derived.RangeFuncNested
import Derived.RangeFuncBound
import Derived.RangeFuncCalls
import Derived.RangeFuncLeaves
import Derived.Shelf.Abstract
import Derived.WalkKit
import Derived.OwnWalkIn
import Derived.TacticsInMore
import Derived.LoopNIn
import Derived.LoopIn
import Derived.LoopTactic
import Derived.Laws.EntriesVeiled
import Derived.Test.YthlegfegkopdkaaKn02

namespace Go.Proofs.Ythlegfegkopdkaa
open Go.RowKit Go.Shelf
attribute [local go_sem] Oper.semAt_some

mutual
def DT.size : DT → Nat | .mk _ _ _ _ _ ks => dsizes ks + 1
def dsizes : List DT → Nat | [] => 0 | d :: ds => d.size + dsizes ds
end
theorem dsize_eq (d : DT) : d.size = dsizes d.kids + 1 := by cases d; simp [DT.size, DT.kids]
theorem dsize_pos (d : DT) : 1 ≤ d.size := by rw [dsize_eq]; omega
theorem dsizes_append (a b : List DT) : dsizes (a ++ b) = dsizes a + dsizes b := by
  induction a with
  | nil => simp [dsizes]
  | cons t a ih => simp [dsizes, ih]; omega
theorem dsizes_take_succ (ks : List DT) (k : Nat) (h : k < ks.length) : dsizes (ks.take (k + 1)) = dsizes (ks.take k) + ks[k].size := by
  rw [List.take_succ_eq_append_getElem h, dsizes_append]; simp [dsizes]
theorem dsizes_take_le (ks : List DT) (k : Nat) : dsizes (ks.take k) ≤ dsizes ks := by
  have := dsizes_append (ks.take k) (ks.drop k); rw [List.take_append_drop] at this; omega
theorem dsize_kid (ks : List DT) (k : Nat) (h : k < ks.length) : dsizes (ks.take k) + ks[k].size ≤ dsizes ks := by
  have := dsizes_take_succ ks k h; have := dsizes_take_le ks (k + 1); omega

/-- A term's nodes with their depths, a node before its kids. -/
abbrev Nd := Nat × DT
mutual
def DT.pre : DT → Nat → List Nd
  | .mk op n a l c ks, dep => (dep, .mk op n a l c ks) :: pres ks (dep + 1)
def pres : List DT → Nat → List Nd
  | [], _ => []
  | d :: ds, dep => d.pre dep ++ pres ds dep
end
theorem pre_eq (d : DT) (dep : Nat) : d.pre dep = (dep, d) :: pres d.kids (dep + 1) := by cases d; simp [DT.pre, DT.kids]
theorem pres_append (a b : List DT) (dep : Nat) : pres (a ++ b) dep = pres a dep ++ pres b dep := by
  induction a with
  | nil => simp [pres]
  | cons t a ih => simp [pres, ih]
theorem pres_take_succ (ks : List DT) (dep k : Nat) (h : k < ks.length) : pres (ks.take (k + 1)) dep = pres (ks.take k) dep ++ ks[k].pre dep := by
  rw [List.take_succ_eq_append_getElem h, pres_append]; simp [pres]
theorem pres_prefix (ks : List DT) (dep k : Nat) : pres (ks.take k) dep <+: pres ks dep :=
  ⟨pres (ks.drop k) dep, by rw [← pres_append, List.take_append_drop]⟩
mutual
theorem pre_length : ∀ (d : DT) (dep : Nat), (d.pre dep).length = d.size
  | .mk _ _ _ _ _ ks, dep => by simp [DT.pre, DT.size, pres_length ks (dep + 1)]
theorem pres_length : ∀ (ds : List DT) (dep : Nat), (pres ds dep).length = dsizes ds
  | [], _ => rfl
  | d :: ds, dep => by simp [pres, dsizes, pre_length d dep, pres_length ds dep]
end

/-- What a round that goes on keeps: whatever lies below n₀, and the cells of blocks from B on. -/
structure Keep (n₀ B : Nat) (W W' : World) : Prop where
  below : Below n₀ W W'
  cells : ∀ k cs ty fr, B ≤ k → W.heap[k]? = some (.cells cs ty fr) → W'.heap[k]? = some (.cells cs ty fr)
theorem Keep.refl (n₀ B : Nat) (W : World) : Keep n₀ B W W := ⟨Below.refl _ _, fun _ _ _ _ _ h => h⟩
theorem Keep.trans {n₀ B : Nat} {X Y Z : World} (h : Keep n₀ B X Y) (k : Keep n₀ B Y Z) : Keep n₀ B X Z :=
  ⟨h.below.trans k.below, fun i cs ty fr hB hi => k.cells i cs ty fr hB (h.cells i cs ty fr hB hi)⟩
theorem Keep.alloc {n₀ B : Nat} {X Y : World} (h : Keep n₀ B X Y) (hn : n₀ ≤ Y.heap.size) (o : Obj) : Keep n₀ B X (Y.alloc o) :=
  h.trans ⟨(Below.refl _ _).alloc hn o, fun i cs ty fr _ hi => by
    rw [Below.heap_alloc _ _ _ (Array.getElem?_eq_some_iff.1 hi).1]; exact hi⟩
theorem Keep.cell {n₀ B : Nat} {X Y : World} (h : Keep n₀ B X Y) {b i : Nat} {v : Value} (hB : B ≤ b) (hc : X.cell? ⟨b, i, none⟩ = some v) : Y.cell? ⟨b, i, none⟩ = some v := by
  rw [← hc]
  apply World.cell?_of_block
  show Y.heap[b]? = X.heap[b]?
  cases hx : X.heap[b]? with
  | none => simp [World.cell?, hx] at hc
  | some o =>
    cases o with
    | cells cs ty fr => exact h.cells b cs ty fr hB hx
    | _ => simp [World.cell?, hx] at hc
theorem Keep.kt {n₀ B : Nat} {X Y Z : World} (h : Keep n₀ B X Y) (k : Keep n₀ B Y Z) : Keep n₀ B X Z := h.trans k
theorem Keep.kb {n₀ B : Nat} {w : World} (hn : n₀ ≤ w.heap.size) (W : World) (l : Nat) (o o' : Obj) (hl : w.heap.size ≤ l) (h : W.heap[l]? = some o) (hc : o.isCells = false) (hw : o.isWalk = false) : Keep n₀ B W (W.putObj l o') :=
  ⟨belowK_b hn W l o o' hl h hc hw, fun k cs ty fr _ hk => by
    rw [World.putObj_heap_other (fun e => by subst e; rw [hk] at h; cases h; simp [Obj.isCells] at hc)]; exact hk⟩

theorem lt_cell {W : World} {b i : Nat} {v : Value} (h : W.cell? ⟨b, i, none⟩ = some v) : b < W.heap.size := by
  rcases Nat.lt_or_ge b W.heap.size with hlt | hge
  · exact hlt
  · simp [World.cell?, Array.getElem?_eq_none hge] at h

/-- The box of 'Kids', the function that tells what is below a node. -/
abbrev kbx : Obj := .cells #[.func (.func 62) #[] #[]] 110

/-- 'Kids'. -/
theorem kids_any (d : DT) (w : World) :
    Calls Try.prog 62 #[.agg #[.int .i64 d.op, .int .i64 d.n, .slice d.a d.l d.c]] w fun e w' => e = .returned (.slice d.a d.l d.c) ∧ w' = w.alloc (.cells #[.int .i64 d.op, .int .i64 d.n, .slice d.a d.l d.c] 32) := by
  go_enter Try.func62, Try.ntmps62
  go_wp2
  go_ret
  exact ⟨rfl, rfl⟩

/-- The values that 'visit' captures: the boxes of the body, of 'Kids' and of itself. -/
abbrev visV (By Bk Bv : Nat) : Array Value := #[.pointer (some ⟨By, 0, none⟩), .pointer (some ⟨Bk, 0, none⟩), .pointer (some ⟨Bv, 0, none⟩)]

set_option maxRecDepth 100000 in
set_option maxHeartbeats 4000000 in
theorem visit_in (l n₀ B Bv By Bk N : Nat) (J Jx : List Nd → World → Prop) (hal : ∀ s W o, J s W → J s (W.alloc o)) (hBv : B ≤ Bv) (hBy : B ≤ By) (hBk : B ≤ Bk) (hnB : n₀ ≤ B)
    (hY : ∀ m pre x W, J pre W → pre.length < N → YieldAt Fence.wide m Try.prog l #[.int .i64 (x.1 : Nat), .agg #[.int .i64 x.2.op, .int .i64 x.2.n, .slice x.2.a x.2.l x.2.c]] W fun e W' =>
      (e = .returned (.bool true) ∧ J (pre ++ [x]) W' ∧ Keep n₀ B W W') ∨ (e = .returned (.bool false) ∧ Jx (pre ++ [x]) W')) (M : Nat) :
    ∀ (d : DT) (dep : Nat) (pre : List Nd) (W : World), d.size ≤ M → dep + d.size ≤ 4611686018427387904 → Lies n₀ W d → J pre W → pre.length + d.size ≤ N →
      W.cell? ⟨Bv, 0, none⟩ = some (.func (.func 88) #[] (visV By Bk Bv)) → W.cell? ⟨By, 0, none⟩ = some (.func (.yield l) #[] #[]) → W.cell? ⟨Bk, 0, none⟩ = some (.func (.func 62) #[] #[]) →
      Calls Try.prog 88 #[.int .i64 (dep : Nat), .agg #[.int .i64 d.op, .int .i64 d.n, .slice d.a d.l d.c], .pointer (some ⟨By, 0, none⟩), .pointer (some ⟨Bk, 0, none⟩), .pointer (some ⟨Bv, 0, none⟩)] W fun e W' =>
        (e = .returned (.bool true) ∧ J (pre ++ d.pre dep) W' ∧ Keep n₀ B W W') ∨ (e = .returned (.bool false) ∧ ∃ q, q <+: d.pre dep ∧ Jx (pre ++ q) W') := by
  induction M with
  | zero => intro d _ _ _ h; have := dsize_pos d; omega
  | succ M ih =>
    intro d dep pre W hs hdep hL hJ hN hcv hcy hck
    replace ih := Lib.hid ih
    obtain ⟨hl, hlc, hc, hk⟩ := hL.open
    replace hl := Lib.hid hl
    have hsz := Lib.hid (dsize_eq d)
    have hBvl := lt_cell hcv
    have hByl := lt_cell hcy
    obtain ⟨W1, hW1⟩ : ∃ W1, W1 = W.alloc (.cells #[.int .i64 d.op, .int .i64 d.n, .slice d.a d.l d.c] 32) := ⟨_, rfl⟩
    have hK1 : Keep n₀ B W W1 := by
      rw [hW1]; exact (Keep.refl n₀ B W).alloc (by omega) _
    have hJ1 : J pre W1 := by rw [hW1]; exact hal _ _ _ hJ
    obtain ⟨fn, tmps, assign, body, hy, hR⟩ := hY 1 pre (dep, d) W1 hJ1 (by have := dsize_pos d; omega)
    rw [hW1] at hy
    refine callsIn_wide (n := 2) |>.1 ?_
    refine callsIn_of_wp Try.func88 rfl trivial ?_ rfl
    simp only [Try.ntmps88, List.size_toArray, List.length_cons, List.length_nil, Nat.reduceAdd, Nat.reduceSub, Array.replicate_succ, Array.replicate_zero, List.push_toArray, List.append_toArray, List.nil_append, List.cons_append]
    gi_wp2_with fail
    rw [hW1] at hR
    refine hR.mono ?_
    rintro e W2 (⟨rfl, hJ2, hk2⟩ | ⟨rfl, hx2⟩)
    · rw [← hW1] at hk2
      have hz1 : W1.heap.size = W.heap.size + 1 := by rw [hW1]; simp
      have q1 : (W1.cell? ⟨W.heap.size, 0, none⟩ = some (.int .i64 d.op) ∧ W1.cell? ⟨W.heap.size, 1, none⟩ = some (.int .i64 d.n)) ∧ W1.cell? ⟨W.heap.size, 2, none⟩ = some (.slice d.a d.l d.c) := by rw [hW1]; exact ⟨⟨by go_cell, by go_cell⟩, by go_cell⟩
      obtain ⟨⟨q1, q2⟩, q3⟩ := q1
      replace q1 := hk2.cell (by omega) q1
      replace q2 := hk2.cell (by omega) q2
      replace q3 := hk2.cell (by omega) q3
      have hz2 := hk2.below.size
      have hKt := hK1.trans hk2
      have q4 := hKt.cell hBv hcv
      have q5 := hKt.cell hBy hcy
      have q6 := hKt.cell hBk hck
      have hBk2 := lt_cell q6
      obtain ⟨W3, hW3⟩ : ∃ W3, W3 = W2.alloc (.cells #[.int .i64 d.op, .int .i64 d.n, .slice d.a d.l d.c] 32) := ⟨_, rfl⟩
      have hK3 : Keep n₀ B W2 W3 := by rw [hW3]; exact (Keep.refl n₀ B W2).alloc (by omega) _
      have hKd := Lib.hid (callsIn_wide (n := 1) |>.2 (kids_any d W2))
      have hst : Hid (J (pre ++ [(dep, d)]) W3 ∧ Keep n₀ B W2 W3) := Lib.hid ⟨by rw [hW3]; exact hal _ _ _ hJ2, hK3⟩
      -- the visit of a kid
      have hV : Hid (∀ k (hlt : k < d.kids.length) Wk, J (pre ++ [(dep, d)] ++ pres (d.kids.take k) (dep + 1)) Wk → Keep n₀ B W2 Wk →
          (∃ b off, d.a = some ⟨b, off, none⟩ ∧ Cells3 Wk b (off + k * 3) d.kids[k].op d.kids[k].n d.kids[k].a d.kids[k].l d.kids[k].c) ∧ Wk.cell? ⟨Bv, 0, none⟩ = some (.func (.func 88) #[] (visV By Bk Bv)) ∧ Bv < Wk.heap.size ∧
          CallsIn Fence.wide 1 Try.prog 88 #[.int .i64 ((dep : Int) + 1), .agg #[.int .i64 d.kids[k].op, .int .i64 d.kids[k].n, .slice d.kids[k].a d.kids[k].l d.kids[k].c], .pointer (some ⟨By, 0, none⟩), .pointer (some ⟨Bk, 0, none⟩), .pointer (some ⟨Bv, 0, none⟩)] (Wk.alloc (.cells #[.int .i64 d.kids[k].op, .int .i64 d.kids[k].n, .slice d.kids[k].a d.kids[k].l d.kids[k].c] 32)) fun e W' =>
            (e = .returned (.bool true) ∧ J (pre ++ [(dep, d)] ++ pres (d.kids.take (k + 1)) (dep + 1)) W' ∧ Keep n₀ B W2 W') ∨ (e = .returned (.bool false) ∧ ∃ q, q <+: pres d.kids (dep + 1) ∧ Jx (pre ++ [(dep, d)] ++ q) W')) := Lib.hid (fun k hlt Wk hj hkw => by
        rcases hk with hk | ⟨b, off, ha, hb, hks⟩
        · rw [hk] at hlt; simp at hlt
        · have hk3 := hKt.trans hkw
          have hd1 := dsize_kid d.kids k hlt
          have hd2 := hsz.out
          have hLk := ((LiesAll.get _ hks k hlt).2).below hk3.below
          have hvz := hkw.below.size
          have hbx : Keep n₀ B Wk (Wk.alloc (.cells #[.int .i64 d.kids[k].op, .int .i64 d.kids[k].n, .slice d.kids[k].a d.kids[k].l d.kids[k].c] 32)) := (Keep.refl _ _ _).alloc (by omega) _
          have hV := ih.out d.kids[k] (dep + 1) (pre ++ [(dep, d)] ++ pres (d.kids.take k) (dep + 1)) (Wk.alloc (.cells #[.int .i64 d.kids[k].op, .int .i64 d.kids[k].n, .slice d.kids[k].a d.kids[k].l d.kids[k].c] 32)) (by omega) (by omega) (hLk.below hbx.below) (hal _ _ _ hj)
            (by simp only [List.length_append, List.length_singleton, pres_length]; omega) (hbx.cell hBv (hkw.cell hBv q4)) (hbx.cell hBy (hkw.cell hBy q5)) (hbx.cell hBk (hkw.cell hBk q6))
          refine ⟨⟨b, off, ha, ((LiesAll.get _ hks k hlt).1).below hk3.below hb⟩, hkw.cell hBv q4, lt_cell (hkw.cell hBv q4), callsIn_wide (n := 1) |>.2 (hV.mono ?_)⟩
          rintro e W' (⟨rfl, hj', hkk⟩ | ⟨rfl, q, hq, hx⟩)
          · refine .inl ⟨rfl, ?_, (hkw.trans hbx).trans hkk⟩
            rw [pres_take_succ d.kids (dep + 1) k hlt, ← List.append_assoc]; exact hj'
          · refine .inr ⟨rfl, pres (d.kids.take k) (dep + 1) ++ q, ?_, by rw [← List.append_assoc]; exact hx⟩
            have hp := pres_prefix d.kids (dep + 1) (k + 1)
            rw [pres_take_succ d.kids (dep + 1) k hlt] at hp
            exact ((List.prefix_append_right_inj _).2 hq).trans hp)
      replace hJ2 := Lib.hid hJ2
      replace hk2 := Lib.hid hk2
      replace hKt := Lib.hid hKt
      replace hK1 := Lib.hid hK1
      replace hk := Lib.hid hk
      obtain ⟨op, hop⟩ : ∃ x, x = d.op := ⟨_, rfl⟩
      clear q4 q5 hop op
      gi_wp2_with fail
      refine ⟨trivial, hKd.out.mono ?_⟩
      rintro e W4 ⟨rfl, hW4⟩
      rw [← hW3] at hW4
      obtain rfl := hW4
      clear hKd hW3 hK3
      rw [hl.out]
      have hlz : Hid (d.kids.length ≤ 9223372036854775807) := Lib.hid (by have := hl.out; omega)
      have hlz' := hlz.out
      have hdd : (dep : Int) + 1 ≤ 4611686018427387904 := by have := dsize_pos d; omega
      gi_wp2_with fail
      gi_loopw [9, 19] (fun _ i wr => ∃ k : Nat, k ≤ d.kids.length ∧ i = .int .i64 (k : Nat) ∧ Hid (J (pre ++ [(dep, d)] ++ pres (d.kids.take k) (dep + 1)) wr ∧ Keep n₀ B W2 wr)) (fun _ i _ => d.kids.length - (intOf i).toNat)
      case atStart => exact ⟨0, by omega, rfl, Lib.hid ⟨by simpa [pres] using hst.out.1, hst.out.2⟩⟩
      case round =>
        obtain ⟨k, hkl, rfl, hI⟩ := hrel
        by_cases hlt : k < d.kids.length
        · obtain ⟨⟨b, off, ha, d0, d1, d2⟩, hcv', hbv', hC⟩ := hV.out k hlt wr hI.out.1 hI.out.2
          replace hC := Lib.hid hC
          rw [ha]
          gi_wp2_with fail
          refine ⟨trivial, hC.out.mono ?_⟩
          rintro e W5 (⟨rfl, hj5, hk5⟩ | ⟨rfl, hst5⟩)
          · have hj5' := Lib.hid (And.intro hj5 hk5)
            clear hj5 hk5
            gi_wp2_with fail
            go_roundw
            case rel => exact ⟨k + 1, by omega, by go_num, hj5'⟩
            case measure => simp [intOf]; omega
          · replace hst5 := Lib.hid hst5
            gi_wp2_with fail
            go_ret
            obtain ⟨q, hq, hx⟩ := hst5.out
            refine .inr ⟨rfl, (dep, d) :: q, ?_, by simpa using hx⟩
            rw [pre_eq]
            exact List.cons_prefix_cons.2 ⟨rfl, hq⟩
        · have hke : k = d.kids.length := by omega
          subst hke
          gi_wp2_with fail
          go_ret
          refine .inl ⟨rfl, ?_, hKt.out.trans hI.out.2⟩
          rw [pre_eq]
          have := hI.out.1
          rw [List.take_length] at this
          simpa using this
    · replace hx2 := Lib.hid hx2
      gi_wp2_with fail
      go_ret
      refine .inr ⟨rfl, [(dep, d)], ?_, hx2.out⟩
      rw [pre_eq]
      exact List.cons_prefix_cons.2 ⟨rfl, List.nil_prefix⟩

set_option maxRecDepth 100000 in
set_option maxHeartbeats 2000000 in
/-- The iterator's function: a range over a term's nodes. -/
theorem nodes1_in (l n₀ B Bt Bk : Nat) (hnB : n₀ ≤ B) (hBk : B ≤ Bk) (d : DT) (J Jx : List Nd → World → Prop) (hal : ∀ s W o, J s W → J s (W.alloc o)) (hs : 1 + d.size ≤ 4611686018427387904)
    (hY : ∀ m pre x W, J pre W → pre.length < d.size → YieldAt Fence.wide m Try.prog l #[.int .i64 (x.1 : Nat), .agg #[.int .i64 x.2.op, .int .i64 x.2.n, .slice x.2.a x.2.l x.2.c]] W fun e W' =>
      (e = .returned (.bool true) ∧ J (pre ++ [x]) W' ∧ Keep n₀ B W W') ∨ (e = .returned (.bool false) ∧ Jx (pre ++ [x]) W'))
    (W : World) (hB : B ≤ W.heap.size) (hL : Lies n₀ W d) (hc : Cells3 W Bt 0 d.op d.n d.a d.l d.c) (hck : W.cell? ⟨Bk, 0, none⟩ = some (.func (.func 62) #[] #[])) (h0 : J [] W) :
    CallsIn Fence.wide 2 Try.prog 87 #[.func (.yield l) #[] #[], .pointer (some ⟨Bk, 0, none⟩), .pointer (some ⟨Bt, 0, none⟩)] W fun e W' => (∃ v, e = .returned v) ∧
      ((∃ ys, ys = d.pre 1 ∧ J ys W') ∨ (∃ pre, pre <+: d.pre 1 ∧ Jx pre W')) := by
  have hBt := lt_cell hc.c0
  have hBkl := lt_cell hck
  obtain ⟨c0, c1, c2⟩ := hc
  obtain ⟨W1, hW1⟩ : ∃ W1, W1 = ((W.alloc (.cells #[.func (.yield l) #[] #[]] 133)).alloc (.cells #[.func (.func 88) #[] (visV W.heap.size Bk (W.heap.size + 1))] 133)) := ⟨_, rfl⟩
  have hK1 : Keep n₀ B W W1 := by
    rw [hW1]; exact ((Keep.refl n₀ B W).alloc (by omega) _).alloc (by simp; omega) _
  have hV := visit_in l n₀ B (W.heap.size + 1) W.heap.size Bk d.size J Jx hal (by omega) (by omega) hBk hnB hY d.size d 1 [] W1 (Nat.le_refl _) hs (hL.below hK1.below) (by rw [hW1]; exact hal _ _ _ (hal _ _ _ h0)) (by simp) (by rw [hW1]; go_cell) (by rw [hW1]; go_cell) (hK1.cell hBk hck)
  rw [hW1, show ((1 : Nat) : Int) = 1 from rfl] at hV
  replace hV := Lib.hid (callsIn_wide (n := 1) |>.2 hV)
  refine callsIn_of_wp Try.func87 rfl trivial ?_ rfl
  simp only [Try.ntmps87, List.size_toArray, List.length_cons, List.length_nil, Nat.reduceAdd, Nat.reduceSub, Array.replicate_succ, Array.replicate_zero, List.push_toArray, List.append_toArray, List.nil_append, List.cons_append]
  clear hW1 hK1 hck
  gi_wp2_with fail
  refine ⟨trivial, hV.out.mono ?_⟩
  rintro e W2 (⟨rfl, hj, hk⟩ | ⟨rfl, hst⟩)
  · replace hj := Lib.hid hj
    clear hk
    gi_wp2_with fail
    go_end0
    exact ⟨⟨_, rfl⟩, .inl ⟨_, rfl, by simpa using hj.out⟩⟩
  · replace hst := Lib.hid hst
    gi_wp2_with fail
    go_end0
    obtain ⟨q, hq, hx⟩ := hst.out
    exact ⟨⟨_, rfl⟩, .inr ⟨q, hq, by simpa using hx⟩⟩

/-- 'Levels' with 'Kids': the term and the function are boxed; the function value captures both boxes. -/
theorem levels_any (d : DT) (w : World) :
    Calls Try.prog 61 #[.agg #[.int .i64 d.op, .int .i64 d.n, .slice d.a d.l d.c], .func (.func 62) #[] #[]] w fun e w' => e = .returned (.func (.func 87) #[] #[.pointer (some ⟨w.heap.size + 1, 0, none⟩), .pointer (some ⟨w.heap.size, 0, none⟩)]) ∧ w' = (w.alloc (.cells #[.int .i64 d.op, .int .i64 d.n, .slice d.a d.l d.c] 32)).alloc kbx := by
  go_enter Try.func61, Try.ntmps61
  go_wp2
  go_ret
  exact ⟨by simp, rfl⟩

/-- The world behind 'nodes'. -/
abbrev nw (w : World) (d : DT) : World := ((w.alloc (.cells #[.int .i64 d.op, .int .i64 d.n, .slice d.a d.l d.c] 32)).alloc (.cells #[.int .i64 d.op, .int .i64 d.n, .slice d.a d.l d.c] 32)).alloc kbx
/-- What 'nodes' captures. -/
abbrev nlb (n : Nat) : Array Value := #[.pointer (some ⟨n + 1 + 1, 0, none⟩), .pointer (some ⟨n + 1, 0, none⟩)]

/-- 'nodes'. -/
theorem tnodes_any (d : DT) (w : World) :
    Calls Try.prog 39 #[.agg #[.int .i64 d.op, .int .i64 d.n, .slice d.a d.l d.c]] w fun e w' => e = .returned (.func (.func 87) #[] (nlb w.heap.size)) ∧ w' = ((w.alloc (.cells #[.int .i64 d.op, .int .i64 d.n, .slice d.a d.l d.c] 32)).alloc (.cells #[.int .i64 d.op, .int .i64 d.n, .slice d.a d.l d.c] 32)).alloc kbx := by
  go_enter Try.func39, Try.ntmps39
  go_wp2_with (go_at_call 61; refine (levels_any d _).mono ?_; rintro e w' ⟨rfl, rfl⟩)
  go_ret
  exact ⟨by simp, rfl⟩

theorem nw_top (w : World) (d : DT) : Cells3 (nw w d) (w.heap.size + 1) 0 d.op d.n d.a d.l d.c := ⟨by go_cell, by go_cell, by go_cell⟩
theorem nw_kids (w : World) (d : DT) : (nw w d).cell? ⟨w.heap.size + 1 + 1, 0, none⟩ = some (.func (.func 62) #[] #[]) := by go_cell

/-- 'nodes(t)' is an iterator over t's nodes. -/
theorem nodes_stops (n n₀ Bt Bk : Nat) (d : DT) (w : World) (hs : 1 + d.size ≤ 4611686018427387904) (hn : n₀ ≤ Bk) (hL : Lies n₀ w d) (hc : Cells3 w Bt 0 d.op d.n d.a d.l d.c) (hck : w.cell? ⟨Bk, 0, none⟩ = some (.func (.func 62) #[] #[])) :
    SeqStopsK Fence.wide n Try.prog 87 #[.pointer (some ⟨Bk, 0, none⟩), .pointer (some ⟨Bt, 0, none⟩)] (fun x : Nd => #[.int .i64 (x.1 : Nat), .agg #[.int .i64 x.2.op, .int .i64 x.2.n, .slice x.2.a x.2.l x.2.c]]) (Keep n₀ Bk) (fun ys => ys = d.pre 1) (fun pre => pre <+: d.pre 1) d.size w :=
  fun l J Jx W hW hJ _ hY h0 => by
    have hal : ∀ s W o, J s W → J s (W.alloc o) := fun s W' o h => hJ s W' _ none h (World.grownBy_alloc W' o none) (fun r e => by cases e)
    have hBk := lt_cell hck
    have hcW := (hW.cell (p := ⟨Bk, 0, none⟩) hBk).trans hck
    refine callsIn_wide.2 (callsIn_wide (n := 2) |>.1 ?_)
    exact nodes1_in l n₀ Bk Bt Bk hn (Nat.le_refl _) d J Jx hal hs (fun m pre x W1 hj hlt => by
      obtain ⟨fn, tmps, assign, body, hy, hR⟩ := hY pre x W1 hj hlt
      exact ⟨fn, tmps, assign, body, hy, ⟨hR.1, fun c cs _ => hR.2 c cs (fun d h => by cases h)⟩⟩) W (by have := hW.size; omega) (hL.below (hW.mono (by omega))) (hc.below hW (lt_cell hc.c0)) hcW h0

end Go.Proofs.Ythlegfegkopdkaa
