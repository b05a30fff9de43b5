/- Own text, joined of: U2 U3 U4. 'operand', 'term'. · 'stands': its closure. · 'stands', 'bind'. -/
import Derived.Deep.LoopGhost
import Derived.Test.YthlegfegkopdkaaKn25

namespace Go.Proofs.Ythlegfegkopdkaa
open Go.RowKit Go.Shelf Go.Sort

theorem und147 : Try.prog.underlying 105 = some (.map 3 32) := by kernel_rfl
def OkN (d : DT) : Prop := d.op = 1 → 0 ≤ d.n ∧ d.n < 20

theorem opF_good {P : DT → Prop} {F : Int → Option DT} (hF : Els P F) : ∀ (N : Nat) (d r : DT), opF F N d = some r → P d → P r
  | 0, _, _, h, _ => by cases h
  | N + 1, d, r, h, hd => by
    rw [opF] at h
    split at h
    · cases hq : F d.n with
      | none => rw [hq] at h; cases h; exact hd
      | some b => rw [hq] at h; exact opF_good hF N b r h (hF _ _ hq)
    · cases h; exact hd

set_option maxRecDepth 100000 in
set_option maxHeartbeats 1000000 in
theorem operand_any (F : Int → Option DT) (bm nb N : Nat) (d r : DT) (w : World) (hr : opF F N d = some r) (hm : TMap w bm nb F) (hE : Els OkN F) (hd : OkN d) :
    Calls Try.prog 79 #[.map (some bm), dv d] w fun e w' => e = .returned (opV r) ∧ Below w.heap.size w w' := by
  have hB0 : Below w.heap.size w (w.alloc (bx d)) := (Below.refl _ _).alloc (Nat.le_refl _) _
  have hlt := hm.lt
  replace hr := Lib.hid hr
  replace hE := Lib.hid hE
  have hm0 := Lib.hid hm
  clear hm
  go_enter Try.func79, Try.ntmps79
  go_wp2_with fail
  go_loopg [5, 6] N (fun g _ _ wr => ∃ x : DT, wr.heap[w.heap.size]? = some (bx x) ∧ Hid (opF F g x = some r) ∧ Hid (OkN x) ∧ Below w.heap.size w wr)
  case atStart => exact ⟨d, heap_new' _ rfl, hr, hd, hB0⟩
  case round =>
    obtain ⟨x, hx, ho, hok, hb⟩ := hrel
    obtain ⟨⟨c0, c1, c2⟩, c3, c4, c5⟩ := c3_cells hx
    cases gk with
    | zero => cases ho.out
    | succ g =>
      have ho' := ho.out
      rw [opF] at ho'
      by_cases h1 : x.op = 1
      · rw [if_pos h1] at ho'
        have hx20 := hok.out h1
        have e1 : (x.op == 1) = true := by simpa using h1
        have hmr := hm0.out.same (hb.block _ hlt)
        cases hq : F x.n with
        | none =>
          rw [hq] at ho'
          simp only [Option.some.injEq] at ho'
          have hl := hmr.look_none und147 (i := x.n) ⟨hx20.1, by omega⟩ hq
          have hv : Hid (opV r = ifU x.n) := Lib.hid (by rw [← ho']; unfold opV; rw [if_pos h1])
          replace hb := Lib.hid hb
          clear ho' hmr hq h1 hx hx20
          have d1 := fun o => alloc_cell (o := o) c1
          go_wp2_with fail
          go_ret
          exact ⟨congrArg Ending.returned hv.out.symm, hb.out.alloc hb.out.size _⟩
        | some b =>
          rw [hq] at ho'
          have hl := hmr.look_some und147 (i := x.n) ⟨hx20.1, by omega⟩ hq
          have hz := hb.size
          have hxa := heap_old (o := bx b) hx
          obtain ⟨W3, e3, k3, -, s2, s3⟩ := stored3 (.int .i64 b.op) (.int .i64 b.n) (.slice b.a b.l b.c) hxa
          have hb3 : Hid (Below w.heap.size w W3) := (hb.alloc hz _).trans (s3.mono (Nat.le_refl _))
          have hrel' : Hid (opF F g b = some r) := ho'
          have hok' : Hid (OkN b) := hE.out _ _ hq
          replace e3 := Lib.hid e3
          replace hb := Lib.hid hb
          replace k3 := Lib.hid k3
          obtain ⟨⟨d0, d1, d2⟩, f3, f4, f5⟩ := c3_cells hxa
          clear ho' hmr hq h1 hx hx20 hxa s2 s3
          go_wp2_with fail
          rw [← e3.out]
          go_roundg g
          case measure => omega
          case rel => exact ⟨b, k3.out, hrel', hok', hb3.out⟩
      · rw [if_neg h1] at ho'
        have e1 : (x.op == 1) = false := by simpa using h1
        simp only [Option.some.injEq] at ho'
        have hv : Hid (opV r = ifK x) := Lib.hid (by rw [← ho']; unfold opV; rw [if_neg h1])
        replace hb := Lib.hid hb
        clear ho' h1 hx
        go_wp2_with fail
        go_ret
        exact ⟨congrArg Ending.returned hv.out.symm, hb.out⟩

set_option maxHeartbeats 400000 in
theorem kterm_any (d : DT) (w : World) : Calls Try.prog 96 #[.agg #[.int .i64 d.op, .int .i64 d.n, .slice d.a d.l d.c]] w fun e w' => e = .returned (dv d) ∧ Below w.heap.size w w' := by
  go_enter Try.func96, Try.ntmps96
  go_wp2
  exact bodyPost_ret (v := dv d) (by simp [results, Try.f96, go_sem]) rfl ⟨rfl, by go_grown⟩

end Go.Proofs.Ythlegfegkopdkaa

namespace Go.Proofs.Ythlegfegkopdkaa
open Go.RowKit Go.Shelf Go.Sort
attribute [local go_sem] Oper.semAt_some

theorem ownFrom_of_below {β : Type} {B : Nat} {I : β → World → Prop} (hz : ∀ s W, I s W → B ≤ W.heap.size) (h : ∀ s W W', I s W → Below B W W' → I s W') : OwnFrom B I := fun s W W' _row hs hg hr =>
  h s W W' hs ((Below.refl _ _).grown hg (hz s W hs) (fun q hq => (hr q hq).1))

/-- The blocks that 'look' captures, as they stand. -/
structure Cap (n₀ : Nat) (F : Int → Option DT) (v : Nat) (bm nb Bm Bu Bv Bl : Nat) (W : World) : Prop where
  u : Boxed W Bu 105 (.map (some bm))
  v : Boxed W Bv 3 (.int .i64 (v : Nat))
  l : Boxed W Bl 46 (.func (.func 101) #[] #[.pointer (some ⟨Bm, 0, none⟩), .pointer (some ⟨Bu, 0, none⟩), .pointer (some ⟨Bv, 0, none⟩), .pointer (some ⟨Bl, 0, none⟩)])
  m : TMap W bm nb F
  e : Els (fun d => (Lies n₀ W d ∧ OkV d.tm) ∧ d.size < 1000000) F
  n1 : n₀ ≤ Bm
  n2 : Bm ≠ Bu ∧ Bm ≠ Bv ∧ Bm ≠ Bl ∧ Bm ≠ bm
theorem Cap.turns {n₀ : Nat} {F : Int → Option DT} {v bm nb Bm Bu Bv Bl : Nat} {W W' : World} (h : Cap n₀ F v bm nb Bm Bu Bv Bl W) (hT : Turns (fun b => b = Bm) W W') (hn : n₀ ≤ W.heap.size) : Cap n₀ F v bm nb Bm Bu Bv Bl W' := by
  have hb : Below n₀ W W' := hT.below hn (fun k hk e => by have := h.n1; omega)
  obtain ⟨q1, q2, q3, q4⟩ := h.n2
  exact ⟨(hT.block _ h.u.lt (fun e => q1 e.symm)).trans h.u, (hT.block _ h.v.lt (fun e => q2 e.symm)).trans h.v, (hT.block _ h.l.lt (fun e => q3 e.symm)).trans h.l, h.m.same (hT.block _ h.m.lt (fun e => q4 e.symm)),
    fun i d hd => ⟨⟨((h.e i d hd).1.1).below hb, (h.e i d hd).1.2⟩, (h.e i d hd).2⟩, h.n1, h.n2⟩

def LookSpec (n₀ : Nat) (F : Int → Option DT) (v : Nat) (bm nb Bm Bu Bv Bl N : Nat) : Prop := ∀ (d : DT) (w : World) (met : Nat → Bool), unm met < N → Lies n₀ w d → n₀ ≤ w.heap.size → 1 + d.size ≤ 1000000 → OkV d.tm → SetAt w Bm met → Cap n₀ F v bm nb Bm Bu Bv Bl w →
  Calls Try.prog 101 #[dv d, .pointer (some ⟨Bm, 0, none⟩), .pointer (some ⟨Bu, 0, none⟩), .pointer (some ⟨Bv, 0, none⟩), .pointer (some ⟨Bl, 0, none⟩)] w fun e w' =>
    e = .returned (.bool (lookF v F N met d).1) ∧ Turns (fun b => b = Bm) w w' ∧ SetAt w' Bm (lookF v F N met d).2

abbrev lkA (w : World) (d : DT) (Bm Bu Bv Bl Bx : Nat) (x : Nd) : Act := { tmps := #[dv d, .pointer (some ⟨Bm, 0, none⟩), .pointer (some ⟨Bu, 0, none⟩), .pointer (some ⟨Bv, 0, none⟩), .pointer (some ⟨Bl, 0, none⟩), .pointer (some ⟨w.heap.size, 0, none⟩), .pointer (some ⟨w.heap.size + 1, 0, none⟩), undef, .pointer (some ⟨Bx, 0, none⟩), undef, undef, .agg #[.int .i64 d.op, .int .i64 d.n, .slice d.a d.l d.c], .func (.func 87) #[] (nlb (w.heap.size + 1 + 1)), .int .i64 (x.1 : Nat), .agg #[.int .i64 x.2.op, .int .i64 x.2.n, .slice x.2.a x.2.l x.2.c], undef, undef, undef, undef, undef, undef, undef, undef, undef, undef, undef, undef, undef, undef, undef, undef, undef, undef, undef, undef, undef, undef, undef, undef, undef, undef, undef, undef, undef, undef, undef], defers := [] }

structure LkI (n₀ : Nat) (F : Int → Option DT) (v : Nat) (bm nb Bm Bu Bv Bl N : Nat) (w : World) (met : Nat → Bool) (r : Bool) (pre : List Nd) (W : World) : Prop where
  res : (lookL v F (lookF v F N) met pre).1 = r
  set : SetAt W Bm (lookL v F (lookF v F N) met pre).2
  box : Boxed W (w.heap.size + 1) 4 (.bool r)
  trn : Turns (fun b => b = Bm) w W
  siz : w.heap.size + 1 + 1 + 1 + 1 + 1 ≤ W.heap.size
theorem Turns.low {R : Nat → Prop} {n : Nat} {a b c : World} (h : Turns R a b) (k : Below n b c) (hn : a.heap.size ≤ n) : Turns R a c :=
  ⟨k.os.trans h.os, k.tape.trans h.tape, k.output.trans h.output, Nat.le_trans h.size k.size, fun i hi hr => (k.block i (by omega)).trans (h.block i hi hr)⟩
theorem LkI.below {n₀ : Nat} {F : Int → Option DT} {v bm nb Bm Bu Bv Bl N : Nat} {w : World} {met : Nat → Bool} {r : Bool} {pre : List Nd} {W W' : World} (h : LkI n₀ F v bm nb Bm Bu Bv Bl N w met r pre W) (hm : Bm < w.heap.size) (hb : Below (w.heap.size + 1 + 1 + 1 + 1 + 1) W W') : LkI n₀ F v bm nb Bm Bu Bv Bl N w met r pre W' :=
  ⟨h.res, (hb.block _ (by omega)).trans h.set, (hb.block _ (by omega)).trans h.box, h.trn.low hb (by omega), Nat.le_trans h.siz hb.size⟩
theorem keeps_turns {B Bm : Nat} {W W' : World} (h : Turns (fun b => b = Bm) W W') (hB : Bm < B) : KeepsFrom B W W' :=
  ⟨h.size, fun k o hk hk2 _ => by rw [h.block k (Array.getElem?_eq_some_iff.1 hk2).1 (by omega)]; exact hk2⟩
theorem keep_turns {n₀ B Bm : Nat} {W W' : World} (h : Turns (fun b => b = Bm) W W') (hB : Bm < B) (hn : n₀ ≤ Bm) (hz : n₀ ≤ W.heap.size) : Keep n₀ B W W' :=
  ⟨h.below hz (fun k hk e => by omega), fun k cs ty fr hk hk2 => by rw [h.block k (Array.getElem?_eq_some_iff.1 hk2).1 (by omega)]; exact hk2⟩

theorem lk_end {n₀ : Nat} {F : Int → Option DT} {v bm nb Bm Bu Bv Bl N : Nat} {w : World} {met M1 : Nat → Bool} {r : Bool} {pre : List Nd} {W1 W' : World} (hres : lookL v F (lookF v F N) met pre = (r, M1)) (hT : Turns (fun b => b = Bm) w W1) (hset : SetAt W1 Bm M1) (hm : Bm < w.heap.size) (hb : Below w.heap.size W1 W') (hbox : Boxed W' (w.heap.size + 1) 4 (.bool r)) (hz : w.heap.size + 1 + 1 + 1 + 1 + 1 ≤ W'.heap.size) : LkI n₀ F v bm nb Bm Bu Bv Bl N w met r pre W' :=
  ⟨by rw [hres], by rw [hres]; exact (hb.block _ hm).trans hset, hbox, hT.low hb (Nat.le_refl _), hz⟩

set_option maxRecDepth 100000 in
set_option maxHeartbeats 2000000 in
theorem look_step (n₀ : Nat) (F : Int → Option DT) (v : Nat) (bm nb Bm Bu Bv Bl N : Nat) (ih : LookSpec n₀ F v bm nb Bm Bu Bv Bl N) : LookSpec n₀ F v bm nb Bm Bu Bv Bl (N + 1) := by
  intro d w met hN hL hn hs hO hM hC
  refine callsIn_wide (n := 10) |>.1 ?_
  refine callsIn_of_wp_marks Try.func101 rfl trivial ?_ rfl
  simp only [Try.ntmps101, List.size_toArray, List.length_cons, List.length_nil, Nat.reduceAdd, Nat.reduceSub, Array.replicate_succ, Array.replicate_zero, List.push_toArray, List.append_toArray, List.nil_append, List.cons_append]
  gi_wp2_with (refine ⟨trivial, ?_⟩; gi_at_call 39; refine (callsIn_wide.2 (tnodes_any d _)).mono ?_; rintro e w' ⟨rfl, rfl⟩)
  obtain ⟨W0, hW0⟩ : ∃ W0, W0 = ((((w.alloc (bx d)).alloc (.cells #[.bool false] 4)).alloc (bx d)).alloc (bx d)).alloc kbx := ⟨_, rfl⟩
  have hB0 : Below w.heap.size w W0 := by rw [hW0]; go_grown
  have hz0 : W0.heap.size = w.heap.size + 1 + 1 + 1 + 1 + 1 := by rw [hW0]; simp
  have b1 : Boxed W0 (w.heap.size + 1) 4 (.bool false) := by
    have := (((Boxed.new (w.alloc (bx d)) 4 (.bool false)).alloc (bx d)).alloc (bx d)).alloc kbx
    rw [World.size_alloc] at this
    rw [hW0]; exact this
  have bk : W0.cell? ⟨w.heap.size + 1 + 1 + 1 + 1, 0, none⟩ = some (.func (.func 62) #[] #[]) := by
    have := nw_kids ((w.alloc (bx d)).alloc (.cells #[.bool false] 4)) d
    rw [World.size_alloc, World.size_alloc] at this
    rw [hW0]; exact this
  have b2 : Cells3 W0 (w.heap.size + 1 + 1 + 1) 0 d.op d.n d.a d.l d.c := by
    have := nw_top ((w.alloc (bx d)).alloc (.cells #[.bool false] 4)) d
    rw [World.size_alloc, World.size_alloc] at this
    rw [hW0]; exact this
  have hmlt := hM.lt
  have h0 : LkI n₀ F v bm nb Bm Bu Bv Bl N w met false [] W0 := ⟨by simp [lookL], by simp only [lookL]; exact (hB0.block _ hmlt).trans hM, b1, Turns.of0' hB0, by omega⟩
  rw [show ((((w.alloc (bx d)).alloc (.cells #[.bool false] 4)).alloc (bx d)).alloc (bx d)).alloc kbx = W0 from hW0.symm]
  replace hW0 := Lib.hid hW0
  have hown : ∀ r, OwnFrom W0.heap.size (fun (pre : List GNd) W => LkI n₀ F v bm nb Bm Bu Bv Bl N w met r (gl pre) W) := fun r => by
    rw [hz0]
    exact ownFrom_of_below (fun s W h => h.siz) (fun s W W' h hb => h.below hmlt hb)
  have hown2 : ∀ c : Code, OwnFrom W0.heap.size (fun (pre : List GNd) W => c = .ret ∧ LkI n₀ F v bm nb Bm Bu Bv Bl N w met true (gl pre) W) := fun c s W W' row hs hg hr => ⟨hs.1, hown true s W W' row hs.2 hg hr⟩
  refine wpIn_rangeFunc_ownH rfl (by omega) (gf := 87) (lb := nlb (w.heap.size + 1 + 1)) rfl trivial (enters_of Try.func87 (by kernel_rfl) rfl)
    (nodesG_stops (fun x => x.2.op = 1 → 0 ≤ x.2.n ∧ x.2.n < 20) _ n₀ (w.heap.size + 1 + 1 + 1) (w.heap.size + 1 + 1 + 1 + 1) d W0 (okV_pre d 1 hO) (by omega) (by omega) (hL.below (hB0.mono hn)) b2 bk) Keep.kt (Keep.kb (by omega)) (Below.refl _ _) (fun _ => rfl)
    (fun pre W => LkI n₀ F v bm nb Bm Bu Bv Bl N w met false (gl pre) W)
    (fun c pre W => c = .ret ∧ LkI n₀ F v bm nb Bm Bu Bv Bl N w met true (gl pre) W)
    (hown false) hown2 h0
    (fun x a' W => ∃ Bx, w.heap.size + 1 + 1 < Bx ∧ Box3 W Bx x.1.2 ∧ a' = lkA w d Bm Bu Bv Bl Bx x.1)
    (fun x a' _ X Y row hs hg hr => by obtain ⟨Bx, e1, e2, e3⟩ := hs; exact ⟨Bx, e1, Box3.own (β := Unit) Bx x.1.2 () X Y row e2 hg (fun r e => (hr r e).2), e3⟩)
    ?assign ?body ?done ?stop
  case assign =>
    rintro l pre x W K hI hK
    simp only [List.zip_toArray, List.zip_cons_cons, List.zip_nil_right, List.size_toArray]
    have hz := hI.siz
    replace hI := Lib.hid hI
    gi_wp2
    exact hK _ _ ((KeepsOthers.alloc _ _).from _) ((Keep.refl _ _ W).alloc (by omega) _) (hI.out.below hmlt ((Below.refl _ _).alloc hz _)) ⟨W.heap.size, by omega, Box3.new W x.1.2, rfl⟩
  case body =>
    rintro l pre x a' W hl _ hI ⟨Bx, hBx, b3, rfl⟩ hlt
    obtain ⟨c0, c1, c2⟩ := b3.cells
    have hcap := hC.turns hI.trn hn
    have happ := lookL_append v F (lookF v F N) (gl pre) [x.1] met hI.res
    rw [← gl_snoc] at happ
    obtain ⟨M, hMM⟩ : ∃ M, M = (lookL v F (lookF v F N) met (gl pre)).2 := ⟨_, rfl⟩
    rw [← hMM, lookL] at happ
    have hset := hI.set
    rw [← hMM] at hset
    have hunm : unm M < N + 1 := Nat.lt_of_le_of_lt (unm_mono (fun k hk => by rw [hMM]; exact lookL_mono v F _ (fun m d k h => lookF_mono v F N m d k h) _ _ k hk)) hN
    have hsz := hI.siz
    have hbox := hI.box
    have r1 := hbox.cell
    have r2 := hbox.frozen
    by_cases h1 : x.1.2.op = 1
    rotate_left
    · have e1 : (x.1.2.op != 1) = true := by simpa using h1
      rw [if_pos (.inl h1), lookL] at happ
      have hfin : Hid (LkI n₀ F v bm nb Bm Bu Bv Bl N w met false (gl (pre ++ [x])) W) := ⟨by rw [happ], by rw [happ]; exact hset, hbox, hI.trn, hsz⟩
      replace hI := Lib.hid hI
      clear happ hMM hcap b3 h1 hset
      gi_wp2
      exact ⟨(KeepsOthers.refl _).from _, Keep.refl _ _ _, hfin.out⟩
    obtain ⟨k, hk⟩ : ∃ k : Nat, x.1.2.n = k := ⟨x.1.2.n.toNat, by have := (x.2 h1).1; omega⟩
    have hk20 : k < 20 := by have := (x.2 h1).2; omega
    have ho : (k : Int) < 20 := by omega
    have e1 : (x.1.2.op != 1) = false := by simpa using h1
    have p1 := hset.cell hk20
    have p2 := hset.frozen k
    rw [hk] at c1 happ
    simp only [Int.toNat_natCast] at happ
    cases hmk : M k
    rotate_left
    · rw [if_pos (.inr hmk), lookL] at happ
      rw [hmk] at p1
      have hfin : Hid (LkI n₀ F v bm nb Bm Bu Bv Bl N w met false (gl (pre ++ [x])) W) := ⟨by rw [happ], by rw [happ]; exact hset, hbox, hI.trn, hsz⟩
      replace hI := Lib.hid hI
      replace hk := Lib.hid hk
      clear happ hMM hcap b3 h1 hset hmk
      gi_wp2
      exact ⟨(KeepsOthers.refl _).from _, Keep.refl _ _ _, hfin.out⟩
    rw [if_neg (by rw [hmk]; simp [h1])] at happ
    rw [hmk] at p1
    have hset1 := hset.set hk20 true
    obtain ⟨W1, hW1⟩ : ∃ W1, W1 = W.setCell ⟨Bm, k, none⟩ (.bool true) := ⟨_, rfl⟩
    have hT1 : Turns (fun b => b = Bm) W W1 := by rw [hW1]; exact (Turns.refl (fun b => b = Bm) W).setCell (p := ⟨Bm, k, none⟩) (fun _ => rfl) _
    rw [← hW1] at hset1
    have hcap1 := hcap.turns hT1 (by omega)
    have hz1 : W1.heap.size = W.heap.size := by rw [hW1]; simp
    have hbox1 : Boxed W1 (w.heap.size + 1) 4 (.bool false) := (hT1.block _ hbox.lt (by omega)).trans hbox
    have b31 : Box3 W1 Bx x.1.2 := (hT1.block Bx b3.lt (by omega)).trans b3
    have hKF1 : KeepsFrom W0.heap.size W W1 := keeps_turns hT1 (by omega)
    have hKp1 : Keep n₀ (w.heap.size + 1 + 1 + 1 + 1) W W1 := keep_turns hT1 (by omega) hC.n1 (by omega)
    have hTw1 : Turns (fun b => b = Bm) w W1 := hI.trn.trans hT1
    have u1 : (W.setCell ⟨Bm, k, none⟩ (.bool true)).cell? ⟨Bu, 0, none⟩ = some (.map (some bm)) := by rw [← hW1]; exact hcap1.u.cell
    have x1 : (W.setCell ⟨Bm, k, none⟩ (.bool true)).cell? ⟨Bx, 1, none⟩ = some (.int .i64 (k : Nat)) := by rw [← hW1, b31.cells.c1, hk]
    have x1' := fun o => alloc_cell (o := o) x1
    have v1 := fun o => alloc_cell (o := o) (show (W.setCell ⟨Bm, k, none⟩ (.bool true)).cell? ⟨Bv, 0, none⟩ = some (.int .i64 (v : Nat)) from by rw [← hW1]; exact hcap1.v.cell)
    have l1 := fun o => alloc_cell (o := o) (show (W.setCell ⟨Bm, k, none⟩ (.bool true)).cell? ⟨Bl, 0, none⟩ = _ from by rw [← hW1]; exact hcap1.l.cell)
    have s1 := fun o => (hbox1.alloc o).cell
    have s2 := fun o => (hbox1.alloc o).frozen
    rw [hW1] at s1 s2
    by_cases hkv : k = v
    · have e2 : ((k : Int) == (v : Int)) = true := by simp; omega
      rw [if_pos (by omega)] at happ
      obtain ⟨y, okb, hl⟩ : ∃ y okb, (Instr.lookup 105 (.map (some bm)) (.int .i64 (k : Nat)) true).run Try.prog W1 = .ok (.tuple #[dv y, .bool okb]) W1 := by
        cases hq : F k with
        | none => exact ⟨zeD, false, hcap1.m.look_none und147 ⟨by omega, by omega⟩ hq⟩
        | some b => exact ⟨b, true, hcap1.m.look_some und147 ⟨by omega, by omega⟩ hq⟩
      rw [hW1] at hl
      have hend : ∀ o, Hid (KeepsFrom W0.heap.size W ((W1.alloc o).setCell ⟨w.heap.size + 1, 0, none⟩ (.bool true)) ∧ LkI n₀ F v bm nb Bm Bu Bv Bl N w met true (gl (pre ++ [x])) ((W1.alloc o).setCell ⟨w.heap.size + 1, 0, none⟩ (.bool true))) := fun o =>
        ⟨hKF1.trans (((KeepsOthers.alloc _ _).trans (KeepsOthers.setCell _ _ _)).from _), lk_end happ hTw1 hset1 hmlt (((Below.refl _ _).alloc (by omega) _).setCell (p := ⟨w.heap.size + 1, 0, none⟩) (by simp) _) ((hbox1.alloc o).set (.bool true)) (by simp; omega)⟩
      rw [hW1] at hend
      replace hI := Lib.hid hI
      replace hk := Lib.hid hk
      replace hkv := Lib.hid hkv
      replace hW1 := Lib.hid hW1
      clear happ hMM hcap b3 h1 hset hmk hset1 hcap1 hbox1 b31 hKF1 hKp1 hTw1 hT1 hbox l1
      gi_wp2_with (refine wpListIn_skip (o := ⟨some 43, _, _, _, _, _⟩) (by rfl) (by rfl) ?_)
      exact ⟨(hend _).out.1, rfl, (hend _).out.2⟩
    · have e2 : ((k : Int) == (v : Int)) = false := by simp; omega
      rw [if_neg (by omega)] at happ
      cases hq : F k with
      | none =>
        rw [hq] at happ
        simp only [lookL] at happ
        have hl := hcap1.m.look_none und147 (i := (k : Nat)) ⟨by omega, by omega⟩ hq
        rw [hW1] at hl
        have hend : ∀ o, Hid (KeepsFrom W0.heap.size W (W1.alloc o) ∧ Keep n₀ (w.heap.size + 1 + 1 + 1 + 1) W (W1.alloc o) ∧ LkI n₀ F v bm nb Bm Bu Bv Bl N w met false (gl (pre ++ [x])) (W1.alloc o)) := fun o =>
          ⟨hKF1.trans ((KeepsOthers.alloc _ _).from _), hKp1.alloc (by omega) _, lk_end happ hTw1 hset1 hmlt ((Below.refl _ _).alloc (by omega) _) (hbox1.alloc o) (by simp; omega)⟩
        rw [hW1] at hend
        replace hI := Lib.hid hI
        replace hk := Lib.hid hk
        replace hkv := Lib.hid hkv
        replace hW1 := Lib.hid hW1
        clear happ hMM hcap b3 h1 hset hmk hset1 hcap1 hbox1 b31 hKF1 hKp1 hTw1 hT1 hbox l1 hq
        gi_wp2_with (refine wpListIn_skip (o := ⟨some 43, _, _, _, _, _⟩) (by rfl) (by rfl) ?_)
        exact (hend _).out
      | some b =>
        rw [hq] at happ
        simp only [lookL] at happ
        have hl := hcap1.m.look_some und147 (i := (k : Nat)) ⟨by omega, by omega⟩ hq
        obtain ⟨⟨hLb, hOb⟩, hsb⟩ := hcap1.e _ _ hq
        have hsb' : 1 + b.size ≤ 1000000 := by omega
        obtain ⟨Wa, hWa⟩ : ∃ Wa, Wa = W1.alloc (bx b) := ⟨_, rfl⟩
        have hBa : Below W1.heap.size W1 Wa := by rw [hWa]; exact (Below.refl _ _).alloc (Nat.le_refl _) _
        have hza := hBa.size
        have hcapa : Cap n₀ F v bm nb Bm Bu Bv Bl Wa := hcap1.turns (Turns.of0' hBa) (by omega)
        have hseta : SetAt Wa Bm (setB M k true) := (hBa.block _ (by omega)).trans hset1
        have hU := unm_set hk20 hmk
        have hCall := ih b Wa (setB M k true) (by omega) (hLb.below (hBa.mono (by omega))) (by omega) hsb' hOb hseta hcapa
        obtain ⟨rr, hrr⟩ : ∃ rr, rr = lookF v F N (setB M k true) b := ⟨_, rfl⟩
        rw [← hrr] at hCall happ
        rw [hWa, hW1] at hCall
        rw [hW1] at hl
        replace hCall := Lib.hid hCall
        replace hI := Lib.hid hI
        replace hk := Lib.hid hk
        replace hkv := Lib.hid hkv
        replace happ := Lib.hid happ
        replace hrr := Lib.hid hrr
        have hb2 : Hid (∀ w2, Turns (fun b => b = Bm) Wa w2 → Boxed w2 (w.heap.size + 1) 4 (.bool false)) := fun w2 hT => (hT.block _ (by omega) (by omega)).trans (hbox1.alloc (bx b) |> fun h => by rw [← hWa] at h; exact h)
        have hend : Hid (∀ w2, Turns (fun b => b = Bm) Wa w2 → SetAt w2 Bm rr.2 → KeepsFrom W0.heap.size W w2 ∧ Keep n₀ (w.heap.size + 1 + 1 + 1 + 1) W w2 ∧ Turns (fun b => b = Bm) w w2 ∧ w.heap.size + 1 + 1 + 1 + 1 + 1 ≤ w2.heap.size) := fun w2 hT hS =>
          ⟨hKF1.trans ((by rw [hWa]; exact (KeepsOthers.alloc _ _).from _ : KeepsFrom W0.heap.size W1 Wa).trans (keeps_turns hT (by omega))), (hKp1.trans (by rw [hWa]; exact (Keep.refl _ _ W1).alloc (by omega) _)).trans (keep_turns hT (by omega) hC.n1 (by omega)), (hTw1.trans (Turns.of0' hBa)).trans hT, by have := hT.size; omega⟩
        have hWW : Wa = (W.setCell ⟨Bm, k, none⟩ (.bool true)).alloc (bx b) := by rw [hWa, hW1]
        rw [hWW] at hend hb2
        replace hWW := Lib.hid hWW
        replace hWa := Lib.hid hWa
        have hW1' := Lib.hid hW1
        clear hW1 hMM hcap b3 h1 hset hmk hset1 hcap1 hT1 hbox hq hcapa hseta hLb hOb hU hbox1 hBa hKF1 hKp1 hTw1 b31
        obtain ⟨r0, M2⟩ := rr
        have happ2 := happ.out
        simp only at happ2 hCall hend
        cases r0
        · have happ3 : Hid (lookL v F (lookF v F N) met (gl (pre ++ [x])) = (false, M2)) := Lib.hid (by rw [happ2]; simp)
          clear happ happ2 hrr
          gi_wp2_with (refine ⟨trivial, ?_⟩; gi_at_call 101; refine (callsIn_wide.2 hCall.out).mono ?_; rintro e w2 ⟨rfl, hT2, hS2⟩)
          obtain ⟨q1, q2, q3, q4⟩ := hend.out _ hT2 hS2
          exact ⟨q1, q2, by rw [happ3.out], by rw [happ3.out]; exact hS2, hb2.out _ hT2, q3, q4⟩
        · have happ3 : Hid (lookL v F (lookF v F N) met (gl (pre ++ [x])) = (true, M2)) := Lib.hid (by rw [happ2]; simp)
          clear happ happ2 hrr
          gi_wp2_with (refine ⟨trivial, ?_⟩; gi_at_call 101; refine (callsIn_wide.2 hCall.out).mono ?_; rintro e w2 ⟨rfl, hT2, hS2⟩; have y1 := (hb2.out _ hT2).cell; have y2 := (hb2.out _ hT2).frozen; replace hT2 := Lib.hid hT2; replace hS2 := Lib.hid hS2)
          obtain ⟨q1, q2, q3, q4⟩ := hend.out _ hT2.out hS2.out
          have hb3 := (hb2.out _ hT2.out).set (.bool true)
          exact ⟨q1.trans ((KeepsOthers.setCell _ _ _).from _), rfl, lk_end happ3.out q3 hS2.out hmlt ((Below.refl _ _).setCell (p := ⟨w.heap.size + 1, 0, none⟩) (by simp) _) hb3 (by simp; omega)⟩
  case done =>
    rintro D ys W hD hys hI hK
    have hz := hI.siz
    have hbx' := hI.box.set (.bool false)
    have hK' := (KeepsOthers.setCell W ⟨w.heap.size + 1, 0, none⟩ (.bool false)).same D _ hK rfl
    have r1 := hI.box.cell
    have r2 := hI.box.frozen
    have hval : lookF v F (N + 1) met d = lookL v F (lookF v F N) met (gl ys) := by rw [lookF]; exact congrArg _ hys.symm
    have hres := hI.res
    have hB1 : Below w.heap.size W (W.setCell ⟨w.heap.size + 1, 0, none⟩ (.bool false)) := (Below.refl _ _).setCell (p := ⟨w.heap.size + 1, 0, none⟩) (by simp) _
    have hB2 := hB1.trans (belowK_b (w := w) (Nat.le_refl _) _ D _ (.deferred none) (by omega) hK' rfl rfl)
    have hfin : Hid (Turns (fun b => b = Bm) w ((W.setCell ⟨w.heap.size + 1, 0, none⟩ (.bool false)).putObj D (.deferred none)) ∧ SetAt ((W.setCell ⟨w.heap.size + 1, 0, none⟩ (.bool false)).putObj D (.deferred none)) Bm (lookF v F (N + 1) met d).2) :=
      ⟨hI.trn.low hB2 (Nat.le_refl _), by rw [hval]; exact (hB2.block _ hmlt).trans hI.set⟩
    have hv1 : Hid ((lookF v F (N + 1) met d).1 = false) := Lib.hid (by rw [hval]; exact hres)
    have hc5 := cell_kept hbx'.cell (grownBy_putObj' _ D (.deferred none)) (fun r e => by cases e; exact ⟨_, hK', rfl⟩)
    replace hI := Lib.hid hI
    replace hval := Lib.hid hval
    clear hres
    gi_wp2
    refine ⟨by simp, .inl ⟨_, _, rfl, run_takeDeferred hK', ?_⟩⟩
    refine ⟨.bool false, ?_, by rw [hv1.out], hfin.out.1, hfin.out.2⟩
    simp [results, Try.f101, go_sem, hc5]
  case stop =>
    rintro D c pre W hD hpre ⟨rfl, hI⟩ hK
    have hval : lookF v F (N + 1) met d = lookL v F (lookF v F N) met (gl pre) := by
      obtain ⟨rest, hrest⟩ := hpre
      rw [lookF, ← hrest]
      exact lookL_stop v F _ _ _ met hI.res
    have hv1 : Hid ((lookF v F (N + 1) met d).1 = true) := Lib.hid (by rw [hval]; exact hI.res)
    have hB2 := belowK_b (w := w) (Nat.le_refl _) W D _ (.deferred none) (by omega) hK rfl rfl
    have hfin : Hid (Turns (fun b => b = Bm) w (W.putObj D (.deferred none)) ∧ SetAt (W.putObj D (.deferred none)) Bm (lookF v F (N + 1) met d).2) :=
      ⟨hI.trn.low hB2 (Nat.le_refl _), by rw [hval]; exact (hB2.block _ hmlt).trans hI.set⟩
    have hc5 := cell_kept hI.box.cell (grownBy_putObj' _ D (.deferred none)) (fun r e => by cases e; exact ⟨_, hK, rfl⟩)
    replace hI := Lib.hid hI
    replace hval := Lib.hid hval
    gi_wp2
    refine ⟨by simp, .inl ⟨_, _, rfl, run_takeDeferred hK, ?_⟩⟩
    refine ⟨.bool true, ?_, by rw [hv1.out], hfin.out.1, hfin.out.2⟩
    simp [results, Try.f101, go_sem, hc5]

end Go.Proofs.Ythlegfegkopdkaa

namespace Go.Proofs.Ythlegfegkopdkaa
open Go.RowKit Go.Shelf Go.Sort

theorem look_any (n₀ : Nat) (F : Int → Option DT) (v : Nat) (bm nb Bm Bu Bv Bl N : Nat) : LookSpec n₀ F v bm nb Bm Bu Bv Bl N := by
  induction N with
  | zero => intro d w met h; omega
  | succ N ih => exact look_step n₀ F v bm nb Bm Bu Bv Bl N ih

def GoodF (n₀ : Nat) (w : World) (F : Int → Option DT) : Prop := Els (fun d => (Lies n₀ w d ∧ OkV d.tm) ∧ d.size < 1000000) F
theorem GoodF.below {n₀ : Nat} {w w' : World} {F : Int → Option DT} (h : GoodF n₀ w F) (hb : Below n₀ w w') : GoodF n₀ w' F := fun i d hd => ⟨⟨((h i d hd).1.1).below hb, (h i d hd).1.2⟩, (h i d hd).2⟩

set_option maxRecDepth 100000 in
set_option maxHeartbeats 1000000 in
theorem stands_any (n₀ : Nat) (F : Int → Option DT) (v : Nat) (bm nb : Nat) (d : DT) (w : World) (hm : TMap w bm nb F) (hE : GoodF n₀ w F) (hn : n₀ ≤ w.heap.size) (hL : Lies n₀ w d) (hO : OkV d.tm) (hs : 1 + d.size ≤ 1000000) :
    Calls Try.prog 95 #[.map (some bm), .int .i64 (v : Nat), dv d] w fun e w' => e = .returned (.bool (standsB v F d)) ∧ Below w.heap.size w w' := by
  have hmf : ∀ (fn : Fn) (first cap : Array Value) (w : World), (Instr.makeFunc fn first cap).run Try.prog w = .ok (.func fn first cap) w := fun _ _ _ _ => rfl
  obtain ⟨W0, hW0⟩ : ∃ W0, W0 = ((((w.alloc (.cells #[.map (some bm)] 105)).alloc (.cells #[.int .i64 (v : Nat)] 3)).alloc (bx d)).alloc zs).alloc (.cells #[.func (.func 101) #[] #[.pointer (some ⟨w.heap.size + 1 + 1 + 1, 0, none⟩), .pointer (some ⟨w.heap.size, 0, none⟩), .pointer (some ⟨w.heap.size + 1, 0, none⟩), .pointer (some ⟨w.heap.size + 1 + 1 + 1 + 1, 0, none⟩)]] 46) := ⟨_, rfl⟩
  have hB0 : Below w.heap.size w W0 := by rw [hW0]; go_grown
  have hlt := hm.lt
  have hz0 : W0.heap.size = w.heap.size + 1 + 1 + 1 + 1 + 1 := by rw [hW0]; simp
  have q0 : Boxed W0 w.heap.size 105 (.map (some bm)) := by rw [hW0]; exact heap_old (heap_old (heap_old (heap_old (heap_new' _ rfl))))
  have q1 : Boxed W0 (w.heap.size + 1) 3 (.int .i64 (v : Nat)) := by rw [hW0]; exact heap_old (heap_old (heap_old (heap_new' _ (by simp))))
  have q3 : SetAt W0 (w.heap.size + 1 + 1 + 1) (fun _ => false) := by
    have := (SetAt.none (((w.alloc (.cells #[.map (some bm)] 105)).alloc (.cells #[.int .i64 (v : Nat)] 3)).alloc (bx d)))
    simp only [World.size_alloc] at this
    rw [hW0]; exact this.alloc _
  have q4 : Boxed W0 (w.heap.size + 1 + 1 + 1 + 1) 46 (.func (.func 101) #[] #[.pointer (some ⟨w.heap.size + 1 + 1 + 1, 0, none⟩), .pointer (some ⟨w.heap.size, 0, none⟩), .pointer (some ⟨w.heap.size + 1, 0, none⟩), .pointer (some ⟨w.heap.size + 1 + 1 + 1 + 1, 0, none⟩)]) := by rw [hW0]; exact heap_new' _ (by simp)
  have hcap : Cap n₀ F v bm nb (w.heap.size + 1 + 1 + 1) w.heap.size (w.heap.size + 1) (w.heap.size + 1 + 1 + 1 + 1) W0 :=
    ⟨q0, q1, q4, hm.same (hB0.block _ hlt), hE.below (hB0.mono hn), by omega, by omega⟩
  have hC := look_any n₀ F v bm nb (w.heap.size + 1 + 1 + 1) w.heap.size (w.heap.size + 1) (w.heap.size + 1 + 1 + 1 + 1) 21 d W0 (fun _ => false) (by have := unm_le (fun _ => false); omega) (hL.below (hB0.mono hn)) (by omega) hs hO q3 hcap
  rw [hW0] at hC
  replace hC := Lib.hid hC
  clear hcap q0 q1 q3 q4 hE hm hL hO
  go_enter Try.func95, Try.ntmps95
  go_wp2_with fail
  refine (hC.out).mono ?_
  rintro e w1 ⟨rfl, hT, -⟩
  have hB : Hid (Below w.heap.size w w1) := by rw [← hW0] at hT; exact hB0.trans (hT.below (by omega) (fun k hk e => by omega))
  clear hT
  go_wp2_with fail
  go_ret
  exact ⟨rfl, hB.out⟩

theorem asU_U (n : Int) (w : World) : (Instr.typeAssert (ifU n) 121 124 true).run Try.prog w = .ok (.tuple #[.agg #[.int .i64 n], .bool true]) w := by kernel_rfl
theorem asU_K (d : DT) (w : World) : (Instr.typeAssert (ifK d) 121 124 true).run Try.prog w = .ok (.tuple #[.agg #[.int .i64 0], .bool false]) w := by kernel_rfl
theorem asK_K (d : DT) (w : World) : (Instr.typeAssert (ifK d) 121 127 true).run Try.prog w = .ok (.tuple #[dv d, .bool true]) w := by kernel_rfl
theorem varTerm_is (n : Int) (w : World) : Calls Try.prog 57 #[.int .i64 n] w fun e w' => e = .returned (dv (vD n)) ∧ Below w.heap.size w w' := by
  go_enter Try.func57, Try.ntmps57
  go_wp2_with fail
  exact bodyPost_ret (v := .agg #[.int .i64 1, .int .i64 n, .slice none 0 0]) (by simp [results, Try.f57, go_sem]) rfl ⟨rfl, by go_grown⟩

theorem wp_mapStore {k e : TypeId} (w : World) {o : Oper} {a : Act} {K : Act → World → Prop} {Q : Exit → Act → World → Prop}
    (m x v : Operand) (t : TypeId) (hop : o.op = Op.mapUpdate t m x v)
    (L : Go.Maps.Keyed Try.prog k) (ht : Try.prog.underlying t = some (.map k e)) (b n : Nat) (f : Lit → Option Value)
    (hm : a.eval m = .map (some b)) (hown : MapV Try.prog k w b n f) (hn : n < maxLen) (key val : Value) (kl : Lit) (hx : a.eval x = key) (hv : a.eval v = val) (hkey : keyOf Try.prog k key = some kl) (hkl : WideAt.IsKeyLit kl)
    (hK : ∀ w', MapV Try.prog k w' b (n + 1) (upd f kl val) → w.grownBy w' (some b) → K (a.put o.dst undef) w') : Oper.wp Try.prog o a w K Q := by
  obtain ⟨w', hrun, r1, r2⟩ := hown.store (val := val) L ht hn hkey hkl
  unfold Oper.wp
  simp [execOp, hop, hm, hx, hv, hrun, Result.andThen]
  exact hK w' r1 r2

end Go.Proofs.Ythlegfegkopdkaa
