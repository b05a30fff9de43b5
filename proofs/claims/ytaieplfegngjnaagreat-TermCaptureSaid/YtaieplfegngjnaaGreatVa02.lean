/- Own text, joined of: N1 N2 N3. 'put' gives up: 'rebuild' round a call that gives up; a node; a let's wrapper. · 'put' gives up: a node, a let's wrapper. · 'putLet' gives up. -/
import Derived.Test.YtaieplfegngjnaaGreatOr22
import Derived.Test.YtaieplfegngjnaaGreatOr29

namespace Go.Proofs.YtaieplfegngjnaaGreat
open Go.RowKit Go.Shelf Go.Sort

abbrev gaveLong : Ending := .panicked [{ v := .iface 120 (.agg #[.int .i64 3]), recovered := false }]
/-- The call gives up with ErrLong; what lay in memory is left. -/
def Gone (w : World) (e : Ending) (w' : World) : Prop := e = gaveLong ∧ Below w.heap.size w w'
theorem Gone.mk {w w' : World} (h : Below w.heap.size w w') : Gone w gaveLong w' := ⟨rfl, h⟩
theorem Gone.up {w w0 : World} {e : Ending} {w' : World} (h : Gone w0 e w') (hb : Below w.heap.size w w0) : Gone w e w' := ⟨h.1, hb.trans (h.2.mono hb.size)⟩

set_option maxRecDepth 100000 in
set_option maxHeartbeats 1000000 in
theorem rebuild_gone (d : DT) (gf : Nat) (first cap : Array Value) (eg : ∀ args w, (callFunc gf args).run Tryz.prog w = .ok (.enter gf args) w)
    (F : Nat → Tm) (Inv : Nat → World → Prop) (n₀ : Nat) (w : World) (k0 : Nat) (hk0 : k0 < d.kids.length) (hlen : d.kids.length ≤ 1000000) (hn : n₀ ≤ w.heap.size) (hL : Lies n₀ w d)
    (hst : ∀ k W W', Inv k W → Below w.heap.size W W' → Inv k W')
    (hf : ∀ k (h : k < d.kids.length), k < k0 → ∀ W, Inv k W → Turns noR w W → Calls Tryz.prog gf (first.push (.agg #[.int .i64 d.kids[k].op, .int .i64 d.kids[k].n, .slice d.kids[k].a d.kids[k].l d.kids[k].c]) ++ cap) W (Makes noR W (F k) (Inv (k + 1))))
    (hg : ∀ W, Inv k0 W → Turns noR w W → Calls Tryz.prog gf (first.push (.agg #[.int .i64 d.kids[k0].op, .int .i64 d.kids[k0].n, .slice d.kids[k0].a d.kids[k0].l d.kids[k0].c]) ++ cap) W (Gone W))
    (h0 : Inv 0 w) :
    Calls Tryz.prog 122 #[.agg #[.int .i64 d.op, .int .i64 d.n, .slice d.a d.l d.c], .func (.func gf) first cap] w (Gone w) := by
  obtain ⟨hl, hlc, hc, hk⟩ := hL.open
  have hR : ∀ b, noR b → n₀ ≤ b ∧ b < w.heap.size := fun _ h => h.elim
  replace hf := Lib.hid hf
  replace hg := Lib.hid hg
  replace h0 := Lib.hid h0
  replace hst := Lib.hid hst
  replace hl := Lib.hid hl
  replace hR := Lib.hid hR
  obtain ⟨i0, hi, hz0, hz1, hz2⟩ := info_parts inf28
  go_enter Tryz.func122, Tryz.ntmps122
  go_wp2_with fail
  go_loopw [7, 16] (fun _ i wr => ∃ k : Nat, k ≤ k0 ∧ i = .int .i64 k ∧ RelK noR w d F Inv k wr) (fun _ i _ => d.l - (intOf i).toNat)
  case atStart =>
    refine ⟨0, by omega, rfl, [], _, _, _, rfl, ?_, ?_, World.ownsRow_nil _ _ _ _, by simp, hst.out _ _ _ h0.out ?_, (((Turns.refl noR w).alloc _).alloc _).alloc _⟩
    · exact heap_new' _ (by simp)
    · exact heap_old (heap_new' _ (by simp))
    · go_grown
  case round =>
    obtain ⟨k, hk1, rfl, hI⟩ := hrel
    have hkd : k < d.kids.length := by omega
    have hkl : k < d.l := by have := hl.out; omega
    obtain ⟨K, va, vl, vc, r1, r2, r3, r4, r5, r6, r7⟩ := hI
    obtain ⟨⟨p0, p1, p2⟩, p3, p4, p5⟩ := c3_cells r2
    rcases hk with hk | ⟨b, off, ha, hbn, hks⟩
    · rw [hk] at hkd; simp at hkd
    have hB7 := r7.below hn (fun b hb hr => by have := (hR.out b hr).1; omega)
    obtain ⟨g1, g2⟩ := LiesAll.get _ hks k hkd
    obtain ⟨c0, c1, c2⟩ := g1.below hB7 hbn
    have hz := r7.size
    have hzz := (Array.getElem?_eq_some_iff.1 r2).1
    have o1 : (k : Int) < (d.l : Int) := by omega
    obtain ⟨wo, hwo⟩ : ∃ wo, wo = wr.alloc (.cells #[.int .i64 d.kids[k].op, .int .i64 d.kids[k].n, .slice d.kids[k].a d.kids[k].l d.kids[k].c] 28) := ⟨_, rfl⟩
    have hBo : Below wr.heap.size wr wo := by rw [hwo]; go_grown
    have hIo : Inv k wo := hst.out _ _ _ r6 (hBo.mono hz)
    have hTo : Turns noR w wo := r7.then (hBo.mono hz)
    by_cases hlt : k < k0
    · have hC := hf.out k hkd hlt wo.drew (hst.out _ _ _ hIo ((Below.refl _ _).drew)) (hTo.then ((Below.refl _ _).drew))
      rw [hwo] at hC
      replace hC := Lib.hid hC
      clear hks g1 g2 hL hg
      replace r1 := Lib.hid r1
      replace r2 := Lib.hid r2
      replace r3 := Lib.hid r3
      replace r5 := Lib.hid r5
      rw [ha]
      have hb1 := Lib.hid r4
      clear r4
      go_wp2_with fail
      go_region_law (first
        | (go_simp; refine (hC.out).mono ?_; rintro e w1 ⟨a', l', c', rfl, ht', hI', hT'⟩; obtain ⟨n0, n1, n3, n2, n4, n5, n6, n7⟩ := made_at hR.out r2.out hb1.out hz hT')
        | (refine step_append_lies _ (by rfl) _ _ _ (by rfl) (w.heap.size + 1 + 1 + 1) 28 i0 _ 3 40 und26 hi hz0 hz1 hz2 rfl (by omega) (.slice va vl vc) k (flat K) (by rfl) (n2.out.alloc _)
            ⟨w1.heap.size, 0, none⟩ 1 1 [.int .i64 (F k).op, .int .i64 (F k).n, .slice a' l' c'] (by rfl) (by rfl) (World.news_of_block (cs := #[.int .i64 (F k).op, .int .i64 (F k).n, .slice a' l' c']) (t := 28) (fr := (0, 0)) (heap_new' _ rfl)) (by simp [Value.oneCell'])
            (by omega) (by unfold maxLen; omega) (by omega) (by simp; omega) (w1.heap.size + 1) (by simp) ?_; intro gg cap2 w2 hown1 hgrow hat hlt2; have m1 := grow_made hgrow n2.out (by omega) n0.out; have m2 := m1.1; have m3 := m1.2; clear m1))
      all_goals
        have hrel := Lib.hid (rel_step2 hst.out r1.out r2.out r3.out hb1.out r5.out hz n5.out n7 (by rw [hwo] at hTo; exact hTo) ht' hT' hI' hgrow hown1 hat)
        clear m2 m3 n0 n1 n2 n3 n4 n5 n6 n7
        go_wp2_with fail
        go_roundw
        case rel => exact ⟨k + 1, by omega, by go_num, hrel.out⟩
        case measure => simp [intOf]; omega
    · have hke : k = k0 := by omega
      subst hke
      have hk2 : wo.heap[w.heap.size + 1 + 1]? = some (.cells #[.int .i64 d.op, .int .i64 d.n, .slice va vl vc] 28 (0, 0)) := by rw [hwo]; exact heap_old r2
      have hk3 : wo.heap[wr.heap.size]? = some (.cells #[.int .i64 d.kids[k].op, .int .i64 d.kids[k].n, .slice d.kids[k].a d.kids[k].l d.kids[k].c] 28 (0, 0)) := by rw [hwo]; exact heap_new' _ rfl
      have hzo : wr.heap.size < wo.heap.size := by rw [hwo]; simp
      replace hk2 := Lib.hid hk2
      replace hk3 := Lib.hid hk3
      have hgo := Lib.hid (fun W (h : Below wo.heap.size wo W) => hg.out W (hst.out _ _ _ hIo (h.mono hTo.b0.size)) (hTo.then (h.mono hTo.b0.size)))
      have hend : Hid (∀ x w1, Below wo.heap.size wo x → Below x.heap.size x w1 → Below w.heap.size w w1) := Lib.hid (fun x w1 hx h => Below.up (Below.up hTo.b0 hx) h)
      clear hks g1 g2 hL hf hg hIo hTo hBo
      replace r1 := Lib.hid r1
      replace r2 := Lib.hid r2
      replace r3 := Lib.hid r3
      replace r5 := Lib.hid r5
      rw [ha]
      clear r4
      replace hwo := Lib.hid hwo
      go_upto_region 5 with fail
      rw [← hwo.out]
      refine region_named (S := fun W' => Below wo.heap.size wo W') (by kernel_rfl) (fun x hx => ?_)
      have hq : Hid (Below wo.heap.size wo x) := Lib.hid (by rw [hx]; exact (Below.refl _ _).drew)
      clear hx p0 p1 p2 p3 p4 p5 c0 c1 c2
      have hC := Lib.hid (hgo.out x hq.out)
      refine takeH 0 20 (.pointer (some ⟨w.heap.size + 1 + 1, 2, none⟩)) rfl rfl (by kernel_rfl) (by kernel_rfl) (by kernel_rfl) (fun _ _ _ h => h) (by rfl) (by intro W hSw; clear hSw; go_simp) hq.out ?_
      try simp only [List.setIfInBounds_toArray, List.set_cons_zero, List.set_cons_succ]
      refine takeH 1 21 (.slice va vl vc) rfl rfl (by kernel_rfl) (by kernel_rfl) (by kernel_rfl) (fun _ _ _ h => h) (by rfl) (by intro W hSw; obtain ⟨⟨j0, j1, j2⟩, -⟩ := c3_cells ((hSw.block _ (by omega)).trans hk2.out); clear hSw; go_simp) hq.out ?_
      try simp only [List.setIfInBounds_toArray, List.set_cons_zero, List.set_cons_succ]
      refine takeH 2 22 (.func (.func gf) first cap) rfl rfl (by kernel_rfl) (by kernel_rfl) (by kernel_rfl) (fun _ _ _ h => h) (by rfl) (by intro W hSw; clear hSw; go_simp) hq.out ?_
      try simp only [List.setIfInBounds_toArray, List.set_cons_zero, List.set_cons_succ]
      refine takeH 3 23 (.agg #[.int .i64 d.kids[k].op, .int .i64 d.kids[k].n, .slice d.kids[k].a d.kids[k].l d.kids[k].c]) rfl rfl (by kernel_rfl) (by kernel_rfl) (by kernel_rfl) (fun _ _ _ h => h) (by rfl) (by intro W hSw; obtain ⟨⟨j0, j1, j2⟩, -⟩ := c3_cells ((hSw.block _ (by omega)).trans hk3.out); clear hSw; go_simp) hq.out ?_
      try simp only [List.setIfInBounds_toArray, List.set_cons_zero, List.set_cons_succ]
      refine wpAnyH_ready (rs := [4]) (by kernel_rfl) (by simp) ?_
      refine AllReadyH.cons rfl (fun K hKc => ?_) AllReadyH.nil
      go_simp
      refine (hC.out).mono ?_
      rintro e w1 ⟨rfl, hb1⟩
      exact ⟨rfl, Gone.mk (hend.out x w1 hq.out hb1)⟩

end Go.Proofs.YtaieplfegngjnaaGreat

namespace Go.Proofs.YtaieplfegngjnaaGreat
open Go.RowKit Go.Shelf Go.Sort

theorem mapM_none {α β : Type} {f : α → Option β} : ∀ {l : List α}, l.mapM f = none → ∃ k, ∃ h : k < l.length, f l[k] = none ∧ ∀ j (hj : j < k), ∃ x, f (l[j]'(by omega)) = some x
  | [], h => by simp at h
  | a :: l, h => by
    cases ha : f a with
    | none => exact ⟨0, by simp, ha, fun j hj => by omega⟩
    | some x =>
      rw [List.mapM_cons, ha] at h
      cases hl : l.mapM f with
      | some s => simp [hl] at h
      | none =>
        obtain ⟨k, hk, h1, h2⟩ := mapM_none hl
        refine ⟨k + 1, by simpa using hk, by simpa using h1, fun j hj => ?_⟩
        cases j with
        | zero => exact ⟨x, ha⟩
        | succ j => obtain ⟨y, hy⟩ := h2 j (by omega); exact ⟨y, by simpa using hy⟩

def PutGone (F : Int → Option DT) (st : Nat → Bool) (bm nb : Nat) (N : Nat) : Prop := ∀ (d : DT) (n₀ : Nat) (w : World) (g : Nat → Bool), putF F st N g d.tm = none → d.size ≤ N → Lies n₀ w d → n₀ ≤ w.heap.size → 1 + d.size ≤ 1000000 → OkV d.tm → TMap w bm nb F → PutOk n₀ w F →
  Calls Tryz.prog 97 #[.agg (psA bm st g), dv d] w (Gone w)
def PutLetGone (F : Int → Option DT) (st : Nat → Bool) (bm nb : Nat) (N : Nat) : Prop := ∀ (d : DT) (n₀ : Nat) (w : World) (g : Nat → Bool), putF F st N g d.tm = none → d.size ≤ N → d.op = 8 → Lies n₀ w d → n₀ ≤ w.heap.size → 1 + d.size ≤ 1000000 → OkV d.tm → TMap w bm nb F → PutOk n₀ w F →
  Calls Tryz.prog 121 #[.agg (psA bm st g), dv d] w (Gone w)

set_option maxRecDepth 100000 in
set_option maxHeartbeats 1000000 in
theorem put_node_gone (F : Int → Option DT) (st : Nat → Bool) (bm nb N : Nat) (ih : PutSpec F st bm nb N) (ihg : PutGone F st bm nb N) (d : DT) (n₀ : Nat) (w : World) (g : Nat → Bool) (hT : putF F st (N + 1) g d.tm = none) (hN : d.size ≤ N + 1) (hL : Lies n₀ w d) (hn : n₀ ≤ w.heap.size) (hsz : 1 + d.size ≤ 1000000) (hO : OkV d.tm) (hm : TMap w bm nb F) (hE : PutOk n₀ w F)
    (h1 : d.op ≠ 1) (h8 : d.op ≠ 8) : Calls Tryz.prog 97 #[.agg (psA bm st g), dv d] w (Gone w) := by
  obtain ⟨f1, f2, f3, f4, f5⟩ := put0_facts w bm st g d
  have hds := dsize_eq d
  have hL0 := hL.below (f5.mono hn)
  have hlen : d.kids.length ≤ dsizes d.kids := by
    have h1 := length_le_sizes (tms d.kids); rw [sizes_tms, tms_map, List.length_map] at h1; exact h1
  have hOk : OkVs d.tm.kids := hO.open.2.2.2
  have hts : d.tm.kids.mapM (putF F st N g) = none := by
    rw [show d.tm = .mk d.op d.n d.tm.kids by cases d; simp [DT.tm, DT.op, DT.n, Tm.kids], putF_node _ _ _ _ _ _ _ h1 h8] at hT
    cases hq : d.tm.kids.mapM (putF F st N g) with
    | none => rfl
    | some ts => rw [hq] at hT; cases hT
  obtain ⟨k0, hk0, hg0, hs0⟩ := mapM_none hts
  have hkl : d.tm.kids.length = d.kids.length := by rw [DT.tm_kids, List.length_map]
  have hke : ∀ k (h : k < d.kids.length) (h' : k < d.tm.kids.length), d.tm.kids[k] = d.kids[k].tm := fun k h h' => by simp only [DT.tm_kids, List.getElem_map]
  have hk0' : k0 < d.kids.length := by omega
  have hC := rebuild_gone d 97 #[.agg (psA bm st g)] #[] (enters_of Tryz.func97 (by kernel_rfl) rfl) (fun k => ((d.kids[k]?).bind fun x => putF F st N g x.tm).getD (.mk 0 0 [])) (fun _ W => Below (put0 w bm st g d).heap.size (put0 w bm st g d) W) n₀ (put0 w bm st g d) k0 hk0' (by omega) (by omega) hL0
    (fun k W W' hI hBl => hI.trans hBl)
    (fun k hk hlt W hI hT => by
      have hsk := dsize_kid d.kids k hk
      have hkt : k < d.tm.kids.length := by omega
      have hOkk : OkV d.kids[k].tm := by rw [← hke k hk hkt]; exact OkVs_get _ k hkt hOk
      obtain ⟨x, hx⟩ := hs0 k hlt
      rw [hke k hk hkt] at hx
      have hbw : Below w.heap.size w W := f5.trans (hI.mono (by omega))
      have hgd : ((d.kids[k]?).bind fun x => putF F st N g x.tm).getD (.mk 0 0 []) = x := by rw [List.getElem?_eq_getElem hk]; simp [hx]
      refine (ih d.kids[k] n₀ W g _ hx ((hL0.kids_lie _ (List.getElem_mem hk)).below (hI.mono (by omega))) (by have := hI.size; omega) (by omega) hOkk (hm.same (hbw.block _ hm.lt)) (hE.below (hbw.mono hn))).mono ?_
      rintro e W' ⟨a, l, c, rfl, hF, -, hT'⟩
      rw [hgd]
      exact ⟨a, l, c, rfl, hF, hI.trans (hT'.b0.mono hI.size), hT'⟩)
    (fun W hI hT => by
      have hsk := dsize_kid d.kids k0 hk0'
      have hOkk : OkV d.kids[k0].tm := by rw [← hke k0 hk0' hk0]; exact OkVs_get _ k0 hk0 hOk
      rw [hke k0 hk0' hk0] at hg0
      have hbw : Below w.heap.size w W := f5.trans (hI.mono (by omega))
      exact ihg d.kids[k0] n₀ W g hg0 (by omega) ((hL0.kids_lie _ (List.getElem_mem hk0')).below (hI.mono (by omega))) (by have := hI.size; omega) (by omega) hOkk (hm.same (hbw.block _ hm.lt)) (hE.below (hbw.mono hn)))
    (Below.refl _ _)
  have e1 : (d.op == 1) = false := by simpa using h1
  have e8 : (d.op == 8) = false := by simpa using h8
  replace hC := Lib.hid hC
  replace f1 := Lib.hid f1
  replace f3 := Lib.hid f3
  replace f5 := Lib.hid f5
  clear f2 ih ihg hL hL0 hO hOk hlen hm hE hT hts hkl h1 h8 hds hke hg0 hs0
  go_enter Tryz.func97, Tryz.ntmps97
  go_upto_region 8 with fail
  go_wp2_with (first | refine load_ps (.tmp 2) f1.out rfl rfl rfl ?_)
  refine (hC.out).mono ?_
  rintro e w1 ⟨rfl, hb1⟩
  exact ⟨rfl, Gone.mk (Below.up f5.out hb1)⟩

set_option maxRecDepth 100000 in
set_option maxHeartbeats 1000000 in
theorem put_let_gone (F : Int → Option DT) (st : Nat → Bool) (bm nb N : Nat) (ihl : PutLetGone F st bm nb (N + 1)) (d : DT) (n₀ : Nat) (w : World) (g : Nat → Bool) (hT : putF F st (N + 1) g d.tm = none) (hN : d.size ≤ N + 1) (hL : Lies n₀ w d) (hn : n₀ ≤ w.heap.size) (hsz : 1 + d.size ≤ 1000000) (hO : OkV d.tm) (hm : TMap w bm nb F) (hE : PutOk n₀ w F)
    (h8 : d.op = 8) : Calls Tryz.prog 97 #[.agg (psA bm st g), dv d] w (Gone w) := by
  obtain ⟨f1, f2, f3, f4, f5⟩ := put0_facts w bm st g d
  have hC := ihl d n₀ (put0 w bm st g d) g hT hN h8 (hL.below (f5.mono hn)) (by omega) hsz hO (hm.same (f5.block _ hm.lt)) (hE.below (f5.mono hn))
  have e1 : (d.op == 1) = false := by simp; omega
  have e8 : (d.op == 8) = true := by simpa using h8
  replace h8 := Lib.hid h8
  replace hC := Lib.hid hC
  replace f1 := Lib.hid f1
  replace f3 := Lib.hid f3
  replace f5 := Lib.hid f5
  clear f2 ihl hL hO hm hE hT
  go_enter Tryz.func97, Tryz.ntmps97
  go_upto_region 7 with fail
  go_wp2_with (first | refine load_ps (.tmp 2) f1.out rfl rfl rfl ?_)
  refine (hC.out).mono ?_
  rintro e w1 ⟨rfl, hb1⟩
  exact ⟨rfl, Gone.mk (Below.up f5.out hb1)⟩

end Go.Proofs.YtaieplfegngjnaaGreat

namespace Go.Proofs.YtaieplfegngjnaaGreat
open Go.RowKit Go.Shelf Go.Sort

theorem leastN_all {f : Nat → Bool} (h : leastN f = none) : ∀ j, j < 20 → f j = true := fun j hj => by
  unfold leastN at h
  rw [List.find?_eq_none] at h
  simpa using h j (List.mem_range.2 hj)

set_option maxRecDepth 100000 in
set_option maxHeartbeats 1000000 in
theorem leastOutside_gone (f : Nat → Bool) (w : World) (hv : leastN f = none) :
    Calls Tryz.prog 142 #[.agg (vs f)] w (Gone w) := by
  have hB0 : Below w.heap.size w (w.alloc (.cells (vs f) 79)) := (Below.refl _ _).alloc (Nat.le_refl _) _
  have hc := fun k (hk : k < 20) => vs_get f hk
  have ha := leastN_all hv
  clear hv
  replace ha := Lib.hid ha
  replace hc := Lib.hid hc
  go_enter Tryz.func142, Tryz.ntmps142
  go_wp2_with fail
  go_loop [3, 4] (fun _ i => ∃ k : Nat, k ≤ 20 ∧ i = .int .i64 k) (fun _ i => 20 - (intOf i).toNat)
  case atStart => exact ⟨0, by omega, rfl⟩
  case round =>
    obtain ⟨k, hk, rfl⟩ := hrel
    by_cases hlt : k < 20
    · have o1 : (k : Int) < 20 := by omega
      have c1 := hc.out k hlt
      have hf := ha.out k hlt
      rw [hf] at c1
      replace hf := Lib.hid hf
      go_wp2_with fail
      go_round
      case rel => exact ⟨k + 1, by omega, by go_num⟩
      case measure => simp [intOf]; omega
    · have : k = 20 := by omega
      subst this
      go_wp2_with fail
      exact ⟨rfl, Gone.mk hB0⟩

def LetGone (F : Int → Option DT) (st g : Nat → Bool) (N : Nat) (x : DT) (w w0 : World) (s5 : Value) (W : World) : Prop :=
  ∃ (m : Nat) (Y : DT), m < 20 ∧ s5 = .int .i64 m ∧ W.heap[w.heap.size + 1 + 1 + 1]? = some (bx Y) ∧ Lies W.heap.size W Y ∧ 1 + Y.size ≤ 1000000 ∧ OkV Y.tm ∧ Below w0.heap.size w0 W ∧
    Y.size ≤ N ∧ (putF F st N g x.tm = none ∨ putF F st N (setB g m true) Y.tm = none)

set_option maxRecDepth 100000 in
set_option maxHeartbeats 4000000 in
theorem putLet_gone (F : Int → Option DT) (st : Nat → Bool) (bm nb N : Nat) (ih : PutSpec F st bm nb N) (ihg : PutGone F st bm nb N) : PutLetGone F st bm nb (N + 1) := by
  intro d n₀ w g hT hN h8 hL hn hsz hO hm hE
  obtain ⟨f1, f2, f3, f4, f5⟩ := put0_facts w bm st g d
  obtain ⟨o1, -, o3, o4⟩ := hO.open
  rw [DT.tm_op, DT.tm_n] at o1
  rw [DT.tm_op] at o3
  obtain ⟨hn0, hn20⟩ := o1 (.inr h8)
  obtain ⟨v, hv⟩ : ∃ v : Nat, d.n = v := ⟨d.n.toNat, by omega⟩
  have hv20 : v < 20 := by omega
  obtain ⟨x, y, b, off, hxy, hsx, hl, ha, hbn, ⟨g1, g2⟩, ⟨g3, g4⟩⟩ := two_kids (hL.below (f5.mono hn)) (by have := o3 h8; rwa [DT.tm_kids, List.length_map] at this)
  have hdt : d.tm.kids = [x.tm, y.tm] := by rw [DT.tm_kids, hxy]; rfl
  rw [hdt] at o4
  simp only [OkVs] at o4
  have hbz : b < w.heap.size := by omega
  obtain ⟨w0, hw0⟩ : ∃ w0, w0 = put0 w bm st g d := ⟨_, rfl⟩
  rw [← hw0] at f1 f2 f3 f4 f5 g1 g2 g3 g4
  obtain ⟨⟨b0, b1, b2⟩, -⟩ := c3_cells f2
  rw [ha] at b2
  obtain ⟨y0, y1, y2⟩ := g3
  have hl2 : (1 : Int) < (d.l : Int) := by omega
  have hl0 : 0 < d.l := by omega
  have hl1 : 1 < d.l := by omega
  rw [hv] at b1
  rw [hw0] at b0 b1 b2 y0 y1 y2
  replace hw0 := Lib.hid hw0
  replace ha := Lib.hid ha
  replace hl := Lib.hid hl
  replace h8 := Lib.hid h8
  replace hv := Lib.hid hv
  replace f1 := Lib.hid f1
  replace f2 := Lib.hid f2
  replace f3 := Lib.hid f3
  replace f5 := Lib.hid f5
  replace hm := Lib.hid hm
  replace hE := Lib.hid hE
  replace ih := Lib.hid ih
  replace ihg := Lib.hid ihg
  replace hT := Lib.hid hT
  replace g1 := Lib.hid g1
  have hdt' := Lib.hid hdt
  have hLd := Lib.hid hL
  have hOd := Lib.hid hO
  clear hL hO o1 o3 hxy hdt
  go_enter Tryz.func121, Tryz.ntmps121
  go_upto_region 1 with fail
  go_region_held3 (fun W' => (W'.cell? ⟨w.heap.size + 1, 1, none⟩ = some (.int .i64 (v : Nat)) ∧ W'.cell? ⟨w.heap.size + 1, 2, none⟩ = some (.slice (some ⟨b, off, none⟩) d.l d.c)) ∧ (W'.cell? ⟨b, off + 3, none⟩ = some (.int .i64 y.op) ∧ W'.cell? ⟨b, off + 3 + 1, none⟩ = some (.int .i64 y.n) ∧ W'.cell? ⟨b, off + 3 + 2, none⟩ = some (.slice y.a y.l y.c)))
    (go_keep) (fail)
  go_upto_region 2 with fail
  obtain ⟨W1, hW1⟩ : ∃ W1, W1 = (((((w.alloc (.cells (psA bm st g) 125)).alloc (.cells #[.int .i64 d.op, .int .i64 d.n, .slice d.a d.l d.c] 28)).alloc (.cells #[.int .i64 0, .int .i64 0, .slice none 0 0] 28)).alloc (.cells #[.int .i64 y.op, .int .i64 y.n, .slice y.a y.l y.c] 28)).drew) := ⟨_, rfl⟩
  rw [← hW1]
  have hB1 : Below w0.heap.size w0 W1 := by rw [hW1, hw0.out]; exact ((Below.refl _ _).alloc (Nat.le_refl _) _).drew
  have hy6 : W1.heap[w.heap.size + 1 + 1 + 1]? = some (bx y) := by rw [hW1]; exact heap_new' _ (by simp)
  have hz1 : W1.heap.size = w.heap.size + 4 := by rw [hW1]; simp [World.drew]
  have p1 : PsAt W1 w.heap.size bm st g := (hB1.block _ (by omega)).trans f1.out
  have hbw1 : Below w.heap.size w W1 := f5.out.trans (hB1.mono (by omega))
  replace hW1 := Lib.hid hW1
  clear b0 b1 b2 y0 y1 y2
  have hIn := Lib.hid (fun dd os => (pinside_any (grow (redrawn W1 dd) os) bm st g v hv20).regrown_of)
  have hCt := Lib.hid (fun dd os => (catches_any (grow (redrawn W1 dd) os) bm nb n₀ F st (setB g v true) v y hv20 (hm.out.same (((below_regrown W1 dd os).block _ (by have := hm.out.lt; omega)).trans (hbw1.block _ hm.out.lt))) (fun i z hz => ((hE.out.below (hbw1.mono hn)).below ((below_regrown W1 dd os).mono (by omega)) i z hz).1) (by have := (below_regrown W1 dd os).size; omega) ((g4.below (hB1.mono (by omega))).below ((below_regrown W1 dd os).mono (by omega))) o4.2.1).regrown_of)
  obtain ⟨⟨z0, z1, z2⟩, -⟩ := c3_cells hy6
  have d0 := fun dd os => cell_regrown z0 dd os
  have d1 := fun dd os => cell_regrown z1 dd os
  have d2 := fun dd os => cell_regrown z2 dd os
  have hps : ∀ w', (∃ p : Regrown, w' = grow (redrawn W1 p.d) p.os) → w'.heap[w.heap.size]? = some (.cells (psA bm st g) 125 (0, 0)) := fun w' ⟨q, hq⟩ => by
    subst hq; exact ((below_regrown W1 q.d q.os).block _ (by omega)).trans p1
  replace hps := Lib.hid hps
  replace p1 := Lib.hid p1
  replace hy6 := Lib.hid hy6
  replace hB1 := Lib.hid hB1
  replace hbw1 := Lib.hid hbw1
  -- what is to be made
  have hT' : (if catchB F (setB g v true) v y.tm = true then
          match leastN (orSet (stT d.tm (fun _ => false)) st) with
          | none => none
          | some m => (putF F st N g x.tm).bind fun a' => (putF F st N (setB g m true) (renT v m y.tm)).map fun b' => Tm.mk 8 m [a', b']
        else (putF F st N g x.tm).bind fun a' => (putF F st N (setB g v true) y.tm).map fun b' => Tm.mk 8 v [a', b']) = none := by
    have h := hT.out
    have hd : d.tm = .mk 8 v [x.tm, y.tm] := by
      cases hd' : d.tm with
      | mk op n ks =>
        have e1 : d.tm.op = op := by rw [hd']; rfl
        have e2 : d.tm.n = n := by rw [hd']; rfl
        have e3 : d.tm.kids = ks := by rw [hd']; rfl
        rw [DT.tm_op, h8.out] at e1
        rw [DT.tm_n, hv.out] at e2
        rw [hdt'.out] at e3
        rw [← e1, ← e2, ← e3]
    rw [hd, putF_let] at h
    simp only [Int.toNat_natCast] at h
    rw [hd]
    exact h
  replace hT' := Lib.hid hT'
  obtain ⟨c, hcb⟩ : ∃ c, c = catchB F (setB g v true) v y.tm := ⟨_, rfl⟩
  rw [← hcb] at hCt
  replace hcb := Lib.hid hcb
  refine wp_region_quiet_below (by kernel_rfl) (by kernel_rfl) ?_
  refine quiet_row rfl 125 (.tmp 2) rfl w.heap.size rfl 125 _ (0, 0) _ hps.out Tryz.underlying125 rfl (i125 _ _ _) ?_
  quiet_step (fail)
  quiet_step (exact hIn.out _ _)
  quiet_step (fail)
  quiet_step (fail)
  quiet_step (exact hCt.out _ _)
  refine wpQuiet_nil ?_
  rintro _ ⟨⟨dq, osq⟩, rfl⟩
  have hb2 := below_regrown W1 dq osq
  obtain ⟨W2, hW2⟩ : ∃ W2, W2 = grow (redrawn W1 dq) osq := ⟨_, rfl⟩
  rw [← hW2] at hb2 ⊢
  clear d0 d1 d2 hCt hIn hps z0 z1 z2
  replace hW2 := Lib.hid hW2
  go_upto_if 20 with (fail)
  go_cut [5] from 21 to 32 (fun s5 W => LetGone F st g N x w w0 s5 W)
  case first =>
    have hB2 : Below w0.heap.size w0 W2 := hB1.out.trans (hb2.mono (by omega))
    have hz2 := hb2.size
    have hbw2 : Below w.heap.size w W2 := f5.out.trans (hB2.mono (by omega))
    have hy62 := (hb2.block _ (by omega)).trans hy6.out
    have hLy : Lies W2.heap.size W2 y := (g4.below (hB2.mono (by omega))).wider (by omega)
    cases c
    · have hrel : Hid (LetGone F st g N x w w0 (.int .i64 (v : Nat)) W2) := by
        have h := hT'.out
        rw [← hcb.out, if_neg (by simp)] at h
        refine ⟨v, y, hv20, rfl, hy62, hLy, by omega, o4.2.1, hB2, by omega, ?_⟩
        cases hA : putF F st N g x.tm with
        | none => exact .inl rfl
        | some A =>
          cases hB : putF F st N (setB g v true) y.tm with
          | none => exact .inr rfl
          | some B => rw [hA, hB] at h; cases h
      clear hy62 hLy hbw2 hB2 hb2
      go_wp2_with fail
      go_meet
      case rel => exact hrel.out
    · have hp2 : PsAt W2 w.heap.size bm st g := (hb2.block _ (by omega)).trans p1.out
      have hbd2 : W2.heap[w.heap.size + 1]? = some (bx d) := (hB2.block _ (by omega)).trans f2.out
      cases hl : leastN (orSet (stT d.tm (fun _ => false)) st) with
      | none =>
        have hS1 := Lib.hid (fun W (hb : Below W2.heap.size W2 W) => (standing_any d n₀ W hsz (by have := hb.size; omega) (hLd.out.below ((Below.up hbw2 hb).mono hn)) hOd.out).mono (R' := fun e w1 => e = .returned (.agg (vs (stT d.tm (fun _ => false)))) ∧ Hid (Below W2.heap.size W2 w1)) (by
          rintro e w1 ⟨rfl, h⟩; exact ⟨rfl, Lib.hid (Below.up hb h)⟩))
        have hW1' := Lib.hid (fun W (hb : Below W2.heap.size W2 W) => (with_any (stT d.tm (fun _ => false)) st W).mono (R' := fun e w1 => e = .returned (.agg (vs (orSet (stT d.tm (fun _ => false)) st))) ∧ Hid (Below W2.heap.size W2 w1)) (by
          rintro e w1 ⟨rfl, h⟩; exact ⟨rfl, Lib.hid (Below.up hb h)⟩))
        have hL1 := Lib.hid (fun W (hb : Below W2.heap.size W2 W) => (leastOutside_gone (orSet (stT d.tm (fun _ => false)) st) W hl).mono (R' := fun e w1 => e = gaveLong ∧ Hid (Below W2.heap.size W2 w1)) (by
          rintro e w1 ⟨rfl, h⟩; exact ⟨rfl, Lib.hid (Below.up hb h)⟩))
        have hK1 := Lib.hid (fun W (hb : Below W2.heap.size W2 W) => And.intro (PsAt.range (show PsAt W w.heap.size bm st g from (hb.block _ (by omega)).trans hp2)) (c3_cells ((hb.block _ (by omega)).trans hbd2)).1)
        replace hp2 := Lib.hid hp2
        replace hbd2 := Lib.hid hbd2
        replace hB2 := Lib.hid hB2
        replace hbw2 := Lib.hid hbw2
        replace hy62 := Lib.hid hy62
        replace hb2 := Lib.hid hb2
        replace hLy := Lib.hid hLy
        go_upto_region 3 with fail
        refine wp_region_held (S := fun W' => Below W2.heap.size W2 W') (by kernel_rfl) ?_
        have hS0 : (fun W' : World => Below W2.heap.size W2 W') { W2 with drawn := W2.drawn + 1 } := (Below.refl _ _).drew
        have bdr := Lib.hid (show Below W2.heap.size W2 W2.drew from (Below.refl _ _).drew)
        refine takeH 0 21 (dv d) rfl rfl (by kernel_rfl) (by kernel_rfl) (by kernel_rfl) (fun _ _ _ h => h) (by rfl) (by intro W hSw; obtain ⟨-, j1, j2, j3⟩ := hK1.out W hSw; clear hSw; go_simp) hS0 ?_
        try simp only [List.setIfInBounds_toArray, List.set_cons_zero, List.set_cons_succ]
        refine takeH 2 23 (.pointer (some ⟨w.heap.size, 0, none⟩)) rfl rfl (by kernel_rfl) (by kernel_rfl) (by kernel_rfl) (fun _ _ _ h => h) (by rfl) (by intro W hSw; clear hSw; go_simp) hS0 ?_
        try simp only [List.setIfInBounds_toArray, List.set_cons_zero, List.set_cons_succ]
        refine takeH 3 24 (.pointer (some ⟨w.heap.size, 1, none⟩)) rfl rfl (by kernel_rfl) (by kernel_rfl) (by kernel_rfl) (fun _ _ _ h => h) (by rfl) (by intro W hSw; clear hSw; go_simp) hS0 ?_
        try simp only [List.setIfInBounds_toArray, List.set_cons_zero, List.set_cons_succ]
        refine takeH 4 25 (.agg (vs st).toList.toArray) rfl rfl (by kernel_rfl) (by kernel_rfl) (by kernel_rfl) (fun _ _ _ h => h) (by rfl) (fun W hSw => mid_yield rfl w.heap.size 1 rfl (hK1.out W hSw).1 u79 rfl (by rw [Array.length_toList, vs_size]; exact i79')) hS0 ?_
        rw [Array.toArray_toList]
        try simp only [List.setIfInBounds_toArray, List.set_cons_zero, List.set_cons_succ]
        refine wpAnyH_ready (rs := [1]) (by kernel_rfl) (by simp) ?_
        refine AllReadyH.cons rfl (fun K hKc => ?_) AllReadyH.nil
        go_simp
        go_at_call 96
        refine (hS1.out _ bdr.out).mono ?_
        rintro e w3 ⟨rfl, hb3⟩
        refine hKc _ _ hb3.out (fun _ => ?_)
        clear hKc K
        try simp only [List.setIfInBounds_toArray, List.set_cons_zero, List.set_cons_succ]
        refine wpAnyH_ready (rs := [5]) (by kernel_rfl) (by simp) ?_
        refine AllReadyH.cons rfl (fun K hKc => ?_) AllReadyH.nil
        go_simp
        go_at_call 89
        refine (hW1'.out _ hb3.out).mono ?_
        rintro e w4 ⟨rfl, hb4⟩
        refine hKc _ _ hb4.out (fun _ => ?_)
        clear hKc K
        try simp only [List.setIfInBounds_toArray, List.set_cons_zero, List.set_cons_succ]
        refine wpAnyH_ready (rs := [6]) (by kernel_rfl) (by simp) ?_
        refine AllReadyH.cons rfl (fun K hKc => ?_) AllReadyH.nil
        go_simp
        go_at_call 142
        refine (hL1.out _ hb4.out).mono ?_
        rintro e w5 ⟨rfl, hb5⟩
        exact ⟨rfl, Gone.mk (Below.up hbw2.out hb5.out)⟩
      | some m =>
      have hm1 := hl
      have hm2 : ((putF F st N g x.tm).bind fun a' => (putF F st N (setB g m true) (renT v m y.tm)).map fun b' => Tm.mk 8 m [a', b']) = none := by
        have h := hT'.out
        rw [← hcb.out, if_pos rfl, hl] at h
        exact h
      have hm20 := leastN_lt hm1
      have hSt := Lib.hid (fun dd os => (standing_any d n₀ (grow (redrawn W2 dd) os) hsz (by have := (below_regrown W2 dd os).size; omega) (hLd.out.below ((hbw2.trans ((below_regrown W2 dd os).mono (by omega))).mono hn)) hOd.out).regrown_of)
      have hWi := Lib.hid (fun dd os => (with_any (stT d.tm (fun _ => false)) st (grow (redrawn W2 dd) os)).regrown_of)
      have hLo := Lib.hid (fun dd os => (leastOutside_any (orSet (stT d.tm (fun _ => false)) st) m (grow (redrawn W2 dd) os) hm1).regrown_of)
      obtain ⟨⟨z0, z1, z2⟩, -⟩ := c3_cells hbd2
      have d0 := fun dd os => cell_regrown z0 dd os
      have d1 := fun dd os => cell_regrown z1 dd os
      have d2 := fun dd os => cell_regrown z2 dd os
      have hrg : ∀ w', (∃ p : Regrown, w' = grow (redrawn W2 p.d) p.os) → w'.rangeAt w.heap.size 1 (vs st).toList := fun w' ⟨q, hq⟩ => by
        subst hq
        exact PsAt.range (show PsAt _ w.heap.size bm st g from ((below_regrown W2 q.d q.os).block _ (by omega)).trans hp2)
      replace hrg := Lib.hid hrg
      replace hp2 := Lib.hid hp2
      replace hbd2 := Lib.hid hbd2
      replace hB2 := Lib.hid hB2
      replace hbw2 := Lib.hid hbw2
      replace hy62 := Lib.hid hy62
      replace hm1 := Lib.hid hm1
      replace hm2 := Lib.hid hm2
      replace hb2 := Lib.hid hb2
      replace hLy := Lib.hid hLy
      go_upto_region 3 with fail
      refine wp_region_quiet_below (by kernel_rfl) (by kernel_rfl) ?_
      quiet_step (fail)
      quiet_step (exact hSt.out _ _)
      quiet_step (fail)
      quiet_step (fail)
      refine quiet_mid rfl 79 (.tmp 24) rfl w.heap.size 1 rfl (vs st).toList _ hrg.out u79 rfl (by rw [Array.length_toList, vs_size]; exact i79') ?_
      rw [Array.toArray_toList]
      quiet_step (exact hWi.out _ _)
      quiet_step (exact hLo.out _ _)
      quiet_step (fail)
      refine wpQuiet_nil ?_
      rintro _ ⟨⟨dq3, osq3⟩, rfl⟩
      have hb3 := below_regrown W2 dq3 osq3
      obtain ⟨W3, hW3⟩ : ∃ W3, W3 = grow (redrawn W2 dq3) osq3 := ⟨_, rfl⟩
      rw [← hW3] at hb3 ⊢
      clear d0 d1 d2 hSt hWi hLo hrg z0 z1 z2
      replace hW3 := Lib.hid hW3
      have hB3 : Below w0.heap.size w0 W3 := hB2.out.trans (hb3.mono (by omega))
      have hbd3 := (hb3.block _ (by omega)).trans hbd2.out
      have hy63 := (hb3.block _ (by omega)).trans hy62.out
      obtain ⟨⟨z0, z1, z2⟩, -⟩ := c3_cells hbd3
      rw [hv.out] at z1
      obtain ⟨⟨r0, r1, r2⟩, r3, r4, r5⟩ := c3_cells hy63
      have hRn := rename_any y.size (by omega) y W2.heap.size W3 (v : Nat) (m : Nat) (Nat.le_refl _) (hLy.out.below hb3) hb3.size o4.2.1
      have hRo := renT_ok (v : Nat) (m : Nat) (by omega) y.tm o4.2.1
      have hRs := renT_size (v : Nat) (m : Nat) y.tm o4.2.1
      obtain ⟨U, hU⟩ : ∃ U, U = renT (v : Nat) (m : Nat) y.tm := ⟨_, rfl⟩
      rw [← hU] at hRn hRo hRs
      replace hU := Lib.hid hU
      replace hRs := Lib.hid hRs
      replace hRn := Lib.hid hRn
      replace hB3 := Lib.hid hB3
      replace hb3 := Lib.hid hb3
      replace hbd3 := Lib.hid hbd3
      replace hy63 := Lib.hid hy63
      go_upto_region 4 with fail
      go_wp2_with fail
      refine (hRn.out).mono ?_
      rintro e W4 ⟨a1, l1, k1, rfl, hF4, -, hT4⟩
      have hb4 := hT4.b0
      have hz3 := hb3.out.size
      have hz4 := hb4.size
      have hy64 := (hb4.block _ (by omega)).trans hy63.out
      obtain ⟨⟨q0, q1, q2⟩, q3, q4, q5⟩ := c3_cells hy64
      obtain ⟨W5, e5, k5, -, s5, t5⟩ := stored3 (.int .i64 U.op) (.int .i64 U.n) (.slice a1 l1 k1) hy64
      obtain ⟨Y, hYl, hYt, hY1, hY2, hY3, hY4, hY5⟩ := (hF4.up (w := W3) (W := W5) (Nat.le_refl _) (fun j h1 _ => s5 j (by omega)) t5.size).is.placed
      have hYs5 : Y.size = U.size := by rw [← hYt, size_tm]
      have hrel : Hid (LetGone F st g N x w w0 (.int .i64 (m : Nat)) W5) := by
        have h := hm2.out
        refine ⟨m, Y, hm20, rfl, ?_, ?_, ?_, by rw [hYt]; exact hRo, ?_, ?_, ?_⟩
        · rw [k5]; unfold bx; rw [hY1, hY2, hY3, hY4, hY5]
        · exact hYl
        · rw [hYs5, hRs.out, size_tm]; omega
        · exact hB3.out.trans ((hb4.mono (by omega)).trans (t5.mono (by omega)))
        · rw [hYs5, hRs.out, size_tm]; omega
        · rw [hYt]
          cases hA : putF F st N g x.tm with
          | none => exact .inl rfl
          | some A =>
            cases hB : putF F st N (setB g m true) U with
            | none => exact .inr rfl
            | some B => rw [hA, ← hU.out, hB] at h; cases h
      replace e5 := Lib.hid e5
      clear hy64 hYl hYt hY1 hY2 hY3 hY4 hY5 hYs5 k5 s5 t5 hT4 hF4 z0 z1 z2 r0 r1 r2 r3 r4 r5
      go_wp2_with fail
      rw [← e5.out]
      go_meet
      case rel => exact hrel.out
  case rest =>
    obtain ⟨wx, rfl⟩ : ∃ wx : World, wx = wc := ⟨_, rfl⟩
    obtain ⟨m, Y, hm20, rfl, hwY, hYl, hYs, hYo, hBc, hYN, hAB⟩ := hcut
    clear hb2
    have hbwc : Below w.heap.size w wx := f5.out.trans (hBc.mono (by omega))
    have hzc := hBc.size
    have hpc : PsAt wx w.heap.size bm st g := (hBc.block _ (by omega)).trans f1.out
    have hbdc : wx.heap[w.heap.size + 1]? = some (bx d) := (hBc.block _ (by omega)).trans f2.out
    have hrc : wx.heap[w.heap.size + 1 + 1]? = some zer3 := (hBc.block _ (by omega)).trans f3.out
    obtain ⟨⟨t0, t1, t2⟩, -⟩ := c3_cells hbdc
    rw [ha.out] at t2
    obtain ⟨x0, x1, x2⟩ := g1.out.below hBc (by omega)
    have hmc := hm.out.same (hbwc.block _ hm.out.lt)
    have hEc := hE.out.below (hbwc.mono hn)
    have hK := Lib.hid (show ∀ W, Below wx.heap.size wx W → W.rangeAt w.heap.size 0 (psA bm st g).toList ∧ W.cell? ⟨w.heap.size + 1, 2, none⟩ = some (.slice (some ⟨b, off, none⟩) d.l d.c) ∧ (W.cell? ⟨b, off, none⟩ = some (.int .i64 x.op) ∧ W.cell? ⟨b, off + 1, none⟩ = some (.int .i64 x.n) ∧ W.cell? ⟨b, off + 2, none⟩ = some (.slice x.a x.l x.c)) from fun W hb =>
      ⟨World.rangeAt_of_block' ((hb.block _ (by omega)).trans hpc), (hb.cell (p := ⟨w.heap.size + 1, 2, none⟩) (by simp; omega)).trans t2, (hb.cell (p := ⟨b, off, none⟩) (by simp; omega)).trans x0, (hb.cell (p := ⟨b, off + 1, none⟩) (by simp; omega)).trans x1, (hb.cell (p := ⟨b, off + 2, none⟩) (by simp; omega)).trans x2⟩)
    have hXg := fun (hA : putF F st N g x.tm = none) => Lib.hid (show ∀ W, Below wx.heap.size wx W → Calls Tryz.prog 97 #[.agg (psA bm st g), dv x] W fun e w1 => e = gaveLong ∧ Hid (Below wx.heap.size wx w1) from fun W hb =>
      (ihg.out x n₀ W g hA (by omega) (g2.below ((hBc.trans (hb.mono hzc)).mono (by omega))) (by have := hb.size; omega) (by omega) o4.1 (hmc.same (hb.block _ hmc.lt)) (hEc.below (hb.mono (by omega)))).mono (by
        rintro e w1 ⟨rfl, h⟩
        exact ⟨rfl, Below.up hb h⟩))
    have hXa := fun (A : Tm) (hA : putF F st N g x.tm = some A) => Lib.hid (show ∀ W, Below wx.heap.size wx W → Calls Tryz.prog 97 #[.agg (psA bm st g), dv x] W fun e w1 => ∃ a l c, e = .returned (.agg #[.int .i64 A.op, .int .i64 A.n, .slice a l c]) ∧ Hid (Fresh W w1 A a l c ∧ Below W.heap.size W w1) ∧ Hid (Below wx.heap.size wx w1) ∧ wx.heap.size ≤ w1.heap.size from fun W hb =>
      (ih.out x n₀ W g A hA (g2.below ((hBc.trans (hb.mono hzc)).mono (by omega))) (by have := hb.size; omega) (by omega) o4.1 (hmc.same (hb.block _ hmc.lt)) (hEc.below (hb.mono (by omega)))).mono (by
        rintro e w1 ⟨a, l, c, rfl, hF, -, hT⟩
        exact ⟨a, l, c, rfl, ⟨hF, hT.b0⟩, hb.trans (hT.b0.mono hb.size), (hb.trans (hT.b0.mono hb.size)).size⟩))
    obtain ⟨k0, k1, k2, k3, k4⟩ := hK.out wx (Below.refl _ _)
    have hu125 := Tryz.underlying125
    have hi125 : (Tryz.prog.info? 125).map (·.size) = some (psA bm st g).toList.length := by rw [Array.length_toList]; exact i125 _ _ _
    have hz4 : w.heap.size + 4 ≤ wx.heap.size := by have := (Array.getElem?_eq_some_iff.1 hwY).1; omega
    replace hwY := Lib.hid hwY
    replace hBc := Lib.hid hBc
    replace hbwc := Lib.hid hbwc
    replace hpc := Lib.hid hpc
    replace hbdc := Lib.hid hbdc
    replace hrc := Lib.hid hrc
    replace hmc := Lib.hid hmc
    replace hEc := Lib.hid hEc
    clear t0 t1 t2 x0 x1 x2 hT' hcb
    cases hA : putF F st N g x.tm with
    | none =>
      replace hXg := hXg hA
      clear hXa
      go_upto_region 5 with fail
      refine wp_region_held (S := fun W' => Below wx.heap.size wx W') (by kernel_rfl) ?_
      have hS0 : (fun W' : World => Below wx.heap.size wx W') { wx with drawn := wx.drawn + 1 } := (Below.refl _ _).drew
      refine takeH 0 33 (.agg (psA bm st g)) rfl rfl (by kernel_rfl) (by kernel_rfl) (by kernel_rfl) (fun _ _ _ h => h) (by rfl) (fun W hSw => row_yield (t := 125) (fr := (0, 0)) rfl w.heap.size rfl ((hSw.block _ (by omega)).trans hpc.out) hu125 rfl (i125 _ _ _)) hS0 ?_
      try simp only [List.setIfInBounds_toArray, List.set_cons_zero, List.set_cons_succ]
      refine takeH 1 34 (.pointer (some ⟨w.heap.size + 1, 2, none⟩)) rfl rfl (by kernel_rfl) (by kernel_rfl) (by kernel_rfl) (fun _ _ _ h => h) (by rfl) (by intro W hSw; clear hSw; go_simp) hS0 ?_
      try simp only [List.setIfInBounds_toArray, List.set_cons_zero, List.set_cons_succ]
      refine takeH 2 35 (.slice (some ⟨b, off, none⟩) d.l d.c) rfl rfl (by kernel_rfl) (by kernel_rfl) (by kernel_rfl) (fun _ _ _ h => h) (by rfl) (by intro W hSw; obtain ⟨-, j1, j2, j3, j4⟩ := hK.out W hSw; clear hSw; go_simp) hS0 ?_
      try simp only [List.setIfInBounds_toArray, List.set_cons_zero, List.set_cons_succ]
      refine takeH 3 36 (.pointer (some ⟨b, off, none⟩)) rfl rfl (by kernel_rfl) (by kernel_rfl) (by kernel_rfl) (fun _ _ _ h => h) (by rfl) (by intro W hSw; clear hSw; go_simp) hS0 ?_
      try simp only [List.setIfInBounds_toArray, List.set_cons_zero, List.set_cons_succ]
      refine takeH 4 37 (dv x) rfl rfl (by kernel_rfl) (by kernel_rfl) (by kernel_rfl) (fun _ _ _ h => h) (by rfl) (by intro W hSw; obtain ⟨-, j1, j2, j3, j4⟩ := hK.out W hSw; clear hSw; go_simp) hS0 ?_
      try simp only [List.setIfInBounds_toArray, List.set_cons_zero, List.set_cons_succ]
      have bdr := Lib.hid (show Below wx.heap.size wx wx.drew from (Below.refl _ _).drew)
      have bal := Lib.hid (show Below wx.heap.size wx (wx.alloc zer3).drew from ((Below.refl _ _).alloc (Nat.le_refl _) _).drew)
      have hSd : (fun W' : World => Below wx.heap.size wx W') wx.drew := (Below.refl _ _).drew
      refine wpAnyH_ready (rs := [5, 6]) (by kernel_rfl) (by simp) ?_
      refine AllReadyH.cons rfl (fun K hKc => ?_) (AllReadyH.cons rfl (fun K hKc => ?_) AllReadyH.nil)
      · go_simp
        go_at_call 97
        refine (hXg.out _ bdr.out).mono ?_
        rintro e w1 ⟨rfl, hb1⟩
        exact ⟨rfl, Gone.mk (Below.up hbwc.out hb1.out)⟩
      · go_simp
        refine hKc _ _ bal.out (fun _ => ?_)
        clear hKc K
        try simp only [Act.put, List.setIfInBounds_toArray, List.set_cons_zero, List.set_cons_succ]
        refine wpAnyH_ready (rs := [5]) (by kernel_rfl) (by simp) ?_
        refine AllReadyH.cons rfl (fun K hKc => ?_) AllReadyH.nil
        go_simp
        go_at_call 97
        refine (hXg.out _ bal.out).mono ?_
        rintro e w1 ⟨rfl, hb1⟩
        exact ⟨rfl, Gone.mk (Below.up hbwc.out hb1.out)⟩
    | some A =>
    have hB : putF F st N (setB g m true) Y.tm = none := by
      rcases hAB with h | h
      · rw [hA] at h; cases h
      · exact h
    have hXc := hXa A hA
    clear hXa hXg
    replace hA := Lib.hid hA
    replace hB := Lib.hid hB
    go_upto_region 5 with fail
    go_cut [7] from 33 to 38 (fun s7 W => Slot3 (w.heap.size + 4) A s7 W ∧ Below wx.heap.size wx W)
    case first =>
      refine wp_region_held (S := fun W' => Below wx.heap.size wx W') (by kernel_rfl) ?_
      have hS0 : (fun W' : World => Below wx.heap.size wx W') { wx with drawn := wx.drawn + 1 } := (Below.refl _ _).drew
      refine takeH 0 33 (.agg (psA bm st g)) rfl rfl (by kernel_rfl) (by kernel_rfl) (by kernel_rfl) (fun _ _ _ h => h) (by rfl) (fun W hSw => row_yield (t := 125) (fr := (0, 0)) rfl w.heap.size rfl ((hSw.block _ (by omega)).trans hpc.out) hu125 rfl (i125 _ _ _)) hS0 ?_
      try simp only [List.setIfInBounds_toArray, List.set_cons_zero, List.set_cons_succ]
      refine takeH 1 34 (.pointer (some ⟨w.heap.size + 1, 2, none⟩)) rfl rfl (by kernel_rfl) (by kernel_rfl) (by kernel_rfl) (fun _ _ _ h => h) (by rfl) (by intro W hSw; clear hSw; go_simp) hS0 ?_
      try simp only [List.setIfInBounds_toArray, List.set_cons_zero, List.set_cons_succ]
      refine takeH 2 35 (.slice (some ⟨b, off, none⟩) d.l d.c) rfl rfl (by kernel_rfl) (by kernel_rfl) (by kernel_rfl) (fun _ _ _ h => h) (by rfl) (by intro W hSw; obtain ⟨-, j1, j2, j3, j4⟩ := hK.out W hSw; clear hSw; go_simp) hS0 ?_
      try simp only [List.setIfInBounds_toArray, List.set_cons_zero, List.set_cons_succ]
      refine takeH 3 36 (.pointer (some ⟨b, off, none⟩)) rfl rfl (by kernel_rfl) (by kernel_rfl) (by kernel_rfl) (fun _ _ _ h => h) (by rfl) (by intro W hSw; clear hSw; go_simp) hS0 ?_
      try simp only [List.setIfInBounds_toArray, List.set_cons_zero, List.set_cons_succ]
      refine takeH 4 37 (dv x) rfl rfl (by kernel_rfl) (by kernel_rfl) (by kernel_rfl) (fun _ _ _ h => h) (by rfl) (by intro W hSw; obtain ⟨-, j1, j2, j3, j4⟩ := hK.out W hSw; clear hSw; go_simp) hS0 ?_
      try simp only [List.setIfInBounds_toArray, List.set_cons_zero, List.set_cons_succ]
      have bdr := Lib.hid (show Below wx.heap.size wx wx.drew from (Below.refl _ _).drew)
      have bal := Lib.hid (show Below wx.heap.size wx (wx.alloc zer3).drew from ((Below.refl _ _).alloc (Nat.le_refl _) _).drew)
      have hSd : (fun W' : World => Below wx.heap.size wx W') wx.drew := (Below.refl _ _).drew
      refine wpAnyH_ready (rs := [5, 6]) (by kernel_rfl) (by simp) ?_
      refine AllReadyH.cons rfl (fun K hKc => ?_) (AllReadyH.cons rfl (fun K hKc => ?_) AllReadyH.nil)
      · go_simp
        go_at_call 97
        refine (hXc.out _ bdr.out).mono ?_
        rintro e w1 ⟨a1, l1, c1', rfl, hF1, hb1, hz1'⟩
        refine hKc _ _ hb1.out (fun _ => ?_)
        clear hKc K
        try simp only [Act.put, List.setIfInBounds_toArray, List.set_cons_zero, List.set_cons_succ]
        refine wpAnyH_ready (rs := [6]) (by kernel_rfl) (by simp) ?_
        refine AllReadyH.cons rfl (fun K hKc => ?_) AllReadyH.nil
        go_simp
        refine hKc _ _ (hb1.out.alloc hz1' _) (fun _ => ?_)
        clear hKc K
        try simp only [Act.put, List.setIfInBounds_toArray, List.set_cons_zero, List.set_cons_succ]
        refine wpAnyH_ready (rs := [7]) (by kernel_rfl) (by simp) ?_
        refine AllReadyH.cons rfl (fun K hKc => ?_) AllReadyH.nil
        go_simp
        refine hKc _ _ (hb1.out.alloc hz1' _) (fun _ => ?_)
        clear hKc K
        try simp only [Act.put, List.setIfInBounds_toArray, List.set_cons_zero, List.set_cons_succ]
        refine wpAnyH_done (by kernel_rfl) ?_ _
        have hs3 := Lib.hid (Slot3.behind (lo := w.heap.size + 4) (B := w1.heap.size) (W := wx.drew) rfl (by show _ ≤ wx.heap.size; omega) (by show wx.heap.size ≤ _; exact hz1') hF1.out.1)
        go_wp2_with fail
        go_meet
        case rel => exact ⟨hs3.out, hb1.out.alloc hz1' _⟩
      · go_simp
        refine hKc _ _ bal.out (fun _ => ?_)
        clear hKc K
        try simp only [Act.put, List.setIfInBounds_toArray, List.set_cons_zero, List.set_cons_succ]
        refine wpAnyH_ready (rs := [5]) (by kernel_rfl) (by simp) ?_
        refine AllReadyH.cons rfl (fun K hKc => ?_) AllReadyH.nil
        go_simp
        go_at_call 97
        refine (hXc.out _ bal.out).mono ?_
        rintro e w1 ⟨a1, l1, c1', rfl, hF1, hb1, hz1'⟩
        have zz := zer_keep hF1.out.2 (new_drew wx zer3)
        obtain ⟨⟨z0, z1, z2⟩, z3, z4, z5⟩ := c3_cells zz
        replace zz := Lib.hid zz
        refine hKc _ _ hb1.out (fun _ => ?_)
        clear hKc K
        try simp only [Act.put, List.setIfInBounds_toArray, List.set_cons_zero, List.set_cons_succ]
        refine wpAnyH_ready (rs := [7]) (by kernel_rfl) (by simp) ?_
        refine AllReadyH.cons rfl (fun K hKc => ?_) AllReadyH.nil
        go_simp
        refine hKc _ _ (hb1.out.trans (set3_below _ _ _ (Nat.le_refl _))) (fun _ => ?_)
        clear hKc K z0 z1 z2 z3 z4 z5
        try simp only [Act.put, List.setIfInBounds_toArray, List.set_cons_zero, List.set_cons_succ]
        refine wpAnyH_done (by kernel_rfl) ?_ _
        have hs3 := Lib.hid (Slot3.before (lo := w.heap.size + 4) (B := wx.heap.size) zz.out (by omega) (by simp [World.drew]) hF1.out.1)
        go_wp2_with fail
        go_meet
        case rel => exact ⟨hs3.out, hb1.out.trans (set3_below _ _ _ (Nat.le_refl _))⟩
    case rest =>
      obtain ⟨hx3, hbx⟩ := hcut
      obtain ⟨wy, rfl⟩ : ∃ wy : World, wy = wc := ⟨_, rfl⟩
      have hzy := hbx.size
      have hbwy : Below w.heap.size w wy := hbwc.out.trans (hbx.mono (by omega))
      have hpy : PsAt wy w.heap.size bm st g := (hbx.block _ (by omega)).trans hpc.out
      have hry := (hbx.block _ (by omega)).trans hrc.out
      have hYy := (hbx.block _ (by omega)).trans hwY.out
      obtain ⟨⟨y0, y1, y2⟩, -⟩ := c3_cells hYy
      have hIc := Lib.hid (show ∀ W, Below wy.heap.size wy W → Calls Tryz.prog 140 #[.agg (psA bm st g), .int .i64 (m : Nat)] W fun e w1 => e = .returned (.agg (psA bm st (setB g m true))) ∧ Hid (Below W.heap.size W w1) ∧ Hid (Below wy.heap.size wy w1) ∧ wy.heap.size ≤ w1.heap.size from fun W hb => (pinside_any W bm st g m hm20).mono (by
        rintro e w1 ⟨rfl, hB⟩
        exact ⟨rfl, hB, hb.trans (hB.mono hb.size), (hb.trans (hB.mono hb.size)).size⟩))
      have hYc := Lib.hid (show ∀ W, Below wy.heap.size wy W → Calls Tryz.prog 97 #[.agg (psA bm st (setB g m true)), dv Y] W fun e w1 => e = gaveLong ∧ Hid (Below wy.heap.size wy w1) from fun W hb =>
        (ihg.out Y wx.heap.size W (setB g m true) hB.out hYN (hYl.below ((hbx.trans (hb.mono hzy)))) (by have := hb.size; omega) hYs hYo (hm.out.same ((hb.block _ (by have := hm.out.lt; omega)).trans (hbwy.block _ hm.out.lt))) ((hE.out.below ((hbwy.trans (hb.mono hbwy.size)).mono hn)).wider (by omega))).mono (by
          rintro e w1 ⟨rfl, h⟩
          exact ⟨rfl, Below.up hb h⟩))
      have hK2 := Lib.hid (show ∀ W, Below wy.heap.size wy W → W.cell? ⟨w.heap.size + 1 + 1 + 1, 0, none⟩ = some (.int .i64 Y.op) ∧ W.cell? ⟨w.heap.size + 1 + 1 + 1, 1, none⟩ = some (.int .i64 Y.n) ∧ W.cell? ⟨w.heap.size + 1 + 1 + 1, 2, none⟩ = some (.slice Y.a Y.l Y.c) from fun W hb => (c3_cells ((hb.block _ (by omega)).trans hYy)).1)
      replace hx3 := Lib.hid hx3
      replace hbx := Lib.hid hbx
      replace hbwy := Lib.hid hbwy
      replace hpy := Lib.hid hpy
      replace hry := Lib.hid hry
      replace hYy := Lib.hid hYy
      clear k0 k1 k2 k3 k4 hXc hK
      go_upto_region 6 with fail
      refine wp_region_held (S := fun W' => Below wy.heap.size wy W') (by kernel_rfl) ?_
      have hS0 : (fun W' : World => Below wy.heap.size wy W') { wy with drawn := wy.drawn + 1 } := (Below.refl _ _).drew
      refine takeH 0 39 (.agg (psA bm st g)) rfl rfl (by kernel_rfl) (by kernel_rfl) (by kernel_rfl) (fun _ _ _ h => h) (by rfl) (fun W hSw => row_yield (t := 125) (fr := (0, 0)) rfl w.heap.size rfl ((hSw.block _ (by omega)).trans hpy.out) hu125 rfl (i125 _ _ _)) hS0 ?_
      try simp only [List.setIfInBounds_toArray, List.set_cons_zero, List.set_cons_succ]
      refine takeH 1 40 (.int .i64 (m : Nat)) rfl rfl (by kernel_rfl) (by kernel_rfl) (by kernel_rfl) (fun _ _ _ h => h) (by rfl) (by intro W hSw; clear hSw; go_simp) hS0 ?_
      try simp only [List.setIfInBounds_toArray, List.set_cons_zero, List.set_cons_succ]
      refine takeH 3 42 (dv Y) rfl rfl (by kernel_rfl) (by kernel_rfl) (by kernel_rfl) (fun _ _ _ h => h) (by rfl) (by intro W hSw; obtain ⟨j1, j2, j3⟩ := hK2.out W hSw; clear hSw; go_simp) hS0 ?_
      try simp only [List.setIfInBounds_toArray, List.set_cons_zero, List.set_cons_succ]
      have bdr := Lib.hid (show Below wy.heap.size wy wy.drew from (Below.refl _ _).drew)
      have bal := Lib.hid (show Below wy.heap.size wy (wy.alloc zer3).drew from ((Below.refl _ _).alloc (Nat.le_refl _) _).drew)
      have hSd : (fun W' : World => Below wy.heap.size wy W') wy.drew := (Below.refl _ _).drew
      refine wpAnyH_ready (rs := [2, 5]) (by kernel_rfl) (by simp) ?_
      refine AllReadyH.cons rfl (fun K hKc => ?_) (AllReadyH.cons rfl (fun K hKc => ?_) AllReadyH.nil)
      · go_simp
        go_at_call 140
        refine (hIc.out _ bdr.out).mono ?_
        rintro e w1 ⟨rfl, hI1, hb1, hz1'⟩
        refine hKc _ _ hb1.out (fun _ => ?_)
        clear hKc K
        try simp only [Act.put, List.setIfInBounds_toArray, List.set_cons_zero, List.set_cons_succ]
        refine wpAnyH_ready (rs := [4, 5]) (by kernel_rfl) (by simp) ?_
        refine AllReadyH.cons rfl (fun K hKc => ?_) (AllReadyH.cons rfl (fun K hKc => ?_) AllReadyH.nil)
        · go_simp
          go_at_call 97
          refine (hYc.out _ hb1.out).mono ?_
          rintro e w2 ⟨rfl, hb2⟩
          exact ⟨rfl, Gone.mk (Below.up hbwy.out hb2.out)⟩
        · go_simp
          have bw1 := Lib.hid (hb1.out.alloc hz1' zer3)
          refine hKc _ _ bw1.out (fun _ => ?_)
          clear hKc K
          try simp only [Act.put, List.setIfInBounds_toArray, List.set_cons_zero, List.set_cons_succ]
          refine wpAnyH_ready (rs := [4]) (by kernel_rfl) (by simp) ?_
          refine AllReadyH.cons rfl (fun K hKc => ?_) AllReadyH.nil
          go_simp
          go_at_call 97
          refine (hYc.out _ bw1.out).mono ?_
          rintro e w2 ⟨rfl, hb2⟩
          exact ⟨rfl, Gone.mk (Below.up hbwy.out hb2.out)⟩
      · go_simp
        refine hKc _ _ bal.out (fun _ => ?_)
        clear hKc K
        try simp only [Act.put, List.setIfInBounds_toArray, List.set_cons_zero, List.set_cons_succ]
        refine wpAnyH_ready (rs := [2]) (by kernel_rfl) (by simp) ?_
        refine AllReadyH.cons rfl (fun K hKc => ?_) AllReadyH.nil
        go_simp
        go_at_call 140
        refine (hIc.out _ bal.out).mono ?_
        rintro e w1 ⟨rfl, hI1, hb1, hz1'⟩
        have zz1 := Lib.hid (zer_keep hI1.out (new_drew wy zer3))
        refine hKc _ _ hb1.out (fun _ => ?_)
        clear hKc K
        try simp only [Act.put, List.setIfInBounds_toArray, List.set_cons_zero, List.set_cons_succ]
        refine wpAnyH_ready (rs := [4]) (by kernel_rfl) (by simp) ?_
        refine AllReadyH.cons rfl (fun K hKc => ?_) AllReadyH.nil
        go_simp
        go_at_call 97
        refine (hYc.out _ hb1.out).mono ?_
        rintro e w2 ⟨rfl, hb2⟩
        exact ⟨rfl, Gone.mk (Below.up hbwy.out hb2.out)⟩

end Go.Proofs.YtaieplfegngjnaaGreat
