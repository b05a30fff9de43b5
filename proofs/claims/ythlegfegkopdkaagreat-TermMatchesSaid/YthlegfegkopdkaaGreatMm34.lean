/- Own text, joined of: N1 N6 N7. 'put' gives up: 'rebuild' round a call that gives up; a node; a let's wrapper. · 'grow' gives up: 'rebuild' round a call that gives up, where a cell may turn. · 'mostGeneral' where 'full' gives up; 'Unify' then. -/
import Derived.Test.YthlegfegkopdkaaGreatMm23
import Derived.Test.YthlegfegkopdkaaGreatMm29

namespace Go.Proofs.YthlegfegkopdkaaGreat
open Go.RowKit Go.Shelf Go.Sort

abbrev gaveLong : Ending := .panicked [{ v := .iface 120 (.agg #[.int .i64 3]), recovered := false }]
/-- The call gives up with ErrLong; what lay in memory is left. -/
def Gone (w : World) (e : Ending) (w' : World) : Prop := e = gaveLong ∧ Below w.heap.size w w'
theorem Gone.mk {w w' : World} (h : Below w.heap.size w w') : Gone w gaveLong w' := ⟨rfl, h⟩
theorem Gone.up {w w0 : World} {e : Ending} {w' : World} (h : Gone w0 e w') (hb : Below w.heap.size w w0) : Gone w e w' := ⟨h.1, hb.trans (h.2.mono hb.size)⟩

end Go.Proofs.YthlegfegkopdkaaGreat

namespace Go.Proofs.YthlegfegkopdkaaGreat
open Go.RowKit Go.Shelf Go.Sort

/-- The call gives up with ErrLong; what lay in memory is left, but for some blocks. -/
def GoneR (R : Nat → Prop) (w : World) (e : Ending) (w' : World) : Prop := e = gaveLong ∧ Turns R w w'
theorem GoneR.mk {R : Nat → Prop} {w w' : World} (h : Turns R w w') : GoneR R w gaveLong w' := ⟨rfl, h⟩

set_option maxRecDepth 100000 in
set_option maxHeartbeats 1000000 in
theorem rebuild_goneR (d : DT) (gf : Nat) (first cap : Array Value) (eg : ∀ args w, (callFunc gf args).run Tryz.prog w = .ok (.enter gf args) w)
    (R : Nat → Prop) (F : Nat → Tm) (Inv : Nat → World → Prop) (n₀ : Nat) (w : World) (k0 : Nat) (hk0 : k0 < d.kids.length) (hlen : d.kids.length ≤ 1000000) (hn : n₀ ≤ w.heap.size) (hL : Lies n₀ w d) (hR : ∀ b, R b → n₀ ≤ b ∧ b < w.heap.size)
    (hst : ∀ k W W', Inv k W → Below w.heap.size W W' → Inv k W')
    (hf : ∀ k (h : k < d.kids.length), k < k0 → ∀ W, Inv k W → Turns R w W → Calls Tryz.prog gf (first.push (.agg #[.int .i64 d.kids[k].op, .int .i64 d.kids[k].n, .slice d.kids[k].a d.kids[k].l d.kids[k].c]) ++ cap) W (Makes R W (F k) (Inv (k + 1))))
    (hg : ∀ W, Inv k0 W → Turns R w W → Calls Tryz.prog gf (first.push (.agg #[.int .i64 d.kids[k0].op, .int .i64 d.kids[k0].n, .slice d.kids[k0].a d.kids[k0].l d.kids[k0].c]) ++ cap) W (GoneR R W))
    (h0 : Inv 0 w) :
    Calls Tryz.prog 121 #[.agg #[.int .i64 d.op, .int .i64 d.n, .slice d.a d.l d.c], .func (.func gf) first cap] w (GoneR R w) := by
  obtain ⟨hl, hlc, hc, hk⟩ := hL.open
  replace hf := Lib.hid hf
  replace hg := Lib.hid hg
  replace h0 := Lib.hid h0
  replace hst := Lib.hid hst
  replace hl := Lib.hid hl
  replace hR := Lib.hid hR
  obtain ⟨i0, hi, hz0, hz1, hz2⟩ := info_parts inf28
  go_enter Tryz.func121, Tryz.ntmps121
  go_wp2_with fail
  go_loopw [7, 16] (fun _ i wr => ∃ k : Nat, k ≤ k0 ∧ i = .int .i64 k ∧ RelK R w d F Inv k wr) (fun _ i _ => d.l - (intOf i).toNat)
  case atStart =>
    refine ⟨0, by omega, rfl, [], _, _, _, rfl, ?_, ?_, World.ownsRow_nil _ _ _ _, by simp, hst.out _ _ _ h0.out ?_, (((Turns.refl R w).alloc _).alloc _).alloc _⟩
    · exact heap_new' _ (by simp)
    · exact heap_old (heap_new' _ (by simp))
    · go_grown
  case round =>
    obtain ⟨k, hk1, rfl, hI⟩ := hrel
    have hkd : k < d.kids.length := by omega
    have hkl : k < d.l := by have := hl.out; omega
    obtain ⟨K, va, vl, vc, r1, r2, r3, r4, r5, r6, r7⟩ := hI
    obtain ⟨⟨p0, p1, p2⟩, p3, p4, p5⟩ := c3_cells r2
    rcases hk with hk | ⟨b, off, ha, hbn, hks⟩
    · rw [hk] at hkd; simp at hkd
    have hB7 := r7.below hn (fun b hb hr => by have := (hR.out b hr).1; omega)
    obtain ⟨g1, g2⟩ := LiesAll.get _ hks k hkd
    obtain ⟨c0, c1, c2⟩ := g1.below hB7 hbn
    have hz := r7.size
    have hzz := (Array.getElem?_eq_some_iff.1 r2).1
    have o1 : (k : Int) < (d.l : Int) := by omega
    obtain ⟨wo, hwo⟩ : ∃ wo, wo = wr.alloc (.cells #[.int .i64 d.kids[k].op, .int .i64 d.kids[k].n, .slice d.kids[k].a d.kids[k].l d.kids[k].c] 28) := ⟨_, rfl⟩
    have hBo : Below wr.heap.size wr wo := by rw [hwo]; go_grown
    have hIo : Inv k wo := hst.out _ _ _ r6 (hBo.mono hz)
    have hTo : Turns R w wo := r7.then (hBo.mono hz)
    by_cases hlt : k < k0
    · have hC := hf.out k hkd hlt wo.drew (hst.out _ _ _ hIo ((Below.refl _ _).drew)) (hTo.then ((Below.refl _ _).drew))
      rw [hwo] at hC
      replace hC := Lib.hid hC
      clear hks g1 g2 hL hg
      replace r1 := Lib.hid r1
      replace r2 := Lib.hid r2
      replace r3 := Lib.hid r3
      replace r5 := Lib.hid r5
      rw [ha]
      have hb1 := Lib.hid r4
      clear r4
      go_wp2_with fail
      go_region_law (first
        | (go_simp; refine (hC.out).mono ?_; rintro e w1 ⟨a', l', c', rfl, ht', hI', hT'⟩; obtain ⟨n0, n1, n3, n2, n4, n5, n6, n7⟩ := made_at hR.out r2.out hb1.out hz hT')
        | (refine step_append_lies _ (by rfl) _ _ _ (by rfl) (w.heap.size + 1 + 1 + 1) 28 i0 _ 3 40 und26 hi hz0 hz1 hz2 rfl (by omega) (.slice va vl vc) k (flat K) (by rfl) (n2.out.alloc _)
            ⟨w1.heap.size, 0, none⟩ 1 1 [.int .i64 (F k).op, .int .i64 (F k).n, .slice a' l' c'] (by rfl) (by rfl) (World.news_of_block (cs := #[.int .i64 (F k).op, .int .i64 (F k).n, .slice a' l' c']) (t := 28) (fr := (0, 0)) (heap_new' _ rfl)) (by simp [Value.oneCell'])
            (by omega) (by unfold maxLen; omega) (by omega) (by simp; omega) (w1.heap.size + 1) (by simp) ?_; intro gg cap2 w2 hown1 hgrow hat hlt2; have m1 := grow_made hgrow n2.out (by omega) n0.out; have m2 := m1.1; have m3 := m1.2; clear m1))
      all_goals
        have hrel := Lib.hid (rel_step2 hst.out r1.out r2.out r3.out hb1.out r5.out hz n5.out n7 (by rw [hwo] at hTo; exact hTo) ht' hT' hI' hgrow hown1 hat)
        clear m2 m3 n0 n1 n2 n3 n4 n5 n6 n7
        go_wp2_with fail
        go_roundw
        case rel => exact ⟨k + 1, by omega, by go_num, hrel.out⟩
        case measure => simp [intOf]; omega
    · have hke : k = k0 := by omega
      subst hke
      have hk2 : wo.heap[w.heap.size + 1 + 1]? = some (.cells #[.int .i64 d.op, .int .i64 d.n, .slice va vl vc] 28 (0, 0)) := by rw [hwo]; exact heap_old r2
      have hk3 : wo.heap[wr.heap.size]? = some (.cells #[.int .i64 d.kids[k].op, .int .i64 d.kids[k].n, .slice d.kids[k].a d.kids[k].l d.kids[k].c] 28 (0, 0)) := by rw [hwo]; exact heap_new' _ rfl
      have hzo : wr.heap.size < wo.heap.size := by rw [hwo]; simp
      replace hk2 := Lib.hid hk2
      replace hk3 := Lib.hid hk3
      have hgo := Lib.hid (fun W (h : Below wo.heap.size wo W) => hg.out W (hst.out _ _ _ hIo (h.mono hTo.size)) (hTo.then (h.mono hTo.size)))
      have hend : Hid (∀ x w1, Below wo.heap.size wo x → Turns R x w1 → Turns R w w1) := Lib.hid (fun x w1 hx h => (hTo.then (hx.mono hTo.size)).trans h)
      clear hks g1 g2 hL hf hg hIo hTo hBo
      replace r1 := Lib.hid r1
      replace r2 := Lib.hid r2
      replace r3 := Lib.hid r3
      replace r5 := Lib.hid r5
      rw [ha]
      clear r4
      replace hwo := Lib.hid hwo
      go_upto_region 5 with fail
      rw [← hwo.out]
      refine region_named (S := fun W' => Below wo.heap.size wo W') (by kernel_rfl) (fun x hx => ?_)
      have hq : Hid (Below wo.heap.size wo x) := Lib.hid (by rw [hx]; exact (Below.refl _ _).drew)
      clear hx p0 p1 p2 p3 p4 p5 c0 c1 c2
      have hC := Lib.hid (hgo.out x hq.out)
      refine takeH 0 20 (.pointer (some ⟨w.heap.size + 1 + 1, 2, none⟩)) rfl rfl (by kernel_rfl) (by kernel_rfl) (by kernel_rfl) (fun _ _ _ h => h) (by rfl) (by intro W hSw; clear hSw; go_simp) hq.out ?_
      try simp only [List.setIfInBounds_toArray, List.set_cons_zero, List.set_cons_succ]
      refine takeH 1 21 (.slice va vl vc) rfl rfl (by kernel_rfl) (by kernel_rfl) (by kernel_rfl) (fun _ _ _ h => h) (by rfl) (by intro W hSw; obtain ⟨⟨j0, j1, j2⟩, -⟩ := c3_cells ((hSw.block _ (by omega)).trans hk2.out); clear hSw; go_simp) hq.out ?_
      try simp only [List.setIfInBounds_toArray, List.set_cons_zero, List.set_cons_succ]
      refine takeH 2 22 (.func (.func gf) first cap) rfl rfl (by kernel_rfl) (by kernel_rfl) (by kernel_rfl) (fun _ _ _ h => h) (by rfl) (by intro W hSw; clear hSw; go_simp) hq.out ?_
      try simp only [List.setIfInBounds_toArray, List.set_cons_zero, List.set_cons_succ]
      refine takeH 3 23 (.agg #[.int .i64 d.kids[k].op, .int .i64 d.kids[k].n, .slice d.kids[k].a d.kids[k].l d.kids[k].c]) rfl rfl (by kernel_rfl) (by kernel_rfl) (by kernel_rfl) (fun _ _ _ h => h) (by rfl) (by intro W hSw; obtain ⟨⟨j0, j1, j2⟩, -⟩ := c3_cells ((hSw.block _ (by omega)).trans hk3.out); clear hSw; go_simp) hq.out ?_
      try simp only [List.setIfInBounds_toArray, List.set_cons_zero, List.set_cons_succ]
      refine wpAnyH_ready (rs := [4]) (by kernel_rfl) (by simp) ?_
      refine AllReadyH.cons rfl (fun K hKc => ?_) AllReadyH.nil
      go_simp
      refine (hC.out).mono ?_
      rintro e w1 ⟨rfl, hb1⟩
      exact ⟨rfl, GoneR.mk (hend.out x w1 hq.out hb1)⟩



theorem growK_none {f : Nat → DT → Option (Tm × Nat)} : ∀ {l : List DT} {c : Nat}, growK f c l = none → ∃ (k : Nat) (h : k < l.length) (cs : Nat → Nat) (ts : Nat → Tm), cs 0 = c ∧ f (cs k) l[k] = none ∧ ∀ j (hj : j < k), f (cs j) (l[j]'(by omega)) = some (ts j, cs (j + 1))
  | [], _, h => by simp [growK] at h
  | x :: xs, c, h => by
    rw [growK] at h
    cases h1 : f c x with
    | none => exact ⟨0, by simp, fun _ => c, fun _ => .mk 0 0 [], rfl, h1, fun j hj => by omega⟩
    | some q =>
      obtain ⟨t, c1⟩ := q
      rw [h1] at h
      simp only at h
      cases h2 : growK f c1 xs with
      | some q => rw [h2] at h; simp at h
      | none =>
        obtain ⟨k, hk, cs, ts, g1, g2, g3⟩ := growK_none h2
        refine ⟨k + 1, by simpa using hk, fun j => if j = 0 then c else cs (j - 1), fun j => if j = 0 then t else ts (j - 1), by simp, by simpa using g2, fun j hj => ?_⟩
        cases j with
        | zero => simp [h1, g1]
        | succ j =>
          have := g3 j (by omega)
          simpa using this
def GrowGone (n₀ : Nat) (F : Int → Option DT) (bm nb Bc Bg Bu N : Nat) : Prop := ∀ (dep c : Nat) (d : DT) (w : World), growF F N dep c d = none → 36 ≤ N + dep → dep ≤ 13 → ((Lies n₀ w d ∧ OkV d.tm) ∧ d.size < 1000000) → GCap n₀ F bm nb Bc Bg Bu w → Cnt Bc c w → c ≤ 40 →
  Calls Tryz.prog 135 #[.int .i64 (dep : Nat), dv d, .pointer (some ⟨Bc, 0, none⟩), .pointer (some ⟨Bg, 0, none⟩), .pointer (some ⟨Bu, 0, none⟩)] w (GoneR (fun b => b = Bc) w)

set_option maxRecDepth 100000 in
set_option maxHeartbeats 1000000 in
theorem grow_kid_gone (n₀ : Nat) (F : Int → Option DT) (bm nb Bc Bg Bu N : Nat) (ih : GrowGone n₀ F bm nb Bc Bg Bu N) (dep c Bd : Nat) (d : DT) (w : World) (hT : growF F N (dep + 1) c d = none) (hN : 36 ≤ N + (dep + 1)) (hdep : dep ≤ 12) (hd : (Lies n₀ w d ∧ OkV d.tm) ∧ d.size < 1000000) (hG : GCap n₀ F bm nb Bc Bg Bu w) (hc : Cnt Bc c w) (hD : Boxed w Bd 3 (.int .i64 (dep : Nat))) (hc40 : c ≤ 40) :
    Calls Tryz.prog 136 #[dv d, .pointer (some ⟨Bg, 0, none⟩), .pointer (some ⟨Bd, 0, none⟩)] w (GoneR (fun b => b = Bc) w) := by
  obtain ⟨W0, hW0⟩ : ∃ W0, W0 = (w.alloc (bx d)).alloc zer3 := ⟨_, rfl⟩
  have hB0 : Below w.heap.size w W0 := by rw [hW0]; go_grown
  have hz0 : W0.heap.size = w.heap.size + 1 + 1 := by rw [hW0]; simp
  have hT0 : Turns (fun b => b = Bc) w W0 := Turns.of0' hB0
  have hr0 : W0.heap[w.heap.size + 1]? = some zer3 := by rw [hW0]; exact heap_new' _ (by simp)
  have hn := hG.n3
  have hclt := hc.lt
  have hC := ih (dep + 1) c d W0 hT hN (by omega) (good_below hd (hB0.mono hn)) (hG.turns hT0) ((hB0.block _ hclt).trans hc) hc40
  have b1 := fun o o' => ((hG.g.alloc o).alloc o').cell
  have b2 := fun o o' => ((hD.alloc o).alloc o').cell
  rw [hW0] at hC
  replace hC := Lib.hid hC
  clear ih hT hd hG hc hD
  go_enter Tryz.func136, Tryz.ntmps136
  go_wp2_with fail
  refine (hC.out).mono ?_
  rintro e w1 ⟨rfl, hT1⟩
  rw [← hW0] at hT1
  exact ⟨rfl, GoneR.mk (hT0.trans hT1)⟩

theorem growF_count {F : Int → Option DT} {N dep c : Nat} {d : DT} {T : Tm} {c' : Nat} (h : growF F N dep c d = some (T, c')) : c' ≤ 40 := by
  have key : ∀ (N dep c : Nat) (d : DT) (T : Tm) (c' : Nat), growF F N dep c d = some (T, c') → c' ≤ 40 := by
    intro N
    induction N with
    | zero => intro dep c d T c' h; cases h
    | succ N ih =>
      intro dep c d T c' h
      rw [growF] at h
      split at h
      · cases h
      · rename_i hg
        cases hr : opF F N d with
        | none => rw [hr] at h; cases h
        | some r =>
          rw [hr] at h
          simp only at h
          cases hk : growK (growF F N (dep + 1)) (c + 1) r.kids with
          | none => rw [hk] at h; cases h
          | some q =>
            obtain ⟨ts, c2⟩ := q
            rw [hk] at h
            simp only [Option.some.injEq, Prod.mk.injEq] at h
            have : ∀ (l : List DT) (c c2 : Nat) (ts : List Tm), c ≤ 40 → growK (growF F N (dep + 1)) c l = some (ts, c2) → c2 ≤ 40 := by
              intro l
              induction l with
              | nil => intro c c2 ts hc h; simp [growK] at h; omega
              | cons x xs ihl =>
                intro c c2 ts hc h
                rw [growK] at h
                cases h1 : growF F N (dep + 1) c x with
                | none => rw [h1] at h; cases h
                | some q =>
                  obtain ⟨t, c1⟩ := q
                  rw [h1] at h
                  simp only at h
                  cases h2 : growK (growF F N (dep + 1)) c1 xs with
                  | none => rw [h2] at h; cases h
                  | some q =>
                    obtain ⟨us, c3⟩ := q
                    rw [h2] at h
                    simp only [Option.some.injEq, Prod.mk.injEq] at h
                    have := ihl c1 c3 us (ih _ _ _ _ _ h1) h2
                    omega
            have := this r.kids (c + 1) c2 ts (by omega) hk
            omega
  exact key N dep c d T c' h

set_option maxRecDepth 100000 in
set_option maxHeartbeats 1000000 in
theorem grow_long (n₀ : Nat) (F : Int → Option DT) (bm nb Bc Bg Bu : Nat) (dep c : Nat) (d : DT) (w : World) (hg : 40 < c + 1 ∨ 12 < dep) (_hG : GCap n₀ F bm nb Bc Bg Bu w) (hc : Cnt Bc c w) (hc40 : c ≤ 40) :
    Calls Tryz.prog 135 #[.int .i64 (dep : Nat), dv d, .pointer (some ⟨Bc, 0, none⟩), .pointer (some ⟨Bg, 0, none⟩), .pointer (some ⟨Bu, 0, none⟩)] w (GoneR (fun b => b = Bc) w) := by
  obtain ⟨W0, hW0⟩ : ∃ W0, W0 = gw0 w dep d := ⟨_, rfl⟩
  have hB0 : Below w.heap.size w W0 := by rw [hW0]; go_grown
  have hz0 : W0.heap.size = w.heap.size + 1 + 1 + 1 := by rw [hW0]; simp
  obtain ⟨W1, hW1⟩ : ∃ W1, W1 = W0.setCell ⟨Bc, 0, none⟩ (.int .i64 ((c : Int) + 1)) := ⟨_, rfl⟩
  have hc0 : Cnt Bc c W0 := (hB0.block _ hc.lt).trans hc
  have hcl := hc0.cell
  have hcf := hc0.frozen
  rw [hW0] at hcl hcf
  have hclt := hc.lt
  have hne : ¬ w.heap.size = Bc := by omega
  have hT1 : Turns (fun b => b = Bc) W0 W1 := by rw [hW1]; exact (Turns.refl (fun b => b = Bc) W0).setCell (p := ⟨Bc, 0, none⟩) (fun _ => rfl) _
  have hTw1 : Hid (Turns (fun b => b = Bc) w W1) := Lib.hid ((Turns.of0' hB0).trans hT1)
  have hW1' : W1 = (((w.alloc (.cells #[.int .i64 (dep : Nat)] 3)).alloc (bx d)).alloc zer3).setCell ⟨Bc, 0, none⟩ (.int .i64 ((c : Int) + 1)) := by rw [hW1, hW0]
  rw [hW1'] at hTw1
  clear hc hc0 hT1 hW1 hW1' hB0 hz0 hW0
  by_cases h40 : 40 < c + 1
  · have o2 : (40 : Int) < (c : Int) + 1 := by omega
    go_enter Tryz.func135, Tryz.ntmps135
    go_wp2_with fail
    exact ⟨rfl, GoneR.mk hTw1.out⟩
  · have o2 : ¬ (40 : Int) < (c : Int) + 1 := by omega
    have o3 : (12 : Int) < (dep : Int) := by omega
    go_enter Tryz.func135, Tryz.ntmps135
    go_wp2_with fail
    exact ⟨rfl, GoneR.mk hTw1.out⟩

set_option maxRecDepth 100000 in
set_option maxHeartbeats 1000000 in
theorem grow_step_gone (n₀ : Nat) (F : Int → Option DT) (bm nb Bc Bg Bu N : Nat) (hend : ∀ d : DT, OkV d.tm → ∀ M, 21 ≤ M → ∃ r, opF F M d = some r) (ihg : GrowGone n₀ F bm nb Bc Bg Bu N) : GrowGone n₀ F bm nb Bc Bg Bu (N + 1) := by
  intro dep c d w hT hN hdep hd hG hc hc40
  have ih := grow_any n₀ F bm nb Bc Bg Bu N
  rw [growF] at hT
  by_cases hg : 40 < c + 1 ∨ 12 < dep
  · exact grow_long n₀ F bm nb Bc Bg Bu dep c d w hg hG hc hc40
  rw [if_neg hg] at hT
  cases hr : opF F N d with
  | none =>
    obtain ⟨r, h⟩ := hend d hd.1.2 N (by omega)
    rw [h] at hr; cases hr
  | some r =>
  rw [hr] at hT
  simp only at hT
  have hmf : ∀ (fn : Fn) (first cap : Array Value) (w : World), (Instr.makeFunc fn first cap).run Tryz.prog w = .ok (.func fn first cap) w := fun _ _ _ _ => rfl
  obtain ⟨W0, hW0⟩ : ∃ W0, W0 = gw0 w dep d := ⟨_, rfl⟩
  have hB0 : Below w.heap.size w W0 := by rw [hW0]; go_grown
  have hz0 : W0.heap.size = w.heap.size + 1 + 1 + 1 := by rw [hW0]; simp
  obtain ⟨W1, hW1⟩ : ∃ W1, W1 = W0.setCell ⟨Bc, 0, none⟩ (.int .i64 ((c : Int) + 1)) := ⟨_, rfl⟩
  have hc0 : Cnt Bc c W0 := (hB0.block _ hc.lt).trans hc
  have hcl := hc0.cell
  have hcf := hc0.frozen
  rw [hW0] at hcl hcf
  have o1 : (c : Int) ≤ 40 := by omega
  have o2 : ¬ (40 : Int) < (c : Int) + 1 := by omega
  have o3 : ¬ (12 : Int) < (dep : Int) := by omega
  have hG0 := hG.turns (Turns.of0' hB0)
  have hclt := hc.lt
  have hne : ¬ w.heap.size = Bc := by omega
  replace hT := Lib.hid hT
  replace hend := Lib.hid hend
  replace hG0 := Lib.hid hG0
  replace hc0 := Lib.hid hc0
  clear hG hc
  go_enter Tryz.func135, Tryz.ntmps135
  go_upto_region 5 with fail
  have hW1' : W1 = (((w.alloc (.cells #[.int .i64 (dep : Nat)] 3)).alloc (bx d)).alloc zer3).setCell ⟨Bc, 0, none⟩ (.int .i64 ((c : Int) + 1)) := by rw [hW1, hW0]
  rw [← hW1']
  have hT1 : Turns (fun b => b = Bc) W0 W1 := by rw [hW1]; exact (Turns.refl (fun b => b = Bc) W0).setCell (p := ⟨Bc, 0, none⟩) (fun _ => rfl) _
  have hTw1 : Turns (fun b => b = Bc) w W1 := (Turns.of0' hB0).trans hT1
  have hz1 : W1.heap.size = W0.heap.size := by rw [hW1]; simp
  have hc1 : Cnt Bc (c + 1) W1 := by
    have h0 : Cnt Bc c W0 := hc0.out
    rw [hW1]
    exact h0.set _
  have hG1 := hG0.out.turns hT1
  have f0 : Boxed W1 w.heap.size 3 (.int .i64 (dep : Nat)) := (hT1.block _ (by omega) (by omega)).trans (by rw [hW0]; exact heap_old (heap_old (heap_new' _ rfl)))
  have f1 : W1.heap[w.heap.size + 1]? = some (bx d) := (hT1.block _ (by omega) (by omega)).trans (by rw [hW0]; exact heap_old (heap_new' _ (by simp)))
  have f2 : W1.heap[w.heap.size + 1 + 1]? = some zer3 := (hT1.block _ (by omega) (by omega)).trans (by rw [hW0]; exact heap_new' _ (by simp))
  have hO := operand_any F bm nb N d r W1 hr hG1.m (fun i x hx => (closedP n₀ W1).rng x (hG1.e i x hx)) ((closedP n₀ w).rng d hd)
  have hbn : Below n₀ w W1 := hTw1.below (by have := hG1.n1; omega) (fun j hj e => by have := hG1.n1; omega)
  have gr : (Lies n₀ W1 r ∧ OkV r.tm) ∧ r.size < 1000000 := opF_good (P := fun d => (Lies n₀ W1 d ∧ OkV d.tm) ∧ d.size < 1000000) hG1.e N d r hr (good_below hd hbn)
  have u1 := hG1.u.cell
  obtain ⟨⟨x0, x1, x2⟩, -⟩ := c3_cells f1
  replace hW0 := Lib.hid hW0
  replace hW1 := Lib.hid hW1
  replace hW1' := Lib.hid hW1'
  replace hO := Lib.hid hO
  replace hG1 := Lib.hid hG1
  replace gr := Lib.hid gr
  replace hc1 := Lib.hid hc1
  replace f0 := Lib.hid f0
  replace f1 := Lib.hid f1
  replace f2 := Lib.hid f2
  replace hTw1 := Lib.hid hTw1
  replace hT1 := Lib.hid hT1
  replace hz1 := Lib.hid hz1
  replace hr := Lib.hid hr
  clear hcl hcf
  have hRb : Hid (∀ (r' : DT) (W : World), r'.op = r.op → r'.n = r.n → r'.kids = r.kids → Below W1.heap.size W1 W → (Lies n₀ W1 r' ∧ r'.size < 1000000) → Calls Tryz.prog 121 #[dv r', .func (.func 136) #[] #[.pointer (some ⟨Bg, 0, none⟩), .pointer (some ⟨w.heap.size, 0, none⟩)]] W (GoneR (fun b => b = Bc) W)) := by
    intro r' W e1 e2 e3 hbW hr'
    have hT' := hT.out
    have hk : growK (growF F N (dep + 1)) (c + 1) r.kids = none := by
      cases hk : growK (growF F N (dep + 1)) (c + 1) r.kids with
      | none => rfl
      | some q => obtain ⟨ts, c2⟩ := q; rw [hk] at hT'; cases hT'
    obtain ⟨k0, hk0, cs, ts, g1, g2, g3⟩ := growK_none hk
    have hzW := hbW.size
    have hn1 := hG1.out.n1
    have hn3 := hG1.out.n3
    have hcw := hc1.out
    have hsz := dsize_eq r'
    have hlen : r'.kids.length ≤ dsizes r'.kids := by
      have h1 := length_le_sizes (tms r'.kids); rw [sizes_tms, tms_map, List.length_map] at h1; exact h1
    have hz := hz1.out
    have hk0' : k0 < r'.kids.length := by rw [e3]; exact hk0
    have hcount : ∀ j, j ≤ k0 → cs j ≤ 40 := by
      intro j
      induction j with
      | zero => intro _; rw [g1]; omega
      | succ j ihj => intro hj; exact growF_count (g3 j (by omega)) 
    refine rebuild_goneR r' 136 #[] #[.pointer (some ⟨Bg, 0, none⟩), .pointer (some ⟨w.heap.size, 0, none⟩)] (enters_of Tryz.func136 (by kernel_rfl) rfl) (fun b => b = Bc) ts (fun k W' => Cnt Bc (cs k) W') n₀ W k0 hk0' (by omega) (by omega) (hr'.1.below (hbW.mono (by omega))) (fun b e => by omega)
      (fun k X Y hX hB => (hB.block _ (by omega)).trans hX)
      (fun k hk' hlt X hI hTX => by
        have hkr : k < r.kids.length := by rw [← e3]; exact hk'
        have hTX1 : Turns (fun b => b = Bc) W1 X := (Turns.of0' hbW).trans hTX
        have hGX := hG1.out.turns hTX1
        have hbn1 : Below n₀ W1 X := hTX1.below (by omega) (fun j hj e => by omega)
        have hkk : r'.kids[k] = r.kids[k] := by simp only [e3]
        have hkp := (closedP n₀ W1).kids r gr.out _ (List.getElem_mem hkr)
        have := grow_kid n₀ F bm nb Bc Bg Bu N ih dep (cs k) w.heap.size r.kids[k] X _ _ (g3 k hlt) (by omega) (good_below hkp hbn1) hGX hI ((hTX1.block _ (by omega) (by omega)).trans f0.out)
        rw [hkk]
        exact this)
      (fun X hI hTX => by
        have hTX1 : Turns (fun b => b = Bc) W1 X := (Turns.of0' hbW).trans hTX
        have hGX := hG1.out.turns hTX1
        have hbn1 : Below n₀ W1 X := hTX1.below (by omega) (fun j hj e => by omega)
        have hkk : r'.kids[k0] = r.kids[k0] := by simp only [e3]
        have hkp := (closedP n₀ W1).kids r gr.out _ (List.getElem_mem hk0)
        have := grow_kid_gone n₀ F bm nb Bc Bg Bu N ihg dep (cs k0) w.heap.size r.kids[k0] X g2 (by omega) (by omega) (good_below hkp hbn1) hGX hI ((hTX1.block _ (by omega) (by omega)).trans f0.out) (hcount k0 (Nat.le_refl _))
        rw [hkk]
        exact this)
      (by rw [g1]; exact (hbW.block _ (by omega)).trans hcw)
  by_cases h1 : r.op = 1
  all_goals
    go_wp2_with fail
    refine (hO.out).mono ?_
    rintro e w2 ⟨rfl, hB2⟩
  · rw [opV_U h1]
    have hz2 := hB2.size
    have hkids : r.kids = [] := by have := gr.out.1.2.open.2.1; rw [DT.tm_op, DT.tm_kids] at this; exact List.map_eq_nil_iff.1 (this h1)
    have hU := fun W => uterm_any r.n W
    have hRv := fun (W : World) (hb : Below W1.heap.size W1 W) => hRb.out (vD r.n) W h1.symm rfl hkids.symm hb ⟨by simp only [vD, Lies]; exact ⟨rfl, by omega, by omega, .inl trivial⟩, by simp [vD, DT.size, dsizes]⟩
    replace hRv := Lib.hid hRv
    replace hRb := Lib.hid hRb
    replace hkids := Lib.hid hkids
    replace h1 := Lib.hid h1
    replace hU := Lib.hid hU
    replace hB2 := Lib.hid hB2
    go_wp2_with fail
    refine (hU.out _).mono ?_
    rintro e w3 ⟨rfl, hB3⟩
    have hB13 := hB2.out.trans (hB3.mono hz2)
    have hz3 := hB3.size
    have hRw := Lib.hid (hRv.out w3 hB13)
    have z3 := Lib.hid ((hB13.block (w.heap.size + 1 + 1) (by have := hz1.out; omega)).trans f2.out)
    have hTw3 : Hid (Turns (fun b => b = Bc) w w3) := hTw1.out.trans (Turns.of0' hB13)
    have hz1' := hz1.out
    replace hB3 := Lib.hid hB3
    replace hB13 := Lib.hid hB13
    go_wp2_with fail
    refine (hRw.out).mono ?_
    rintro e w4 ⟨rfl, hT4⟩
    exact ⟨rfl, GoneR.mk (hTw3.out.trans hT4)⟩
  · rw [opV_K h1]
    have hz2 := hB2.size
    have hU := fun W => kterm_any r W
    have hRv := fun (W : World) (hb : Below W1.heap.size W1 W) => hRb.out r W rfl rfl rfl hb ⟨gr.out.1.1, gr.out.2⟩
    replace hRv := Lib.hid hRv
    replace hRb := Lib.hid hRb
    replace h1 := Lib.hid h1
    replace hU := Lib.hid hU
    replace hB2 := Lib.hid hB2
    go_wp2_with fail
    refine (hU.out _).mono ?_
    rintro e w3 ⟨rfl, hB3⟩
    have hB13 := hB2.out.trans (hB3.mono hz2)
    have hz3 := hB3.size
    have hRw := Lib.hid (hRv.out w3 hB13)
    have z3 := Lib.hid ((hB13.block (w.heap.size + 1 + 1) (by have := hz1.out; omega)).trans f2.out)
    have hTw3 : Hid (Turns (fun b => b = Bc) w w3) := hTw1.out.trans (Turns.of0' hB13)
    have hz1' := hz1.out
    replace hB3 := Lib.hid hB3
    replace hB13 := Lib.hid hB13
    go_wp2_with fail
    refine (hRw.out).mono ?_
    rintro e w4 ⟨rfl, hT4⟩
    exact ⟨rfl, GoneR.mk (hTw3.out.trans hT4)⟩

theorem grow_gone (n₀ : Nat) (F : Int → Option DT) (bm nb Bc Bg Bu N : Nat) (hend : ∀ d : DT, OkV d.tm → ∀ M, 21 ≤ M → ∃ r, opF F M d = some r) : GrowGone n₀ F bm nb Bc Bg Bu N := by
  induction N with
  | zero => intro dep c d w h hN hdep; omega
  | succ N ih => exact grow_step_gone n₀ F bm nb Bc Bg Bu N hend ih

set_option maxRecDepth 100000 in
set_option maxHeartbeats 1000000 in
theorem full_gone (n₀ : Nat) (F : Int → Option DT) (bm nb N : Nat) (d : DT) (w : World) (hend : ∀ d : DT, OkV d.tm → ∀ M, 21 ≤ M → ∃ r, opF F M d = some r) (hN : 36 ≤ N) (hT : growF F N 1 0 d = none) (hm : TMap w bm nb F) (hE : GoodF n₀ w F) (hn : n₀ ≤ w.heap.size) (hd : (Lies n₀ w d ∧ OkV d.tm) ∧ d.size < 1000000) :
    Calls Tryz.prog 110 #[.map (some bm), dv d] w (Gone w) := by
  have hmf : ∀ (fn : Fn) (first cap : Array Value) (w : World), (Instr.makeFunc fn first cap).run Tryz.prog w = .ok (.func fn first cap) w := fun _ _ _ _ => rfl
  obtain ⟨W0, hW0⟩ : ∃ W0, W0 = ((((w.alloc (.cells #[.map (some bm)] 147)).alloc (bx d)).alloc zer3).alloc (.cells #[.int .i64 0] 3)).alloc (.cells #[.func (.func 135) #[] #[.pointer (some ⟨w.heap.size + 1 + 1 + 1, 0, none⟩), .pointer (some ⟨w.heap.size + 1 + 1 + 1 + 1, 0, none⟩), .pointer (some ⟨w.heap.size, 0, none⟩)]] 166) := ⟨_, rfl⟩
  have hB0 : Below w.heap.size w W0 := by rw [hW0]; go_grown
  have hz0 : W0.heap.size = w.heap.size + 1 + 1 + 1 + 1 + 1 := by rw [hW0]; simp
  have hlt := hm.lt
  have q0 : Boxed W0 w.heap.size 147 (.map (some bm)) := by rw [hW0]; exact heap_old (heap_old (heap_old (heap_old (heap_new' _ rfl))))
  have q2 : W0.heap[w.heap.size + 1 + 1]? = some zer3 := by rw [hW0]; exact heap_old (heap_old (heap_new' _ (by simp)))
  have q3 : Cnt (w.heap.size + 1 + 1 + 1) 0 W0 := by rw [hW0]; exact heap_old (heap_new' _ (by simp))
  have q4 : Boxed W0 (w.heap.size + 1 + 1 + 1 + 1) 166 (.func (.func 135) #[] #[.pointer (some ⟨w.heap.size + 1 + 1 + 1, 0, none⟩), .pointer (some ⟨w.heap.size + 1 + 1 + 1 + 1, 0, none⟩), .pointer (some ⟨w.heap.size, 0, none⟩)]) := by rw [hW0]; exact heap_new' _ (by simp)
  have hG : GCap n₀ F bm nb (w.heap.size + 1 + 1 + 1) (w.heap.size + 1 + 1 + 1 + 1) w.heap.size W0 := ⟨q4, q0, hm.same (hB0.block _ hlt), hE.below (hB0.mono hn), by omega, by omega, by omega⟩
  have hC := grow_gone n₀ F bm nb (w.heap.size + 1 + 1 + 1) (w.heap.size + 1 + 1 + 1 + 1) w.heap.size N hend 1 0 d W0 hT (by omega) (by omega) (good_below hd (hB0.mono hn)) hG q3 (by omega)
  rw [hW0] at hC
  replace hC := Lib.hid hC
  replace hW0 := Lib.hid hW0
  replace q2 := Lib.hid q2
  clear hG q0 q3 q4 hE hm hd hT
  go_enter Tryz.func110, Tryz.ntmps110
  go_wp2_with fail
  refine (hC.out).mono ?_
  rintro e w1 ⟨rfl, hT1⟩
  rw [← hW0.out] at hT1
  have hBw : Below w.heap.size W0 w1 := hT1.below (by omega) (fun j hj e => by omega)
  exact ⟨rfl, Gone.mk (hB0.trans hBw)⟩

end Go.Proofs.YthlegfegkopdkaaGreat

namespace Go.Proofs.YthlegfegkopdkaaGreat
open Go.RowKit Go.Shelf Go.Sort

/-- Only a panic is awaited; of the act, what the deferred call and the results read. -/
def OnlyP (p q : Value) (ds : List Deferred) (R : List PanicEntry → World → Prop) : Exit → Act → World → Prop
  | .panic c, a, w => (a.tmps.getD 4 undef = p ∧ a.tmps.getD 5 undef = q ∧ a.defers = ds) ∧ R c w
  | _, _, _ => False
theorem onlyP_put {p q : Value} {ds : List Deferred} {R : List PanicEntry → World → Prop} (i : Nat) (v : Value) (h4 : i ≠ 4) (h5 : i ≠ 5) (c : List PanicEntry) (a : Act) (w : World) (h : OnlyP p q ds R (.panic c) (a.put (some i) v) w) : OnlyP p q ds R (.panic c) a w := by
  obtain ⟨⟨h1, h2, h3⟩, h⟩ := h
  refine ⟨⟨?_, ?_, h3⟩, h⟩
  · rw [← h1]; simp [Act.put, Array.getD_eq_getD_getElem?, h4]
  · rw [← h2]; simp [Act.put, Array.getD_eq_getD_getElem?, h5]
theorem onlyP {P : Program} {c : Code} {Q : Exit → Act → World → Prop} {a : Act} {w : World} (R : List PanicEntry → World → Prop) (h : c.wp P (OnlyP (a.tmps.getD 4 undef) (a.tmps.getD 5 undef) a.defers R) a w)
    (hm : ∀ c a' w', (a'.tmps.getD 4 undef = a.tmps.getD 4 undef ∧ a'.tmps.getD 5 undef = a.tmps.getD 5 undef ∧ a'.defers = a.defers) → R c w' → Q (.panic c) a' w') : c.wp P Q a w :=
  wp_mono h (fun e a' w' h => by
    cases e with
    | panic c => exact hm c a' w' h.1 h.2
    | _ => exact h.elim)

set_option maxRecDepth 100000 in
set_option maxHeartbeats 1000000 in
theorem mostGeneral_gone (n₀ : Nat) (N : Nat) (a b : DT) (w : World) (F : Int → Option DT) (G : Nat → Tm) (hU : uniF N noB a b = some (some F)) (k0 : Nat) (hk0 : k0 < 20) (hf0 : F k0 ≠ none) (hg0 : growF F N 1 0 (vD k0) = none) (hN36 : 36 ≤ N) (hend : ∀ d : DT, OkV d.tm → ∀ M, 21 ≤ M → ∃ r, opF F M d = some r) (hG : ∀ v : Nat, v < k0 → F v ≠ none → ∃ c, growF F N 1 0 (vD v) = some (G v, c)) (hn : n₀ ≤ w.heap.size)
    (ha : (Lies n₀ w a ∧ OkV a.tm) ∧ a.size < 1000000) (hb : (Lies n₀ w b ∧ OkV b.tm) ∧ b.size < 1000000) :
    Calls Tryz.prog 76 #[dv a, dv b] w (MgEnd w [] 3) := by
  have hmf : ∀ (fn : Fn) (first cap : Array Value) (w : World), (Instr.makeFunc fn first cap).run Tryz.prog w = .ok (.func fn first cap) w := fun _ _ _ _ => rfl
  have hmm := @run_makeMap Tryz.prog
  obtain ⟨i0, hi, hz0, hz1, hz2⟩ := info_parts inf70
  obtain ⟨W0, hW0⟩ : ∃ W0, W0 = mg0 w a b := ⟨_, rfl⟩
  have hB0 : Below w.heap.size w W0 := by rw [hW0]; go_grown
  have hs0 : W0.heap.size = w.heap.size + 1 + 1 + 1 + 1 + 1 := by rw [hW0]; simp
  have ba : W0.heap[w.heap.size]? = some (bx a) := by rw [hW0]; exact heap_old (heap_old (heap_old (heap_old (heap_new' _ rfl))))
  have bb : W0.heap[w.heap.size + 1]? = some (bx b) := by rw [hW0]; exact heap_old (heap_old (heap_old (heap_new' _ (by simp))))
  have b2 : W0.heap[w.heap.size + 1 + 1]? = some sl0 := by rw [hW0]; exact heap_old (heap_old (heap_new' _ (by simp)))
  have b3 : W0.heap[w.heap.size + 1 + 1 + 1]? = some e0 := by rw [hW0]; exact heap_old (heap_new' _ (by simp))
  have b4 : TMap W0 (w.heap.size + 1 + 1 + 1 + 1) 0 noB := by
    have := TMap.made ((((w.alloc (bx a)).alloc (bx b)).alloc sl0).alloc e0)
    simp only [World.size_alloc] at this
    rw [hW0]; exact this
  have hC := uni_all N noB (some F) a b n₀ W0 (w.heap.size + 1 + 1 + 1 + 1) 0 hU b4 (fun i d h => by cases h) (by omega) (by omega) (good_below ha (hB0.mono hn)) (good_below hb (hB0.mono hn)) (by have := unm_le (fun k : Nat => (noB (k : Int)).isSome); unfold unb; omega)
  have hPF : Els (fun d => (Lies n₀ w d ∧ OkV d.tm) ∧ d.size < 1000000) F := uniF_els (closedP n₀ w) N noB F a b ha hb (fun i d h => by cases h) hU
  rw [hW0] at hC
  replace hC := Lib.hid hC
  replace hPF := Lib.hid hPF
  replace hG := Lib.hid hG
  replace hg0 := Lib.hid hg0
  replace hf0 := Lib.hid hf0
  replace hend := Lib.hid hend
  replace hU := Lib.hid hU
  replace ha := Lib.hid ha
  replace hb := Lib.hid hb
  replace ba := Lib.hid ba
  replace bb := Lib.hid bb
  replace b2 := Lib.hid b2
  replace b3 := Lib.hid b3
  replace b4 := Lib.hid b4
  replace hB0 := Lib.hid hB0
  go_enter_defers Tryz.func76, Tryz.ntmps76
  go_wp2_with fail
  refine (hC.out).mono ?_
  rintro e w1 ⟨hT1, rfl, nb, hm1, hnb⟩
  rw [← hW0] at hT1
  have hz1' := hT1.size
  replace hW0 := Lib.hid hW0
  have hnb' : nb ≤ 1000 := by have := unm_le (fun k : Nat => (noB (k : Int)).isSome); unfold unb at hnb; omega
  have hB1 : Below w.heap.size w w1 := hB0.out.trans (hT1.below (by omega) (fun j hj e => by omega))
  have k2 := (hT1.block _ (by omega) (by omega)).trans b2.out
  have k3 := (hT1.block _ (by omega) (by omega)).trans b3.out
  have hE1 : GoodF n₀ w1 F := fun i d hd => good_below (hPF.out i d hd) (hB1.mono hn)
  have hst : Hid (MgI w w1 F G 0 w1) := ⟨⟨none, 0, 0, k2, by unfold listG; exact BRow.nil _ _⟩, Turns.refl _ _⟩
  replace hB1 := Lib.hid hB1
  replace k2 := Lib.hid k2
  replace k3 := Lib.hid k3
  replace hE1 := Lib.hid hE1
  replace hm1 := Lib.hid hm1
  replace hnb := Lib.hid hnb
  replace hT1 := Lib.hid hT1
  go_wp2_with fail
  go_loopw [7, 8, 9, 16] (fun _ _ _ i wr => ∃ k : Nat, k ≤ k0 ∧ i = .int .i64 k ∧ Hid (MgI w w1 F G k wr)) (fun _ _ _ i _ => k0 + 1 - (intOf i).toNat)
  case atStart => exact ⟨0, by omega, rfl, hst⟩
  case round =>
    obtain ⟨k, hk, rfl, hI⟩ := hrel
    by_cases hlt : k < k0
    · have o1 : (k : Int) < 20 := by omega
      have hlt20 : k < 20 := by omega
      obtain ⟨⟨va, vl, vc, r1, r2⟩, r3⟩ := hI.out
      have hzr := r3.size
      have hm1lt := hm1.out.lt
      have hmr : TMap wr (w.heap.size + 1 + 1 + 1 + 1) nb F := hm1.out.same (r3.block _ (by omega) (by omega))
      cases hf : F (k : Nat) with
      | none =>
        have hl := hmr.look_none und147 (i := (k : Nat)) (by omega) hf
        have hn1 := Lib.hid (listG_none (G := G) hf)
        have hnx : Hid (∀ o, MgI w w1 F G (k + 1) (wr.alloc o)) := fun o => by
          refine ⟨⟨va, vl, vc, heap_old r1, ?_⟩, r3.alloc o⟩
          rw [hn1.out]
          obtain ⟨K, h1, h2, h3⟩ := r2
          exact ⟨K, h1, h2.alloc _, fun x hx => TmP.move (fun b hb' hlt => ⟨hb', Below.heap_alloc _ _ b hlt⟩) _ (h3 x hx)⟩
        clear hmr hf r1 r2 r3
        go_wp2_with fail
        go_roundw
        case rel => exact ⟨k + 1, by omega, by go_num, hnx.out _⟩
        case measure => simp [intOf]; omega
      | some d =>
        have hl := hmr.look_some und147 (i := (k : Nat)) (by omega) hf
        obtain ⟨cc, hcc⟩ := hG.out k hlt (by rw [hf]; simp)
        have hn1 := Lib.hid (listG_some (G := G) hf)
        obtain ⟨wo, hwo⟩ : ∃ wo, wo = wr.alloc (bx d) := ⟨_, rfl⟩
        have hBo : Below wr.heap.size wr wo := by rw [hwo]; exact (Below.refl _ _).alloc (Nat.le_refl _) _
        have hzo : wo.heap.size = wr.heap.size + 1 := by rw [hwo]; simp
        obtain ⟨K, h1, h2, h3⟩ := r2
        have hlen := listG_len F G k
        obtain ⟨X, hX⟩ : ∃ X, X = G k := ⟨_, rfl⟩
        rw [← hX] at hcc hn1
        have hV := Lib.hid (fun W => varTerm_is (k : Nat) W)
        have hFu := Lib.hid (show ∀ W, Below wo.heap.size wo W → Calls Tryz.prog 110 #[.map (some (w.heap.size + 1 + 1 + 1 + 1)), dv (vD (k : Nat))] W (Makes noR W X (fun _ => True)) from fun W hB => by
          have hzW := hB.size
          have hT : Turns (fun j => j = w.heap.size + 1 + 1) w1 W := (r3.trans (Turns.of0' hBo)).trans (Turns.of0' hB)
          have hBn : Below n₀ w1 W := hT.below (by omega) (fun j hj e => by omega)
          exact full_any n₀ F (w.heap.size + 1 + 1 + 1 + 1) nb N (vD (k : Nat)) W X cc hcc (hmr.same ((hB.block _ (by omega)).trans (hBo.block _ (by omega)))) (hE1.out.below hBn) (by omega) ((closedP n₀ W).var k hlt20))
        have hfa := Lib.hid (show ∀ W, Below wo.heap.size wo W → W.heap[w.heap.size + 1 + 1]? = some (.cells #[.slice va vl vc] 46 (0, 0)) ∧ W.ownsRow w1.heap.size 70 4 (.slice va vl vc) (listG F G k).length (flatB K) from fun W hB =>
          ⟨(hB.block _ (by omega)).trans ((hBo.block _ (by omega)).trans r1), own_stays h2 (fun g _ hg => (hB.block g (by omega)).trans (hBo.block g hg))⟩)
        have p0 : wo.drew.cell? ⟨w.heap.size + 1 + 1, 0, none⟩ = some (.slice va vl vc) := (show Boxed wo.drew _ 46 _ from (hfa.out wo.drew ((Below.refl _ _).drew)).1).cell
        have hnext : Hid (∀ w4 w5 a' l' c' g cap, Below wo.heap.size wo w4 → TmP (fun b => wo.heap.size ≤ b ∧ b < w4.heap.size) w4 X a' l' c' → (w4.alloc (.cells #[.int .i64 (k : Int), .int .i64 X.op, .int .i64 X.n, .slice a' l' c'] 70)).grownBy w5 (Value.slice va vl vc).ownBlock →
            w5.ownsRow w1.heap.size 70 4 (.slice (some ⟨g, 0, none⟩) ((listG F G k).length + 1) cap) ((listG F G k).length + 1) (flatB K ++ [.int .i64 (k : Int), .int .i64 X.op, .int .i64 X.n, .slice a' l' c']) → ((Value.slice va vl vc).ownBlock = some g ∨ g = (w4.alloc (.cells #[.int .i64 (k : Int), .int .i64 X.op, .int .i64 X.n, .slice a' l' c'] 70)).heap.size) →
            MgI w w1 F G (k + 1) (w5.setCell ⟨w.heap.size + 1 + 1, 0, none⟩ (.slice (some ⟨g, 0, none⟩) ((listG F G k).length + 1) cap))) := fun w4 w5 a' l' c' g cap hB4 ht hgrow hown hat => by
          have hz4 := hB4.size
          have hz5 := hgrow.size
          rw [World.size_alloc] at hz5
          have hb2 := (hfa.out w4 hB4).1
          have hlt2 := (Array.getElem?_eq_some_iff.1 hb2).1
          have hrow : ∀ q, (Value.slice va vl vc).ownBlock = some q → w1.heap.size ≤ q := fun q hq => (own_base h2 hq).1
          have hb5 : w5.heap[w.heap.size + 1 + 1]? = some (.cells #[.slice va vl vc] 46 (0, 0)) := (hgrow.block _ (by simp; omega) (fun e => by have := hrow _ e.symm; omega)).trans (heap_old hb2)
          have hst := BRow.step (v := (k : Int)) (W := wo) h1 h2 h3 (fun j _ hj => (Below.heap_alloc _ _ j (by omega)).trans ((hB4.block j (by omega)).trans (hBo.block j hj))) (by omega) (by omega) (by simp; omega)
            (TmP.move (fun b hb' hlt => ⟨⟨hb'.1, by have := hb'.2; simp; omega⟩, Below.heap_alloc _ _ b hlt⟩) _ ht) hgrow hown hat
          refine ⟨⟨some ⟨g, 0, none⟩, (listG F G k).length + 1, cap, ?_, ?_⟩, ?_⟩
          · exact (heap_setCell_same w5 _ 0 _ 46 _ hb5).trans rfl
          · rw [hn1.out]
            obtain ⟨K', g1, g2, g3⟩ := hst
            exact ⟨K', g1, own_stays g2 (fun j hj _ => heap_setCell_other _ _ _ _ (by simp; omega)), fun x hx => TmP.move (fun b hb' _ => ⟨hb', heap_setCell_other _ _ _ _ (by have := hb'.1; simp; omega)⟩) _ (g3 x hx)⟩
          · exact ((((r3.trans (Turns.of0' hBo)).trans (Turns.of0' hB4)).alloc _).grown hgrow (fun q hq hq2 => by have := hrow q hq; omega)).setCell (p := ⟨w.heap.size + 1 + 1, 0, none⟩) (fun _ => rfl) _
        have hg5 := Lib.hid (show ∀ w4 w5 o, Below wo.heap.size wo w4 → (w4.alloc o).grownBy w5 (Value.slice va vl vc).ownBlock → w5.cell? ⟨w.heap.size + 1 + 1, 0, none⟩ = some (.slice va vl vc) ∧ w5.frozen? ⟨w.heap.size + 1 + 1, 0, none⟩ = false from fun w4 w5 o hB4 hgrow => by
          have hb2 := (hfa.out w4 hB4).1
          have hlt2 := (Array.getElem?_eq_some_iff.1 hb2).1
          have hb5 : Boxed w5 (w.heap.size + 1 + 1) 46 (.slice va vl vc) := (hgrow.block _ (by simp; omega) (fun e => by have := (own_base h2 e.symm).1; omega)).trans (heap_old hb2)
          exact ⟨hb5.cell, hb5.frozen⟩)
        rw [hwo] at p0
        replace h1 := Lib.hid h1
        replace h2 := Lib.hid h2
        replace h3 := Lib.hid h3
        replace r3 := Lib.hid r3
        replace hcc := Lib.hid hcc
        replace hX := Lib.hid hX
        replace hBo := Lib.hid hBo
        clear hmr r1 hf hI
        go_upto_region 9 with fail
        refine onlyN ?_
        go_region_law (first
          | (go_simp; go_at_call 111; refine (hV.out _).mono ?_; rintro e w3 ⟨rfl, hB3'⟩; have hB3 : Hid (Below wo.heap.size wo w3) := (by rw [hwo]; exact ((Below.refl _ _).drew).trans (hB3'.mono (Nat.le_refl _))); have p3 := (show Boxed w3 _ 46 _ from (hfa.out w3 hB3.out).1).cell; replace hB3' := Lib.hid hB3')
          | (go_simp; go_at_call 110; refine (hFu.out w3 hB3.out).mono ?_; rintro e w4 ⟨a', l', c', rfl, hF4, -, hT4⟩; have hB4 : Hid (Below wo.heap.size wo w4) := hB3.out.trans (hT4.b0.mono hB3.out.size); have p4 := (show Boxed w4 _ 46 _ from (hfa.out w4 hB4.out).1).cell; have p4' := (fun o => alloc_cell (o := o) p4); have n2 := Lib.hid (hfa.out w4 hB4.out).2; have nz := hB4.out.size; replace hF4 := Lib.hid hF4; replace hT4 := Lib.hid hT4)
          | (refine step_append_lies _ (by rfl) _ _ _ (by rfl) w1.heap.size 70 i0 _ 4 48 und46 hi hz0 hz1 hz2 rfl (by omega) (.slice va vl vc) (listG F G k).length (flatB K) (by rfl) (n2.out.alloc _)
              ⟨w4.heap.size, 0, none⟩ 1 1 [.int .i64 (k : Int), .int .i64 X.op, .int .i64 X.n, .slice a' l' c'] (by rfl) (by rfl) (World.news_of_block (cs := #[.int .i64 (k : Int), .int .i64 X.op, .int .i64 X.n, .slice a' l' c']) (t := 70) (fr := (0, 0)) (heap_new' _ rfl)) (by simp [Value.oneCell'])
              (by omega) (by unfold maxLen; omega) (by omega) (by simp; omega) (w4.heap.size + 1) (by simp) ?_; intro gg cap2 w5 hown1 hgrow hat hlt2; have m1 := hg5.out w4 w5 _ hB4.out hgrow; have m2 := m1.1; have m3 := m1.2; clear m1))
        all_goals
          have hrel := Lib.hid (hnext.out w4 w5 a' l' c' gg cap2 hB4.out (TmP.move (fun b hb' _ => ⟨⟨by have := hB3.out.size; omega, hb'.2⟩, rfl⟩) _ hF4.out) hgrow hown1 (by simpa using hat))
          clear m2 m3 p3 p4 p4' hown1 hgrow hat hlt2
          refine onlyN_out ?_
          go_wp2_with fail
          go_roundw
          case rel => exact ⟨k + 1, by omega, by go_num, hrel.out⟩
          case measure => simp [intOf]; omega
    · have hke : k = k0 := by omega
      subst hke
      have o1 : (k : Int) < 20 := by omega
      obtain ⟨⟨va, vl, vc, r1, -⟩, r3⟩ := hI.out
      have hzr := r3.size
      have hm1lt := hm1.out.lt
      have hmr : TMap wr (w.heap.size + 1 + 1 + 1 + 1) nb F := hm1.out.same (r3.block _ (by omega) (by omega))
      obtain ⟨d, hf⟩ := Option.ne_none_iff_exists'.1 hf0.out
      have hl := hmr.look_some und147 (i := (k : Nat)) (by omega) hf
      obtain ⟨wo, hwo⟩ : ∃ wo, wo = wr.alloc (bx d) := ⟨_, rfl⟩
      have hBo : Below wr.heap.size wr wo := by rw [hwo]; exact (Below.refl _ _).alloc (Nat.le_refl _) _
      have hzo : wo.heap.size = wr.heap.size + 1 := by rw [hwo]; simp
      have hV := Lib.hid (fun W => varTerm_is (k : Nat) W)
      have hFu := Lib.hid (show ∀ W, Below wo.heap.size wo W → Calls Tryz.prog 110 #[.map (some (w.heap.size + 1 + 1 + 1 + 1)), dv (vD (k : Nat))] W (Gone W) from fun W hB => by
        have hzW := hB.size
        have hT : Turns (fun j => j = w.heap.size + 1 + 1) w1 W := (r3.trans (Turns.of0' hBo)).trans (Turns.of0' hB)
        have hBn : Below n₀ w1 W := hT.below (by omega) (fun j hj e => by omega)
        exact full_gone n₀ F (w.heap.size + 1 + 1 + 1 + 1) nb N (vD (k : Nat)) W hend.out hN36 hg0.out (hmr.same ((hB.block _ (by omega)).trans (hBo.block _ (by omega)))) (hE1.out.below hBn) (by omega) ((closedP n₀ W).var k (by omega)))
      have hk2 : wo.heap[w.heap.size + 1 + 1]? = some (.cells #[.slice va vl vc] 46 (0, 0)) := (hBo.block _ (by omega)).trans r1
      have hk3 : wo.heap[w.heap.size + 1 + 1 + 1]? = some e0 := (hBo.block _ (by omega)).trans ((r3.block _ (by omega) (by omega)).trans k3.out)
      have hbw : Below w.heap.size w wo := (hB1.out.trans (r3.below (by omega) (fun j hj e => by omega))).trans (hBo.mono (by omega))
      have hend2 : Hid (∀ w4, Below wo.heap.size wo w4 → Boxed w4 (w.heap.size + 1 + 1) 46 (.slice va vl vc) ∧ Boxed w4 (w.heap.size + 1 + 1 + 1) 31 (.int .i64 0) ∧ Below w.heap.size w w4 ∧ w.heap.size + 5 ≤ w4.heap.size) := fun w4 hB4 => ⟨(hB4.block _ (by omega)).trans hk2, (hB4.block _ (by omega)).trans hk3, hbw.trans (hB4.mono (by omega)), by have := hB4.size; omega⟩
      have hload : Hid (∀ w4, Below wo.heap.size wo w4 → w4.cell? ⟨w.heap.size + 1 + 1, 0, none⟩ = some (.slice va vl vc)) := fun w4 hB4 => (hend2.out w4 hB4).1.cell
      clear hmr r1 r3 hf0 hf hk2 hk3 hbw hI
      replace hBo := Lib.hid hBo
      go_upto_region 9 with fail
      rw [← hwo]
      replace hwo := Lib.hid hwo
      refine onlyP (fun c w4 => c = [{ v := .iface 120 (.agg #[.int .i64 3]), recovered := false }] ∧ Below wo.heap.size wo w4) ?_ ?_
      rotate_left
      · rintro c a' w4 ⟨h4, h5, h6⟩ ⟨rfl, hB4'⟩
        obtain ⟨k2', k3', hB4, hz4⟩ := hend2.out w4 hB4'
        clear hB4'
        have g4 : a'.tmps[4]?.getD undef = .pointer (some ⟨w.heap.size + 1 + 1, 0, none⟩) := by rw [← Array.getD_eq_getD_getElem?]; exact h4
        have g5 : a'.tmps[5]?.getD undef = .pointer (some ⟨w.heap.size + 1 + 1 + 1, 0, none⟩) := by rw [← Array.getD_eq_getD_getElem?]; exact h5
        have c2 := k2'.cell
        have c3 := k2'.frozen
        have c4 := k3'.cell
        have c5 := k3'.frozen
        show Leaves Tryz.prog Tryz.f76 a'.tmps (MgEnd w [] 3) a'.defers (.panicking _) w4
        rw [h6]
        simp only []
        refine leaves_cons (f := 108) (args := #[.pointer (some ⟨w.heap.size + 1 + 1, 0, none⟩), .pointer (some ⟨w.heap.size + 1 + 1 + 1, 0, none⟩)]) (by simp) (by simp [go_sem]) ?_
        refine (catch108_pan (w.heap.size + 1 + 1) (w.heap.size + 1 + 1 + 1) _ _ 3 [] _ c2 c3 c4 c5 (by omega) (by omega) (by omega)).mono ?_
        rintro e u' w5 ⟨rfl, rfl, hB5, hA⟩
        have q2 : w5.cell? ⟨w.heap.size + 1 + 1, 0, none⟩ = some (.slice none 0 0) := by
          have h : Boxed (((w4.alloc (.cells #[.int .i64 3] 120)).setCell ⟨w.heap.size + 1 + 1, 0, none⟩ (.slice none 0 0)).setCell ⟨w.heap.size + 1 + 1 + 1, 0, none⟩ (.int .i64 3)) (w.heap.size + 1 + 1) 46 (.slice none 0 0) := ((k2'.alloc _).set _).other (by simp) _
          have h' : Boxed w5 (w.heap.size + 1 + 1) 46 (.slice none 0 0) := by unfold Boxed; rw [hA]; exact h
          exact h'.cell
        have q3 : w5.cell? ⟨w.heap.size + 1 + 1 + 1, 0, none⟩ = some (.int .i64 3) := by
          have h : Boxed (((w4.alloc (.cells #[.int .i64 3] 120)).setCell ⟨w.heap.size + 1 + 1, 0, none⟩ (.slice none 0 0)).setCell ⟨w.heap.size + 1 + 1 + 1, 0, none⟩ (.int .i64 3)) (w.heap.size + 1 + 1 + 1) 31 (.int .i64 3) := ((k3'.alloc _).other (by simp) _).set _
          have h' : Boxed w5 (w.heap.size + 1 + 1 + 1) 31 (.int .i64 3) := by unfold Boxed; rw [hA]; exact h
          exact h'.cell
        have hfin : Below w.heap.size w w5 := hB4.trans (hB5.mono (by omega))
        clear hA hB5 k2' k3' c2 c3 c4 c5
        simp [Leaves, settle, results, Tryz.results76, go_sem, g4, g5, q2, q3]
        exact ⟨none, 0, 0, rfl, IsBinds.none _ _, hfin⟩
      refine region_named (S := fun W' => Below wo.heap.size wo W') (by kernel_rfl) (fun x hx => ?_)
      have hq : Hid (Below wo.heap.size wo x) := Lib.hid (by rw [hx]; exact (Below.refl _ _).drew)
      clear hx
      refine takeH 0 26 (.slice va vl vc) rfl rfl (by kernel_rfl) (by kernel_rfl) (by kernel_rfl) (onlyP_put 26 _ (by decide) (by decide)) (by rfl) (by intro W hSw; have j0 := hload.out W hSw; clear hSw; go_simp) hq.out ?_
      try simp only [List.setIfInBounds_toArray, List.set_cons_zero, List.set_cons_succ]
      refine takeH 1 27 (.int .i64 (k : Int)) rfl rfl (by kernel_rfl) (by kernel_rfl) (by kernel_rfl) (onlyP_put 27 _ (by decide) (by decide)) (by rfl) (by intro W hSw; clear hSw; go_simp) hq.out ?_
      try simp only [List.setIfInBounds_toArray, List.set_cons_zero, List.set_cons_succ]
      refine takeH 2 28 (.map (some (w.heap.size + 1 + 1 + 1 + 1))) rfl rfl (by kernel_rfl) (by kernel_rfl) (by kernel_rfl) (onlyP_put 28 _ (by decide) (by decide)) (by rfl) (by intro W hSw; clear hSw; go_simp) hq.out ?_
      try simp only [List.setIfInBounds_toArray, List.set_cons_zero, List.set_cons_succ]
      refine takeH 3 29 (.int .i64 (k : Int)) rfl rfl (by kernel_rfl) (by kernel_rfl) (by kernel_rfl) (onlyP_put 29 _ (by decide) (by decide)) (by rfl) (by intro W hSw; clear hSw; go_simp) hq.out ?_
      try simp only [List.setIfInBounds_toArray, List.set_cons_zero, List.set_cons_succ]
      refine wpAnyH_ready (rs := [4]) (by kernel_rfl) (by simp) ?_
      refine AllReadyH.cons rfl (fun K hKc => ?_) AllReadyH.nil
      go_simp
      go_at_call 111
      refine (hV.out x).mono ?_
      rintro e w3 ⟨rfl, hB3'⟩
      have hB3 : Hid (Below wo.heap.size wo w3) := Lib.hid (hq.out.trans (hB3'.mono hq.out.size))
      refine hKc _ _ hB3.out (fun _ => ?_)
      clear hKc K
      try simp only [List.setIfInBounds_toArray, List.set_cons_zero, List.set_cons_succ]
      refine wpAnyH_ready (rs := [5]) (by kernel_rfl) (by simp) ?_
      refine AllReadyH.cons rfl (fun K hKc => ?_) AllReadyH.nil
      go_simp
      go_at_call 110
      refine (hFu.out w3 hB3.out).mono ?_
      rintro e w4 ⟨rfl, hB4'⟩
      have hlast := hB3.out.trans (hB4'.mono hB3.out.size)
      exact ⟨⟨rfl, rfl, rfl⟩, rfl, by first | exact hlast | (rw [← hzo]; exact hlast)⟩

/-- The first bound variable whose 'full' gives up, and what 'full' makes of those before it. -/
theorem first_none (F : Int → Option DT) (N : Nat) (h : ∃ k : Nat, k < 20 ∧ F k ≠ none ∧ growF F N 1 0 (vD k) = none) : ∃ (k : Nat) (G : Nat → Tm), k < 20 ∧ F k ≠ none ∧ growF F N 1 0 (vD k) = none ∧ ∀ v : Nat, v < k → F v ≠ none → ∃ c, growF F N 1 0 (vD v) = some (G v, c) := by
  obtain ⟨k, h1, h2, h3⟩ := h
  induction k using Nat.strongRecOn with
  | ind k ih =>
    by_cases hx : ∃ j : Nat, j < k ∧ F j ≠ none ∧ growF F N 1 0 (vD j) = none
    · obtain ⟨j, hj, g1, g2⟩ := hx
      exact ih j hj (by omega) g1 g2
    · refine ⟨k, fun v => match growF F N 1 0 (vD v) with | some q => q.1 | none => .mk 0 0 [], h1, h2, h3, fun v hv hF => ?_⟩
      cases hg : growF F N 1 0 (vD v) with
      | none => exact absurd ⟨v, hv, hF, hg⟩ hx
      | some q => exact ⟨q.2, by simp only [hg]⟩
/-- What 'Unify' answers of formed values, where 'full' may give up. -/
def UniAll (a b : DT) (L : List (Int × Tm)) (err : Int) : Prop :=
  ∃ N, (uniF N noB a b = some none ∧ L = [] ∧ err = 5) ∨ (∃ F G, uniF N noB a b = some (some F) ∧ (∀ v : Nat, v < 20 → F v ≠ none → ∃ c, growF F N 1 0 (vD v) = some (G v, c)) ∧ L = listG F G 20 ∧ err = 0) ∨
    (36 ≤ N ∧ L = [] ∧ err = 3 ∧ ∃ F, uniF N noB a b = some (some F) ∧ (∀ d : DT, OkV d.tm → ∀ M, 21 ≤ M → ∃ r, opF F M d = some r) ∧ ∃ k : Nat, k < 20 ∧ F k ≠ none ∧ growF F N 1 0 (vD k) = none)

set_option maxRecDepth 100000 in
set_option maxHeartbeats 1000000 in
theorem Unify_all (s : Sg) (d x : DT) (n₀ : Nat) (w : World) (ac : Option Addr) (lc cc : Nat) (af : Option Addr) (lf cf : Nat) (L : List (Int × Tm)) (err : Int) (hs1 : 1 + d.size ≤ 1000000) (hs2 : 1 + x.size ≤ 1000000) (hn : n₀ ≤ w.heap.size) (hS : IsSg n₀ w s ac lc cc af lf cf) (hL1 : Lies n₀ w d) (hL2 : Lies n₀ w x)
    (hA : checkV s [d, x] = true → UniAll d x L err) (hN : checkV s [d, x] = false → L = [] ∧ err = 2) :
    Calls Tryz.prog 38 #[.agg #[.slice ac lc cc, .slice af lf cf], dv d, dv x] w (MgEnd w L err) := by
  obtain ⟨W0, hW0⟩ : ∃ W0, W0 = ((w.alloc (bs 24 ac lc cc af lf cf)).alloc (bx d)).alloc (bx x) := ⟨_, rfl⟩
  have hB0 : Below w.heap.size w W0 := by rw [hW0]; go_grown
  have hz0 : W0.heap.size = w.heap.size + 1 + 1 + 1 := by rw [hW0]; simp
  have hl1 := hL1.below (hB0.mono hn)
  have hl2 := hL2.below (hB0.mono hn)
  have hB1 : Below W0.heap.size W0 (W0.alloc (two d x)) := (Below.refl _ _).alloc (Nat.le_refl _) _
  have hC := checkValues_any s [d, x] (W0.heap.size + 1) (W0.alloc (two d x)) ac lc cc af lf cf (some ⟨W0.heap.size, 0, none⟩) 2 2 (by intro y hy; simp at hy; rcases hy with rfl | rfl <;> assumption) (by simp) ((hS.below ((hB0.trans (hB1.mono hB0.size)).mono hn)).wider (by omega)) (two_lies hl1 hl2 (by omega))
  have bd : W0.heap[w.heap.size + 1]? = some (bx d) := by rw [hW0]; exact heap_old (heap_new' _ (by simp))
  have bx' : W0.heap[w.heap.size + 1 + 1]? = some (bx x) := by rw [hW0]; exact heap_new' _ (by simp)
  rw [hz0] at hC
  cases hv : checkV s [d, x]
  · rw [hv] at hC
    obtain ⟨rfl, rfl⟩ := hN hv
    have he : errOf false = 2 := rfl
    rw [hW0] at hC
    replace hC := Lib.hid hC
    clear hl1 hl2 hL1 hL2 hS hv hA hN
    go_enter Tryz.func38, Tryz.ntmps38
    go_wp2_with fail
    refine (hC.out).mono ?_
    rintro e w1 ⟨rfl, hbe⟩
    replace hbe := Lib.hid hbe
    go_wp2_with fail
    go_ret2
    rw [hW0] at hB0 hB1
    exact ⟨none, 0, 0, rfl, IsBinds.none _ _, hB0.trans ((hB1.mono (by simp; omega)).trans (hbe.out.mono (by simp; omega)))⟩
  · have hcb : checkB s [d, x] = true := by unfold checkV at hv; rw [Bool.and_eq_true] at hv; exact hv.1
    have hO1 := OkV.checked hcb (by simp : d ∈ [d, x])
    have hO2 := OkV.checked hcb (by simp : x ∈ [d, x])
    rw [hv] at hC
    have he : errOf true = 0 := rfl
    have hM : ∀ W, Below W0.heap.size W0 W → Calls Tryz.prog 76 #[dv d, dv x] W (MgEnd W L err) := fun W hb => by
      have g1 : (Lies n₀ W d ∧ OkV d.tm) ∧ d.size < 1000000 := ⟨⟨hl1.below (hb.mono (by omega)), hO1⟩, by omega⟩
      have g2 : (Lies n₀ W x ∧ OkV x.tm) ∧ x.size < 1000000 := ⟨⟨hl2.below (hb.mono (by omega)), hO2⟩, by omega⟩
      have hnW : n₀ ≤ W.heap.size := by have := hb.size; omega
      obtain ⟨N, ⟨h1, rfl, rfl⟩ | ⟨F, G, h1, h2, rfl, rfl⟩ | ⟨h36, rfl, rfl, F, h1, he, hk⟩⟩ := hA hv
      · exact mostGeneral_none n₀ N d x W h1 hnW g1 g2
      · exact mostGeneral_any n₀ N d x W F G h1 h2 hnW g1 g2
      · obtain ⟨k, G, hk1, hk2, hk3, hk4⟩ := first_none F N hk
        exact mostGeneral_gone n₀ N d x W F G h1 k hk1 hk2 hk3 h36 he hk4 hnW g1 g2
    rw [hW0] at hC
    replace hC := Lib.hid hC
    replace hM := Lib.hid hM
    clear hl1 hl2 hL1 hL2 hS hv hO1 hO2 hcb hA hN
    go_enter Tryz.func38, Tryz.ntmps38
    go_wp2_with fail
    refine (hC.out).mono ?_
    rintro e w1 ⟨rfl, hbe⟩
    have hb1 : Below W0.heap.size W0 w1 := hB1.trans ((show Below (W0.alloc (two d x)).heap.size (W0.alloc (two d x)) w1 from by rw [hW0]; exact hbe).mono hB1.size)
    obtain ⟨⟨b0, b1, b2⟩, -⟩ := c3_cells ((hb1.block (w.heap.size + 1) (by omega)).trans bd)
    obtain ⟨⟨x0, x1, x2⟩, -⟩ := c3_cells ((hb1.block (w.heap.size + 1 + 1) (by omega)).trans bx')
    have hz1 := hb1.size
    have hMw := Lib.hid (hM.out w1 hb1)
    replace hb1 := Lib.hid hb1
    clear hbe
    go_wp2_with fail
    refine (hMw.out).mono ?_
    rintro e w2 ⟨va, vl, vc, rfl, hI, hB2⟩
    replace hI := Lib.hid hI
    replace hB2 := Lib.hid hB2
    clear b0 b1 b2 x0 x1 x2
    go_wp2_with fail
    go_ret2
    exact ⟨va, vl, vc, rfl, hI.out, hB0.trans ((hb1.out.mono (by omega)).trans (hB2.out.mono (by omega)))⟩


end Go.Proofs.YthlegfegkopdkaaGreat
