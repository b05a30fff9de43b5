/- Own text, joined of: R12n. The reference's 'ordered': a node. -/
import Derived.Test.YthlegfegkopdkaaGreatMm44
import Derived.Test.YthlegfegkopdkaaGreatMm47

namespace Go.Proofs.YthlegfegkopdkaaGreat
open Go.RowKit Go.Shelf Go.Sort

set_option maxRecDepth 100000 in
set_option maxHeartbeats 16000000 in
theorem ordered_node (N : Nat) (ih : OrdR N) (t : Tm) (bound free : Prs) (next n₀ : Nat) (w : World) (a : Option Addr) (l c : Nat) (vb vf : Value) (hs : t.size ≤ N + 1) (ht : IsTm n₀ w t a l c) (hO : OkV t) (hn : n₀ ≤ w.heap.size)
    (hb : PRow w 0 vb bound) (hf : PRow w 0 vf free) (hbl : bound.length ≤ next) (hfl : free.length ≤ next) (hnx : next + t.size ≤ 1000000) (h1 : t.op ≠ 1) (h8 : t.op ≠ 8) :
    Calls Tryz.prog 72 #[.agg #[.int .i64 t.op, .int .i64 t.n, .slice a l c], .agg #[vb, vf, .int .i64 (next : Nat)]] w (OrdEnd w vb (ordT (lookP bound) ⟨lookP free, next⟩ t).1 (ordT (lookP bound) ⟨lookP free, next⟩ t).2) := by
  obtain ⟨rfl, hlc, hc, hk⟩ := ht.open
  obtain ⟨ab, lb, cb, rfl⟩ := hb.slice
  obtain ⟨af, lf, cf, rfl⟩ := hf.slice
  obtain ⟨o1, o2, o3, o4⟩ := hO.open
  have hsz := Lib.hid (size_eq t)
  have hsb : sizes t.kids ≤ N := by have := hsz.out; omega
  have hkl : t.kids.length ≤ 1000000 := by have := hsz.out; have := len_sizes t.kids; omega
  rw [ord_node t _ _ h1 o3]
  dsimp only
  obtain ⟨st, hst⟩ : ∃ f, f = stAt t.op t.n (lookP bound) ⟨lookP free, next⟩ t.kids := ⟨_, rfl⟩
  obtain ⟨F, hF⟩ : ∃ f, f = outAt t.op t.n (lookP bound) ⟨lookP free, next⟩ t.kids := ⟨_, rfl⟩
  rw [← hst, ← hF]
  have hroom : Hid (∀ j (h : j < t.kids.length), (st j).count + t.kids[j].size ≤ 1000000 ∧ next ≤ (st j).count) := Lib.hid (fun j h => by
    have h2 := stAt_room t.op t.n (lookP bound) ⟨lookP free, next⟩ t.kids j h
    rw [← hst] at h2
    have h3 := hsz.out
    refine ⟨by simp only at h2; omega, ?_⟩
    have h4 := stAt_mono t.op t.n (lookP bound) ⟨lookP free, next⟩ t.kids j (by omega)
    rw [← hst] at h4
    exact h4)
  have hst1 : Hid (∀ j (h : j < t.kids.length), F j = (ordT (fbAt t.op t.n next (lookP bound) j) (st j) t.kids[j]).1 ∧ st (j + 1) = (ordT (fbAt t.op t.n next (lookP bound) j) (st j) t.kids[j]).2) := Lib.hid (fun j h => by
    rw [hst, hF]; exact ⟨outAt_eq h, stAt_succ h⟩)
  have hst0 : Hid (st 0 = (⟨lookP free, next⟩ : OS)) := Lib.hid (by rw [hst, stAt]; rw [if_neg h8])
  rw [if_neg h8]
  have h1b : (t.op == 1) = false := by simp [h1]
  have h8b : (t.op == 8) = false := by simp [h8]
  obtain ⟨w0, hw0⟩ : ∃ W, W = (((w.alloc (.cells #[.int .i64 t.op, .int .i64 t.n, .slice a t.kids.length c] 28)).alloc (scB (.slice ab lb cb) (.slice af lf cf) next)).alloc zT).alloc zS := ⟨_, rfl⟩
  obtain ⟨h2, h3, h4, h5, hz, hB⟩ := ord_boxes hw0
  have hfb : Hid (∀ j, fbAt t.op t.n next (lookP bound) j = lookP bound) := Lib.hid (fun j => by unfold fbAt; rw [if_neg (fun e => h8 e.1)])
  obtain ⟨i0, hi, hz0, hz1, hz2⟩ := info_parts inf28
  obtain ⟨i1, hj, hy0, hy1, hy2⟩ := info_parts inf145
  replace h2 := Lib.hid h2
  replace h3 := Lib.hid h3
  replace h4 := Lib.hid h4
  replace h5 := Lib.hid h5
  replace hz := Lib.hid hz
  replace hB := Lib.hid hB
  replace hb := Lib.hid hb
  replace hf := Lib.hid hf
  replace hw0 := Lib.hid hw0
  replace ih := Lib.hid ih
  replace o4 := Lib.hid o4
  clear o1 o2 o3 ht hO h1 hst hF h8
  have hR0 : Hid (RelO w (.cells #[.int .i64 t.op, .int .i64 t.n, .slice a t.kids.length c] 28) F st t.op t.n (.slice ab lb cb) 0 (w0.alloc (.cells #[.int .i64 t.op, .int .i64 t.n, .slice none 0 0] 28))) := Lib.hid (by
    have hb9 : Below w.heap.size w (w0.alloc (.cells #[.int .i64 t.op, .int .i64 t.n, .slice none 0 0] 28)) := Below.up hB.out (bal _ _)
    refine ⟨⟨[], none, 0, 0, ⟨rfl, heap_new' _ (by rw [hz.out]), World.ownsRow_nil _ _ _ _, by simp⟩⟩, heap_old h2.out, ⟨(.slice af lf cf), free, ?_, hf.out.up hb9 (Nat.le_refl _), by rw [hst0.out], by rw [hst0.out]; exact hfl⟩, heap_old h4.out, heap_old h5.out, hb9⟩
    rw [hst0.out]; exact heap_old h3.out)
  rw [hw0.out] at hR0
  go_enter Tryz.func72, Tryz.ntmps72
  go_wp2_with fail
  go_loopw [11, 12, 13] (fun i _ _ wr => ∃ k : Nat, k ≤ t.kids.length ∧ i = .int .i64 k ∧ Hid (RelO w (.cells #[.int .i64 t.op, .int .i64 t.n, .slice a t.kids.length c] 28) F st t.op t.n (.slice ab lb cb) k wr)) (fun i _ _ _ => t.kids.length - (intOf i).toNat)
  case atStart => exact ⟨0, by omega, rfl, hR0⟩
  case round =>
    obtain ⟨k, hk1, rfl, hR⟩ := hrel
    clear hR0 hst0 h2 h3 h4 h5 hB hw0 hz hf
    obtain ⟨⟨KK, va, vl, vc, hK⟩, g2, ⟨vf2, free2, g3, grow, glook, gfl⟩, g4, g5, gB⟩ := hR.out
    clear hR
    obtain ⟨a4, l4, c4, rfl⟩ := grow.slice
    obtain ⟨⟨b0, b1, b2⟩, -⟩ := c3_cells g2
    have hz8 := (Array.getElem?_eq_some_iff.1 hK.r2).1
    by_cases hlt : k < t.kids.length
    · rcases hk with hk | ⟨b, off, rfl, hbn, hks⟩
      · rw [hk] at hlt; simp at hlt
      obtain ⟨a', l', c', hc3, ht'⟩ := IsKids.get _ hks k hlt
      have hc3 := hc3.below (gB.mono hn) hbn
      have ht' := (IsTm.below (gB.mono hn) _ ht')
      obtain ⟨d0, d1, d2⟩ := hc3
      have hblt : b < wr.heap.size := by have := gB.size; omega
      have hsk := size_kid t.kids k hlt
      have hrm := hroom.out k hlt
      obtain ⟨e1, e2⟩ := hst1.out k hlt
      obtain ⟨cn, hcn⟩ : ∃ cn, cn = (st k).count := ⟨_, rfl⟩
      rw [← hcn] at g3 gfl hrm
      have hcall : Hid (∀ W vb' bound', Below w.heap.size w W → Below (w.heap.size + 1) wr W → PRow W 0 vb' bound' → PRow W 0 (.slice a4 l4 c4) free2 → bound'.length ≤ cn → lookP bound' = fbAt t.op t.n next (lookP bound) k → Calls Tryz.prog 72 #[.agg #[.int .i64 t.kids[k].op, .int .i64 t.kids[k].n, .slice a' l' c'], .agg #[vb', (.slice a4 l4 c4), .int .i64 (cn : Nat)]] W (OrdEnd W vb' (F k) (st (k + 1)))) := Lib.hid (fun W vb' bound' hW1 hW2 hP1 hP2 hl2 he2 => by
        have h9 := ih.out t.kids[k] bound' free2 cn n₀ W a' l' c' vb' (.slice a4 l4 c4) (by omega) (IsTm.below (hW2.mono (by omega)) _ ht') (OkVs_get _ k hlt o4.out) (by have := hW1.size; omega) hP1 hP2 hl2 gfl (by omega)
        rw [he2, glook, hcn] at h9
        rw [e1, e2, hcn]
        exact h9)
      obtain ⟨T, hT⟩ : ∃ T, T = F k := ⟨_, rfl⟩
      obtain ⟨S, hS⟩ : ∃ S, S = st (k + 1) := ⟨_, rfl⟩
      rw [← hT, ← hS] at hcall
      clear hks ht' e1 e2 hroom hst1 ih o4 hsk
      replace hK := Lib.hid hK
      replace g2 := Lib.hid g2
      replace g3 := Lib.hid g3
      replace grow := Lib.hid grow
      replace g4 := Lib.hid g4
      replace g5 := Lib.hid g5
      replace gB := Lib.hid gB
      replace hT := Lib.hid hT
      replace hS := Lib.hid hS
      replace glook := Lib.hid glook
      replace hcn := Lib.hid hcn
      have hfbk := hfb.out k
      clear hfb
      go_upto_region 22 with fail
      refine region_named (S := fun W' => Below wr.heap.size wr W') (by kernel_rfl) (fun x hx => ?_)
      have hq : Hid (Below wr.heap.size wr x) := Lib.hid (by rw [hx]; exact (Below.refl _ _).drew)
      have hzx : Hid (wr.heap.size ≤ x.heap.size) := Lib.hid hq.out.size
      clear hx
      refine takeH 0 98 (.pointer (some ⟨w.heap.size, 2, none⟩)) rfl rfl (by kernel_rfl) (by kernel_rfl) (by kernel_rfl) (fun _ _ _ h => h) (by rfl) (by intro W hSw; clear hSw; go_simp) hq.out ?_
      try simp only [List.setIfInBounds_toArray, List.set_cons_zero, List.set_cons_succ]
      refine takeH 1 99 (.slice (some ⟨b, off, none⟩) t.kids.length c) rfl rfl (by kernel_rfl) (by kernel_rfl) (by kernel_rfl) (fun _ _ _ h => h) (by rfl) (by intro W hSw; obtain ⟨⟨j0, j1, j2⟩, -⟩ := c3_cells ((hSw.block w.heap.size (by omega)).trans g2.out); clear hSw; go_simp) hq.out ?_
      try simp only [List.setIfInBounds_toArray, List.set_cons_zero, List.set_cons_succ]
      refine takeH 2 100 (.int .i64 k) rfl rfl (by kernel_rfl) (by kernel_rfl) (by kernel_rfl) (fun _ _ _ h => h) (by rfl) (by intro W hSw; clear hSw; go_simp) hq.out ?_
      try simp only [List.setIfInBounds_toArray, List.set_cons_zero, List.set_cons_succ]
      refine takeH 3 101 (.pointer (some ⟨b, off + k * 3, none⟩)) rfl rfl (by kernel_rfl) (by kernel_rfl) (by kernel_rfl) (fun _ _ _ h => h) (by rfl) (by intro W hSw; clear hSw; go_simp) hq.out ?_
      try simp only [List.setIfInBounds_toArray, List.set_cons_zero, List.set_cons_succ]
      refine takeH 4 102 (.agg #[.int .i64 t.kids[k].op, .int .i64 t.kids[k].n, .slice a' l' c']) rfl rfl (by kernel_rfl) (by kernel_rfl) (by kernel_rfl) (fun _ _ _ h => h) (by rfl) (by intro W hSw; have j0 := (hSw.cell (p := ⟨b, off + k * 3, none⟩) hblt).trans d0; have j1 := (hSw.cell (p := ⟨b, off + k * 3 + 1, none⟩) hblt).trans d1; have j2 := (hSw.cell (p := ⟨b, off + k * 3 + 2, none⟩) hblt).trans d2; clear hSw; go_simp) hq.out ?_
      try simp only [List.setIfInBounds_toArray, List.set_cons_zero, List.set_cons_succ]
      refine takeH 5 103 (.agg #[(.slice ab lb cb), (.slice a4 l4 c4), .int .i64 (cn : Nat)]) rfl rfl (by kernel_rfl) (by kernel_rfl) (by kernel_rfl) (fun _ _ _ h => h) (by rfl) (by intro W hSw; obtain ⟨⟨j0, j1, j2⟩, -⟩ := c3_cells ((hSw.block (w.heap.size + 1) (by omega)).trans g3.out); clear hSw; go_simp) hq.out ?_
      try simp only [List.setIfInBounds_toArray, List.set_cons_zero, List.set_cons_succ]
      refine wpAnyH_ready (rs := [6, 10, 11]) (by kernel_rfl) (by simp) ?_
      refine AllReadyH.cons rfl (fun K hKc => ?_) (AllReadyH.cons rfl (fun K hKc => ?_) (AllReadyH.cons rfl (fun K hKc => ?_) AllReadyH.nil))
      · skip
        rw [if_pos (by rfl)]
        refine wp_call2 (f := 72) (d := 104) rfl rfl (enters_of Tryz.func72 (by kernel_rfl) rfl _ _) rfl rfl ((hcall.out x (.slice ab lb cb) bound (gB.out.trans (hq.out.mono (by have := gB.out.size; omega))) (hq.out.mono (by omega)) (hb.out.up (gB.out.trans (hq.out.mono (by have := gB.out.size; omega))) (Nat.le_refl _)) (grow.out.up hq.out (Nat.le_refl _)) (by omega) hfbk.symm).mono ?_)
        rintro e x1 ⟨a2, l2, c2, vf3, free3, rfl, hF3, hr3, hl3, hn3, hb1⟩
        obtain ⟨a5, l5, c5, rfl⟩ := hr3.slice
        refine ⟨_, rfl, ?_⟩
        obtain ⟨lo, hlo⟩ : ∃ n, n = x.heap.size := ⟨_, rfl⟩
        obtain ⟨ub, hhi⟩ : ∃ n, n = x1.heap.size := ⟨_, rfl⟩
        have hsz1 := hb1.size
        replace hq := Lib.hid (Below.up hq.out hb1)
        have hT3 : Hid (TmP (fun b => lo ≤ b ∧ b < ub) x1 T a2 l2 c2) := Lib.hid (by rw [hlo, hhi]; exact hF3)
        replace hr3 := Lib.hid hr3
        replace hl3 := Lib.hid hl3
        replace hlo := Lib.hid hlo
        replace hhi := Lib.hid hhi
        replace hsz1 := Lib.hid hsz1
        clear hF3 hb1
        refine hKc _ _ hq.out (fun _ => ?_)
        clear hKc K
        try simp only [List.setIfInBounds_toArray, List.set_cons_zero, List.set_cons_succ]
        refine takeH 7 97 (.tuple #[.agg #[.int .i64 T.op, .int .i64 T.n, .slice a2 l2 c2], .agg #[(.slice ab lb cb), (.slice a5 l5 c5), .int .i64 (S.count : Nat)]]) rfl rfl (by kernel_rfl) (by kernel_rfl) (by kernel_rfl) (fun _ _ _ h => h) (by rfl) (by intro W hSw; clear hSw; go_simp) hq.out ?_
        try simp only [List.setIfInBounds_toArray, List.set_cons_zero, List.set_cons_succ]
        refine takeH 8 105 (.agg #[.int .i64 T.op, .int .i64 T.n, .slice a2 l2 c2]) rfl rfl (by kernel_rfl) (by kernel_rfl) (by kernel_rfl) (fun _ _ _ h => h) (by rfl) (by intro W hSw; clear hSw; go_simp) hq.out ?_
        try simp only [List.setIfInBounds_toArray, List.set_cons_zero, List.set_cons_succ]
        refine takeH 9 106 (.agg #[(.slice ab lb cb), (.slice a5 l5 c5), .int .i64 (S.count : Nat)]) rfl rfl (by kernel_rfl) (by kernel_rfl) (by kernel_rfl) (fun _ _ _ h => h) (by rfl) (by intro W hSw; clear hSw; go_simp) hq.out ?_
        try simp only [List.setIfInBounds_toArray, List.set_cons_zero, List.set_cons_succ]
        refine wpAnyH_ready (rs := [10, 11]) (by kernel_rfl) (by simp) ?_
        refine AllReadyH.cons rfl (fun K hKc => ?_) (AllReadyH.cons rfl (fun K hKc => ?_) AllReadyH.nil)
        · skip
          go_simp
          obtain ⟨B10, hB10⟩ : ∃ n, n = x1.heap.size := ⟨_, rfl⟩
          obtain ⟨x2, hx2⟩ : ∃ X, X = x1.alloc zT := ⟨_, rfl⟩
          have st : Below x1.heap.size x1 x2 := by rw [hx2]; exact bal _ _
          have k10 : Hid (x2.heap[B10]? = some zT) := Lib.hid (by rw [hx2, hB10]; exact heap_new' _ rfl)
          have hsz10 : x2.heap.size = x1.heap.size + 1 := by rw [hx2]; simp
          replace hT3 := Lib.hid (TmP.move (P := fun b => lo ≤ b ∧ b < ub) (Q := fun b => lo ≤ b ∧ b < ub) (fun b hb hlt => ⟨hb, st.block b hlt⟩) _ hT3.out)
          replace hr3 := Lib.hid (hr3.out.up st (Nat.le_refl _))
          replace hq := Lib.hid (Below.up hq.out st)
          rw [← hB10]
          rw [← hx2]
          clear st hx2
          replace hB10 := Lib.hid hB10
          replace hsz10 := Lib.hid hsz10
          refine hKc _ _ hq.out (fun _ => ?_)
          clear hKc K
          try simp only [List.setIfInBounds_toArray, List.set_cons_zero, List.set_cons_succ]
          refine wpAnyH_ready (rs := [11]) (by kernel_rfl) (by simp) ?_
          refine AllReadyH.cons rfl (fun K hKc => ?_) AllReadyH.nil
          go_simp
          obtain ⟨B11, hB11⟩ : ∃ n, n = x2.heap.size := ⟨_, rfl⟩
          obtain ⟨x3, hx3⟩ : ∃ X, X = x2.alloc zS := ⟨_, rfl⟩
          have st : Below x2.heap.size x2 x3 := by rw [hx3]; exact bal _ _
          have k11 : Hid (x3.heap[B11]? = some zS) := Lib.hid (by rw [hx3, hB11]; exact heap_new' _ rfl)
          have hsz11 : x3.heap.size = x2.heap.size + 1 := by rw [hx3]; simp
          replace hT3 := Lib.hid (TmP.move (P := fun b => lo ≤ b ∧ b < ub) (Q := fun b => lo ≤ b ∧ b < ub) (fun b hb hlt => ⟨hb, st.block b hlt⟩) _ hT3.out)
          replace hr3 := Lib.hid (hr3.out.up st (Nat.le_refl _))
          replace k10 := Lib.hid ((st.block _ (Array.getElem?_eq_some_iff.1 k10.out).1).trans k10.out)
          replace hq := Lib.hid (Below.up hq.out st)
          rw [← hB11]
          rw [← hx3]
          clear st hx3
          replace hB11 := Lib.hid hB11
          replace hsz11 := Lib.hid hsz11
          refine hKc _ _ hq.out (fun _ => ?_)
          clear hKc K
          try simp only [List.setIfInBounds_toArray, List.set_cons_zero, List.set_cons_succ]
          have hne : Hid (¬ B11 = B10 ∧ (B10 < lo ∨ ub ≤ B10) ∧ (B11 < lo ∨ ub ≤ B11) ∧ wr.heap.size ≤ B10 ∧ wr.heap.size ≤ B11 ∧ wr.heap.size ≤ lo ∧ lo ≤ ub ∧ ub ≤ x3.heap.size) := Lib.hid (by have e1 := hB10.out; have e2 := hB11.out; have e3 := hsz10.out; have e4 := hsz11.out; have e5 := hlo.out; have e6 := hhi.out; have e7 := hsz1.out; have e8 := hzx.out; omega)
          refine wpAnyH_ready (rs := [12]) (by kernel_rfl) (by simp) ?_
          refine AllReadyH.cons rfl (fun K hKc => ?_) AllReadyH.nil
          obtain ⟨⟨q0, q1, q2⟩, q3, q4, q5⟩ := c3_cells k10.out
          go_simp
          clear q0 q1 q2 q3 q4 q5
          obtain ⟨x4, hx4⟩ : ∃ Z, Z = (((x3.setCell ⟨B10, 0, none⟩ (.int .i64 T.op)).setCell ⟨B10, 1, none⟩ (.int .i64 T.n)).setCell ⟨B10, 2, none⟩ (.slice a2 l2 c2)) := ⟨_, rfl⟩
          rw [← hx4]
          have hs := set3 (.int .i64 T.op) (.int .i64 T.n) (.slice a2 l2 c2) k10.out
          have ho := fun k (hk : k ≠ B10) => set3_other (w := x3) (B := B10) (.int .i64 T.op) (.int .i64 T.n) (.slice a2 l2 c2) hk
          have hbs := set3_below (w := x3) (B := B10) (n := wr.heap.size) (.int .i64 T.op) (.int .i64 T.n) (.slice a2 l2 c2) (by have := hne.out; omega)
          rw [← hx4] at hs ho hbs
          replace k11 := Lib.hid ((ho _ (by have := hne.out; omega)).trans k11.out)
          replace hT3 : Hid (TmP (fun b => lo ≤ b ∧ b < ub) x4 T a2 l2 c2) := Lib.hid (TmP.move (P := fun b => lo ≤ b ∧ b < ub) (Q := fun b => lo ≤ b ∧ b < ub) (fun b hb hlt => ⟨hb, ho b (by have := hne.out; omega)⟩) _ hT3.out)
          replace hr3 := Lib.hid (hr3.out.far k10.out (by decide) ho)
          replace hq := Lib.hid (hq.out.trans hbs)
          replace hne := Lib.hid (⟨hne.out.1, hne.out.2.1, hne.out.2.2.1, hne.out.2.2.2.1, hne.out.2.2.2.2.1, hne.out.2.2.2.2.2.1, hne.out.2.2.2.2.2.2.1, Nat.le_trans hne.out.2.2.2.2.2.2.2 (set3_size x3 B10 _ _ _ hx4)⟩ : ¬ B11 = B10 ∧ (B10 < lo ∨ ub ≤ B10) ∧ (B11 < lo ∨ ub ≤ B11) ∧ wr.heap.size ≤ B10 ∧ wr.heap.size ≤ B11 ∧ wr.heap.size ≤ lo ∧ lo ≤ ub ∧ ub ≤ x4.heap.size)
          replace k10 := Lib.hid hs
          clear hs ho hbs hx4
          refine hKc _ _ hq.out (fun _ => ?_)
          clear hKc K
          try simp only [List.setIfInBounds_toArray, List.set_cons_zero, List.set_cons_succ]
          refine wpAnyH_ready (rs := [13]) (by kernel_rfl) (by simp) ?_
          refine AllReadyH.cons rfl (fun K hKc => ?_) AllReadyH.nil
          obtain ⟨⟨q0, q1, q2⟩, q3, q4, q5⟩ := c3_cells k11.out
          go_simp
          clear q0 q1 q2 q3 q4 q5
          obtain ⟨x5, hx5⟩ : ∃ Z, Z = (((x4.setCell ⟨B11, 0, none⟩ ((.slice ab lb cb))).setCell ⟨B11, 1, none⟩ (.slice a5 l5 c5)).setCell ⟨B11, 2, none⟩ (.int .i64 (S.count : Nat))) := ⟨_, rfl⟩
          rw [← hx5]
          have hs := set3 ((.slice ab lb cb)) (.slice a5 l5 c5) (.int .i64 (S.count : Nat)) k11.out
          have ho := fun k (hk : k ≠ B11) => set3_other (w := x4) (B := B11) ((.slice ab lb cb)) (.slice a5 l5 c5) (.int .i64 (S.count : Nat)) hk
          have hbs := set3_below (w := x4) (B := B11) (n := wr.heap.size) ((.slice ab lb cb)) (.slice a5 l5 c5) (.int .i64 (S.count : Nat)) (by have := hne.out; omega)
          rw [← hx5] at hs ho hbs
          replace k10 := Lib.hid ((ho _ (by have := hne.out; omega)).trans k10.out)
          replace hT3 : Hid (TmP (fun b => lo ≤ b ∧ b < ub) x5 T a2 l2 c2) := Lib.hid (TmP.move (P := fun b => lo ≤ b ∧ b < ub) (Q := fun b => lo ≤ b ∧ b < ub) (fun b hb hlt => ⟨hb, ho b (by have := hne.out; omega)⟩) _ hT3.out)
          replace hr3 := Lib.hid (hr3.out.far k11.out (by decide) ho)
          replace hq := Lib.hid (hq.out.trans hbs)
          replace hne := Lib.hid (⟨hne.out.1, hne.out.2.1, hne.out.2.2.1, hne.out.2.2.2.1, hne.out.2.2.2.2.1, hne.out.2.2.2.2.2.1, hne.out.2.2.2.2.2.2.1, Nat.le_trans hne.out.2.2.2.2.2.2.2 (set3_size x4 B11 _ _ _ hx5)⟩ : ¬ B11 = B10 ∧ (B10 < lo ∨ ub ≤ B10) ∧ (B11 < lo ∨ ub ≤ B11) ∧ wr.heap.size ≤ B10 ∧ wr.heap.size ≤ B11 ∧ wr.heap.size ≤ lo ∧ lo ≤ ub ∧ ub ≤ x5.heap.size)
          replace k11 := Lib.hid hs
          clear hs ho hbs hx5
          refine hKc _ _ hq.out (fun _ => ?_)
          clear hKc K
          try simp only [List.setIfInBounds_toArray, List.set_cons_zero, List.set_cons_succ]
          refine wpAnyH_done (by kernel_rfl) ?_ _
          have hK8 := Lib.hid (hK.out.below hq.out)
          obtain ⟨⟨u0, u1, u2⟩, -⟩ := c3_cells hK8.out.r2
          obtain ⟨⟨u3, u4, u5⟩, -⟩ := c3_cells k10.out
          have hzq := hq.out.size
          have hnb : Hid (∀ j, (Value.slice va vl vc).ownBlock = some j → w.heap.size + 5 ≤ j ∧ j < wr.heap.size) := Lib.hid (fun j e => own_base hK.out.r4 e)
          have q8 : ¬ B11 = w.heap.size + 1 + 1 + 1 + 1 := by have := hne.out; omega
          have q9 : ¬ B11 = w.heap.size + 1 := by have := hne.out; omega
          go_wp2_with (first
            | (at_builtin; refine wpList_append_lies _ rfl _ _ 26 rfl (w.heap.size + 5) 28 i0 _ 3 40 und26 hi hz0 hz1 hz2 rfl (by omega) (.slice va vl vc) k (flat KK) rfl (hK8.out.r4.alloc _)
                ⟨x5.heap.size, 0, none⟩ 1 1 [.int .i64 T.op, .int .i64 T.n, .slice a2 l2 c2] rfl rfl (World.news_of_block (cs := #[.int .i64 T.op, .int .i64 T.n, .slice a2 l2 c2]) (t := 28) (fr := (0, 0)) (heap_new' _ rfl)) (by simp [Value.oneCell'])
                (by omega) (by unfold maxLen; omega) (by omega) (by simp; omega) (x5.heap.size + 1) (by simp) ?_; intro gg cap2 w2 hown1 hgrow hat hlt2
               have m1 := grow_made hgrow hK8.out.r4 (by omega) hK8.out.r2; have m2 := m1.1; have m3 := m1.2; clear m1
               have m4 := c3_cells (grow_keep hgrow (fun e => by have := (hnb.out _ e).1; omega) ((hq.out.block (w.heap.size + 1) (by omega)).trans g3.out))
               obtain ⟨⟨v0, v1, v2⟩, v3, v4, v5⟩ := m4
               have m5 := c3_cells (grow_keep hgrow (fun e => by have := (hnb.out _ e).2; have := hne.out; omega) k11.out)
               obtain ⟨⟨v6, v7, v8⟩, -⟩ := m5))
          go_roundw
          case rel =>
            have hBX := Below.trans gB.out (hq.out.mono (by omega))
            refine ⟨k + 1, by omega, by go_num, Lib.hid (RelO.next (lo := lo) hK8.out ((hq.out.block w.heap.size (by omega)).trans g2.out) ((hq.out.block (w.heap.size + 1) (by omega)).trans g3.out) ((hq.out.block (w.heap.size + 1 + 1) (by omega)).trans g4.out) ((hq.out.block (w.heap.size + 1 + 1 + 1) (by omega)).trans g5.out) hBX hr3.out (by rw [← hS.out]; exact hl3.out) (by rw [← hS.out]; exact hn3) (by rw [hS.out]) hT.out (by have := hne.out; omega) (fun j e => by have := (hnb.out j e).2; have := hne.out; omega) (TmP.move (P := fun b => lo ≤ b ∧ b < ub) (fun b hb hlt => ⟨⟨hb.1, by have := hne.out; omega⟩, rfl⟩) _ hT3.out) hgrow hown1 hat)⟩
          case measure => simp [intOf]; omega
        · skip
          go_simp
          obtain ⟨B11, hB11⟩ : ∃ n, n = x1.heap.size := ⟨_, rfl⟩
          obtain ⟨x6, hx6⟩ : ∃ X, X = x1.alloc zS := ⟨_, rfl⟩
          have st : Below x1.heap.size x1 x6 := by rw [hx6]; exact bal _ _
          have k11 : Hid (x6.heap[B11]? = some zS) := Lib.hid (by rw [hx6, hB11]; exact heap_new' _ rfl)
          have hsz11 : x6.heap.size = x1.heap.size + 1 := by rw [hx6]; simp
          replace hT3 := Lib.hid (TmP.move (P := fun b => lo ≤ b ∧ b < ub) (Q := fun b => lo ≤ b ∧ b < ub) (fun b hb hlt => ⟨hb, st.block b hlt⟩) _ hT3.out)
          replace hr3 := Lib.hid (hr3.out.up st (Nat.le_refl _))
          replace hq := Lib.hid (Below.up hq.out st)
          rw [← hB11]
          rw [← hx6]
          clear st hx6
          replace hB11 := Lib.hid hB11
          replace hsz11 := Lib.hid hsz11
          refine hKc _ _ hq.out (fun _ => ?_)
          clear hKc K
          try simp only [List.setIfInBounds_toArray, List.set_cons_zero, List.set_cons_succ]
          refine wpAnyH_ready (rs := [10]) (by kernel_rfl) (by simp) ?_
          refine AllReadyH.cons rfl (fun K hKc => ?_) AllReadyH.nil
          go_simp
          obtain ⟨B10, hB10⟩ : ∃ n, n = x6.heap.size := ⟨_, rfl⟩
          obtain ⟨x7, hx7⟩ : ∃ X, X = x6.alloc zT := ⟨_, rfl⟩
          have st : Below x6.heap.size x6 x7 := by rw [hx7]; exact bal _ _
          have k10 : Hid (x7.heap[B10]? = some zT) := Lib.hid (by rw [hx7, hB10]; exact heap_new' _ rfl)
          have hsz10 : x7.heap.size = x6.heap.size + 1 := by rw [hx7]; simp
          replace hT3 := Lib.hid (TmP.move (P := fun b => lo ≤ b ∧ b < ub) (Q := fun b => lo ≤ b ∧ b < ub) (fun b hb hlt => ⟨hb, st.block b hlt⟩) _ hT3.out)
          replace hr3 := Lib.hid (hr3.out.up st (Nat.le_refl _))
          replace k11 := Lib.hid ((st.block _ (Array.getElem?_eq_some_iff.1 k11.out).1).trans k11.out)
          replace hq := Lib.hid (Below.up hq.out st)
          rw [← hB10]
          rw [← hx7]
          clear st hx7
          replace hB10 := Lib.hid hB10
          replace hsz10 := Lib.hid hsz10
          refine hKc _ _ hq.out (fun _ => ?_)
          clear hKc K
          try simp only [List.setIfInBounds_toArray, List.set_cons_zero, List.set_cons_succ]
          have hne : Hid (¬ B11 = B10 ∧ (B10 < lo ∨ ub ≤ B10) ∧ (B11 < lo ∨ ub ≤ B11) ∧ wr.heap.size ≤ B10 ∧ wr.heap.size ≤ B11 ∧ wr.heap.size ≤ lo ∧ lo ≤ ub ∧ ub ≤ x7.heap.size) := Lib.hid (by have e1 := hB10.out; have e2 := hB11.out; have e3 := hsz10.out; have e4 := hsz11.out; have e5 := hlo.out; have e6 := hhi.out; have e7 := hsz1.out; have e8 := hzx.out; omega)
          refine wpAnyH_ready (rs := [12]) (by kernel_rfl) (by simp) ?_
          refine AllReadyH.cons rfl (fun K hKc => ?_) AllReadyH.nil
          obtain ⟨⟨q0, q1, q2⟩, q3, q4, q5⟩ := c3_cells k10.out
          go_simp
          clear q0 q1 q2 q3 q4 q5
          obtain ⟨x8, hx8⟩ : ∃ Z, Z = (((x7.setCell ⟨B10, 0, none⟩ (.int .i64 T.op)).setCell ⟨B10, 1, none⟩ (.int .i64 T.n)).setCell ⟨B10, 2, none⟩ (.slice a2 l2 c2)) := ⟨_, rfl⟩
          rw [← hx8]
          have hs := set3 (.int .i64 T.op) (.int .i64 T.n) (.slice a2 l2 c2) k10.out
          have ho := fun k (hk : k ≠ B10) => set3_other (w := x7) (B := B10) (.int .i64 T.op) (.int .i64 T.n) (.slice a2 l2 c2) hk
          have hbs := set3_below (w := x7) (B := B10) (n := wr.heap.size) (.int .i64 T.op) (.int .i64 T.n) (.slice a2 l2 c2) (by have := hne.out; omega)
          rw [← hx8] at hs ho hbs
          replace k11 := Lib.hid ((ho _ (by have := hne.out; omega)).trans k11.out)
          replace hT3 : Hid (TmP (fun b => lo ≤ b ∧ b < ub) x8 T a2 l2 c2) := Lib.hid (TmP.move (P := fun b => lo ≤ b ∧ b < ub) (Q := fun b => lo ≤ b ∧ b < ub) (fun b hb hlt => ⟨hb, ho b (by have := hne.out; omega)⟩) _ hT3.out)
          replace hr3 := Lib.hid (hr3.out.far k10.out (by decide) ho)
          replace hq := Lib.hid (hq.out.trans hbs)
          replace hne := Lib.hid (⟨hne.out.1, hne.out.2.1, hne.out.2.2.1, hne.out.2.2.2.1, hne.out.2.2.2.2.1, hne.out.2.2.2.2.2.1, hne.out.2.2.2.2.2.2.1, Nat.le_trans hne.out.2.2.2.2.2.2.2 (set3_size x7 B10 _ _ _ hx8)⟩ : ¬ B11 = B10 ∧ (B10 < lo ∨ ub ≤ B10) ∧ (B11 < lo ∨ ub ≤ B11) ∧ wr.heap.size ≤ B10 ∧ wr.heap.size ≤ B11 ∧ wr.heap.size ≤ lo ∧ lo ≤ ub ∧ ub ≤ x8.heap.size)
          replace k10 := Lib.hid hs
          clear hs ho hbs hx8
          refine hKc _ _ hq.out (fun _ => ?_)
          clear hKc K
          try simp only [List.setIfInBounds_toArray, List.set_cons_zero, List.set_cons_succ]
          refine wpAnyH_ready (rs := [13]) (by kernel_rfl) (by simp) ?_
          refine AllReadyH.cons rfl (fun K hKc => ?_) AllReadyH.nil
          obtain ⟨⟨q0, q1, q2⟩, q3, q4, q5⟩ := c3_cells k11.out
          go_simp
          clear q0 q1 q2 q3 q4 q5
          obtain ⟨x9, hx9⟩ : ∃ Z, Z = (((x8.setCell ⟨B11, 0, none⟩ ((.slice ab lb cb))).setCell ⟨B11, 1, none⟩ (.slice a5 l5 c5)).setCell ⟨B11, 2, none⟩ (.int .i64 (S.count : Nat))) := ⟨_, rfl⟩
          rw [← hx9]
          have hs := set3 ((.slice ab lb cb)) (.slice a5 l5 c5) (.int .i64 (S.count : Nat)) k11.out
          have ho := fun k (hk : k ≠ B11) => set3_other (w := x8) (B := B11) ((.slice ab lb cb)) (.slice a5 l5 c5) (.int .i64 (S.count : Nat)) hk
          have hbs := set3_below (w := x8) (B := B11) (n := wr.heap.size) ((.slice ab lb cb)) (.slice a5 l5 c5) (.int .i64 (S.count : Nat)) (by have := hne.out; omega)
          rw [← hx9] at hs ho hbs
          replace k10 := Lib.hid ((ho _ (by have := hne.out; omega)).trans k10.out)
          replace hT3 : Hid (TmP (fun b => lo ≤ b ∧ b < ub) x9 T a2 l2 c2) := Lib.hid (TmP.move (P := fun b => lo ≤ b ∧ b < ub) (Q := fun b => lo ≤ b ∧ b < ub) (fun b hb hlt => ⟨hb, ho b (by have := hne.out; omega)⟩) _ hT3.out)
          replace hr3 := Lib.hid (hr3.out.far k11.out (by decide) ho)
          replace hq := Lib.hid (hq.out.trans hbs)
          replace hne := Lib.hid (⟨hne.out.1, hne.out.2.1, hne.out.2.2.1, hne.out.2.2.2.1, hne.out.2.2.2.2.1, hne.out.2.2.2.2.2.1, hne.out.2.2.2.2.2.2.1, Nat.le_trans hne.out.2.2.2.2.2.2.2 (set3_size x8 B11 _ _ _ hx9)⟩ : ¬ B11 = B10 ∧ (B10 < lo ∨ ub ≤ B10) ∧ (B11 < lo ∨ ub ≤ B11) ∧ wr.heap.size ≤ B10 ∧ wr.heap.size ≤ B11 ∧ wr.heap.size ≤ lo ∧ lo ≤ ub ∧ ub ≤ x9.heap.size)
          replace k11 := Lib.hid hs
          clear hs ho hbs hx9
          refine hKc _ _ hq.out (fun _ => ?_)
          clear hKc K
          try simp only [List.setIfInBounds_toArray, List.set_cons_zero, List.set_cons_succ]
          refine wpAnyH_done (by kernel_rfl) ?_ _
          have hK8 := Lib.hid (hK.out.below hq.out)
          obtain ⟨⟨u0, u1, u2⟩, -⟩ := c3_cells hK8.out.r2
          obtain ⟨⟨u3, u4, u5⟩, -⟩ := c3_cells k10.out
          have hzq := hq.out.size
          have hnb : Hid (∀ j, (Value.slice va vl vc).ownBlock = some j → w.heap.size + 5 ≤ j ∧ j < wr.heap.size) := Lib.hid (fun j e => own_base hK.out.r4 e)
          have q8 : ¬ B11 = w.heap.size + 1 + 1 + 1 + 1 := by have := hne.out; omega
          have q9 : ¬ B11 = w.heap.size + 1 := by have := hne.out; omega
          go_wp2_with (first
            | (at_builtin; refine wpList_append_lies _ rfl _ _ 26 rfl (w.heap.size + 5) 28 i0 _ 3 40 und26 hi hz0 hz1 hz2 rfl (by omega) (.slice va vl vc) k (flat KK) rfl (hK8.out.r4.alloc _)
                ⟨x9.heap.size, 0, none⟩ 1 1 [.int .i64 T.op, .int .i64 T.n, .slice a2 l2 c2] rfl rfl (World.news_of_block (cs := #[.int .i64 T.op, .int .i64 T.n, .slice a2 l2 c2]) (t := 28) (fr := (0, 0)) (heap_new' _ rfl)) (by simp [Value.oneCell'])
                (by omega) (by unfold maxLen; omega) (by omega) (by simp; omega) (x9.heap.size + 1) (by simp) ?_; intro gg cap2 w2 hown1 hgrow hat hlt2
               have m1 := grow_made hgrow hK8.out.r4 (by omega) hK8.out.r2; have m2 := m1.1; have m3 := m1.2; clear m1
               have m4 := c3_cells (grow_keep hgrow (fun e => by have := (hnb.out _ e).1; omega) ((hq.out.block (w.heap.size + 1) (by omega)).trans g3.out))
               obtain ⟨⟨v0, v1, v2⟩, v3, v4, v5⟩ := m4
               have m5 := c3_cells (grow_keep hgrow (fun e => by have := (hnb.out _ e).2; have := hne.out; omega) k11.out)
               obtain ⟨⟨v6, v7, v8⟩, -⟩ := m5))
          go_roundw
          case rel =>
            have hBX := Below.trans gB.out (hq.out.mono (by omega))
            refine ⟨k + 1, by omega, by go_num, Lib.hid (RelO.next (lo := lo) hK8.out ((hq.out.block w.heap.size (by omega)).trans g2.out) ((hq.out.block (w.heap.size + 1) (by omega)).trans g3.out) ((hq.out.block (w.heap.size + 1 + 1) (by omega)).trans g4.out) ((hq.out.block (w.heap.size + 1 + 1 + 1) (by omega)).trans g5.out) hBX hr3.out (by rw [← hS.out]; exact hl3.out) (by rw [← hS.out]; exact hn3) (by rw [hS.out]) hT.out (by have := hne.out; omega) (fun j e => by have := (hnb.out j e).2; have := hne.out; omega) (TmP.move (P := fun b => lo ≤ b ∧ b < ub) (fun b hb hlt => ⟨⟨hb.1, by have := hne.out; omega⟩, rfl⟩) _ hT3.out) hgrow hown1 hat)⟩
          case measure => simp [intOf]; omega
      · skip
        go_simp
        obtain ⟨B10, hB10⟩ : ∃ n, n = x.heap.size := ⟨_, rfl⟩
        obtain ⟨x10, hx10⟩ : ∃ X, X = x.alloc zT := ⟨_, rfl⟩
        have st : Below x.heap.size x x10 := by rw [hx10]; exact bal _ _
        have k10 : Hid (x10.heap[B10]? = some zT) := Lib.hid (by rw [hx10, hB10]; exact heap_new' _ rfl)
        have hsz10 : x10.heap.size = x.heap.size + 1 := by rw [hx10]; simp
        replace hq := Lib.hid (Below.up hq.out st)
        rw [← hB10]
        rw [← hx10]
        clear st hx10
        replace hB10 := Lib.hid hB10
        replace hsz10 := Lib.hid hsz10
        refine hKc _ _ hq.out (fun _ => ?_)
        clear hKc K
        try simp only [List.setIfInBounds_toArray, List.set_cons_zero, List.set_cons_succ]
        refine wpAnyH_ready (rs := [6, 11]) (by kernel_rfl) (by simp) ?_
        refine AllReadyH.cons rfl (fun K hKc => ?_) (AllReadyH.cons rfl (fun K hKc => ?_) AllReadyH.nil)
        · skip
          rw [if_pos (by rfl)]
          refine wp_call2 (f := 72) (d := 104) rfl rfl (enters_of Tryz.func72 (by kernel_rfl) rfl _ _) rfl rfl ((hcall.out x10 (.slice ab lb cb) bound (gB.out.trans (hq.out.mono (by have := gB.out.size; omega))) (hq.out.mono (by omega)) (hb.out.up (gB.out.trans (hq.out.mono (by have := gB.out.size; omega))) (Nat.le_refl _)) (grow.out.up hq.out (Nat.le_refl _)) (by omega) hfbk.symm).mono ?_)
          rintro e x11 ⟨a2, l2, c2, vf3, free3, rfl, hF3, hr3, hl3, hn3, hb1⟩
          obtain ⟨a5, l5, c5, rfl⟩ := hr3.slice
          refine ⟨_, rfl, ?_⟩
          obtain ⟨lo, hlo⟩ : ∃ n, n = x10.heap.size := ⟨_, rfl⟩
          obtain ⟨ub, hhi⟩ : ∃ n, n = x11.heap.size := ⟨_, rfl⟩
          have hsz1 := hb1.size
          replace k10 := Lib.hid ((hb1.block _ (Array.getElem?_eq_some_iff.1 k10.out).1).trans k10.out)
          replace hq := Lib.hid (Below.up hq.out hb1)
          have hT3 : Hid (TmP (fun b => lo ≤ b ∧ b < ub) x11 T a2 l2 c2) := Lib.hid (by rw [hlo, hhi]; exact hF3)
          replace hr3 := Lib.hid hr3
          replace hl3 := Lib.hid hl3
          replace hlo := Lib.hid hlo
          replace hhi := Lib.hid hhi
          replace hsz1 := Lib.hid hsz1
          clear hF3 hb1
          refine hKc _ _ hq.out (fun _ => ?_)
          clear hKc K
          try simp only [List.setIfInBounds_toArray, List.set_cons_zero, List.set_cons_succ]
          refine takeH 7 97 (.tuple #[.agg #[.int .i64 T.op, .int .i64 T.n, .slice a2 l2 c2], .agg #[(.slice ab lb cb), (.slice a5 l5 c5), .int .i64 (S.count : Nat)]]) rfl rfl (by kernel_rfl) (by kernel_rfl) (by kernel_rfl) (fun _ _ _ h => h) (by rfl) (by intro W hSw; clear hSw; go_simp) hq.out ?_
          try simp only [List.setIfInBounds_toArray, List.set_cons_zero, List.set_cons_succ]
          refine takeH 8 105 (.agg #[.int .i64 T.op, .int .i64 T.n, .slice a2 l2 c2]) rfl rfl (by kernel_rfl) (by kernel_rfl) (by kernel_rfl) (fun _ _ _ h => h) (by rfl) (by intro W hSw; clear hSw; go_simp) hq.out ?_
          try simp only [List.setIfInBounds_toArray, List.set_cons_zero, List.set_cons_succ]
          refine takeH 9 106 (.agg #[(.slice ab lb cb), (.slice a5 l5 c5), .int .i64 (S.count : Nat)]) rfl rfl (by kernel_rfl) (by kernel_rfl) (by kernel_rfl) (fun _ _ _ h => h) (by rfl) (by intro W hSw; clear hSw; go_simp) hq.out ?_
          try simp only [List.setIfInBounds_toArray, List.set_cons_zero, List.set_cons_succ]
          refine wpAnyH_ready (rs := [11]) (by kernel_rfl) (by simp) ?_
          refine AllReadyH.cons rfl (fun K hKc => ?_) AllReadyH.nil
          go_simp
          obtain ⟨B11, hB11⟩ : ∃ n, n = x11.heap.size := ⟨_, rfl⟩
          obtain ⟨x12, hx12⟩ : ∃ X, X = x11.alloc zS := ⟨_, rfl⟩
          have st : Below x11.heap.size x11 x12 := by rw [hx12]; exact bal _ _
          have k11 : Hid (x12.heap[B11]? = some zS) := Lib.hid (by rw [hx12, hB11]; exact heap_new' _ rfl)
          have hsz11 : x12.heap.size = x11.heap.size + 1 := by rw [hx12]; simp
          replace k10 := Lib.hid ((st.block _ (Array.getElem?_eq_some_iff.1 k10.out).1).trans k10.out)
          replace hT3 := Lib.hid (TmP.move (P := fun b => lo ≤ b ∧ b < ub) (Q := fun b => lo ≤ b ∧ b < ub) (fun b hb hlt => ⟨hb, st.block b hlt⟩) _ hT3.out)
          replace hr3 := Lib.hid (hr3.out.up st (Nat.le_refl _))
          replace hq := Lib.hid (Below.up hq.out st)
          rw [← hB11]
          rw [← hx12]
          clear st hx12
          replace hB11 := Lib.hid hB11
          replace hsz11 := Lib.hid hsz11
          refine hKc _ _ hq.out (fun _ => ?_)
          clear hKc K
          try simp only [List.setIfInBounds_toArray, List.set_cons_zero, List.set_cons_succ]
          have hne : Hid (¬ B11 = B10 ∧ (B10 < lo ∨ ub ≤ B10) ∧ (B11 < lo ∨ ub ≤ B11) ∧ wr.heap.size ≤ B10 ∧ wr.heap.size ≤ B11 ∧ wr.heap.size ≤ lo ∧ lo ≤ ub ∧ ub ≤ x12.heap.size) := Lib.hid (by have e1 := hB10.out; have e2 := hB11.out; have e3 := hsz10.out; have e4 := hsz11.out; have e5 := hlo.out; have e6 := hhi.out; have e7 := hsz1.out; have e8 := hzx.out; omega)
          refine wpAnyH_ready (rs := [12]) (by kernel_rfl) (by simp) ?_
          refine AllReadyH.cons rfl (fun K hKc => ?_) AllReadyH.nil
          obtain ⟨⟨q0, q1, q2⟩, q3, q4, q5⟩ := c3_cells k10.out
          go_simp
          clear q0 q1 q2 q3 q4 q5
          obtain ⟨x13, hx13⟩ : ∃ Z, Z = (((x12.setCell ⟨B10, 0, none⟩ (.int .i64 T.op)).setCell ⟨B10, 1, none⟩ (.int .i64 T.n)).setCell ⟨B10, 2, none⟩ (.slice a2 l2 c2)) := ⟨_, rfl⟩
          rw [← hx13]
          have hs := set3 (.int .i64 T.op) (.int .i64 T.n) (.slice a2 l2 c2) k10.out
          have ho := fun k (hk : k ≠ B10) => set3_other (w := x12) (B := B10) (.int .i64 T.op) (.int .i64 T.n) (.slice a2 l2 c2) hk
          have hbs := set3_below (w := x12) (B := B10) (n := wr.heap.size) (.int .i64 T.op) (.int .i64 T.n) (.slice a2 l2 c2) (by have := hne.out; omega)
          rw [← hx13] at hs ho hbs
          replace k11 := Lib.hid ((ho _ (by have := hne.out; omega)).trans k11.out)
          replace hT3 : Hid (TmP (fun b => lo ≤ b ∧ b < ub) x13 T a2 l2 c2) := Lib.hid (TmP.move (P := fun b => lo ≤ b ∧ b < ub) (Q := fun b => lo ≤ b ∧ b < ub) (fun b hb hlt => ⟨hb, ho b (by have := hne.out; omega)⟩) _ hT3.out)
          replace hr3 := Lib.hid (hr3.out.far k10.out (by decide) ho)
          replace hq := Lib.hid (hq.out.trans hbs)
          replace hne := Lib.hid (⟨hne.out.1, hne.out.2.1, hne.out.2.2.1, hne.out.2.2.2.1, hne.out.2.2.2.2.1, hne.out.2.2.2.2.2.1, hne.out.2.2.2.2.2.2.1, Nat.le_trans hne.out.2.2.2.2.2.2.2 (set3_size x12 B10 _ _ _ hx13)⟩ : ¬ B11 = B10 ∧ (B10 < lo ∨ ub ≤ B10) ∧ (B11 < lo ∨ ub ≤ B11) ∧ wr.heap.size ≤ B10 ∧ wr.heap.size ≤ B11 ∧ wr.heap.size ≤ lo ∧ lo ≤ ub ∧ ub ≤ x13.heap.size)
          replace k10 := Lib.hid hs
          clear hs ho hbs hx13
          refine hKc _ _ hq.out (fun _ => ?_)
          clear hKc K
          try simp only [List.setIfInBounds_toArray, List.set_cons_zero, List.set_cons_succ]
          refine wpAnyH_ready (rs := [13]) (by kernel_rfl) (by simp) ?_
          refine AllReadyH.cons rfl (fun K hKc => ?_) AllReadyH.nil
          obtain ⟨⟨q0, q1, q2⟩, q3, q4, q5⟩ := c3_cells k11.out
          go_simp
          clear q0 q1 q2 q3 q4 q5
          obtain ⟨x14, hx14⟩ : ∃ Z, Z = (((x13.setCell ⟨B11, 0, none⟩ ((.slice ab lb cb))).setCell ⟨B11, 1, none⟩ (.slice a5 l5 c5)).setCell ⟨B11, 2, none⟩ (.int .i64 (S.count : Nat))) := ⟨_, rfl⟩
          rw [← hx14]
          have hs := set3 ((.slice ab lb cb)) (.slice a5 l5 c5) (.int .i64 (S.count : Nat)) k11.out
          have ho := fun k (hk : k ≠ B11) => set3_other (w := x13) (B := B11) ((.slice ab lb cb)) (.slice a5 l5 c5) (.int .i64 (S.count : Nat)) hk
          have hbs := set3_below (w := x13) (B := B11) (n := wr.heap.size) ((.slice ab lb cb)) (.slice a5 l5 c5) (.int .i64 (S.count : Nat)) (by have := hne.out; omega)
          rw [← hx14] at hs ho hbs
          replace k10 := Lib.hid ((ho _ (by have := hne.out; omega)).trans k10.out)
          replace hT3 : Hid (TmP (fun b => lo ≤ b ∧ b < ub) x14 T a2 l2 c2) := Lib.hid (TmP.move (P := fun b => lo ≤ b ∧ b < ub) (Q := fun b => lo ≤ b ∧ b < ub) (fun b hb hlt => ⟨hb, ho b (by have := hne.out; omega)⟩) _ hT3.out)
          replace hr3 := Lib.hid (hr3.out.far k11.out (by decide) ho)
          replace hq := Lib.hid (hq.out.trans hbs)
          replace hne := Lib.hid (⟨hne.out.1, hne.out.2.1, hne.out.2.2.1, hne.out.2.2.2.1, hne.out.2.2.2.2.1, hne.out.2.2.2.2.2.1, hne.out.2.2.2.2.2.2.1, Nat.le_trans hne.out.2.2.2.2.2.2.2 (set3_size x13 B11 _ _ _ hx14)⟩ : ¬ B11 = B10 ∧ (B10 < lo ∨ ub ≤ B10) ∧ (B11 < lo ∨ ub ≤ B11) ∧ wr.heap.size ≤ B10 ∧ wr.heap.size ≤ B11 ∧ wr.heap.size ≤ lo ∧ lo ≤ ub ∧ ub ≤ x14.heap.size)
          replace k11 := Lib.hid hs
          clear hs ho hbs hx14
          refine hKc _ _ hq.out (fun _ => ?_)
          clear hKc K
          try simp only [List.setIfInBounds_toArray, List.set_cons_zero, List.set_cons_succ]
          refine wpAnyH_done (by kernel_rfl) ?_ _
          have hK8 := Lib.hid (hK.out.below hq.out)
          obtain ⟨⟨u0, u1, u2⟩, -⟩ := c3_cells hK8.out.r2
          obtain ⟨⟨u3, u4, u5⟩, -⟩ := c3_cells k10.out
          have hzq := hq.out.size
          have hnb : Hid (∀ j, (Value.slice va vl vc).ownBlock = some j → w.heap.size + 5 ≤ j ∧ j < wr.heap.size) := Lib.hid (fun j e => own_base hK.out.r4 e)
          have q8 : ¬ B11 = w.heap.size + 1 + 1 + 1 + 1 := by have := hne.out; omega
          have q9 : ¬ B11 = w.heap.size + 1 := by have := hne.out; omega
          go_wp2_with (first
            | (at_builtin; refine wpList_append_lies _ rfl _ _ 26 rfl (w.heap.size + 5) 28 i0 _ 3 40 und26 hi hz0 hz1 hz2 rfl (by omega) (.slice va vl vc) k (flat KK) rfl (hK8.out.r4.alloc _)
                ⟨x14.heap.size, 0, none⟩ 1 1 [.int .i64 T.op, .int .i64 T.n, .slice a2 l2 c2] rfl rfl (World.news_of_block (cs := #[.int .i64 T.op, .int .i64 T.n, .slice a2 l2 c2]) (t := 28) (fr := (0, 0)) (heap_new' _ rfl)) (by simp [Value.oneCell'])
                (by omega) (by unfold maxLen; omega) (by omega) (by simp; omega) (x14.heap.size + 1) (by simp) ?_; intro gg cap2 w2 hown1 hgrow hat hlt2
               have m1 := grow_made hgrow hK8.out.r4 (by omega) hK8.out.r2; have m2 := m1.1; have m3 := m1.2; clear m1
               have m4 := c3_cells (grow_keep hgrow (fun e => by have := (hnb.out _ e).1; omega) ((hq.out.block (w.heap.size + 1) (by omega)).trans g3.out))
               obtain ⟨⟨v0, v1, v2⟩, v3, v4, v5⟩ := m4
               have m5 := c3_cells (grow_keep hgrow (fun e => by have := (hnb.out _ e).2; have := hne.out; omega) k11.out)
               obtain ⟨⟨v6, v7, v8⟩, -⟩ := m5))
          go_roundw
          case rel =>
            have hBX := Below.trans gB.out (hq.out.mono (by omega))
            refine ⟨k + 1, by omega, by go_num, Lib.hid (RelO.next (lo := lo) hK8.out ((hq.out.block w.heap.size (by omega)).trans g2.out) ((hq.out.block (w.heap.size + 1) (by omega)).trans g3.out) ((hq.out.block (w.heap.size + 1 + 1) (by omega)).trans g4.out) ((hq.out.block (w.heap.size + 1 + 1 + 1) (by omega)).trans g5.out) hBX hr3.out (by rw [← hS.out]; exact hl3.out) (by rw [← hS.out]; exact hn3) (by rw [hS.out]) hT.out (by have := hne.out; omega) (fun j e => by have := (hnb.out j e).2; have := hne.out; omega) (TmP.move (P := fun b => lo ≤ b ∧ b < ub) (fun b hb hlt => ⟨⟨hb.1, by have := hne.out; omega⟩, rfl⟩) _ hT3.out) hgrow hown1 hat)⟩
          case measure => simp [intOf]; omega
        · skip
          go_simp
          obtain ⟨B11, hB11⟩ : ∃ n, n = x10.heap.size := ⟨_, rfl⟩
          obtain ⟨x15, hx15⟩ : ∃ X, X = x10.alloc zS := ⟨_, rfl⟩
          have st : Below x10.heap.size x10 x15 := by rw [hx15]; exact bal _ _
          have k11 : Hid (x15.heap[B11]? = some zS) := Lib.hid (by rw [hx15, hB11]; exact heap_new' _ rfl)
          have hsz11 : x15.heap.size = x10.heap.size + 1 := by rw [hx15]; simp
          replace k10 := Lib.hid ((st.block _ (Array.getElem?_eq_some_iff.1 k10.out).1).trans k10.out)
          replace hq := Lib.hid (Below.up hq.out st)
          rw [← hB11]
          rw [← hx15]
          clear st hx15
          replace hB11 := Lib.hid hB11
          replace hsz11 := Lib.hid hsz11
          refine hKc _ _ hq.out (fun _ => ?_)
          clear hKc K
          try simp only [List.setIfInBounds_toArray, List.set_cons_zero, List.set_cons_succ]
          refine wpAnyH_ready (rs := [6]) (by kernel_rfl) (by simp) ?_
          refine AllReadyH.cons rfl (fun K hKc => ?_) AllReadyH.nil
          rw [if_pos (by rfl)]
          refine wp_call2 (f := 72) (d := 104) rfl rfl (enters_of Tryz.func72 (by kernel_rfl) rfl _ _) rfl rfl ((hcall.out x15 (.slice ab lb cb) bound (gB.out.trans (hq.out.mono (by have := gB.out.size; omega))) (hq.out.mono (by omega)) (hb.out.up (gB.out.trans (hq.out.mono (by have := gB.out.size; omega))) (Nat.le_refl _)) (grow.out.up hq.out (Nat.le_refl _)) (by omega) hfbk.symm).mono ?_)
          rintro e x16 ⟨a2, l2, c2, vf3, free3, rfl, hF3, hr3, hl3, hn3, hb1⟩
          obtain ⟨a5, l5, c5, rfl⟩ := hr3.slice
          refine ⟨_, rfl, ?_⟩
          obtain ⟨lo, hlo⟩ : ∃ n, n = x15.heap.size := ⟨_, rfl⟩
          obtain ⟨ub, hhi⟩ : ∃ n, n = x16.heap.size := ⟨_, rfl⟩
          have hsz1 := hb1.size
          replace k10 := Lib.hid ((hb1.block _ (Array.getElem?_eq_some_iff.1 k10.out).1).trans k10.out)
          replace k11 := Lib.hid ((hb1.block _ (Array.getElem?_eq_some_iff.1 k11.out).1).trans k11.out)
          replace hq := Lib.hid (Below.up hq.out hb1)
          have hT3 : Hid (TmP (fun b => lo ≤ b ∧ b < ub) x16 T a2 l2 c2) := Lib.hid (by rw [hlo, hhi]; exact hF3)
          replace hr3 := Lib.hid hr3
          replace hl3 := Lib.hid hl3
          replace hlo := Lib.hid hlo
          replace hhi := Lib.hid hhi
          replace hsz1 := Lib.hid hsz1
          clear hF3 hb1
          refine hKc _ _ hq.out (fun _ => ?_)
          clear hKc K
          try simp only [List.setIfInBounds_toArray, List.set_cons_zero, List.set_cons_succ]
          refine takeH 7 97 (.tuple #[.agg #[.int .i64 T.op, .int .i64 T.n, .slice a2 l2 c2], .agg #[(.slice ab lb cb), (.slice a5 l5 c5), .int .i64 (S.count : Nat)]]) rfl rfl (by kernel_rfl) (by kernel_rfl) (by kernel_rfl) (fun _ _ _ h => h) (by rfl) (by intro W hSw; clear hSw; go_simp) hq.out ?_
          try simp only [List.setIfInBounds_toArray, List.set_cons_zero, List.set_cons_succ]
          refine takeH 8 105 (.agg #[.int .i64 T.op, .int .i64 T.n, .slice a2 l2 c2]) rfl rfl (by kernel_rfl) (by kernel_rfl) (by kernel_rfl) (fun _ _ _ h => h) (by rfl) (by intro W hSw; clear hSw; go_simp) hq.out ?_
          try simp only [List.setIfInBounds_toArray, List.set_cons_zero, List.set_cons_succ]
          refine takeH 9 106 (.agg #[(.slice ab lb cb), (.slice a5 l5 c5), .int .i64 (S.count : Nat)]) rfl rfl (by kernel_rfl) (by kernel_rfl) (by kernel_rfl) (fun _ _ _ h => h) (by rfl) (by intro W hSw; clear hSw; go_simp) hq.out ?_
          try simp only [List.setIfInBounds_toArray, List.set_cons_zero, List.set_cons_succ]
          have hne : Hid (¬ B11 = B10 ∧ (B10 < lo ∨ ub ≤ B10) ∧ (B11 < lo ∨ ub ≤ B11) ∧ wr.heap.size ≤ B10 ∧ wr.heap.size ≤ B11 ∧ wr.heap.size ≤ lo ∧ lo ≤ ub ∧ ub ≤ x16.heap.size) := Lib.hid (by have e1 := hB10.out; have e2 := hB11.out; have e3 := hsz10.out; have e4 := hsz11.out; have e5 := hlo.out; have e6 := hhi.out; have e7 := hsz1.out; have e8 := hzx.out; omega)
          refine wpAnyH_ready (rs := [12]) (by kernel_rfl) (by simp) ?_
          refine AllReadyH.cons rfl (fun K hKc => ?_) AllReadyH.nil
          obtain ⟨⟨q0, q1, q2⟩, q3, q4, q5⟩ := c3_cells k10.out
          go_simp
          clear q0 q1 q2 q3 q4 q5
          obtain ⟨x17, hx17⟩ : ∃ Z, Z = (((x16.setCell ⟨B10, 0, none⟩ (.int .i64 T.op)).setCell ⟨B10, 1, none⟩ (.int .i64 T.n)).setCell ⟨B10, 2, none⟩ (.slice a2 l2 c2)) := ⟨_, rfl⟩
          rw [← hx17]
          have hs := set3 (.int .i64 T.op) (.int .i64 T.n) (.slice a2 l2 c2) k10.out
          have ho := fun k (hk : k ≠ B10) => set3_other (w := x16) (B := B10) (.int .i64 T.op) (.int .i64 T.n) (.slice a2 l2 c2) hk
          have hbs := set3_below (w := x16) (B := B10) (n := wr.heap.size) (.int .i64 T.op) (.int .i64 T.n) (.slice a2 l2 c2) (by have := hne.out; omega)
          rw [← hx17] at hs ho hbs
          replace k11 := Lib.hid ((ho _ (by have := hne.out; omega)).trans k11.out)
          replace hT3 : Hid (TmP (fun b => lo ≤ b ∧ b < ub) x17 T a2 l2 c2) := Lib.hid (TmP.move (P := fun b => lo ≤ b ∧ b < ub) (Q := fun b => lo ≤ b ∧ b < ub) (fun b hb hlt => ⟨hb, ho b (by have := hne.out; omega)⟩) _ hT3.out)
          replace hr3 := Lib.hid (hr3.out.far k10.out (by decide) ho)
          replace hq := Lib.hid (hq.out.trans hbs)
          replace hne := Lib.hid (⟨hne.out.1, hne.out.2.1, hne.out.2.2.1, hne.out.2.2.2.1, hne.out.2.2.2.2.1, hne.out.2.2.2.2.2.1, hne.out.2.2.2.2.2.2.1, Nat.le_trans hne.out.2.2.2.2.2.2.2 (set3_size x16 B10 _ _ _ hx17)⟩ : ¬ B11 = B10 ∧ (B10 < lo ∨ ub ≤ B10) ∧ (B11 < lo ∨ ub ≤ B11) ∧ wr.heap.size ≤ B10 ∧ wr.heap.size ≤ B11 ∧ wr.heap.size ≤ lo ∧ lo ≤ ub ∧ ub ≤ x17.heap.size)
          replace k10 := Lib.hid hs
          clear hs ho hbs hx17
          refine hKc _ _ hq.out (fun _ => ?_)
          clear hKc K
          try simp only [List.setIfInBounds_toArray, List.set_cons_zero, List.set_cons_succ]
          refine wpAnyH_ready (rs := [13]) (by kernel_rfl) (by simp) ?_
          refine AllReadyH.cons rfl (fun K hKc => ?_) AllReadyH.nil
          obtain ⟨⟨q0, q1, q2⟩, q3, q4, q5⟩ := c3_cells k11.out
          go_simp
          clear q0 q1 q2 q3 q4 q5
          obtain ⟨x18, hx18⟩ : ∃ Z, Z = (((x17.setCell ⟨B11, 0, none⟩ ((.slice ab lb cb))).setCell ⟨B11, 1, none⟩ (.slice a5 l5 c5)).setCell ⟨B11, 2, none⟩ (.int .i64 (S.count : Nat))) := ⟨_, rfl⟩
          rw [← hx18]
          have hs := set3 ((.slice ab lb cb)) (.slice a5 l5 c5) (.int .i64 (S.count : Nat)) k11.out
          have ho := fun k (hk : k ≠ B11) => set3_other (w := x17) (B := B11) ((.slice ab lb cb)) (.slice a5 l5 c5) (.int .i64 (S.count : Nat)) hk
          have hbs := set3_below (w := x17) (B := B11) (n := wr.heap.size) ((.slice ab lb cb)) (.slice a5 l5 c5) (.int .i64 (S.count : Nat)) (by have := hne.out; omega)
          rw [← hx18] at hs ho hbs
          replace k10 := Lib.hid ((ho _ (by have := hne.out; omega)).trans k10.out)
          replace hT3 : Hid (TmP (fun b => lo ≤ b ∧ b < ub) x18 T a2 l2 c2) := Lib.hid (TmP.move (P := fun b => lo ≤ b ∧ b < ub) (Q := fun b => lo ≤ b ∧ b < ub) (fun b hb hlt => ⟨hb, ho b (by have := hne.out; omega)⟩) _ hT3.out)
          replace hr3 := Lib.hid (hr3.out.far k11.out (by decide) ho)
          replace hq := Lib.hid (hq.out.trans hbs)
          replace hne := Lib.hid (⟨hne.out.1, hne.out.2.1, hne.out.2.2.1, hne.out.2.2.2.1, hne.out.2.2.2.2.1, hne.out.2.2.2.2.2.1, hne.out.2.2.2.2.2.2.1, Nat.le_trans hne.out.2.2.2.2.2.2.2 (set3_size x17 B11 _ _ _ hx18)⟩ : ¬ B11 = B10 ∧ (B10 < lo ∨ ub ≤ B10) ∧ (B11 < lo ∨ ub ≤ B11) ∧ wr.heap.size ≤ B10 ∧ wr.heap.size ≤ B11 ∧ wr.heap.size ≤ lo ∧ lo ≤ ub ∧ ub ≤ x18.heap.size)
          replace k11 := Lib.hid hs
          clear hs ho hbs hx18
          refine hKc _ _ hq.out (fun _ => ?_)
          clear hKc K
          try simp only [List.setIfInBounds_toArray, List.set_cons_zero, List.set_cons_succ]
          refine wpAnyH_done (by kernel_rfl) ?_ _
          have hK8 := Lib.hid (hK.out.below hq.out)
          obtain ⟨⟨u0, u1, u2⟩, -⟩ := c3_cells hK8.out.r2
          obtain ⟨⟨u3, u4, u5⟩, -⟩ := c3_cells k10.out
          have hzq := hq.out.size
          have hnb : Hid (∀ j, (Value.slice va vl vc).ownBlock = some j → w.heap.size + 5 ≤ j ∧ j < wr.heap.size) := Lib.hid (fun j e => own_base hK.out.r4 e)
          have q8 : ¬ B11 = w.heap.size + 1 + 1 + 1 + 1 := by have := hne.out; omega
          have q9 : ¬ B11 = w.heap.size + 1 := by have := hne.out; omega
          go_wp2_with (first
            | (at_builtin; refine wpList_append_lies _ rfl _ _ 26 rfl (w.heap.size + 5) 28 i0 _ 3 40 und26 hi hz0 hz1 hz2 rfl (by omega) (.slice va vl vc) k (flat KK) rfl (hK8.out.r4.alloc _)
                ⟨x18.heap.size, 0, none⟩ 1 1 [.int .i64 T.op, .int .i64 T.n, .slice a2 l2 c2] rfl rfl (World.news_of_block (cs := #[.int .i64 T.op, .int .i64 T.n, .slice a2 l2 c2]) (t := 28) (fr := (0, 0)) (heap_new' _ rfl)) (by simp [Value.oneCell'])
                (by omega) (by unfold maxLen; omega) (by omega) (by simp; omega) (x18.heap.size + 1) (by simp) ?_; intro gg cap2 w2 hown1 hgrow hat hlt2
               have m1 := grow_made hgrow hK8.out.r4 (by omega) hK8.out.r2; have m2 := m1.1; have m3 := m1.2; clear m1
               have m4 := c3_cells (grow_keep hgrow (fun e => by have := (hnb.out _ e).1; omega) ((hq.out.block (w.heap.size + 1) (by omega)).trans g3.out))
               obtain ⟨⟨v0, v1, v2⟩, v3, v4, v5⟩ := m4
               have m5 := c3_cells (grow_keep hgrow (fun e => by have := (hnb.out _ e).2; have := hne.out; omega) k11.out)
               obtain ⟨⟨v6, v7, v8⟩, -⟩ := m5))
          go_roundw
          case rel =>
            have hBX := Below.trans gB.out (hq.out.mono (by omega))
            refine ⟨k + 1, by omega, by go_num, Lib.hid (RelO.next (lo := lo) hK8.out ((hq.out.block w.heap.size (by omega)).trans g2.out) ((hq.out.block (w.heap.size + 1) (by omega)).trans g3.out) ((hq.out.block (w.heap.size + 1 + 1) (by omega)).trans g4.out) ((hq.out.block (w.heap.size + 1 + 1 + 1) (by omega)).trans g5.out) hBX hr3.out (by rw [← hS.out]; exact hl3.out) (by rw [← hS.out]; exact hn3) (by rw [hS.out]) hT.out (by have := hne.out; omega) (fun j e => by have := (hnb.out j e).2; have := hne.out; omega) (TmP.move (P := fun b => lo ≤ b ∧ b < ub) (fun b hb hlt => ⟨⟨hb.1, by have := hne.out; omega⟩, rfl⟩) _ hT3.out) hgrow hown1 hat)⟩
          case measure => simp [intOf]; omega
      · skip
        go_simp
        obtain ⟨B11, hB11⟩ : ∃ n, n = x.heap.size := ⟨_, rfl⟩
        obtain ⟨x19, hx19⟩ : ∃ X, X = x.alloc zS := ⟨_, rfl⟩
        have st : Below x.heap.size x x19 := by rw [hx19]; exact bal _ _
        have k11 : Hid (x19.heap[B11]? = some zS) := Lib.hid (by rw [hx19, hB11]; exact heap_new' _ rfl)
        have hsz11 : x19.heap.size = x.heap.size + 1 := by rw [hx19]; simp
        replace hq := Lib.hid (Below.up hq.out st)
        rw [← hB11]
        rw [← hx19]
        clear st hx19
        replace hB11 := Lib.hid hB11
        replace hsz11 := Lib.hid hsz11
        refine hKc _ _ hq.out (fun _ => ?_)
        clear hKc K
        try simp only [List.setIfInBounds_toArray, List.set_cons_zero, List.set_cons_succ]
        refine wpAnyH_ready (rs := [6, 10]) (by kernel_rfl) (by simp) ?_
        refine AllReadyH.cons rfl (fun K hKc => ?_) (AllReadyH.cons rfl (fun K hKc => ?_) AllReadyH.nil)
        · skip
          rw [if_pos (by rfl)]
          refine wp_call2 (f := 72) (d := 104) rfl rfl (enters_of Tryz.func72 (by kernel_rfl) rfl _ _) rfl rfl ((hcall.out x19 (.slice ab lb cb) bound (gB.out.trans (hq.out.mono (by have := gB.out.size; omega))) (hq.out.mono (by omega)) (hb.out.up (gB.out.trans (hq.out.mono (by have := gB.out.size; omega))) (Nat.le_refl _)) (grow.out.up hq.out (Nat.le_refl _)) (by omega) hfbk.symm).mono ?_)
          rintro e x20 ⟨a2, l2, c2, vf3, free3, rfl, hF3, hr3, hl3, hn3, hb1⟩
          obtain ⟨a5, l5, c5, rfl⟩ := hr3.slice
          refine ⟨_, rfl, ?_⟩
          obtain ⟨lo, hlo⟩ : ∃ n, n = x19.heap.size := ⟨_, rfl⟩
          obtain ⟨ub, hhi⟩ : ∃ n, n = x20.heap.size := ⟨_, rfl⟩
          have hsz1 := hb1.size
          replace k11 := Lib.hid ((hb1.block _ (Array.getElem?_eq_some_iff.1 k11.out).1).trans k11.out)
          replace hq := Lib.hid (Below.up hq.out hb1)
          have hT3 : Hid (TmP (fun b => lo ≤ b ∧ b < ub) x20 T a2 l2 c2) := Lib.hid (by rw [hlo, hhi]; exact hF3)
          replace hr3 := Lib.hid hr3
          replace hl3 := Lib.hid hl3
          replace hlo := Lib.hid hlo
          replace hhi := Lib.hid hhi
          replace hsz1 := Lib.hid hsz1
          clear hF3 hb1
          refine hKc _ _ hq.out (fun _ => ?_)
          clear hKc K
          try simp only [List.setIfInBounds_toArray, List.set_cons_zero, List.set_cons_succ]
          refine takeH 7 97 (.tuple #[.agg #[.int .i64 T.op, .int .i64 T.n, .slice a2 l2 c2], .agg #[(.slice ab lb cb), (.slice a5 l5 c5), .int .i64 (S.count : Nat)]]) rfl rfl (by kernel_rfl) (by kernel_rfl) (by kernel_rfl) (fun _ _ _ h => h) (by rfl) (by intro W hSw; clear hSw; go_simp) hq.out ?_
          try simp only [List.setIfInBounds_toArray, List.set_cons_zero, List.set_cons_succ]
          refine takeH 8 105 (.agg #[.int .i64 T.op, .int .i64 T.n, .slice a2 l2 c2]) rfl rfl (by kernel_rfl) (by kernel_rfl) (by kernel_rfl) (fun _ _ _ h => h) (by rfl) (by intro W hSw; clear hSw; go_simp) hq.out ?_
          try simp only [List.setIfInBounds_toArray, List.set_cons_zero, List.set_cons_succ]
          refine takeH 9 106 (.agg #[(.slice ab lb cb), (.slice a5 l5 c5), .int .i64 (S.count : Nat)]) rfl rfl (by kernel_rfl) (by kernel_rfl) (by kernel_rfl) (fun _ _ _ h => h) (by rfl) (by intro W hSw; clear hSw; go_simp) hq.out ?_
          try simp only [List.setIfInBounds_toArray, List.set_cons_zero, List.set_cons_succ]
          refine wpAnyH_ready (rs := [10]) (by kernel_rfl) (by simp) ?_
          refine AllReadyH.cons rfl (fun K hKc => ?_) AllReadyH.nil
          go_simp
          obtain ⟨B10, hB10⟩ : ∃ n, n = x20.heap.size := ⟨_, rfl⟩
          obtain ⟨x21, hx21⟩ : ∃ X, X = x20.alloc zT := ⟨_, rfl⟩
          have st : Below x20.heap.size x20 x21 := by rw [hx21]; exact bal _ _
          have k10 : Hid (x21.heap[B10]? = some zT) := Lib.hid (by rw [hx21, hB10]; exact heap_new' _ rfl)
          have hsz10 : x21.heap.size = x20.heap.size + 1 := by rw [hx21]; simp
          replace k11 := Lib.hid ((st.block _ (Array.getElem?_eq_some_iff.1 k11.out).1).trans k11.out)
          replace hT3 := Lib.hid (TmP.move (P := fun b => lo ≤ b ∧ b < ub) (Q := fun b => lo ≤ b ∧ b < ub) (fun b hb hlt => ⟨hb, st.block b hlt⟩) _ hT3.out)
          replace hr3 := Lib.hid (hr3.out.up st (Nat.le_refl _))
          replace hq := Lib.hid (Below.up hq.out st)
          rw [← hB10]
          rw [← hx21]
          clear st hx21
          replace hB10 := Lib.hid hB10
          replace hsz10 := Lib.hid hsz10
          refine hKc _ _ hq.out (fun _ => ?_)
          clear hKc K
          try simp only [List.setIfInBounds_toArray, List.set_cons_zero, List.set_cons_succ]
          have hne : Hid (¬ B11 = B10 ∧ (B10 < lo ∨ ub ≤ B10) ∧ (B11 < lo ∨ ub ≤ B11) ∧ wr.heap.size ≤ B10 ∧ wr.heap.size ≤ B11 ∧ wr.heap.size ≤ lo ∧ lo ≤ ub ∧ ub ≤ x21.heap.size) := Lib.hid (by have e1 := hB10.out; have e2 := hB11.out; have e3 := hsz10.out; have e4 := hsz11.out; have e5 := hlo.out; have e6 := hhi.out; have e7 := hsz1.out; have e8 := hzx.out; omega)
          refine wpAnyH_ready (rs := [12]) (by kernel_rfl) (by simp) ?_
          refine AllReadyH.cons rfl (fun K hKc => ?_) AllReadyH.nil
          obtain ⟨⟨q0, q1, q2⟩, q3, q4, q5⟩ := c3_cells k10.out
          go_simp
          clear q0 q1 q2 q3 q4 q5
          obtain ⟨x22, hx22⟩ : ∃ Z, Z = (((x21.setCell ⟨B10, 0, none⟩ (.int .i64 T.op)).setCell ⟨B10, 1, none⟩ (.int .i64 T.n)).setCell ⟨B10, 2, none⟩ (.slice a2 l2 c2)) := ⟨_, rfl⟩
          rw [← hx22]
          have hs := set3 (.int .i64 T.op) (.int .i64 T.n) (.slice a2 l2 c2) k10.out
          have ho := fun k (hk : k ≠ B10) => set3_other (w := x21) (B := B10) (.int .i64 T.op) (.int .i64 T.n) (.slice a2 l2 c2) hk
          have hbs := set3_below (w := x21) (B := B10) (n := wr.heap.size) (.int .i64 T.op) (.int .i64 T.n) (.slice a2 l2 c2) (by have := hne.out; omega)
          rw [← hx22] at hs ho hbs
          replace k11 := Lib.hid ((ho _ (by have := hne.out; omega)).trans k11.out)
          replace hT3 : Hid (TmP (fun b => lo ≤ b ∧ b < ub) x22 T a2 l2 c2) := Lib.hid (TmP.move (P := fun b => lo ≤ b ∧ b < ub) (Q := fun b => lo ≤ b ∧ b < ub) (fun b hb hlt => ⟨hb, ho b (by have := hne.out; omega)⟩) _ hT3.out)
          replace hr3 := Lib.hid (hr3.out.far k10.out (by decide) ho)
          replace hq := Lib.hid (hq.out.trans hbs)
          replace hne := Lib.hid (⟨hne.out.1, hne.out.2.1, hne.out.2.2.1, hne.out.2.2.2.1, hne.out.2.2.2.2.1, hne.out.2.2.2.2.2.1, hne.out.2.2.2.2.2.2.1, Nat.le_trans hne.out.2.2.2.2.2.2.2 (set3_size x21 B10 _ _ _ hx22)⟩ : ¬ B11 = B10 ∧ (B10 < lo ∨ ub ≤ B10) ∧ (B11 < lo ∨ ub ≤ B11) ∧ wr.heap.size ≤ B10 ∧ wr.heap.size ≤ B11 ∧ wr.heap.size ≤ lo ∧ lo ≤ ub ∧ ub ≤ x22.heap.size)
          replace k10 := Lib.hid hs
          clear hs ho hbs hx22
          refine hKc _ _ hq.out (fun _ => ?_)
          clear hKc K
          try simp only [List.setIfInBounds_toArray, List.set_cons_zero, List.set_cons_succ]
          refine wpAnyH_ready (rs := [13]) (by kernel_rfl) (by simp) ?_
          refine AllReadyH.cons rfl (fun K hKc => ?_) AllReadyH.nil
          obtain ⟨⟨q0, q1, q2⟩, q3, q4, q5⟩ := c3_cells k11.out
          go_simp
          clear q0 q1 q2 q3 q4 q5
          obtain ⟨x23, hx23⟩ : ∃ Z, Z = (((x22.setCell ⟨B11, 0, none⟩ ((.slice ab lb cb))).setCell ⟨B11, 1, none⟩ (.slice a5 l5 c5)).setCell ⟨B11, 2, none⟩ (.int .i64 (S.count : Nat))) := ⟨_, rfl⟩
          rw [← hx23]
          have hs := set3 ((.slice ab lb cb)) (.slice a5 l5 c5) (.int .i64 (S.count : Nat)) k11.out
          have ho := fun k (hk : k ≠ B11) => set3_other (w := x22) (B := B11) ((.slice ab lb cb)) (.slice a5 l5 c5) (.int .i64 (S.count : Nat)) hk
          have hbs := set3_below (w := x22) (B := B11) (n := wr.heap.size) ((.slice ab lb cb)) (.slice a5 l5 c5) (.int .i64 (S.count : Nat)) (by have := hne.out; omega)
          rw [← hx23] at hs ho hbs
          replace k10 := Lib.hid ((ho _ (by have := hne.out; omega)).trans k10.out)
          replace hT3 : Hid (TmP (fun b => lo ≤ b ∧ b < ub) x23 T a2 l2 c2) := Lib.hid (TmP.move (P := fun b => lo ≤ b ∧ b < ub) (Q := fun b => lo ≤ b ∧ b < ub) (fun b hb hlt => ⟨hb, ho b (by have := hne.out; omega)⟩) _ hT3.out)
          replace hr3 := Lib.hid (hr3.out.far k11.out (by decide) ho)
          replace hq := Lib.hid (hq.out.trans hbs)
          replace hne := Lib.hid (⟨hne.out.1, hne.out.2.1, hne.out.2.2.1, hne.out.2.2.2.1, hne.out.2.2.2.2.1, hne.out.2.2.2.2.2.1, hne.out.2.2.2.2.2.2.1, Nat.le_trans hne.out.2.2.2.2.2.2.2 (set3_size x22 B11 _ _ _ hx23)⟩ : ¬ B11 = B10 ∧ (B10 < lo ∨ ub ≤ B10) ∧ (B11 < lo ∨ ub ≤ B11) ∧ wr.heap.size ≤ B10 ∧ wr.heap.size ≤ B11 ∧ wr.heap.size ≤ lo ∧ lo ≤ ub ∧ ub ≤ x23.heap.size)
          replace k11 := Lib.hid hs
          clear hs ho hbs hx23
          refine hKc _ _ hq.out (fun _ => ?_)
          clear hKc K
          try simp only [List.setIfInBounds_toArray, List.set_cons_zero, List.set_cons_succ]
          refine wpAnyH_done (by kernel_rfl) ?_ _
          have hK8 := Lib.hid (hK.out.below hq.out)
          obtain ⟨⟨u0, u1, u2⟩, -⟩ := c3_cells hK8.out.r2
          obtain ⟨⟨u3, u4, u5⟩, -⟩ := c3_cells k10.out
          have hzq := hq.out.size
          have hnb : Hid (∀ j, (Value.slice va vl vc).ownBlock = some j → w.heap.size + 5 ≤ j ∧ j < wr.heap.size) := Lib.hid (fun j e => own_base hK.out.r4 e)
          have q8 : ¬ B11 = w.heap.size + 1 + 1 + 1 + 1 := by have := hne.out; omega
          have q9 : ¬ B11 = w.heap.size + 1 := by have := hne.out; omega
          go_wp2_with (first
            | (at_builtin; refine wpList_append_lies _ rfl _ _ 26 rfl (w.heap.size + 5) 28 i0 _ 3 40 und26 hi hz0 hz1 hz2 rfl (by omega) (.slice va vl vc) k (flat KK) rfl (hK8.out.r4.alloc _)
                ⟨x23.heap.size, 0, none⟩ 1 1 [.int .i64 T.op, .int .i64 T.n, .slice a2 l2 c2] rfl rfl (World.news_of_block (cs := #[.int .i64 T.op, .int .i64 T.n, .slice a2 l2 c2]) (t := 28) (fr := (0, 0)) (heap_new' _ rfl)) (by simp [Value.oneCell'])
                (by omega) (by unfold maxLen; omega) (by omega) (by simp; omega) (x23.heap.size + 1) (by simp) ?_; intro gg cap2 w2 hown1 hgrow hat hlt2
               have m1 := grow_made hgrow hK8.out.r4 (by omega) hK8.out.r2; have m2 := m1.1; have m3 := m1.2; clear m1
               have m4 := c3_cells (grow_keep hgrow (fun e => by have := (hnb.out _ e).1; omega) ((hq.out.block (w.heap.size + 1) (by omega)).trans g3.out))
               obtain ⟨⟨v0, v1, v2⟩, v3, v4, v5⟩ := m4
               have m5 := c3_cells (grow_keep hgrow (fun e => by have := (hnb.out _ e).2; have := hne.out; omega) k11.out)
               obtain ⟨⟨v6, v7, v8⟩, -⟩ := m5))
          go_roundw
          case rel =>
            have hBX := Below.trans gB.out (hq.out.mono (by omega))
            refine ⟨k + 1, by omega, by go_num, Lib.hid (RelO.next (lo := lo) hK8.out ((hq.out.block w.heap.size (by omega)).trans g2.out) ((hq.out.block (w.heap.size + 1) (by omega)).trans g3.out) ((hq.out.block (w.heap.size + 1 + 1) (by omega)).trans g4.out) ((hq.out.block (w.heap.size + 1 + 1 + 1) (by omega)).trans g5.out) hBX hr3.out (by rw [← hS.out]; exact hl3.out) (by rw [← hS.out]; exact hn3) (by rw [hS.out]) hT.out (by have := hne.out; omega) (fun j e => by have := (hnb.out j e).2; have := hne.out; omega) (TmP.move (P := fun b => lo ≤ b ∧ b < ub) (fun b hb hlt => ⟨⟨hb.1, by have := hne.out; omega⟩, rfl⟩) _ hT3.out) hgrow hown1 hat)⟩
          case measure => simp [intOf]; omega
        · skip
          go_simp
          obtain ⟨B10, hB10⟩ : ∃ n, n = x19.heap.size := ⟨_, rfl⟩
          obtain ⟨x24, hx24⟩ : ∃ X, X = x19.alloc zT := ⟨_, rfl⟩
          have st : Below x19.heap.size x19 x24 := by rw [hx24]; exact bal _ _
          have k10 : Hid (x24.heap[B10]? = some zT) := Lib.hid (by rw [hx24, hB10]; exact heap_new' _ rfl)
          have hsz10 : x24.heap.size = x19.heap.size + 1 := by rw [hx24]; simp
          replace k11 := Lib.hid ((st.block _ (Array.getElem?_eq_some_iff.1 k11.out).1).trans k11.out)
          replace hq := Lib.hid (Below.up hq.out st)
          rw [← hB10]
          rw [← hx24]
          clear st hx24
          replace hB10 := Lib.hid hB10
          replace hsz10 := Lib.hid hsz10
          refine hKc _ _ hq.out (fun _ => ?_)
          clear hKc K
          try simp only [List.setIfInBounds_toArray, List.set_cons_zero, List.set_cons_succ]
          refine wpAnyH_ready (rs := [6]) (by kernel_rfl) (by simp) ?_
          refine AllReadyH.cons rfl (fun K hKc => ?_) AllReadyH.nil
          rw [if_pos (by rfl)]
          refine wp_call2 (f := 72) (d := 104) rfl rfl (enters_of Tryz.func72 (by kernel_rfl) rfl _ _) rfl rfl ((hcall.out x24 (.slice ab lb cb) bound (gB.out.trans (hq.out.mono (by have := gB.out.size; omega))) (hq.out.mono (by omega)) (hb.out.up (gB.out.trans (hq.out.mono (by have := gB.out.size; omega))) (Nat.le_refl _)) (grow.out.up hq.out (Nat.le_refl _)) (by omega) hfbk.symm).mono ?_)
          rintro e x25 ⟨a2, l2, c2, vf3, free3, rfl, hF3, hr3, hl3, hn3, hb1⟩
          obtain ⟨a5, l5, c5, rfl⟩ := hr3.slice
          refine ⟨_, rfl, ?_⟩
          obtain ⟨lo, hlo⟩ : ∃ n, n = x24.heap.size := ⟨_, rfl⟩
          obtain ⟨ub, hhi⟩ : ∃ n, n = x25.heap.size := ⟨_, rfl⟩
          have hsz1 := hb1.size
          replace k11 := Lib.hid ((hb1.block _ (Array.getElem?_eq_some_iff.1 k11.out).1).trans k11.out)
          replace k10 := Lib.hid ((hb1.block _ (Array.getElem?_eq_some_iff.1 k10.out).1).trans k10.out)
          replace hq := Lib.hid (Below.up hq.out hb1)
          have hT3 : Hid (TmP (fun b => lo ≤ b ∧ b < ub) x25 T a2 l2 c2) := Lib.hid (by rw [hlo, hhi]; exact hF3)
          replace hr3 := Lib.hid hr3
          replace hl3 := Lib.hid hl3
          replace hlo := Lib.hid hlo
          replace hhi := Lib.hid hhi
          replace hsz1 := Lib.hid hsz1
          clear hF3 hb1
          refine hKc _ _ hq.out (fun _ => ?_)
          clear hKc K
          try simp only [List.setIfInBounds_toArray, List.set_cons_zero, List.set_cons_succ]
          refine takeH 7 97 (.tuple #[.agg #[.int .i64 T.op, .int .i64 T.n, .slice a2 l2 c2], .agg #[(.slice ab lb cb), (.slice a5 l5 c5), .int .i64 (S.count : Nat)]]) rfl rfl (by kernel_rfl) (by kernel_rfl) (by kernel_rfl) (fun _ _ _ h => h) (by rfl) (by intro W hSw; clear hSw; go_simp) hq.out ?_
          try simp only [List.setIfInBounds_toArray, List.set_cons_zero, List.set_cons_succ]
          refine takeH 8 105 (.agg #[.int .i64 T.op, .int .i64 T.n, .slice a2 l2 c2]) rfl rfl (by kernel_rfl) (by kernel_rfl) (by kernel_rfl) (fun _ _ _ h => h) (by rfl) (by intro W hSw; clear hSw; go_simp) hq.out ?_
          try simp only [List.setIfInBounds_toArray, List.set_cons_zero, List.set_cons_succ]
          refine takeH 9 106 (.agg #[(.slice ab lb cb), (.slice a5 l5 c5), .int .i64 (S.count : Nat)]) rfl rfl (by kernel_rfl) (by kernel_rfl) (by kernel_rfl) (fun _ _ _ h => h) (by rfl) (by intro W hSw; clear hSw; go_simp) hq.out ?_
          try simp only [List.setIfInBounds_toArray, List.set_cons_zero, List.set_cons_succ]
          have hne : Hid (¬ B11 = B10 ∧ (B10 < lo ∨ ub ≤ B10) ∧ (B11 < lo ∨ ub ≤ B11) ∧ wr.heap.size ≤ B10 ∧ wr.heap.size ≤ B11 ∧ wr.heap.size ≤ lo ∧ lo ≤ ub ∧ ub ≤ x25.heap.size) := Lib.hid (by have e1 := hB10.out; have e2 := hB11.out; have e3 := hsz10.out; have e4 := hsz11.out; have e5 := hlo.out; have e6 := hhi.out; have e7 := hsz1.out; have e8 := hzx.out; omega)
          refine wpAnyH_ready (rs := [12]) (by kernel_rfl) (by simp) ?_
          refine AllReadyH.cons rfl (fun K hKc => ?_) AllReadyH.nil
          obtain ⟨⟨q0, q1, q2⟩, q3, q4, q5⟩ := c3_cells k10.out
          go_simp
          clear q0 q1 q2 q3 q4 q5
          obtain ⟨x26, hx26⟩ : ∃ Z, Z = (((x25.setCell ⟨B10, 0, none⟩ (.int .i64 T.op)).setCell ⟨B10, 1, none⟩ (.int .i64 T.n)).setCell ⟨B10, 2, none⟩ (.slice a2 l2 c2)) := ⟨_, rfl⟩
          rw [← hx26]
          have hs := set3 (.int .i64 T.op) (.int .i64 T.n) (.slice a2 l2 c2) k10.out
          have ho := fun k (hk : k ≠ B10) => set3_other (w := x25) (B := B10) (.int .i64 T.op) (.int .i64 T.n) (.slice a2 l2 c2) hk
          have hbs := set3_below (w := x25) (B := B10) (n := wr.heap.size) (.int .i64 T.op) (.int .i64 T.n) (.slice a2 l2 c2) (by have := hne.out; omega)
          rw [← hx26] at hs ho hbs
          replace k11 := Lib.hid ((ho _ (by have := hne.out; omega)).trans k11.out)
          replace hT3 : Hid (TmP (fun b => lo ≤ b ∧ b < ub) x26 T a2 l2 c2) := Lib.hid (TmP.move (P := fun b => lo ≤ b ∧ b < ub) (Q := fun b => lo ≤ b ∧ b < ub) (fun b hb hlt => ⟨hb, ho b (by have := hne.out; omega)⟩) _ hT3.out)
          replace hr3 := Lib.hid (hr3.out.far k10.out (by decide) ho)
          replace hq := Lib.hid (hq.out.trans hbs)
          replace hne := Lib.hid (⟨hne.out.1, hne.out.2.1, hne.out.2.2.1, hne.out.2.2.2.1, hne.out.2.2.2.2.1, hne.out.2.2.2.2.2.1, hne.out.2.2.2.2.2.2.1, Nat.le_trans hne.out.2.2.2.2.2.2.2 (set3_size x25 B10 _ _ _ hx26)⟩ : ¬ B11 = B10 ∧ (B10 < lo ∨ ub ≤ B10) ∧ (B11 < lo ∨ ub ≤ B11) ∧ wr.heap.size ≤ B10 ∧ wr.heap.size ≤ B11 ∧ wr.heap.size ≤ lo ∧ lo ≤ ub ∧ ub ≤ x26.heap.size)
          replace k10 := Lib.hid hs
          clear hs ho hbs hx26
          refine hKc _ _ hq.out (fun _ => ?_)
          clear hKc K
          try simp only [List.setIfInBounds_toArray, List.set_cons_zero, List.set_cons_succ]
          refine wpAnyH_ready (rs := [13]) (by kernel_rfl) (by simp) ?_
          refine AllReadyH.cons rfl (fun K hKc => ?_) AllReadyH.nil
          obtain ⟨⟨q0, q1, q2⟩, q3, q4, q5⟩ := c3_cells k11.out
          go_simp
          clear q0 q1 q2 q3 q4 q5
          obtain ⟨x27, hx27⟩ : ∃ Z, Z = (((x26.setCell ⟨B11, 0, none⟩ ((.slice ab lb cb))).setCell ⟨B11, 1, none⟩ (.slice a5 l5 c5)).setCell ⟨B11, 2, none⟩ (.int .i64 (S.count : Nat))) := ⟨_, rfl⟩
          rw [← hx27]
          have hs := set3 ((.slice ab lb cb)) (.slice a5 l5 c5) (.int .i64 (S.count : Nat)) k11.out
          have ho := fun k (hk : k ≠ B11) => set3_other (w := x26) (B := B11) ((.slice ab lb cb)) (.slice a5 l5 c5) (.int .i64 (S.count : Nat)) hk
          have hbs := set3_below (w := x26) (B := B11) (n := wr.heap.size) ((.slice ab lb cb)) (.slice a5 l5 c5) (.int .i64 (S.count : Nat)) (by have := hne.out; omega)
          rw [← hx27] at hs ho hbs
          replace k10 := Lib.hid ((ho _ (by have := hne.out; omega)).trans k10.out)
          replace hT3 : Hid (TmP (fun b => lo ≤ b ∧ b < ub) x27 T a2 l2 c2) := Lib.hid (TmP.move (P := fun b => lo ≤ b ∧ b < ub) (Q := fun b => lo ≤ b ∧ b < ub) (fun b hb hlt => ⟨hb, ho b (by have := hne.out; omega)⟩) _ hT3.out)
          replace hr3 := Lib.hid (hr3.out.far k11.out (by decide) ho)
          replace hq := Lib.hid (hq.out.trans hbs)
          replace hne := Lib.hid (⟨hne.out.1, hne.out.2.1, hne.out.2.2.1, hne.out.2.2.2.1, hne.out.2.2.2.2.1, hne.out.2.2.2.2.2.1, hne.out.2.2.2.2.2.2.1, Nat.le_trans hne.out.2.2.2.2.2.2.2 (set3_size x26 B11 _ _ _ hx27)⟩ : ¬ B11 = B10 ∧ (B10 < lo ∨ ub ≤ B10) ∧ (B11 < lo ∨ ub ≤ B11) ∧ wr.heap.size ≤ B10 ∧ wr.heap.size ≤ B11 ∧ wr.heap.size ≤ lo ∧ lo ≤ ub ∧ ub ≤ x27.heap.size)
          replace k11 := Lib.hid hs
          clear hs ho hbs hx27
          refine hKc _ _ hq.out (fun _ => ?_)
          clear hKc K
          try simp only [List.setIfInBounds_toArray, List.set_cons_zero, List.set_cons_succ]
          refine wpAnyH_done (by kernel_rfl) ?_ _
          have hK8 := Lib.hid (hK.out.below hq.out)
          obtain ⟨⟨u0, u1, u2⟩, -⟩ := c3_cells hK8.out.r2
          obtain ⟨⟨u3, u4, u5⟩, -⟩ := c3_cells k10.out
          have hzq := hq.out.size
          have hnb : Hid (∀ j, (Value.slice va vl vc).ownBlock = some j → w.heap.size + 5 ≤ j ∧ j < wr.heap.size) := Lib.hid (fun j e => own_base hK.out.r4 e)
          have q8 : ¬ B11 = w.heap.size + 1 + 1 + 1 + 1 := by have := hne.out; omega
          have q9 : ¬ B11 = w.heap.size + 1 := by have := hne.out; omega
          go_wp2_with (first
            | (at_builtin; refine wpList_append_lies _ rfl _ _ 26 rfl (w.heap.size + 5) 28 i0 _ 3 40 und26 hi hz0 hz1 hz2 rfl (by omega) (.slice va vl vc) k (flat KK) rfl (hK8.out.r4.alloc _)
                ⟨x27.heap.size, 0, none⟩ 1 1 [.int .i64 T.op, .int .i64 T.n, .slice a2 l2 c2] rfl rfl (World.news_of_block (cs := #[.int .i64 T.op, .int .i64 T.n, .slice a2 l2 c2]) (t := 28) (fr := (0, 0)) (heap_new' _ rfl)) (by simp [Value.oneCell'])
                (by omega) (by unfold maxLen; omega) (by omega) (by simp; omega) (x27.heap.size + 1) (by simp) ?_; intro gg cap2 w2 hown1 hgrow hat hlt2
               have m1 := grow_made hgrow hK8.out.r4 (by omega) hK8.out.r2; have m2 := m1.1; have m3 := m1.2; clear m1
               have m4 := c3_cells (grow_keep hgrow (fun e => by have := (hnb.out _ e).1; omega) ((hq.out.block (w.heap.size + 1) (by omega)).trans g3.out))
               obtain ⟨⟨v0, v1, v2⟩, v3, v4, v5⟩ := m4
               have m5 := c3_cells (grow_keep hgrow (fun e => by have := (hnb.out _ e).2; have := hne.out; omega) k11.out)
               obtain ⟨⟨v6, v7, v8⟩, -⟩ := m5))
          go_roundw
          case rel =>
            have hBX := Below.trans gB.out (hq.out.mono (by omega))
            refine ⟨k + 1, by omega, by go_num, Lib.hid (RelO.next (lo := lo) hK8.out ((hq.out.block w.heap.size (by omega)).trans g2.out) ((hq.out.block (w.heap.size + 1) (by omega)).trans g3.out) ((hq.out.block (w.heap.size + 1 + 1) (by omega)).trans g4.out) ((hq.out.block (w.heap.size + 1 + 1 + 1) (by omega)).trans g5.out) hBX hr3.out (by rw [← hS.out]; exact hl3.out) (by rw [← hS.out]; exact hn3) (by rw [hS.out]) hT.out (by have := hne.out; omega) (fun j e => by have := (hnb.out j e).2; have := hne.out; omega) (TmP.move (P := fun b => lo ≤ b ∧ b < ub) (fun b hb hlt => ⟨⟨hb.1, by have := hne.out; omega⟩, rfl⟩) _ hT3.out) hgrow hown1 hat)⟩
          case measure => simp [intOf]; omega
    · have hke : Hid (k = t.kids.length) := Lib.hid (by omega)
      have q1 : ¬ (k : Int) < (t.kids.length : Int) := by omega
      obtain ⟨cn, hcn⟩ : ∃ cn, cn = (st k).count := ⟨_, rfl⟩
      rw [← hcn] at g3 gfl
      replace hcn := Lib.hid hcn
      replace hK := Lib.hid hK
      replace g2 := Lib.hid g2
      replace g3 := Lib.hid g3
      replace grow := Lib.hid grow
      replace g4 := Lib.hid g4
      replace g5 := Lib.hid g5
      replace gB := Lib.hid gB
      replace glook := Lib.hid glook
      clear hk hroom hst1 ih o4 hfb
      go_upto_region 26 with fail
      refine region_named (S := fun W' => W'.heap[w.heap.size + 1 + 1 + 1 + 1]? = some (.cells #[.int .i64 t.op, .int .i64 t.n, .slice va vl vc] 28 (0, 0)) ∧ W'.heap[w.heap.size + 1]? = some (.cells #[(.slice ab lb cb), (.slice a4 l4 c4), .int .i64 (cn : Nat)] 96 (0, 0))) (by kernel_rfl) (fun x28 hx28 => ?_)
      have hq : Hid (x28.heap[w.heap.size + 1 + 1 + 1 + 1]? = some (.cells #[.int .i64 t.op, .int .i64 t.n, .slice va vl vc] 28 (0, 0)) ∧ x28.heap[w.heap.size + 1]? = some (.cells #[(.slice ab lb cb), (.slice a4 l4 c4), .int .i64 (cn : Nat)] 96 (0, 0))) := Lib.hid (by rw [hx28]; exact ⟨hK.out.r2, g3.out⟩)
      replace g4 : Hid (x28.heap[w.heap.size + 1 + 1]? = some zT) := Lib.hid (by rw [hx28]; exact g4.out)
      replace g5 : Hid (x28.heap[w.heap.size + 1 + 1 + 1]? = some zS) := Lib.hid (by rw [hx28]; exact g5.out)
      replace gB : Hid (Below w.heap.size w x28) := Lib.hid (by rw [hx28]; exact gB.out.drew)
      replace grow : Hid (PRow x28 0 (.slice a4 l4 c4) free2) := Lib.hid (by rw [hx28]; exact grow.out.up ((Below.refl _ _).drew) (Nat.le_refl _))
      have hkeep : Hid (∀ j, w.heap.size + 4 ≤ j → x28.heap[j]? = wr.heap[j]?) := Lib.hid (fun j _ => by rw [hx28]; rfl)
      have hzk : Hid (wr.heap.size ≤ x28.heap.size) := Lib.hid (by rw [hx28]; exact Nat.le_refl _)
      clear hx28
      refine takeH 0 116 (.agg #[.int .i64 t.op, .int .i64 t.n, .slice va vl vc]) rfl rfl (by kernel_rfl) (by kernel_rfl) (by kernel_rfl) (fun _ _ _ h => h) (by rfl) (by intro W hSw; obtain ⟨⟨j0, j1, j2⟩, -⟩ := c3_cells hSw.1; clear hSw; go_simp) hq.out ?_
      try simp only [List.setIfInBounds_toArray, List.set_cons_zero, List.set_cons_succ]
      refine takeH 1 117 (.agg #[(.slice ab lb cb), (.slice a4 l4 c4), .int .i64 (cn : Nat)]) rfl rfl (by kernel_rfl) (by kernel_rfl) (by kernel_rfl) (fun _ _ _ h => h) (by rfl) (by intro W hSw; obtain ⟨⟨j0, j1, j2⟩, -⟩ := c3_cells hSw.2; clear hSw; go_simp) hq.out ?_
      try simp only [List.setIfInBounds_toArray, List.set_cons_zero, List.set_cons_succ]
      refine wpAnyH_ready (rs := [2]) (by kernel_rfl) (by simp) ?_
      refine AllReadyH.cons rfl (fun K hKc => ?_) AllReadyH.nil
      obtain ⟨⟨q0, q1, q2⟩, q3, q4, q5⟩ := c3_cells g4.out
      go_simp
      clear q0 q1 q2 q3 q4 q5
      obtain ⟨x29, hx29⟩ : ∃ Z, Z = (((x28.setCell ⟨w.heap.size + 1 + 1, 0, none⟩ (.int .i64 t.op)).setCell ⟨w.heap.size + 1 + 1, 1, none⟩ (.int .i64 t.n)).setCell ⟨w.heap.size + 1 + 1, 2, none⟩ (.slice va vl vc)) := ⟨_, rfl⟩
      rw [← hx29]
      have hs := set3 (.int .i64 t.op) (.int .i64 t.n) (.slice va vl vc) g4.out
      have ho := fun k (hk : k ≠ w.heap.size + 1 + 1) => set3_other (w := x28) (B := w.heap.size + 1 + 1) (.int .i64 t.op) (.int .i64 t.n) (.slice va vl vc) hk
      have hbs := set3_below (w := x28) (B := w.heap.size + 1 + 1) (n := w.heap.size) (.int .i64 t.op) (.int .i64 t.n) (.slice va vl vc) (by omega)
      rw [← hx29] at hs ho hbs
      replace g5 := Lib.hid ((ho _ (by omega)).trans g5.out)
      replace hq := Lib.hid (And.intro ((ho _ (by omega)).trans hq.out.1) ((ho _ (by omega)).trans hq.out.2))
      replace gB := Lib.hid (gB.out.trans hbs)
      replace grow := Lib.hid (grow.out.far g4.out (by decide) ho)
      replace hkeep : Hid (∀ j, w.heap.size + 4 ≤ j → x29.heap[j]? = wr.heap[j]?) := Lib.hid (fun j hj => (ho j (by omega)).trans (hkeep.out j hj))
      replace hzk := Lib.hid (Nat.le_trans hzk.out hbs.size)
      replace g4 := Lib.hid hs
      clear hs ho hbs hx29
      refine hKc _ _ hq.out (fun _ => ?_)
      clear hKc K
      try simp only [List.setIfInBounds_toArray, List.set_cons_zero, List.set_cons_succ]
      refine wpAnyH_ready (rs := [3]) (by kernel_rfl) (by simp) ?_
      refine AllReadyH.cons rfl (fun K hKc => ?_) AllReadyH.nil
      obtain ⟨⟨q0, q1, q2⟩, q3, q4, q5⟩ := c3_cells g5.out
      go_simp
      clear q0 q1 q2 q3 q4 q5
      obtain ⟨x30, hx30⟩ : ∃ Z, Z = (((x29.setCell ⟨w.heap.size + 1 + 1 + 1, 0, none⟩ ((.slice ab lb cb))).setCell ⟨w.heap.size + 1 + 1 + 1, 1, none⟩ ((.slice a4 l4 c4))).setCell ⟨w.heap.size + 1 + 1 + 1, 2, none⟩ (.int .i64 (cn : Nat))) := ⟨_, rfl⟩
      rw [← hx30]
      have hs := set3 ((.slice ab lb cb)) ((.slice a4 l4 c4)) (.int .i64 (cn : Nat)) g5.out
      have ho := fun k (hk : k ≠ w.heap.size + 1 + 1 + 1) => set3_other (w := x29) (B := w.heap.size + 1 + 1 + 1) ((.slice ab lb cb)) ((.slice a4 l4 c4)) (.int .i64 (cn : Nat)) hk
      have hbs := set3_below (w := x29) (B := w.heap.size + 1 + 1 + 1) (n := w.heap.size) ((.slice ab lb cb)) ((.slice a4 l4 c4)) (.int .i64 (cn : Nat)) (by omega)
      rw [← hx30] at hs ho hbs
      replace g4 := Lib.hid ((ho _ (by omega)).trans g4.out)
      replace hq := Lib.hid (And.intro ((ho _ (by omega)).trans hq.out.1) ((ho _ (by omega)).trans hq.out.2))
      replace gB := Lib.hid (gB.out.trans hbs)
      replace grow := Lib.hid (grow.out.far g5.out (by decide) ho)
      replace hkeep : Hid (∀ j, w.heap.size + 4 ≤ j → x30.heap[j]? = wr.heap[j]?) := Lib.hid (fun j hj => (ho j (by omega)).trans (hkeep.out j hj))
      replace hzk := Lib.hid (Nat.le_trans hzk.out hbs.size)
      replace g5 := Lib.hid hs
      clear hs ho hbs hx30
      refine hKc _ _ hq.out (fun _ => ?_)
      clear hKc K
      try simp only [List.setIfInBounds_toArray, List.set_cons_zero, List.set_cons_succ]
      refine wpAnyH_done (by kernel_rfl) ?_ _
      go_wp2_with fail
      obtain ⟨⟨r0, r1, r2⟩, -⟩ := c3_cells g4.out
      obtain ⟨⟨r3, r4, r5⟩, -⟩ := c3_cells g5.out
      have hfr := fresh_of (w := w) (W := x30) t.op t.n hK.out.r1 hK.out.r4 hK.out.r5 (by omega) (fun j h1 _ => hkeep.out j (by omega)) hzk.out
      rw [hke.out] at hfr
      refine bodyPost_ret (v := .tuple #[.agg #[.int .i64 t.op, .int .i64 t.n, .slice va vl vc], .agg #[(.slice ab lb cb), (.slice a4 l4 c4), .int .i64 (cn : Nat)]]) (by simp [results, Tryz.f72, go_sem, r0, r1, r2, r3, r4, r5]) rfl ?_
      exact ⟨va, vl, vc, (.slice a4 l4 c4), free2, by rw [hcn.out, hke.out]; rfl, hfr, grow.out, by rw [← hke.out]; exact glook.out, by rw [← hke.out, ← hcn.out]; exact gfl, gB.out⟩

end Go.Proofs.YthlegfegkopdkaaGreat
