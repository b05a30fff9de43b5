/- Own text, joined of: N4 N5. 'putList' gives up. · 'Subst' where 'put' gives up. -/
import Derived.RegionTactic
import Derived.ChangeAlike
import Derived.Test.YtaieplfegngjnaaGreatVa02

namespace Go.Proofs.YtaieplfegngjnaaGreat
open Go.RowKit Go.Shelf Go.Sort

theorem put_gone (F : Int → Option DT) (st : Nat → Bool) (bm nb N : Nat) : PutGone F st bm nb N := by
  induction N with
  | zero => intro d _ _ _ _ h; have := size_pos d.tm; rw [size_tm] at this; omega
  | succ N ih =>
    intro d n₀ w g hT hN hL hn hsz hO hm hE
    have hp := put_any F st bm nb (fun N ih => putLet_any _ _ _ _ N ih) N
    by_cases h1 : d.op = 1
    · rw [show d.tm = .mk d.op d.n d.tm.kids by cases d; simp [DT.tm, DT.op, DT.n, Tm.kids], putF_var _ _ _ _ _ _ _ h1] at hT
      cases hT
    · by_cases h8 : d.op = 8
      · exact put_let_gone F st bm nb N (putLet_gone F st bm nb N hp ih) d n₀ w g hT hN hL hn hsz hO hm hE h8
      · exact put_node_gone F st bm nb N hp ih d n₀ w g hT hN hL hn hsz hO hm hE h1 h8

theorem catch95_pan (B C : Nat) (k n : Int) (older : List PanicEntry) (w : World) (hx : w.heap[B]? = some zer3) (hy : w.heap[C]? = some (.cells #[.int .i64 k] 31 (0, 0))) (hne : B ≠ C) (hB : B < w.heap.size) (hC : C < w.heap.size) :
    CallsD Tryz.prog 95 #[.pointer (some ⟨B, 0, none⟩), .pointer (some ⟨C, 0, none⟩)] (.panicking ({ v := .iface 120 (.agg #[.int .i64 n]), recovered := false } :: older)) w fun e u' w' =>
      e = .returned (.tuple #[]) ∧ u' = .panicking ({ v := .iface 120 (.agg #[.int .i64 n]), recovered := true } :: older) ∧
      Below (min B C) w w' ∧ w'.heap[B]? = some (.cells #[.int .i64 0, .int .i64 0, .slice none 0 0] 28 (0, 0)) ∧ w'.heap[C]? = some (.cells #[.int .i64 n] 31 (0, 0)) := by
  have ha := assert_gave
  refine callsD_of_wpS Tryz.func95 rfl fun c₀ cs hu => ?_
  apply wpS_seq
  apply wpS_region
  simp [wpOpsS, go_sem, recoverD, hu, Tryz.ntmps95, Exit.thenS, ha]
  apply wpS_seq
  apply wpS_region
  simp [wpOpsS, go_sem, Exit.thenS]
  refine wpS_cond (t := true) (by simp [Act.eval, Array.replicate]) ?_
  simp only [if_true]
  refine wpS_of_wp ?_
  obtain ⟨W, hW⟩ : ∃ W, W = w.alloc (Obj.cells #[Value.int IntKind.i64 n] 120) := ⟨_, rfl⟩
  have hn0 : W.cell? ⟨w.heap.size, 0, none⟩ = some (.int .i64 n) := by rw [hW]; simp [go_sem]
  have hxW : W.heap[B]? = some zer3 := by rw [hW]; exact heap_old hx
  have hyW : W.heap[C]? = some (.cells #[.int .i64 k] 31 (0, 0)) := by rw [hW]; exact heap_old hy
  obtain ⟨⟨e0, e1, e2⟩, e3, e4, e5⟩ := c3_cells hxW
  have e6 : W.cell? ⟨C, 0, none⟩ = some (.int .i64 k) := by rw [cell_of_row W _ 0 _ 31 (0, 0) hyW]; rfl
  have e7 : W.frozen? ⟨C, 0, none⟩ = false := frozen_of_row W _ 0 _ 31 hyW
  have q1 : ¬ w.heap.size = B := by omega
  have q2 : ¬ w.heap.size = C := by omega
  have q3 : ¬ C = B := fun h => hne h.symm
  have q4 : ¬ B = C := hne
  obtain ⟨V, hV⟩ : ∃ V, V = ((W.setCell ⟨B, 0, none⟩ (.int .i64 0)).setCell ⟨B, 1, none⟩ (.int .i64 0)).setCell ⟨B, 2, none⟩ (.slice none 0 0) := ⟨_, rfl⟩
  have v3 : V.heap[B]? = some (.cells #[.int .i64 0, .int .i64 0, .slice none 0 0] 28 (0, 0)) := by rw [hV]; exact set3 _ _ _ hxW
  have v31 : V.heap[C]? = some (.cells #[.int .i64 k] 31 (0, 0)) := by rw [hV]; exact (set3_other (B := B) _ _ _ q3).trans hyW
  have hbel : Hid (Below (min B C) w (V.setCell ⟨C, 0, none⟩ (.int .i64 n)).drew ∧ (V.setCell ⟨C, 0, none⟩ (.int .i64 n)).drew.heap[B]? = some (.cells #[.int .i64 0, .int .i64 0, .slice none 0 0] 28 (0, 0)) ∧ (V.setCell ⟨C, 0, none⟩ (.int .i64 n)).drew.heap[C]? = some (.cells #[.int .i64 n] 31 (0, 0))) := Lib.hid (by
    refine ⟨?_, ?_, ?_⟩
    · have h0 : Below (min B C) w W := by rw [hW]; exact (Below.refl _ _).alloc (by omega) _
      have h1 : Below (min B C) W V := by rw [hV]; exact set3_below (B := B) _ _ _ (by omega)
      exact ((h0.trans h1).setCell (p := ⟨C, 0, none⟩) (by simp; omega) _).drew
    · exact (heap_setCell_other V ⟨C, 0, none⟩ _ _ q4).trans v3
    · show (V.setCell ⟨C, 0, none⟩ (.int .i64 n)).heap[C]? = _
      rw [heap_setCell_same V C 0 _ 31 _ v31]; rfl)
  rw [← hW]
  rw [hV] at hbel
  replace hW := Lib.hid hW
  clear ha hV v3 v31 hxW hyW hx hy
  go_region
  all_goals
    cases c₀
    simp [bodyPostS, results, Tryz.results95]
    exact hbel.out

set_option maxRecDepth 100000 in
set_option maxHeartbeats 4000000 in
theorem putList_gone (bs : List PB) (d : DT) (n₀ : Nat) (w : World) (N : Nat) (a : Option Addr) (l c : Nat) (hT : putF (bindK bs bs.length) (stK bs bs.length) N (fun _ => false) d.tm = none) (hN : d.size ≤ N)
    (hs1 : 1 + d.size ≤ 1000000) (hs2 : ∀ x ∈ bs, 1 + x.d.size ≤ 1000000) (hlen : bs.length ≤ 1000000) (hn : n₀ ≤ w.heap.size) (hL : Lies n₀ w d) (hO : OkV d.tm) (hB : LiesB n₀ w bs a l c) (hv : ∀ x ∈ bs, 0 ≤ x.v ∧ x.v < 20) (hOb : ∀ x ∈ bs, OkV x.d.tm) :
    Calls Tryz.prog 64 #[dv d, .slice a l c] w fun e w' => e = .returned (.tuple #[.agg #[.int .i64 0, .int .i64 0, .slice none 0 0], .int .i64 3]) ∧ Below w.heap.size w w' := by
  obtain ⟨rfl, h1, h2, h3'⟩ := hB
  have hmf : ∀ (fn : Fn) (first cap : Array Value) (w : World), (Instr.makeFunc fn first cap).run Tryz.prog w = .ok (.func fn first cap) w := fun _ _ _ _ => rfl
  have hmm := @run_makeMap Tryz.prog
  replace hT := Lib.hid hT
  replace hL := Lib.hid hL
  replace hs2 := Lib.hid hs2
  replace hv := Lib.hid hv
  replace hOb := Lib.hid hOb
  go_enter_defers Tryz.func64, Tryz.ntmps64
  go_wp2_with (refine store_ls (.tmp 6) (.tmp 11) (B := w.heap.size + 1 + 1 + 1 + 1) (bm := w.heap.size + 1 + 1 + 1) (f := fun _ => false) (heap_new' _ (by simp)) rfl rfl rfl rfl (congrArg Value.agg (lsA_none _).symm) ?_)
  obtain ⟨w0, hw0⟩ : ∃ w0, w0 = (pl0 w d).setRow (w.heap.size + 1 + 1 + 1 + 1) (lsA (w.heap.size + 1 + 1 + 1) (fun _ => false)) := ⟨_, rfl⟩
  rw [← hw0]
  have hB0 : Below w.heap.size w w0 := by rw [hw0]; exact below_row (by go_grown) (by omega) _
  have hz0 : w0.heap.size = w.heap.size + 1 + 1 + 1 + 1 + 1 := by rw [hw0]; simp
  have k0 : LsAt w0 (w.heap.size + 1 + 1 + 1 + 1) (w.heap.size + 1 + 1 + 1) (fun _ => false) := by rw [hw0]; exact setRow_heap _ _ _ _ 123 (0, 0) (heap_new' _ (by simp))
  have k1 : TMap w0 (w.heap.size + 1 + 1 + 1) 0 (fun _ => none) := by
    have := TMap.made (((w.alloc (bx d)).alloc zer3).alloc (.cells #[.int .i64 0] 31))
    simp only [World.size_alloc] at this
    refine this.same ?_
    rw [hw0, setRow_other _ _ _ _ (by omega)]
    exact Below.heap_alloc _ _ _ (by simp)
  have k2 : w0.heap[w.heap.size]? = some (bx d) := by rw [hw0, setRow_other _ _ _ _ (by omega)]; exact heap_old (heap_old (heap_old (heap_old (heap_new' _ rfl))))
  have k3 : w0.heap[w.heap.size + 1]? = some zer3 := by rw [hw0, setRow_other _ _ _ _ (by omega)]; exact heap_old (heap_old (heap_old (heap_new' _ (by simp))))
  have k4 : w0.heap[w.heap.size + 1 + 1]? = some (.cells #[.int .i64 0] 31 (0, 0)) := by rw [hw0, setRow_other _ _ _ _ (by omega)]; exact heap_old (heap_old (heap_new' _ (by simp)))
  have hP0 : PL w w0 bs 0 w0 := ⟨by unfold bindK; simpa using k1, by unfold stK; simpa using k0, hB0, fun _ _ => rfl⟩
  replace hP0 := Lib.hid hP0
  replace k0 := Lib.hid k0
  replace k1 := Lib.hid k1
  replace k2 := Lib.hid k2
  replace k3 := Lib.hid k3
  replace k4 := Lib.hid k4
  replace hw0 := Lib.hid hw0
  replace hB0 := Lib.hid hB0
  replace hz0 := Lib.hid hz0
  go_loopw [8, 14] (fun _ i wr => ∃ k : Nat, k ≤ bs.length ∧ i = .int .i64 k ∧ Hid (PL w w0 bs k wr)) (fun _ i _ => bs.length - (intOf i).toNat)
  case atStart => exact ⟨0, by omega, rfl, hP0⟩
  case round =>
    obtain ⟨k, hk, rfl, hI⟩ := hrel
    by_cases hlt : k < bs.length
    · have o1 : (k : Int) < (bs.length : Int) := by omega
      rcases h3' with h3' | ⟨b, off, rfl, hbn, hks⟩
      · rw [h3'] at hlt; simp at hlt
      obtain ⟨g1, g2⟩ := hks k hlt
      have hbl := hI.out.bel
      obtain ⟨c0, c1, c2, c3⟩ := g1.below hbl (by omega)
      have hvk := hv.out _ (List.getElem_mem hlt)
      obtain ⟨v, hvv⟩ : ∃ v : Nat, bs[k].v = v := ⟨bs[k].v.toNat, by omega⟩
      rw [hvv] at c0 hvk
      have hv20 : v < 20 := by omega
      obtain ⟨wb, hwb⟩ : ∃ wb, wb = wr.alloc (.cells #[.int .i64 (v : Nat), .int .i64 bs[k].d.op, .int .i64 bs[k].d.n, .slice bs[k].d.a bs[k].d.l bs[k].d.c] 70) := ⟨_, rfl⟩
      have hls := hI.out.ls
      have hlt0 := hls.lt
      have m1 := fun o => alloc_cell (o := o) hls.map
      have ki := keyI (i := (v : Int)) ⟨by omega, by omega⟩
      have hz := hbl.size
      obtain ⟨g, hmg, hg⟩ := hI.out.map
      have hmb : MapV Tryz.prog 3 wb (w.heap.size + 1 + 1 + 1) k g := by rw [hwb]; exact hmg.alloc _
      rw [hwb] at hmb
      clear hks hmg
      replace hmb := Lib.hid hmb
      replace hg := Lib.hid hg
      replace g1 := Lib.hid g1
      replace g2 := Lib.hid g2
      replace hls := Lib.hid hls
      replace hvv := Lib.hid hvv
      replace hbl := Lib.hid hbl
      replace hwb := Lib.hid hwb
      go_upto_region 7 with (first | (at_mapUpdate; refine wpList_mapStore _ rfl _ _ _ 99 rfl lawI und99 (w.heap.size + 1 + 1 + 1) k _ rfl hmb.out (by unfold maxLen; omega) _ _ _ rfl rfl ki trivial ?_; intro w2 hm2 hg2))
      have hbw : Below wr.heap.size wr wb := by rw [hwb.out]; exact (Below.refl _ _).alloc (Nat.le_refl _) _
      have hzb : wb.heap.size = wr.heap.size + 1 := by rw [hwb.out]; simp
      rw [← hwb.out] at hg2
      have hz2 := hg2.size
      have hls2 : LsAt w2 (w.heap.size + 1 + 1 + 1 + 1) (w.heap.size + 1 + 1 + 1) (stK bs k) := (hg2.block _ (by omega) (by simp)).trans ((hbw.block _ hlt0).trans hls.out)
      have hbx : w2.heap[wr.heap.size]? = some (.cells #[.int .i64 (v : Nat), .int .i64 bs[k].d.op, .int .i64 bs[k].d.n, .slice bs[k].d.a bs[k].d.l bs[k].d.c] 70 (0, 0)) := (hg2.block _ (by omega) (by simp; omega)).trans (by rw [hwb.out]; exact heap_new' _ rfl)
      have hm3 : TMap w2 (w.heap.size + 1 + 1 + 1) (k + 1) (bindK bs (k + 1)) := by
        rw [bindK_succ _ _ hlt, hvv.out]
        exact TMap.store hg.out hm2
      have hb2 : Below w.heap.size w w2 := (hbl.out.trans (hbw.mono hz)).grown hg2 (by omega) (fun q hq => by cases hq; omega)
      have hlow2 : ∀ j, j < w.heap.size + 1 + 1 + 1 → w2.heap[j]? = w0.heap[j]? := fun j hj => (hg2.block j (by omega) (by simp; omega)).trans ((hbw.block j (by omega)).trans (hI.out.low j hj))
      replace hm3 := Lib.hid hm3
      replace hls2 := Lib.hid hls2
      replace hbx := Lib.hid hbx
      replace hb2 := Lib.hid hb2
      replace hlow2 := Lib.hid hlow2
      clear hm2 hg2 m1
      have hSt := Lib.hid (show ∀ W, Below w2.heap.size w2 W → Calls Tryz.prog 96 #[dv bs[k].d] W fun e w1 => e = .returned (.agg (vs (stT bs[k].d.tm (fun _ => false)))) ∧ Hid (Below w2.heap.size w2 w1) ∧ w2.heap.size ≤ w1.heap.size from fun W hb =>
        (standing_any bs[k].d n₀ W (hs2.out _ (List.getElem_mem hlt)) (by have := hb.size; omega) ((g2.out.below (hb2.out.mono hn)).below (hb.mono (by omega))) (hOb.out _ (List.getElem_mem hlt))).mono (by
          rintro e w1 ⟨rfl, hB⟩
          exact ⟨rfl, hb.trans (hB.mono hb.size), (hb.trans (hB.mono hb.size)).size⟩))
      have hWi := Lib.hid (show ∀ W, Below w2.heap.size w2 W → Calls Tryz.prog 89 #[.agg (vs (stK bs k)), .agg (vs (stT bs[k].d.tm (fun _ => false)))] W fun e w1 => e = .returned (.agg (vs (orSet (stK bs k) (stT bs[k].d.tm (fun _ => false))))) ∧ Hid (Below w2.heap.size w2 w1) ∧ w2.heap.size ≤ w1.heap.size from fun W hb =>
        (with_any (stK bs k) (stT bs[k].d.tm (fun _ => false)) W).mono (by
          rintro e w1 ⟨rfl, hB⟩
          exact ⟨rfl, hb.trans (hB.mono hb.size), (hb.trans (hB.mono hb.size)).size⟩))
      have hK := Lib.hid (show ∀ W, Below w2.heap.size w2 W → W.rangeAt (w.heap.size + 1 + 1 + 1 + 1) 1 (vs (stK bs k)).toList ∧ W.cell? ⟨wr.heap.size, 1, none⟩ = some (.int .i64 bs[k].d.op) ∧ W.cell? ⟨wr.heap.size, 2, none⟩ = some (.int .i64 bs[k].d.n) ∧ W.cell? ⟨wr.heap.size, 3, none⟩ = some (.slice bs[k].d.a bs[k].d.l bs[k].d.c) from fun W hb => by
        have h := (hb.block _ (by omega)).trans hbx.out
        have h' : LsAt W (w.heap.size + 1 + 1 + 1 + 1) (w.heap.size + 1 + 1 + 1) (stK bs k) := (hb.block _ hls2.out.lt).trans hls2.out
        exact ⟨h'.range, by rw [cell_of_row W _ 1 _ 70 (0, 0) h]; rfl, by rw [cell_of_row W _ 2 _ 70 (0, 0) h]; rfl, by rw [cell_of_row W _ 3 _ 70 (0, 0) h]; rfl⟩)
      obtain ⟨F, hF⟩ : ∃ F, F = orSet (stK bs k) (stT bs[k].d.tm (fun _ => false)) := ⟨_, rfl⟩
      rw [← hF] at hWi
      obtain ⟨G, hG⟩ : ∃ G, G = stT bs[k].d.tm (fun _ => false) := ⟨_, rfl⟩
      rw [← hG] at hWi hSt
      replace hF := Lib.hid hF
      replace hG := Lib.hid hG
      refine onlyN ?_
      have hz2' : wr.heap.size < w2.heap.size := by omega
      refine wp_region_held (S := fun W' => Turns (fun b => b = w.heap.size + 1 + 1 + 1 + 1) w2 W') (by kernel_rfl) ?_
      have bdr := Lib.hid (show Below w2.heap.size w2 w2.drew from (Below.refl _ _).drew)
      have hS0 : (fun W' : World => Turns (fun b => b = w.heap.size + 1 + 1 + 1 + 1) w2 W') { w2 with drawn := w2.drawn + 1 } := Turns.of0' bdr.out
      have hK3 := Lib.hid (show ∀ W, Turns (fun b => b = w.heap.size + 1 + 1 + 1 + 1) w2 W → W.cell? ⟨wr.heap.size, 1, none⟩ = some (.int .i64 bs[k].d.op) ∧ W.cell? ⟨wr.heap.size, 2, none⟩ = some (.int .i64 bs[k].d.n) ∧ W.cell? ⟨wr.heap.size, 3, none⟩ = some (.slice bs[k].d.a bs[k].d.l bs[k].d.c) from fun W hb => by
        have h := (hb.block wr.heap.size (by omega) (by omega)).trans hbx.out
        exact ⟨by rw [cell_of_row W _ 1 _ 70 (0, 0) h]; rfl, by rw [cell_of_row W _ 2 _ 70 (0, 0) h]; rfl, by rw [cell_of_row W _ 3 _ 70 (0, 0) h]; rfl⟩)
      refine takeH 0 24 (.pointer (some ⟨w.heap.size + 1 + 1 + 1 + 1, 1, none⟩)) rfl rfl (by kernel_rfl) (by kernel_rfl) (by kernel_rfl) (fun _ _ _ h => h) (by rfl) (by intro W hSw; clear hSw; go_simp) hS0 ?_
      try simp only [List.setIfInBounds_toArray, List.set_cons_zero, List.set_cons_succ]
      refine takeH 2 26 (.pointer (some ⟨wr.heap.size, 1, none⟩)) rfl rfl (by kernel_rfl) (by kernel_rfl) (by kernel_rfl) (fun _ _ _ h => h) (by rfl) (by intro W hSw; clear hSw; go_simp) hS0 ?_
      try simp only
      refine takeH 3 27 (dv bs[k].d) rfl rfl (by kernel_rfl) (by kernel_rfl) (by kernel_rfl) (fun _ _ _ h => h) (by rfl) (by intro W hSw; obtain ⟨j1, j2, j3⟩ := hK3.out W hSw; clear hSw; go_simp) hS0 ?_
      try simp only
      refine wpAnyH_ready (rs := [1, 4]) (by kernel_rfl) (by simp) ?_
      refine AllReadyH.cons rfl (fun K hKc => ?_) (AllReadyH.cons rfl (fun K hKc => ?_) AllReadyH.nil)
      · rw [if_pos (by rfl)]
        refine wp_load_mid 79 (.tmp 24) rfl (w.heap.size + 1 + 1 + 1 + 1) 1 rfl (vs (stK bs k)).toList _ (hK.out _ bdr.out).1 u79 rfl (by rw [Array.length_toList, vs_size]; exact i79') ?_
        rw [Array.toArray_toList]
        refine hKc _ _ (Turns.of0' bdr.out) (fun _ => ?_)
        clear hKc K
        try simp only [List.setIfInBounds_toArray, List.set_cons_zero, List.set_cons_succ]
        refine wpAnyH_ready (rs := [4]) (by kernel_rfl) (by simp) ?_
        refine AllReadyH.cons rfl (fun K hKc => ?_) AllReadyH.nil
        go_simp
        go_at_call 96
        refine (hSt.out _ bdr.out).mono ?_
        rintro e w3 ⟨rfl, hb3, hz3⟩
        refine hKc _ _ (Turns.of0' hb3.out) (fun _ => ?_)
        clear hKc K
        try simp only [List.setIfInBounds_toArray, List.set_cons_zero, List.set_cons_succ]
        refine wpAnyH_ready (rs := [5]) (by kernel_rfl) (by simp) ?_
        refine AllReadyH.cons rfl (fun K hKc => ?_) AllReadyH.nil
        go_simp
        go_at_call 89
        refine (hWi.out _ hb3.out).mono ?_
        rintro e w4 ⟨rfl, hb4, hz4⟩
        refine hKc _ _ (Turns.of0' hb4.out) (fun hS4 => ?_)
        clear hKc K
        try simp only [List.setIfInBounds_toArray, List.set_cons_zero, List.set_cons_succ]
        refine takeH 6 30 (.pointer (some ⟨w.heap.size + 1 + 1 + 1 + 1, 1, none⟩)) rfl rfl (by kernel_rfl) (by kernel_rfl) (by kernel_rfl) (fun _ _ _ h => h) (by rfl) (by intro W hSw; clear hSw; go_simp) hS4 ?_
        try simp only [List.setIfInBounds_toArray, List.set_cons_zero, List.set_cons_succ]
        refine wpAnyH_ready (rs := [7]) (by kernel_rfl) (by simp) ?_
        refine AllReadyH.cons rfl (fun K hKc => ?_) AllReadyH.nil
        rw [if_pos (by rfl)]
        have hls4 : LsAt w4 (w.heap.size + 1 + 1 + 1 + 1) (w.heap.size + 1 + 1 + 1) (stK bs k) := (hb4.out.block _ hls2.out.lt).trans hls2.out
        have hth : w4.there (w.heap.size + 1 + 1 + 1 + 1) 1 (vs F).size := by rw [vs_size]; exact hls4.there
        have hiF := i79 F
        have hoF := vs_one F
        with_reducible refine wp_store_mid (P := Tryz.prog) 79 (.tmp 30) (.tmp 29) ?q1 ?q2 ?q3 ?q4 ?q5 ?q6 ?q7 ?q8 ?q9 ?q10
        case q1 => rfl
        case q5 => rfl
        case q6 => rfl
        case q7 => exact hth
        case q8 => exact hiF
        case q9 => exact hoF
        case' q10 => clear hth hiF hoF
        have hls5 := hls4.stores F
        obtain ⟨w5, hw5⟩ : ∃ w5, w5 = w4.setCells (w.heap.size + 1 + 1 + 1 + 1) 1 (vs F).toList := ⟨_, rfl⟩
        have hT5 : Turns (fun b => b = w.heap.size + 1 + 1 + 1 + 1) w4 w5 := by rw [hw5]; exact setCells_turns _ 1
        rw [← hw5] at hls5 ⊢
        refine hKc _ _ (hS4.trans hT5) (fun _ => ?_)
        clear hKc K
        have hT25 : Turns (fun b => b = w.heap.size + 1 + 1 + 1 + 1) w2 w5 := hS4.trans hT5
        have hb5 : Below w.heap.size w w5 := hb2.out.trans ((hb4.out.mono (by omega)).trans (hT5.below (by omega) (fun j hj e => by omega)))
        have hP5 : Hid (PL w w0 bs (k + 1) (w5.setCell ⟨w.heap.size + 1 + 1 + 1 + 1, 1 + v, none⟩ (.bool true))) := pl_step hlt hvv.out hv20 hm3.out hls5 (by rw [hF.out]) hT25 hb5 hlow2.out (by omega)
        have hc5 := hls5.cell hv20
        have hf5 := hls5.frozen (1 + v)
        have hbx5 := (hT25.block wr.heap.size (by omega) (by omega)).trans hbx.out
        have d5 : w5.cell? ⟨wr.heap.size, 0, none⟩ = some (.int .i64 (v : Nat)) := by rw [cell_of_row w5 _ 0 _ 70 (0, 0) hbx5]; rfl
        replace hT25 := Lib.hid hT25
        replace hb5 := Lib.hid hb5
        replace hls5 := Lib.hid hls5
        clear hbx5 hT5 hS4 hw5 hls4
        try simp only [List.setIfInBounds_toArray, List.set_cons_zero, List.set_cons_succ]
        refine wpAnyH_done (by kernel_rfl) ?_ _
        refine onlyN_out ?_
        go_wp2_with fail
        go_roundw
        case rel => exact ⟨k + 1, by omega, by go_num, hP5⟩
        case measure => simp [intOf]; omega
      · go_simp
        go_at_call 96
        refine (hSt.out _ bdr.out).mono ?_
        rintro e w3 ⟨rfl, hb3, hz3⟩
        refine hKc _ _ (Turns.of0' hb3.out) (fun _ => ?_)
        clear hKc K
        try simp only [List.setIfInBounds_toArray, List.set_cons_zero, List.set_cons_succ]
        refine wpAnyH_ready (rs := [1]) (by kernel_rfl) (by simp) ?_
        refine AllReadyH.cons rfl (fun K hKc => ?_) AllReadyH.nil
        rw [if_pos (by rfl)]
        refine wp_load_mid 79 (.tmp 24) rfl (w.heap.size + 1 + 1 + 1 + 1) 1 rfl (vs (stK bs k)).toList _ (hK.out _ hb3.out).1 u79 rfl (by rw [Array.length_toList, vs_size]; exact i79') ?_
        rw [Array.toArray_toList]
        refine hKc _ _ (Turns.of0' hb3.out) (fun _ => ?_)
        clear hKc K
        try simp only [List.setIfInBounds_toArray, List.set_cons_zero, List.set_cons_succ]
        refine wpAnyH_ready (rs := [5]) (by kernel_rfl) (by simp) ?_
        refine AllReadyH.cons rfl (fun K hKc => ?_) AllReadyH.nil
        go_simp
        go_at_call 89
        refine (hWi.out _ hb3.out).mono ?_
        rintro e w4 ⟨rfl, hb4, hz4⟩
        refine hKc _ _ (Turns.of0' hb4.out) (fun hS4 => ?_)
        clear hKc K
        try simp only [List.setIfInBounds_toArray, List.set_cons_zero, List.set_cons_succ]
        refine takeH 6 30 (.pointer (some ⟨w.heap.size + 1 + 1 + 1 + 1, 1, none⟩)) rfl rfl (by kernel_rfl) (by kernel_rfl) (by kernel_rfl) (fun _ _ _ h => h) (by rfl) (by intro W hSw; clear hSw; go_simp) hS4 ?_
        try simp only [List.setIfInBounds_toArray, List.set_cons_zero, List.set_cons_succ]
        refine wpAnyH_ready (rs := [7]) (by kernel_rfl) (by simp) ?_
        refine AllReadyH.cons rfl (fun K hKc => ?_) AllReadyH.nil
        rw [if_pos (by rfl)]
        have hls4 : LsAt w4 (w.heap.size + 1 + 1 + 1 + 1) (w.heap.size + 1 + 1 + 1) (stK bs k) := (hb4.out.block _ hls2.out.lt).trans hls2.out
        have hth : w4.there (w.heap.size + 1 + 1 + 1 + 1) 1 (vs F).size := by rw [vs_size]; exact hls4.there
        have hiF := i79 F
        have hoF := vs_one F
        with_reducible refine wp_store_mid (P := Tryz.prog) 79 (.tmp 30) (.tmp 29) ?p1 ?p2 ?p3 ?p4 ?p5 ?p6 ?p7 ?p8 ?p9 ?p10
        case p1 => rfl
        case p5 => rfl
        case p6 => rfl
        case p7 => exact hth
        case p8 => exact hiF
        case p9 => exact hoF
        case' p10 => clear hth hiF hoF
        have hls5 := hls4.stores F
        obtain ⟨w5, hw5⟩ : ∃ w5, w5 = w4.setCells (w.heap.size + 1 + 1 + 1 + 1) 1 (vs F).toList := ⟨_, rfl⟩
        have hT5 : Turns (fun b => b = w.heap.size + 1 + 1 + 1 + 1) w4 w5 := by rw [hw5]; exact setCells_turns _ 1
        rw [← hw5] at hls5 ⊢
        refine hKc _ _ (hS4.trans hT5) (fun _ => ?_)
        clear hKc K
        have hT25 : Turns (fun b => b = w.heap.size + 1 + 1 + 1 + 1) w2 w5 := hS4.trans hT5
        have hb5 : Below w.heap.size w w5 := hb2.out.trans ((hb4.out.mono (by omega)).trans (hT5.below (by omega) (fun j hj e => by omega)))
        have hP5 : Hid (PL w w0 bs (k + 1) (w5.setCell ⟨w.heap.size + 1 + 1 + 1 + 1, 1 + v, none⟩ (.bool true))) := pl_step hlt hvv.out hv20 hm3.out hls5 (by rw [hF.out]) hT25 hb5 hlow2.out (by omega)
        have hc5 := hls5.cell hv20
        have hf5 := hls5.frozen (1 + v)
        have hbx5 := (hT25.block wr.heap.size (by omega) (by omega)).trans hbx.out
        have d5 : w5.cell? ⟨wr.heap.size, 0, none⟩ = some (.int .i64 (v : Nat)) := by rw [cell_of_row w5 _ 0 _ 70 (0, 0) hbx5]; rfl
        replace hT25 := Lib.hid hT25
        replace hb5 := Lib.hid hb5
        replace hls5 := Lib.hid hls5
        clear hbx5 hT5 hS4 hw5 hls4
        try simp only [List.setIfInBounds_toArray, List.set_cons_zero, List.set_cons_succ]
        refine wpAnyH_done (by kernel_rfl) ?_ _
        refine onlyN_out ?_
        go_wp2_with fail
        go_roundw
        case rel => exact ⟨k + 1, by omega, by go_num, hP5⟩
        case measure => simp [intOf]; omega
    · have : k = bs.length := by omega
      subst this
      have hbl := hI.out.bel
      have hz := hbl.size
      have hls := hI.out.ls
      have hlt0 := hls.lt
      have h28 := (hI.out.low _ (by omega)).trans k2.out
      have h3 := (hI.out.low _ (by omega)).trans k3.out
      have h31 := (hI.out.low _ (by omega)).trans k4.out
      obtain ⟨⟨b0, b1, b2⟩, -⟩ := c3_cells h28
      have hE : PutOk n₀ wr (bindK bs bs.length) := bindK_els (fun x hx => by
        rcases h3' with h3' | ⟨b, off, ha, hbn, hks⟩
        · rw [h3'] at hx; cases hx
        · obtain ⟨i, hi, rfl⟩ := List.getElem_of_mem hx
          exact ⟨⟨(hks i hi).2.below (hbl.mono hn), hOb.out _ hx⟩, by have := hs2.out _ hx; omega⟩) _
      have hC := put_gone (bindK bs bs.length) (stK bs bs.length) (w.heap.size + 1 + 1 + 1) bs.length N d n₀ wr (fun _ => false) hT.out hN (hL.out.below (hbl.mono hn)) (by omega) hs1 hO hI.out.map hE
      replace hC := Lib.hid hC
      replace hls := Lib.hid hls
      replace hbl := Lib.hid hbl
      replace h28 := Lib.hid h28
      replace h3 := Lib.hid h3
      replace h31 := Lib.hid h31
      clear hE h3' hP0
      go_wp2_with (first | refine load_ls (.tmp 6) hls.out rfl rfl rfl ?_ | refine build_ls (.tmp 36) rfl rfl rfl ?_)
      refine (hC.out).mono ?_
      rintro e w1 ⟨rfl, hB1⟩
      have hz1 := hB1.size
      have hr3 := (hB1.block _ (by omega)).trans h3.out
      have hr31 := (hB1.block _ (by omega)).trans h31.out
      simp only []
      refine leaves_cons (f := 95) (args := #[.pointer (some ⟨w.heap.size + 1, 0, none⟩), .pointer (some ⟨w.heap.size + 1 + 1, 0, none⟩)]) (by simp) (by simp [go_sem]) ?_
      refine (catch95_pan (w.heap.size + 1) (w.heap.size + 1 + 1) 0 3 [] w1 hr3 hr31 (by omega) (by omega) (by omega)).mono ?_
      rintro e u' w5 ⟨rfl, rfl, hB5, g3, g31⟩
      obtain ⟨⟨x0, x1, x2⟩, -⟩ := c3_cells g3
      have x3 : w5.cell? ⟨w.heap.size + 1 + 1, 0, none⟩ = some (.int .i64 3) := by rw [cell_of_row w5 _ 0 _ 31 (0, 0) g31]; rfl
      have hbf : Below w.heap.size w w5 := Below.trans (Below.up hbl.out hB1) (hB5.mono (by omega))
      clear hB5 g3 g31 hr3 hr31 hB1
      simp [Leaves, settle, results, Tryz.results64, go_sem, x0, x1, x2, x3]
      exact hbf

end Go.Proofs.YtaieplfegngjnaaGreat

namespace Go.Proofs.YtaieplfegngjnaaGreat
open Go.RowKit Go.Shelf Go.Sort

set_option maxRecDepth 100000 in
set_option maxHeartbeats 1000000 in
theorem Subst_gone (s : Sg) (d : DT) (bs' : List PB) (N : Nat) (n₀ : Nat) (w : World) (ac : Option Addr) (lc cc : Nat) (af : Option Addr) (lf cf : Nat) (a : Option Addr) (l c : Nat) (hs1 : 1 + d.size ≤ 1000000) (hs2 : ∀ x ∈ bs', 1 + x.d.size ≤ 1000000) (hn : n₀ ≤ w.heap.size) (hS : IsSg n₀ w s ac lc cc af lf cf) (hL : Lies n₀ w d) (hB : LiesB n₀ w bs' a l c)
    (hv : checkB s [d] = true) (hf : lfB s (-1) (pbs bs') = true) (hN : putF (bindK bs' bs'.length) (stK bs' bs'.length) N (fun _ => false) d.tm = none) (hNs : d.size ≤ N) :
    Calls Tryz.prog 26 #[.agg #[.slice ac lc cc, .slice af lf cf], dv d, .slice a l c] w (SubstEnd w (.mk 0 0 [], 3)) := by
  obtain ⟨W0, hW0⟩ : ∃ W0, W0 = ((w.alloc (bs 24 ac lc cc af lf cf)).alloc (bx d)).alloc zer3 := ⟨_, rfl⟩
  have hB0 : Below w.heap.size w W0 := by rw [hW0]; go_grown
  have hz0 : W0.heap.size = w.heap.size + 1 + 1 + 1 := by rw [hW0]; simp
  have hl1 := hL.below (hB0.mono hn)
  have hS1 := hS.below (hB0.mono hn)
  have hlB := hB.below (hB0.mono hn)
  have hC := Check_any s d n₀ W0 ac lc cc af lf cf hs1 (by omega) hS1 hl1
  have hbx : W0.heap[w.heap.size + 1]? = some (bx d) := by rw [hW0]; exact heap_old (heap_new' _ (by simp))
  have hrs : W0.heap[w.heap.size + 1 + 1]? = some zer3 := by rw [hW0]; exact heap_new' _ (by simp)
  have hsg : W0.heap[w.heap.size]? = some (bs 24 ac lc cc af lf cf) := by rw [hW0]; exact heap_old (heap_old (heap_new' _ rfl))
  have hO := OkV.checked hv (List.mem_singleton.2 rfl)
  have hLf := fun (W : World) (hb : Below W0.heap.size W0 W) => listFormed_any s bs' n₀ W ac lc cc af lf cf a l c hs2 (by have := hb.size; omega) (hS1.below (hb.mono (by omega))) (hlB.below (hb.mono (by omega)))
  rw [hv] at hC
  have he : errOf true = 0 := rfl
  obtain ⟨hlen, hall⟩ := lfB_all hf (by omega) (by omega)
  have hmem : ∀ x ∈ bs', (0 ≤ x.v ∧ x.v < 20) ∧ formedB s x.d.tm = true := fun x hx => hall (x.v, x.d.tm) (List.mem_map.2 ⟨x, hx, rfl⟩)
  have hlen' : bs'.length ≤ 20 := by simp [pbs] at hlen; omega
  have hfs : formedB s d.tm = true := by
    unfold checkB at hv
    rw [Bool.and_eq_true, List.all_eq_true] at hv
    exact hv.2 d (List.mem_singleton.2 rfl)
  have hP := fun (W : World) (hb : Below W0.heap.size W0 W) => putList_gone bs' d n₀ W N a l c hN hNs hs1 hs2 (by omega) (by have := hb.size; omega) (hl1.below (hb.mono (by omega))) hO (hlB.below (hb.mono (by omega))) (fun x hx => (hmem x hx).1) (fun x hx => OkV.formed (hmem x hx).2)
  rw [hf] at hLf
  rw [hW0] at hC
  replace hC := Lib.hid hC
  replace hLf := Lib.hid hLf
  replace hP := Lib.hid hP
  clear hl1 hL hS hv hS1 hlB hB hf hO hall hmem hfs hN
  go_enter Tryz.func26, Tryz.ntmps26
  go_wp2_with fail
  refine (hC.out).mono ?_
  rintro e w1 ⟨rfl, hbe⟩
  rw [← hW0] at hbe
  obtain ⟨⟨b0, b1⟩, -⟩ := c2_cells ((hbe.block w.heap.size (by omega)).trans hsg)
  have hLw := Lib.hid (hLf.out w1 hbe)
  have hz1 := hbe.size
  replace hbe := Lib.hid hbe
  go_wp2_with fail
  refine (hLw.out).mono ?_
  rintro e w2 ⟨rfl, hB2⟩
  have hz2 := hB2.size
  have hbe2 : Below W0.heap.size W0 w2 := hbe.out.trans (hB2.mono (by omega))
  obtain ⟨⟨y0, y1, y2⟩, -⟩ := c3_cells ((hbe2.block (w.heap.size + 1) (by omega)).trans hbx)
  have hPw := Lib.hid (hP.out w2 hbe2)
  replace hbe2 := Lib.hid hbe2
  replace hB2 := Lib.hid hB2
  clear b0 b1
  go_wp2_with fail
  refine (hPw.out).mono ?_
  rintro e w3 ⟨rfl, hB3⟩
  have hz3 := hB3.size
  have hb3 : Below W0.heap.size W0 w3 := hbe2.out.trans (hB3.mono (by omega))
  have q1 := heap_old (o := .cells #[.int .i64 0, .int .i64 0, .slice none 0 0] 28) ((hb3.block (w.heap.size + 1 + 1) (by omega)).trans hrs)
  obtain ⟨⟨p0, p1, p2⟩, p3, p4, p5⟩ := c3_cells q1
  obtain ⟨W3, e3, -, ⟨g0, g1, g2⟩, t2, t3⟩ := stored3 (.int .i64 0) (.int .i64 0) (.slice none 0 0) q1
  have hbf : Below w.heap.size w (w3.alloc (.cells #[.int .i64 0, .int .i64 0, .slice none 0 0] 28)) := (Below.up hB0 hb3).alloc (by have := hB0.size; omega) _
  replace e3 := Lib.hid e3
  replace g0 := Lib.hid g0
  replace g1 := Lib.hid g1
  replace g2 := Lib.hid g2
  replace hB3 := Lib.hid hB3
  replace hb3 := Lib.hid hb3
  replace hbf := Lib.hid hbf
  replace t3 := Lib.hid t3
  clear q1 y0 y1 y2 t2
  go_wp2_with fail
  rw [← e3.out]
  have h0 := g0.out
  have h1 := g1.out
  have h2 := g2.out
  exact bodyPost_ret (v := .tuple #[.agg #[.int .i64 0, .int .i64 0, .slice none 0 0], .int .i64 3]) (by simp [results, Tryz.f26, go_sem, h0, h1, h2]) rfl ⟨none, 0, 0, rfl, Fresh.nil _ _ _ _, hbf.out.trans (t3.out.mono (by omega))⟩

end Go.Proofs.YtaieplfegngjnaaGreat
