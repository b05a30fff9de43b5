/- Own text, joined of: S9 T1 T2 T3 U1. 'putList', where it does not give up. · 'putList', where it does not give up: the walk. · What a binding list's formedness gives; how large what is put in can be. · 'Subst', where nothing gives up. · What unifying comes to: the plain side. -/
import Derived.Laws.Tables
import Derived.Test.YthlegfegkopdkaaKn24

namespace Go.Proofs.Ythlegfegkopdkaa
open Go.RowKit Go.Shelf Go.Sort

theorem i123' : (Try.prog.info? 84).map (·.size) = some 21 := by kernel_rfl
theorem i123 (bm : Nat) (f : Nat → Bool) : (Try.prog.info? 84).map (·.size) = some (lsA bm f).size := by rw [lsA_size]; exact i123'
theorem lsA_one (bm : Nat) (f : Nat → Bool) : (lsA bm f).all (·.oneCell') = true := by
  unfold lsA; rw [Array.all_append, vs_one]; simp [Value.oneCell']
theorem lsA_lit (bm : Nat) (f : Nat → Bool) : lsA bm f = #[.map (some bm), .bool (f 0), .bool (f 1), .bool (f 2), .bool (f 3), .bool (f 4), .bool (f 5), .bool (f 6), .bool (f 7), .bool (f 8), .bool (f 9), .bool (f 10), .bool (f 11), .bool (f 12), .bool (f 13), .bool (f 14), .bool (f 15), .bool (f 16), .bool (f 17), .bool (f 18), .bool (f 19)] := by kernel_rfl
theorem lsA_none (bm : Nat) : lsA bm (fun _ => false) = #[.map (some bm), .bool false, .bool false, .bool false, .bool false, .bool false, .bool false, .bool false, .bool false, .bool false, .bool false, .bool false, .bool false, .bool false, .bool false, .bool false, .bool false, .bool false, .bool false, .bool false, .bool false] := by rw [lsA_lit]
theorem psA_lit (bm : Nat) (f : Nat → Bool) : psA bm f (fun _ => false) = #[.map (some bm), .bool (f 0), .bool (f 1), .bool (f 2), .bool (f 3), .bool (f 4), .bool (f 5), .bool (f 6), .bool (f 7), .bool (f 8), .bool (f 9), .bool (f 10), .bool (f 11), .bool (f 12), .bool (f 13), .bool (f 14), .bool (f 15), .bool (f 16), .bool (f 17), .bool (f 18), .bool (f 19), .bool false, .bool false, .bool false, .bool false, .bool false, .bool false, .bool false, .bool false, .bool false, .bool false, .bool false, .bool false, .bool false, .bool false, .bool false, .bool false, .bool false, .bool false, .bool false, .bool false] := by kernel_rfl
theorem built125 (bm : Nat) (f : Nat → Bool) : Try.prog.built 88 [(0, .agg (lsA bm f))] = some (psA bm f (fun _ => false)) := by
  rw [lsA_lit, psA_lit]
  kernel_rfl
theorem load_ls {ops : Array Oper} {rest : List Oper} {o : Oper} {a : Act} {w : World} {Q : Exit → Act → World → Prop} (x : Operand) {B bm : Nat} {f : Nat → Bool} (h : LsAt w B bm f) (hgd : o.guard = none) (ho : o.op = .load 84 x)
    (hx : a.eval x = .pointer (some ⟨B, 0, none⟩)) (k : wpList Try.prog ops Q rest (a.put o.dst (.agg (lsA bm f))) w) : wpList Try.prog ops Q (o :: rest) a w :=
  wpList_load_row hgd 84 x ho B hx 84 _ (0, 0) _ h Try.underlying84 rfl (i123 _ _) k
theorem store_ls {ops : Array Oper} {rest : List Oper} {o : Oper} {a : Act} {w : World} {Q : Exit → Act → World → Prop} (x y : Operand) {B : Nat} {cs : Array Value} {bm : Nat} {f : Nat → Bool} (h : w.heap[B]? = some (.cells cs 84 (0, 0))) (hc : cs.size = 21) (hgd : o.guard = none) (ho : o.op = .store 84 x y)
    (hx : a.eval x = .pointer (some ⟨B, 0, none⟩)) (hy : a.eval y = .agg (lsA bm f)) (k : wpList Try.prog ops Q rest (a.put o.dst undef) (w.setRow B (lsA bm f))) : wpList Try.prog ops Q (o :: rest) a w :=
  wpList_store_row hgd 84 x y ho B _ hx hy 84 _ h (i123 _ _) (by rw [lsA_size, hc]) (lsA_one _ _) k
theorem build_ls {ops : Array Oper} {rest : List Oper} {o : Oper} {a : Act} {w : World} {Q : Exit → Act → World → Prop} (x : Operand) {bm : Nat} {f : Nat → Bool} (hgd : o.guard = none) (ho : o.op = .build 88 #[(0, x)])
    (hx : a.eval x = .agg (lsA bm f)) (k : wpList Try.prog ops Q rest (a.put o.dst (.agg (psA bm f (fun _ => false)))) w) : wpList Try.prog ops Q (o :: rest) a w := by
  have hb : (Try.prog.built 88 ((#[(0, x)] : Array (Nat × Operand)).map fun (i, x) => (i, a.eval x)).toList) = some (psA bm f (fun _ => false)) := by
    simp only [List.map_toArray, List.map_cons, List.map_nil, hx]
    exact built125 bm f
  refine wpList_build hgd 88 _ ho (by rw [hb]; rfl) ?_
  rw [hb]
  exact k

abbrev pl0 (w : World) (d : DT) : World := ((((w.alloc (bx d)).alloc zer3).alloc (.cells #[.int .i64 0] 22)).alloc (.map #[] 0)).alloc (.cells #[.map none, .bool false, .bool false, .bool false, .bool false, .bool false, .bool false, .bool false, .bool false, .bool false, .bool false, .bool false, .bool false, .bool false, .bool false, .bool false, .bool false, .bool false, .bool false, .bool false, .bool false] 84)
/-- Only the plain end of a piece of code is awaited. -/
def OnlyN (Q : Exit → Act → World → Prop) : Exit → Act → World → Prop
  | .normal, a, w => Q .normal a w
  | _, _, _ => False
theorem onlyN {P : Program} {c : Code} {Q : Exit → Act → World → Prop} {a : Act} {w : World} (h : c.wp P (OnlyN Q) a w) : c.wp P Q a w :=
  wp_mono h (fun e a w h => by cases e <;> first | exact h | exact h.elim)
theorem onlyN_out {Q : Exit → Act → World → Prop} {a : Act} {w : World} (h : Q .normal a w) : OnlyN Q .normal a w := h
/-- The world of putList's loop after k bindings. -/
structure PL (w w0 : World) (bs : List PB) (k : Nat) (W : World) : Prop where
  map : TMap W (w.heap.size + 1 + 1 + 1) k (bindK bs k)
  ls : LsAt W (w.heap.size + 1 + 1 + 1 + 1) (w.heap.size + 1 + 1 + 1) (stK bs k)
  bel : Below w.heap.size w W
  low : ∀ j, j < w.heap.size + 1 + 1 + 1 → W.heap[j]? = w0.heap[j]?

theorem bindK_els {P : DT → Prop} {bs : List PB} (h : ∀ x ∈ bs, P x.d) : ∀ k, Els P (bindK bs k) := by
  intro k
  have : ∀ (l : List PB) (f : Int → Option DT), (∀ x ∈ l, P x.d) → Els P f → Els P (l.foldl (fun f x => updI f x.v x.d) f) := by
    intro l
    induction l with
    | nil => intro f _ hf; exact hf
    | cons x l ih => intro f hl hf; exact ih _ (fun y hy => hl y (by simp [hy])) (hf.upd (hl x (by simp)))
  exact this _ _ (fun x hx => h x (List.mem_of_mem_take hx)) (fun i d h => by cases h)
theorem Turns.of0' {R : Nat → Prop} {w w' : World} (h : Below w.heap.size w w') : Turns R w w' := (Turns.refl R w).then h
theorem setCells_turns {b : Nat} {w : World} : ∀ (vs : List Value) (o : Nat), Turns (fun k => k = b) w (w.setCells b o vs) := by
  have h : ∀ (vs : List Value) (o : Nat) (W : World), Turns (fun k => k = b) w W → Turns (fun k => k = b) w (W.setCells b o vs) := by
    intro vs
    induction vs with
    | nil => intro o W h; simpa [World.setCells] using h
    | cons v r ih => intro o W h; rw [World.setCells]; exact ih _ _ (h.setCell (p := ⟨b, o, none⟩) (fun _ => rfl) v)
  exact fun vs o => h vs o w (Turns.refl _ _)
theorem pl_step {w w0 w2 w5 : World} {bs : List PB} {k v : Nat} {F : Nat → Bool} (hlt : k < bs.length) (hvv : bs[k].v = v) (hv : v < 20) (hm : TMap w2 (w.heap.size + 1 + 1 + 1) (k + 1) (bindK bs (k + 1)))
    (hls : LsAt w5 (w.heap.size + 1 + 1 + 1 + 1) (w.heap.size + 1 + 1 + 1) F) (hF : F = orSet (stK bs k) (stT bs[k].d.tm (fun _ => false))) (hT : Turns (fun b => b = w.heap.size + 1 + 1 + 1 + 1) w2 w5) (hb : Below w.heap.size w w5)
    (hl : ∀ j, j < w.heap.size + 1 + 1 + 1 → w2.heap[j]? = w0.heap[j]?) (hz : w.heap.size + 1 + 1 + 1 + 1 < w2.heap.size) : PL w w0 bs (k + 1) (w5.setCell ⟨w.heap.size + 1 + 1 + 1 + 1, 1 + v, none⟩ (.bool true)) := by
  refine ⟨?_, ?_, hb.setCell (p := ⟨w.heap.size + 1 + 1 + 1 + 1, 1 + v, none⟩) (by simp; omega) _, fun j hj => ?_⟩
  · exact hm.same ((heap_setCell_other w5 ⟨w.heap.size + 1 + 1 + 1 + 1, 1 + v, none⟩ _ _ (by simp)).trans (hT.block _ (by omega) (by omega)))
  · rw [stK_succ _ _ hlt, hvv, ← hF]
    exact hls.set hv true
  · exact (heap_setCell_other w5 ⟨w.heap.size + 1 + 1 + 1 + 1, 1 + v, none⟩ _ _ (by simp; omega)).trans ((hT.block _ (by omega) (by omega)).trans (hl j hj))

end Go.Proofs.Ythlegfegkopdkaa

namespace Go.Proofs.Ythlegfegkopdkaa
open Go.RowKit Go.Shelf Go.Sort

set_option maxRecDepth 100000 in
set_option maxHeartbeats 4000000 in
theorem putList_any (bs : List PB) (d : DT) (n₀ : Nat) (w : World) (N : Nat) (T : Tm) (a : Option Addr) (l c : Nat) (hT : putF (bindK bs bs.length) (stK bs bs.length) N (fun _ => false) d.tm = some T)
    (hs1 : 1 + d.size ≤ 1000000) (hs2 : ∀ x ∈ bs, 1 + x.d.size ≤ 1000000) (hlen : bs.length ≤ 1000000) (hn : n₀ ≤ w.heap.size) (hL : Lies n₀ w d) (hO : OkV d.tm) (hB : LiesB n₀ w bs a l c) (hv : ∀ x ∈ bs, 0 ≤ x.v ∧ x.v < 20) (hOb : ∀ x ∈ bs, OkV x.d.tm) :
    Calls Try.prog 24 #[dv d, .slice a l c] w fun e w' => ∃ a' l' c', e = .returned (.tuple #[.agg #[.int .i64 T.op, .int .i64 T.n, .slice a' l' c'], .int .i64 0]) ∧ Fresh w w' T a' l' c' ∧ Below w.heap.size w w' := by
  obtain ⟨rfl, h1, h2, h3'⟩ := hB
  have hmf : ∀ (fn : Fn) (first cap : Array Value) (w : World), (Instr.makeFunc fn first cap).run Try.prog w = .ok (.func fn first cap) w := fun _ _ _ _ => rfl
  have hmm := @run_makeMap Try.prog
  replace hT := Lib.hid hT
  replace hL := Lib.hid hL
  replace hs2 := Lib.hid hs2
  replace hv := Lib.hid hv
  replace hOb := Lib.hid hOb
  go_enter_defers Try.func24, Try.ntmps24
  go_wp2_with (refine store_ls (.tmp 6) (.tmp 11) (B := w.heap.size + 1 + 1 + 1 + 1) (bm := w.heap.size + 1 + 1 + 1) (f := fun _ => false) (heap_new' _ (by simp)) rfl rfl rfl rfl (congrArg Value.agg (lsA_none _).symm) ?_)
  obtain ⟨w0, hw0⟩ : ∃ w0, w0 = (pl0 w d).setRow (w.heap.size + 1 + 1 + 1 + 1) (lsA (w.heap.size + 1 + 1 + 1) (fun _ => false)) := ⟨_, rfl⟩
  rw [← hw0]
  have hB0 : Below w.heap.size w w0 := by rw [hw0]; exact below_row (by go_grown) (by omega) _
  have hz0 : w0.heap.size = w.heap.size + 1 + 1 + 1 + 1 + 1 := by rw [hw0]; simp
  have k0 : LsAt w0 (w.heap.size + 1 + 1 + 1 + 1) (w.heap.size + 1 + 1 + 1) (fun _ => false) := by rw [hw0]; exact setRow_heap _ _ _ _ 84 (0, 0) (heap_new' _ (by simp))
  have k1 : TMap w0 (w.heap.size + 1 + 1 + 1) 0 (fun _ => none) := by
    have := TMap.made (((w.alloc (bx d)).alloc zer3).alloc (.cells #[.int .i64 0] 22))
    simp only [World.size_alloc] at this
    refine this.same ?_
    rw [hw0, setRow_other _ _ _ _ (by omega)]
    exact Below.heap_alloc _ _ _ (by simp)
  have k2 : w0.heap[w.heap.size]? = some (bx d) := by rw [hw0, setRow_other _ _ _ _ (by omega)]; exact heap_old (heap_old (heap_old (heap_old (heap_new' _ rfl))))
  have k3 : w0.heap[w.heap.size + 1]? = some zer3 := by rw [hw0, setRow_other _ _ _ _ (by omega)]; exact heap_old (heap_old (heap_old (heap_new' _ (by simp))))
  have k4 : w0.heap[w.heap.size + 1 + 1]? = some (.cells #[.int .i64 0] 22 (0, 0)) := by rw [hw0, setRow_other _ _ _ _ (by omega)]; exact heap_old (heap_old (heap_new' _ (by simp)))
  have hP0 : PL w w0 bs 0 w0 := ⟨by unfold bindK; simpa using k1, by unfold stK; simpa using k0, hB0, fun _ _ => rfl⟩
  replace hP0 := Lib.hid hP0
  replace k0 := Lib.hid k0
  replace k1 := Lib.hid k1
  replace k2 := Lib.hid k2
  replace k3 := Lib.hid k3
  replace k4 := Lib.hid k4
  replace hw0 := Lib.hid hw0
  replace hB0 := Lib.hid hB0
  replace hz0 := Lib.hid hz0
  go_loopw [8, 14] (fun _ i wr => ∃ k : Nat, k ≤ bs.length ∧ i = .int .i64 k ∧ Hid (PL w w0 bs k wr)) (fun _ i _ => bs.length - (intOf i).toNat)
  case atStart => exact ⟨0, by omega, rfl, hP0⟩
  case round =>
    obtain ⟨k, hk, rfl, hI⟩ := hrel
    by_cases hlt : k < bs.length
    · have o1 : (k : Int) < (bs.length : Int) := by omega
      rcases h3' with h3' | ⟨b, off, rfl, hbn, hks⟩
      · rw [h3'] at hlt; simp at hlt
      obtain ⟨g1, g2⟩ := hks k hlt
      have hbl := hI.out.bel
      obtain ⟨c0, c1, c2, c3⟩ := g1.below hbl (by omega)
      have hvk := hv.out _ (List.getElem_mem hlt)
      obtain ⟨v, hvv⟩ : ∃ v : Nat, bs[k].v = v := ⟨bs[k].v.toNat, by omega⟩
      rw [hvv] at c0 hvk
      have hv20 : v < 20 := by omega
      obtain ⟨wb, hwb⟩ : ∃ wb, wb = wr.alloc (.cells #[.int .i64 (v : Nat), .int .i64 bs[k].d.op, .int .i64 bs[k].d.n, .slice bs[k].d.a bs[k].d.l bs[k].d.c] 38) := ⟨_, rfl⟩
      have hls := hI.out.ls
      have hlt0 := hls.lt
      have m1 := fun o => alloc_cell (o := o) hls.map
      have ki := keyI (i := (v : Int)) ⟨by omega, by omega⟩
      have hz := hbl.size
      obtain ⟨g, hmg, hg⟩ := hI.out.map
      have hmb : MapV Try.prog 3 wb (w.heap.size + 1 + 1 + 1) k g := by rw [hwb]; exact hmg.alloc _
      rw [hwb] at hmb
      clear hks hmg
      replace hmb := Lib.hid hmb
      replace hg := Lib.hid hg
      replace g1 := Lib.hid g1
      replace g2 := Lib.hid g2
      replace hls := Lib.hid hls
      replace hvv := Lib.hid hvv
      replace hbl := Lib.hid hbl
      replace hwb := Lib.hid hwb
      go_upto_region 7 with (first | (at_mapUpdate; refine wpList_mapStore _ rfl _ _ _ 60 rfl lawI und99 (w.heap.size + 1 + 1 + 1) k _ rfl hmb.out (by unfold maxLen; omega) _ _ _ rfl rfl ki trivial ?_; intro w2 hm2 hg2))
      have hbw : Below wr.heap.size wr wb := by rw [hwb.out]; exact (Below.refl _ _).alloc (Nat.le_refl _) _
      have hzb : wb.heap.size = wr.heap.size + 1 := by rw [hwb.out]; simp
      rw [← hwb.out] at hg2
      have hz2 := hg2.size
      have hls2 : LsAt w2 (w.heap.size + 1 + 1 + 1 + 1) (w.heap.size + 1 + 1 + 1) (stK bs k) := (hg2.block _ (by omega) (by simp)).trans ((hbw.block _ hlt0).trans hls.out)
      have hbx : w2.heap[wr.heap.size]? = some (.cells #[.int .i64 (v : Nat), .int .i64 bs[k].d.op, .int .i64 bs[k].d.n, .slice bs[k].d.a bs[k].d.l bs[k].d.c] 38 (0, 0)) := (hg2.block _ (by omega) (by simp; omega)).trans (by rw [hwb.out]; exact heap_new' _ rfl)
      have hm3 : TMap w2 (w.heap.size + 1 + 1 + 1) (k + 1) (bindK bs (k + 1)) := by
        rw [bindK_succ _ _ hlt, hvv.out]
        exact TMap.store hg.out hm2
      have hb2 : Below w.heap.size w w2 := (hbl.out.trans (hbw.mono hz)).grown hg2 (by omega) (fun q hq => by cases hq; omega)
      have hlow2 : ∀ j, j < w.heap.size + 1 + 1 + 1 → w2.heap[j]? = w0.heap[j]? := fun j hj => (hg2.block j (by omega) (by simp; omega)).trans ((hbw.block j (by omega)).trans (hI.out.low j hj))
      replace hm3 := Lib.hid hm3
      replace hls2 := Lib.hid hls2
      replace hbx := Lib.hid hbx
      replace hb2 := Lib.hid hb2
      replace hlow2 := Lib.hid hlow2
      clear hm2 hg2 m1
      have hSt := Lib.hid (show ∀ W, Below w2.heap.size w2 W → Calls Try.prog 45 #[dv bs[k].d] W fun e w1 => e = .returned (.agg (vs (stT bs[k].d.tm (fun _ => false)))) ∧ Hid (Below w2.heap.size w2 w1) ∧ w2.heap.size ≤ w1.heap.size from fun W hb =>
        (standing_any bs[k].d n₀ W (hs2.out _ (List.getElem_mem hlt)) (by have := hb.size; omega) ((g2.out.below (hb2.out.mono hn)).below (hb.mono (by omega))) (hOb.out _ (List.getElem_mem hlt))).mono (by
          rintro e w1 ⟨rfl, hB⟩
          exact ⟨rfl, hb.trans (hB.mono hb.size), (hb.trans (hB.mono hb.size)).size⟩))
      have hWi := Lib.hid (show ∀ W, Below w2.heap.size w2 W → Calls Try.prog 44 #[.agg (vs (stK bs k)), .agg (vs (stT bs[k].d.tm (fun _ => false)))] W fun e w1 => e = .returned (.agg (vs (orSet (stK bs k) (stT bs[k].d.tm (fun _ => false))))) ∧ Hid (Below w2.heap.size w2 w1) ∧ w2.heap.size ≤ w1.heap.size from fun W hb =>
        (with_any (stK bs k) (stT bs[k].d.tm (fun _ => false)) W).mono (by
          rintro e w1 ⟨rfl, hB⟩
          exact ⟨rfl, hb.trans (hB.mono hb.size), (hb.trans (hB.mono hb.size)).size⟩))
      have hK := Lib.hid (show ∀ W, Below w2.heap.size w2 W → W.rangeAt (w.heap.size + 1 + 1 + 1 + 1) 1 (vs (stK bs k)).toList ∧ W.cell? ⟨wr.heap.size, 1, none⟩ = some (.int .i64 bs[k].d.op) ∧ W.cell? ⟨wr.heap.size, 2, none⟩ = some (.int .i64 bs[k].d.n) ∧ W.cell? ⟨wr.heap.size, 3, none⟩ = some (.slice bs[k].d.a bs[k].d.l bs[k].d.c) from fun W hb => by
        have h := (hb.block _ (by omega)).trans hbx.out
        have h' : LsAt W (w.heap.size + 1 + 1 + 1 + 1) (w.heap.size + 1 + 1 + 1) (stK bs k) := (hb.block _ hls2.out.lt).trans hls2.out
        exact ⟨h'.range, by rw [cell_of_row W _ 1 _ 38 (0, 0) h]; rfl, by rw [cell_of_row W _ 2 _ 38 (0, 0) h]; rfl, by rw [cell_of_row W _ 3 _ 38 (0, 0) h]; rfl⟩)
      obtain ⟨F, hF⟩ : ∃ F, F = orSet (stK bs k) (stT bs[k].d.tm (fun _ => false)) := ⟨_, rfl⟩
      rw [← hF] at hWi
      obtain ⟨G, hG⟩ : ∃ G, G = stT bs[k].d.tm (fun _ => false) := ⟨_, rfl⟩
      rw [← hG] at hWi hSt
      replace hF := Lib.hid hF
      replace hG := Lib.hid hG
      refine onlyN ?_
      have hz2' : wr.heap.size < w2.heap.size := by omega
      refine wp_region_held (S := fun W' => Turns (fun b => b = w.heap.size + 1 + 1 + 1 + 1) w2 W') (by kernel_rfl) ?_
      have bdr := Lib.hid (show Below w2.heap.size w2 w2.drew from (Below.refl _ _).drew)
      have hS0 : (fun W' : World => Turns (fun b => b = w.heap.size + 1 + 1 + 1 + 1) w2 W') { w2 with drawn := w2.drawn + 1 } := Turns.of0' bdr.out
      have hK3 := Lib.hid (show ∀ W, Turns (fun b => b = w.heap.size + 1 + 1 + 1 + 1) w2 W → W.cell? ⟨wr.heap.size, 1, none⟩ = some (.int .i64 bs[k].d.op) ∧ W.cell? ⟨wr.heap.size, 2, none⟩ = some (.int .i64 bs[k].d.n) ∧ W.cell? ⟨wr.heap.size, 3, none⟩ = some (.slice bs[k].d.a bs[k].d.l bs[k].d.c) from fun W hb => by
        have h := (hb.block wr.heap.size (by omega) (by omega)).trans hbx.out
        exact ⟨by rw [cell_of_row W _ 1 _ 38 (0, 0) h]; rfl, by rw [cell_of_row W _ 2 _ 38 (0, 0) h]; rfl, by rw [cell_of_row W _ 3 _ 38 (0, 0) h]; rfl⟩)
      refine takeH 0 24 (.pointer (some ⟨w.heap.size + 1 + 1 + 1 + 1, 1, none⟩)) rfl rfl (by kernel_rfl) (by kernel_rfl) (by kernel_rfl) (fun _ _ _ h => h) (by rfl) (by intro W hSw; clear hSw; go_simp) hS0 ?_
      try simp only [List.setIfInBounds_toArray, List.set_cons_zero, List.set_cons_succ]
      refine takeH 2 26 (.pointer (some ⟨wr.heap.size, 1, none⟩)) rfl rfl (by kernel_rfl) (by kernel_rfl) (by kernel_rfl) (fun _ _ _ h => h) (by rfl) (by intro W hSw; clear hSw; go_simp) hS0 ?_
      try simp only
      refine takeH 3 27 (dv bs[k].d) rfl rfl (by kernel_rfl) (by kernel_rfl) (by kernel_rfl) (fun _ _ _ h => h) (by rfl) (by intro W hSw; obtain ⟨j1, j2, j3⟩ := hK3.out W hSw; clear hSw; go_simp) hS0 ?_
      try simp only
      refine wpAnyH_ready (rs := [1, 4]) (by kernel_rfl) (by simp) ?_
      refine AllReadyH.cons rfl (fun K hKc => ?_) (AllReadyH.cons rfl (fun K hKc => ?_) AllReadyH.nil)
      · rw [if_pos (by rfl)]
        refine wp_load_mid 82 (.tmp 24) rfl (w.heap.size + 1 + 1 + 1 + 1) 1 rfl (vs (stK bs k)).toList _ (hK.out _ bdr.out).1 u79 rfl (by rw [Array.length_toList, vs_size]; exact i79') ?_
        rw [Array.toArray_toList]
        refine hKc _ _ (Turns.of0' bdr.out) (fun _ => ?_)
        clear hKc K
        try simp only [List.setIfInBounds_toArray, List.set_cons_zero, List.set_cons_succ]
        refine wpAnyH_ready (rs := [4]) (by kernel_rfl) (by simp) ?_
        refine AllReadyH.cons rfl (fun K hKc => ?_) AllReadyH.nil
        go_simp
        go_at_call 45
        refine (hSt.out _ bdr.out).mono ?_
        rintro e w3 ⟨rfl, hb3, hz3⟩
        refine hKc _ _ (Turns.of0' hb3.out) (fun _ => ?_)
        clear hKc K
        try simp only [List.setIfInBounds_toArray, List.set_cons_zero, List.set_cons_succ]
        refine wpAnyH_ready (rs := [5]) (by kernel_rfl) (by simp) ?_
        refine AllReadyH.cons rfl (fun K hKc => ?_) AllReadyH.nil
        go_simp
        go_at_call 44
        refine (hWi.out _ hb3.out).mono ?_
        rintro e w4 ⟨rfl, hb4, hz4⟩
        refine hKc _ _ (Turns.of0' hb4.out) (fun hS4 => ?_)
        clear hKc K
        try simp only [List.setIfInBounds_toArray, List.set_cons_zero, List.set_cons_succ]
        refine takeH 6 30 (.pointer (some ⟨w.heap.size + 1 + 1 + 1 + 1, 1, none⟩)) rfl rfl (by kernel_rfl) (by kernel_rfl) (by kernel_rfl) (fun _ _ _ h => h) (by rfl) (by intro W hSw; clear hSw; go_simp) hS4 ?_
        try simp only [List.setIfInBounds_toArray, List.set_cons_zero, List.set_cons_succ]
        refine wpAnyH_ready (rs := [7]) (by kernel_rfl) (by simp) ?_
        refine AllReadyH.cons rfl (fun K hKc => ?_) AllReadyH.nil
        rw [if_pos (by rfl)]
        have hls4 : LsAt w4 (w.heap.size + 1 + 1 + 1 + 1) (w.heap.size + 1 + 1 + 1) (stK bs k) := (hb4.out.block _ hls2.out.lt).trans hls2.out
        have hth : w4.there (w.heap.size + 1 + 1 + 1 + 1) 1 (vs F).size := by rw [vs_size]; exact hls4.there
        have hiF := i79 F
        have hoF := vs_one F
        with_reducible refine wp_store_mid (P := Try.prog) 82 (.tmp 30) (.tmp 29) ?q1 ?q2 ?q3 ?q4 ?q5 ?q6 ?q7 ?q8 ?q9 ?q10
        case q1 => rfl
        case q5 => rfl
        case q6 => rfl
        case q7 => exact hth
        case q8 => exact hiF
        case q9 => exact hoF
        case' q10 => clear hth hiF hoF
        have hls5 := hls4.stores F
        obtain ⟨w5, hw5⟩ : ∃ w5, w5 = w4.setCells (w.heap.size + 1 + 1 + 1 + 1) 1 (vs F).toList := ⟨_, rfl⟩
        have hT5 : Turns (fun b => b = w.heap.size + 1 + 1 + 1 + 1) w4 w5 := by rw [hw5]; exact setCells_turns _ 1
        rw [← hw5] at hls5 ⊢
        refine hKc _ _ (hS4.trans hT5) (fun _ => ?_)
        clear hKc K
        have hT25 : Turns (fun b => b = w.heap.size + 1 + 1 + 1 + 1) w2 w5 := hS4.trans hT5
        have hb5 : Below w.heap.size w w5 := hb2.out.trans ((hb4.out.mono (by omega)).trans (hT5.below (by omega) (fun j hj e => by omega)))
        have hP5 : Hid (PL w w0 bs (k + 1) (w5.setCell ⟨w.heap.size + 1 + 1 + 1 + 1, 1 + v, none⟩ (.bool true))) := pl_step hlt hvv.out hv20 hm3.out hls5 (by rw [hF.out]) hT25 hb5 hlow2.out (by omega)
        have hc5 := hls5.cell hv20
        have hf5 := hls5.frozen (1 + v)
        have hbx5 := (hT25.block wr.heap.size (by omega) (by omega)).trans hbx.out
        have d5 : w5.cell? ⟨wr.heap.size, 0, none⟩ = some (.int .i64 (v : Nat)) := by rw [cell_of_row w5 _ 0 _ 38 (0, 0) hbx5]; rfl
        replace hT25 := Lib.hid hT25
        replace hb5 := Lib.hid hb5
        replace hls5 := Lib.hid hls5
        clear hbx5 hT5 hS4 hw5 hls4
        try simp only [List.setIfInBounds_toArray, List.set_cons_zero, List.set_cons_succ]
        refine wpAnyH_done (by kernel_rfl) ?_ _
        refine onlyN_out ?_
        go_wp2_with fail
        go_roundw
        case rel => exact ⟨k + 1, by omega, by go_num, hP5⟩
        case measure => simp [intOf]; omega
      · go_simp
        go_at_call 45
        refine (hSt.out _ bdr.out).mono ?_
        rintro e w3 ⟨rfl, hb3, hz3⟩
        refine hKc _ _ (Turns.of0' hb3.out) (fun _ => ?_)
        clear hKc K
        try simp only [List.setIfInBounds_toArray, List.set_cons_zero, List.set_cons_succ]
        refine wpAnyH_ready (rs := [1]) (by kernel_rfl) (by simp) ?_
        refine AllReadyH.cons rfl (fun K hKc => ?_) AllReadyH.nil
        rw [if_pos (by rfl)]
        refine wp_load_mid 82 (.tmp 24) rfl (w.heap.size + 1 + 1 + 1 + 1) 1 rfl (vs (stK bs k)).toList _ (hK.out _ hb3.out).1 u79 rfl (by rw [Array.length_toList, vs_size]; exact i79') ?_
        rw [Array.toArray_toList]
        refine hKc _ _ (Turns.of0' hb3.out) (fun _ => ?_)
        clear hKc K
        try simp only [List.setIfInBounds_toArray, List.set_cons_zero, List.set_cons_succ]
        refine wpAnyH_ready (rs := [5]) (by kernel_rfl) (by simp) ?_
        refine AllReadyH.cons rfl (fun K hKc => ?_) AllReadyH.nil
        go_simp
        go_at_call 44
        refine (hWi.out _ hb3.out).mono ?_
        rintro e w4 ⟨rfl, hb4, hz4⟩
        refine hKc _ _ (Turns.of0' hb4.out) (fun hS4 => ?_)
        clear hKc K
        try simp only [List.setIfInBounds_toArray, List.set_cons_zero, List.set_cons_succ]
        refine takeH 6 30 (.pointer (some ⟨w.heap.size + 1 + 1 + 1 + 1, 1, none⟩)) rfl rfl (by kernel_rfl) (by kernel_rfl) (by kernel_rfl) (fun _ _ _ h => h) (by rfl) (by intro W hSw; clear hSw; go_simp) hS4 ?_
        try simp only [List.setIfInBounds_toArray, List.set_cons_zero, List.set_cons_succ]
        refine wpAnyH_ready (rs := [7]) (by kernel_rfl) (by simp) ?_
        refine AllReadyH.cons rfl (fun K hKc => ?_) AllReadyH.nil
        rw [if_pos (by rfl)]
        have hls4 : LsAt w4 (w.heap.size + 1 + 1 + 1 + 1) (w.heap.size + 1 + 1 + 1) (stK bs k) := (hb4.out.block _ hls2.out.lt).trans hls2.out
        have hth : w4.there (w.heap.size + 1 + 1 + 1 + 1) 1 (vs F).size := by rw [vs_size]; exact hls4.there
        have hiF := i79 F
        have hoF := vs_one F
        with_reducible refine wp_store_mid (P := Try.prog) 82 (.tmp 30) (.tmp 29) ?p1 ?p2 ?p3 ?p4 ?p5 ?p6 ?p7 ?p8 ?p9 ?p10
        case p1 => rfl
        case p5 => rfl
        case p6 => rfl
        case p7 => exact hth
        case p8 => exact hiF
        case p9 => exact hoF
        case' p10 => clear hth hiF hoF
        have hls5 := hls4.stores F
        obtain ⟨w5, hw5⟩ : ∃ w5, w5 = w4.setCells (w.heap.size + 1 + 1 + 1 + 1) 1 (vs F).toList := ⟨_, rfl⟩
        have hT5 : Turns (fun b => b = w.heap.size + 1 + 1 + 1 + 1) w4 w5 := by rw [hw5]; exact setCells_turns _ 1
        rw [← hw5] at hls5 ⊢
        refine hKc _ _ (hS4.trans hT5) (fun _ => ?_)
        clear hKc K
        have hT25 : Turns (fun b => b = w.heap.size + 1 + 1 + 1 + 1) w2 w5 := hS4.trans hT5
        have hb5 : Below w.heap.size w w5 := hb2.out.trans ((hb4.out.mono (by omega)).trans (hT5.below (by omega) (fun j hj e => by omega)))
        have hP5 : Hid (PL w w0 bs (k + 1) (w5.setCell ⟨w.heap.size + 1 + 1 + 1 + 1, 1 + v, none⟩ (.bool true))) := pl_step hlt hvv.out hv20 hm3.out hls5 (by rw [hF.out]) hT25 hb5 hlow2.out (by omega)
        have hc5 := hls5.cell hv20
        have hf5 := hls5.frozen (1 + v)
        have hbx5 := (hT25.block wr.heap.size (by omega) (by omega)).trans hbx.out
        have d5 : w5.cell? ⟨wr.heap.size, 0, none⟩ = some (.int .i64 (v : Nat)) := by rw [cell_of_row w5 _ 0 _ 38 (0, 0) hbx5]; rfl
        replace hT25 := Lib.hid hT25
        replace hb5 := Lib.hid hb5
        replace hls5 := Lib.hid hls5
        clear hbx5 hT5 hS4 hw5 hls4
        try simp only [List.setIfInBounds_toArray, List.set_cons_zero, List.set_cons_succ]
        refine wpAnyH_done (by kernel_rfl) ?_ _
        refine onlyN_out ?_
        go_wp2_with fail
        go_roundw
        case rel => exact ⟨k + 1, by omega, by go_num, hP5⟩
        case measure => simp [intOf]; omega
    · have : k = bs.length := by omega
      subst this
      have hbl := hI.out.bel
      have hz := hbl.size
      have hls := hI.out.ls
      have hlt0 := hls.lt
      have h28 := (hI.out.low _ (by omega)).trans k2.out
      have h3 := (hI.out.low _ (by omega)).trans k3.out
      have h31 := (hI.out.low _ (by omega)).trans k4.out
      obtain ⟨⟨b0, b1, b2⟩, -⟩ := c3_cells h28
      have hE : PutOk n₀ wr (bindK bs bs.length) := bindK_els (fun x hx => by
        rcases h3' with h3' | ⟨b, off, ha, hbn, hks⟩
        · rw [h3'] at hx; cases hx
        · obtain ⟨i, hi, rfl⟩ := List.getElem_of_mem hx
          exact ⟨⟨(hks i hi).2.below (hbl.mono hn), hOb.out _ hx⟩, by have := hs2.out _ hx; omega⟩) _
      have hC := put_any (bindK bs bs.length) (stK bs bs.length) (w.heap.size + 1 + 1 + 1) bs.length (fun N ih => putLet_any _ _ _ _ N ih) N d n₀ wr (fun _ => false) T hT.out (hL.out.below (hbl.mono hn)) (by omega) hs1 hO hI.out.map hE
      replace hC := Lib.hid hC
      replace hls := Lib.hid hls
      replace hbl := Lib.hid hbl
      replace h28 := Lib.hid h28
      replace h3 := Lib.hid h3
      replace h31 := Lib.hid h31
      clear hE h3' hP0
      go_wp2_with (first | refine load_ls (.tmp 6) hls.out rfl rfl rfl ?_ | refine build_ls (.tmp 36) rfl rfl rfl ?_)
      refine (hC.out).mono ?_
      rintro e w1 ⟨a', l', c', rfl, hF, -, hT'⟩
      have hB1 := hT'.b0
      have hz1 := hB1.size
      have hr3 := (hB1.block _ (by omega)).trans h3.out
      have hr31 := (hB1.block _ (by omega)).trans h31.out
      obtain ⟨⟨q0, q1, q2⟩, q3, q4, q5⟩ := c3_cells hr3
      have q6 : w1.cell? ⟨w.heap.size + 1 + 1, 0, none⟩ = some (.int .i64 0) := by rw [cell_of_row w1 _ 0 _ 22 (0, 0) hr31]; rfl
      have q7 : w1.frozen? ⟨w.heap.size + 1 + 1, 0, none⟩ = false := frozen_of_row w1 _ 0 _ 22 hr31
      replace hF := Lib.hid hF
      replace hB1 := Lib.hid hB1
      replace hr3 := Lib.hid hr3
      replace hr31 := Lib.hid hr31
      clear hT' b0 b1 b2
      go_wp2_with fail
      obtain ⟨W3, e3, u3, -, s2, s3⟩ := stored3 (.int .i64 T.op) (.int .i64 T.n) (.slice a' l' c') hr3.out
      rw [← e3]
      obtain ⟨W4, hW4⟩ : ∃ W4, W4 = W3.setCell ⟨w.heap.size + 1 + 1, 0, none⟩ (.int .i64 0) := ⟨_, rfl⟩
      have v3 : W4.heap[w.heap.size + 1]? = some (.cells #[.int .i64 T.op, .int .i64 T.n, .slice a' l' c'] 32 (0, 0)) := by rw [hW4]; exact (heap_setCell_other W3 ⟨w.heap.size + 1 + 1, 0, none⟩ _ _ (by simp)).trans u3
      have v31 : W4.heap[w.heap.size + 1 + 1]? = some (.cells #[.int .i64 0] 22 (0, 0)) := by
        rw [hW4, heap_setCell_same W3 _ 0 _ 22 _ ((s2 _ (by omega)).trans hr31.out)]; rfl
      have hB4 : Below (w.heap.size + 1) w1 W4 := by rw [hW4]; exact s3.setCell (p := ⟨w.heap.size + 1 + 1, 0, none⟩) (by simp) _
      have hs4 : ∀ j, wr.heap.size ≤ j → W4.heap[j]? = w1.heap[j]? := fun j hj => by
        rw [hW4, heap_setCell_other W3 ⟨w.heap.size + 1 + 1, 0, none⟩ _ _ (by simp; omega)]
        exact s2 j (by omega)
      rw [← hW4]
      clear q0 q1 q2 q3 q4 q5 q6 q7 hW4 u3 s2 s3 e3
      refine leaves_cons (f := 43) (args := #[.pointer (some ⟨w.heap.size + 1, 0, none⟩), .pointer (some ⟨w.heap.size + 1 + 1, 0, none⟩)]) (by simp) (by simp [go_sem]) ?_
      refine (catch95_idle ⟨w.heap.size + 1, 0, none⟩ ⟨w.heap.size + 1 + 1, 0, none⟩ _).mono ?_
      rintro e u' w5 ⟨rfl, rfl, hB5⟩
      have hz4 := hB4.size
      obtain ⟨⟨x0, x1, x2⟩, -⟩ := c3_cells ((hB5.block _ (by omega)).trans v3)
      have x3 : w5.cell? ⟨w.heap.size + 1 + 1, 0, none⟩ = some (.int .i64 0) := by rw [cell_of_row w5 _ 0 _ 22 (0, 0) ((hB5.block _ (by omega)).trans v31)]; rfl
      have hfin : Fresh w w5 T a' l' c' := (hF.out.up (w := w) (W := w5) hz (fun j h1 h2 => (hB5.block _ (by omega)).trans (hs4 j h1)) (by have := hB5.size; omega))
      have hbf : Below w.heap.size w w5 := hbl.out.trans ((hB1.out.mono hz).trans ((hB4.mono (by omega)).trans (hB5.mono (by omega))))
      simp [Leaves, settle, results, Try.results24, go_sem, x0, x1, x2, x3]
      first | exact ⟨a', l', c', rfl, hfin, hbf⟩ | exact ⟨a', l', c', ⟨rfl, rfl, rfl⟩, hfin, hbf⟩ | (refine ⟨a', l', c', ?_, hfin, hbf⟩; simp)

end Go.Proofs.Ythlegfegkopdkaa

namespace Go.Proofs.Ythlegfegkopdkaa
open Go.RowKit Go.Shelf Go.Sort

theorem formed_size {s : Sg} {t : Tm} (h : formedB s t = true) : t.size ≤ 40 := by
  unfold formedB at h
  rw [Bool.and_eq_true] at h
  have := ((weigh_iff t 40 12 (by omega)).1.1 (by simpa using h.1)).1
  omega
theorem lfB_all {s : Sg} : ∀ {l : List (Int × Tm)} {b : Int}, lfB s b l = true → -1 ≤ b → b ≤ 19 → ((l.length : Int) ≤ 19 - b) ∧ ∀ x ∈ l, (0 ≤ x.1 ∧ x.1 < 20) ∧ formedB s x.2 = true
  | [], b, _, h1, h2 => ⟨by simp; omega, fun x hx => by cases hx⟩
  | x :: xs, b, h, h1, h2 => by
    rw [lfB_cons, Bool.and_eq_true, Bool.and_eq_true, Bool.and_eq_true] at h
    obtain ⟨⟨⟨h3, h4⟩, h5⟩, h6⟩ := h
    have h3' : b < x.1 := by simpa using h3
    have h4' : 0 ≤ x.1 ∧ x.1 ≤ 19 := by simpa [inB] using h4
    obtain ⟨g1, g2⟩ := lfB_all h6 (by omega) h4'.2
    refine ⟨by simp; omega, fun y hy => ?_⟩
    rcases List.mem_cons.1 hy with rfl | hy
    · exact ⟨⟨h4'.1, by omega⟩, h5⟩
    · exact g2 y hy

theorem sizes_le_of {M : Nat} : ∀ {a b : List Tm}, a.length = b.length → (∀ k (h : k < a.length) (h' : k < b.length), b[k].size ≤ a[k].size * M) → sizes b ≤ sizes a * M
  | [], [], _, _ => by simp [sizes]
  | [], _ :: _, h, _ => by simp at h
  | _ :: _, [], h, _ => by simp at h
  | x :: a, y :: b, h, hk => by
    have h0 := hk 0 (by simp) (by simp)
    have h1 := sizes_le_of (a := a) (b := b) (M := M) (by simpa using h) (fun k h h' => hk (k + 1) (by simpa using h) (by simpa using h'))
    simp only [sizes, List.getElem_cons_zero, Nat.add_mul] at h0 ⊢
    omega
theorem putF_size {F : Int → Option DT} {st : Nat → Bool} {M : Nat} (hM : 1 ≤ M) (hF : ∀ i d, F i = some d → d.tm.size ≤ M) : ∀ (N : Nat) (g : Nat → Bool) (t T : Tm), OkV t → putF F st N g t = some T → T.size ≤ t.size * M
  | 0, _, _, _, _, h => by cases h
  | N + 1, g, .mk op n ks, T, hO, h => by
    have hpos := size_pos (Tm.mk op n ks)
    have hle : 1 ≤ (Tm.mk op n ks).size * M := Nat.mul_pos hpos hM
    obtain ⟨o1, o2, o3, o4⟩ := hO.open
    by_cases h1 : op = 1
    · rw [putF_var _ _ _ _ _ _ _ h1, Option.some.injEq] at h
      subst h
      split
      · rename_i hf
        have := hF _ _ (findD_some hf)
        exact Nat.le_trans this (Nat.le_mul_of_pos_left _ hpos)
      · simpa [Tm.size, sizes] using hle
    · by_cases h8 : op = 8
      · subst h8
        have hl := o3 rfl
        simp only [Tm.kids] at hl o4
        match ks, hl, o4, h with
        | [a, b], _, o4, h =>
          simp only [OkVs] at o4
          rw [putF_let] at h
          have key : ∀ (m : Nat) (b0 : Tm) (g' : Nat → Bool), OkV b0 → b0.size = b.size → ((putF F st N g a).bind fun a' => (putF F st N g' b0).map fun b' => Tm.mk 8 m [a', b']) = some T → T.size ≤ (Tm.mk 8 n [a, b]).size * M := fun m b0 g' hb0 hbs h => by
            cases hA : putF F st N g a with
            | none => rw [hA] at h; cases h
            | some A =>
              cases hB : putF F st N g' b0 with
              | none => rw [hA, hB] at h; cases h
              | some B =>
                rw [hA, hB] at h
                simp at h
                subst h
                have e1 := putF_size hM hF N g a A o4.1 hA
                have e2 := putF_size hM hF N g' b0 B hb0 hB
                rw [hbs] at e2
                simp only [Tm.size, sizes, Nat.add_mul]
                omega
          obtain ⟨hn0, hn20⟩ := o1 (.inr rfl)
          simp only [Tm.n] at hn0 hn20
          split at h
          · split at h
            · cases h
            · rename_i m hm
              have := leastN_lt hm
              exact key m _ _ (renT_ok n m (by omega) b o4.2.1) (renT_size n m b o4.2.1) h
          · have hnn : ((n.toNat : Nat) : Int) = n := by omega
            rw [← hnn] at h
            simp only [Int.toNat_natCast] at h
            exact key n.toNat b _ o4.2.1 rfl h
      · rw [putF_node _ _ _ _ _ _ _ h1 h8] at h
        cases hq : ks.mapM (putF F st N g) with
        | none => rw [hq] at h; cases h
        | some ts =>
          rw [hq] at h
          simp at h
          subst h
          obtain ⟨e1, e2⟩ := mapM_some hq
          have := sizes_le_of (a := ks) (b := ts) (M := M) e1.symm (fun k hk hk' => putF_size hM hF N g ks[k] ts[k] (OkVs_get ks k hk o4) (e2 k hk hk'))
          simp only [Tm.size, Nat.add_mul]
          omega

end Go.Proofs.Ythlegfegkopdkaa

namespace Go.Proofs.Ythlegfegkopdkaa
open Go.RowKit Go.Shelf Go.Sort

noncomputable def substA (s : Sg) (d : DT) (bs : List PB) (T : Tm) : Tm × Int :=
  if checkB s [d] = true then (if lfB s (-1) (pbs bs) = true then (if formedB s T = true then (T, 0) else (.mk 0 0 [], 3)) else (.mk 0 0 [], 2)) else (.mk 0 0 [], 2)
def SubstEnd (w : World) (R : Tm × Int) (e : Ending) (w' : World) : Prop :=
  ∃ a l c, e = .returned (.tuple #[.agg #[.int .i64 R.1.op, .int .i64 R.1.n, .slice a l c], .int .i64 R.2]) ∧ Fresh w w' R.1 a l c ∧ Below w.heap.size w w'

set_option maxRecDepth 100000 in
set_option maxHeartbeats 1000000 in
theorem Subst_any (s : Sg) (d : DT) (bs' : List PB) (T : Tm) (n₀ : Nat) (w : World) (ac : Option Addr) (lc cc : Nat) (af : Option Addr) (lf cf : Nat) (a : Option Addr) (l c : Nat) (hs1 : 1 + d.size ≤ 1000000) (hs2 : ∀ x ∈ bs', 1 + x.d.size ≤ 1000000) (hn : n₀ ≤ w.heap.size) (hS : IsSg n₀ w s ac lc cc af lf cf) (hL : Lies n₀ w d) (hB : LiesB n₀ w bs' a l c)
    (hT : checkB s [d] = true → lfB s (-1) (pbs bs') = true → ∃ N, putF (bindK bs' bs'.length) (stK bs' bs'.length) N (fun _ => false) d.tm = some T) :
    Calls Try.prog 8 #[.agg #[.slice ac lc cc, .slice af lf cf], dv d, .slice a l c] w (SubstEnd w (substA s d bs' T)) := by
  obtain ⟨W0, hW0⟩ : ∃ W0, W0 = ((w.alloc (bs 27 ac lc cc af lf cf)).alloc (bx d)).alloc zer3 := ⟨_, rfl⟩
  have hB0 : Below w.heap.size w W0 := by rw [hW0]; go_grown
  have hz0 : W0.heap.size = w.heap.size + 1 + 1 + 1 := by rw [hW0]; simp
  have hl1 := hL.below (hB0.mono hn)
  have hS1 := hS.below (hB0.mono hn)
  have hlB := hB.below (hB0.mono hn)
  have hC := Check_any s d n₀ W0 ac lc cc af lf cf hs1 (by omega) hS1 hl1
  have hbx : W0.heap[w.heap.size + 1]? = some (bx d) := by rw [hW0]; exact heap_old (heap_new' _ (by simp))
  have hrs : W0.heap[w.heap.size + 1 + 1]? = some zer3 := by rw [hW0]; exact heap_new' _ (by simp)
  have hsg : W0.heap[w.heap.size]? = some (bs 27 ac lc cc af lf cf) := by rw [hW0]; exact heap_old (heap_old (heap_new' _ rfl))
  cases hv : checkB s [d]
  · rw [hv] at hC
    have ho : Hid (substA s d bs' T = (.mk 0 0 [], 2)) := Lib.hid (by unfold substA; rw [hv]; rfl)
    have he : errOf false = 2 := rfl
    rw [hW0] at hC
    replace hC := Lib.hid hC
    clear hl1 hL hS hv hS1 hlB hB hT hsg
    go_enter Try.func8, Try.ntmps8
    go_wp2_with fail
    refine (hC.out).mono ?_
    rintro e w1 ⟨rfl, hbe⟩
    rw [← hW0] at hbe
    have q1 := (hbe.block (w.heap.size + 1 + 1) (by omega)).trans hrs
    obtain ⟨⟨p0, p1, p2⟩, p3, p4, p5⟩ := c3_cells q1
    obtain ⟨W3, e3, -, ⟨g0, g1, g2⟩, t2, t3⟩ := stored3 (.int .i64 0) (.int .i64 0) (.slice none 0 0) q1
    replace e3 := Lib.hid e3
    replace g0 := Lib.hid g0
    replace g1 := Lib.hid g1
    replace g2 := Lib.hid g2
    replace hbe := Lib.hid hbe
    replace q1 := Lib.hid q1
    go_wp2_with fail
    rw [← e3.out]
    have h0 := g0.out
    have h1 := g1.out
    have h2 := g2.out
    rw [ho.out]
    exact bodyPost_ret (v := .tuple #[.agg #[.int .i64 0, .int .i64 0, .slice none 0 0], .int .i64 2]) (by simp [results, Try.f8, go_sem, h0, h1, h2]) rfl ⟨none, 0, 0, rfl, Fresh.nil _ _ _ _, hB0.trans ((hbe.out.mono (by omega)).trans (t3.mono (by omega)))⟩
  have hO := OkV.checked hv (List.mem_singleton.2 rfl)
  have hLf := fun (W : World) (hb : Below W0.heap.size W0 W) => listFormed_any s bs' n₀ W ac lc cc af lf cf a l c hs2 (by have := hb.size; omega) (hS1.below (hb.mono (by omega))) (hlB.below (hb.mono (by omega)))
  rw [hv] at hC
  have he : errOf true = 0 := rfl
  cases hf : lfB s (-1) (pbs bs')
  · rw [hf] at hLf
    have ho : Hid (substA s d bs' T = (.mk 0 0 [], 2)) := Lib.hid (by unfold substA; rw [hv, if_pos rfl, hf]; rfl)
    rw [hW0] at hC
    replace hC := Lib.hid hC
    replace hLf := Lib.hid hLf
    clear hl1 hL hS hv hS1 hlB hB hT hf hO
    go_enter Try.func8, Try.ntmps8
    go_wp2_with fail
    refine (hC.out).mono ?_
    rintro e w1 ⟨rfl, hbe⟩
    rw [← hW0] at hbe
    obtain ⟨⟨b0, b1⟩, -⟩ := c2_cells ((hbe.block w.heap.size (by omega)).trans hsg)
    have hLw := Lib.hid (hLf.out w1 hbe)
    have hz1 := hbe.size
    replace hbe := Lib.hid hbe
    go_wp2_with fail
    refine (hLw.out).mono ?_
    rintro e w2 ⟨rfl, hB2⟩
    have q1 := (hB2.block _ (by omega)).trans ((hbe.out.block (w.heap.size + 1 + 1) (by omega)).trans hrs)
    obtain ⟨⟨p0, p1, p2⟩, p3, p4, p5⟩ := c3_cells q1
    obtain ⟨W3, e3, -, ⟨g0, g1, g2⟩, t2, t3⟩ := stored3 (.int .i64 0) (.int .i64 0) (.slice none 0 0) q1
    replace e3 := Lib.hid e3
    replace g0 := Lib.hid g0
    replace g1 := Lib.hid g1
    replace g2 := Lib.hid g2
    replace hB2 := Lib.hid hB2
    replace q1 := Lib.hid q1
    go_wp2_with fail
    rw [← e3.out]
    have h0 := g0.out
    have h1 := g1.out
    have h2 := g2.out
    rw [ho.out]
    exact bodyPost_ret (v := .tuple #[.agg #[.int .i64 0, .int .i64 0, .slice none 0 0], .int .i64 2]) (by simp [results, Try.f8, go_sem, h0, h1, h2]) rfl ⟨none, 0, 0, rfl, Fresh.nil _ _ _ _, hB0.trans ((hbe.out.mono (by omega)).trans ((hB2.out.mono (by omega)).trans (t3.mono (by omega))))⟩
  obtain ⟨N, hN⟩ := hT hv hf
  obtain ⟨hlen, hall⟩ := lfB_all hf (by omega) (by omega)
  have hmem : ∀ x ∈ bs', (0 ≤ x.v ∧ x.v < 20) ∧ formedB s x.d.tm = true := fun x hx => hall (x.v, x.d.tm) (List.mem_map.2 ⟨x, hx, rfl⟩)
  have hlen' : bs'.length ≤ 20 := by simp [pbs] at hlen; omega
  have hfs : formedB s d.tm = true := by
    unfold checkB at hv
    rw [Bool.and_eq_true, List.all_eq_true] at hv
    exact hv.2 d (List.mem_singleton.2 rfl)
  have hTs : T.size ≤ d.tm.size * 40 := putF_size (by omega) (fun i x hx => by
    have : Els (fun y => y.tm.size ≤ 40) (bindK bs' bs'.length) := bindK_els (fun x hx => formed_size (hmem x hx).2) _
    exact this i x hx) N _ _ _ hO hN
  have hds := formed_size hfs
  have hTs' : T.size ≤ 1600 := Nat.le_trans hTs (Nat.le_trans (Nat.mul_le_mul_right 40 hds) (by omega))
  have hP := fun (W : World) (hb : Below W0.heap.size W0 W) => putList_any bs' d n₀ W N T a l c hN hs1 hs2 (by omega) (by have := hb.size; omega) (hl1.below (hb.mono (by omega))) hO (hlB.below (hb.mono (by omega))) (fun x hx => (hmem x hx).1) (fun x hx => OkV.formed (hmem x hx).2)
  have hFo := fun (W : World) (D : DT) (hb : Below W0.heap.size W0 W) (hD : Lies W.heap.size W D) (hDs : D.tm = T) => formed_any s D W.heap.size W ac lc cc af lf cf (by rw [← size_tm, hDs]; omega) (Nat.le_refl _) ((hS1.below (hb.mono (by omega))).wider (by have := hb.size; omega)) hD
  rw [hf] at hLf
  have ho : substA s d bs' T = if formedB s T = true then (T, 0) else (.mk 0 0 [], 3) := by unfold substA; rw [hv, if_pos rfl, hf, if_pos rfl]
  rw [hW0] at hC
  replace hC := Lib.hid hC
  replace hLf := Lib.hid hLf
  replace hP := Lib.hid hP
  replace hFo := Lib.hid hFo
  replace ho := Lib.hid ho
  clear hl1 hL hS hv hS1 hlB hB hT hf hO hall hmem hfs hTs hds hN
  go_enter Try.func8, Try.ntmps8
  go_wp2_with fail
  refine (hC.out).mono ?_
  rintro e w1 ⟨rfl, hbe⟩
  rw [← hW0] at hbe
  obtain ⟨⟨b0, b1⟩, -⟩ := c2_cells ((hbe.block w.heap.size (by omega)).trans hsg)
  have hLw := Lib.hid (hLf.out w1 hbe)
  have hz1 := hbe.size
  replace hbe := Lib.hid hbe
  go_wp2_with fail
  refine (hLw.out).mono ?_
  rintro e w2 ⟨rfl, hB2⟩
  have hz2 := hB2.size
  have hbe2 : Below W0.heap.size W0 w2 := hbe.out.trans (hB2.mono (by omega))
  obtain ⟨⟨y0, y1, y2⟩, -⟩ := c3_cells ((hbe2.block (w.heap.size + 1) (by omega)).trans hbx)
  have hPw := Lib.hid (hP.out w2 hbe2)
  replace hbe2 := Lib.hid hbe2
  replace hB2 := Lib.hid hB2
  clear b0 b1
  go_wp2_with fail
  refine (hPw.out).mono ?_
  rintro e w3 ⟨a', l', c', rfl, hF, hB3⟩
  have hz3 := hB3.size
  obtain ⟨wb, hwb⟩ : ∃ wb, wb = w3.alloc (.cells #[.int .i64 T.op, .int .i64 T.n, .slice a' l' c'] 32) := ⟨_, rfl⟩
  have hb3b : Below w3.heap.size w3 wb := by rw [hwb]; exact (Below.refl _ _).alloc (Nat.le_refl _) _
  have hkb : wb.heap.size = w3.heap.size + 1 := by rw [hwb]; simp
  have hbe3 : Below W0.heap.size W0 wb := hbe2.out.trans ((hB3.mono (by omega)).trans (hb3b.mono (by omega)))
  obtain ⟨D, D1, D2, D3, D4, D5, D6, D7⟩ := hF.is.placed
  have hFw := hFo.out wb D hbe3 ((D1.below hb3b).wider (by omega)) D2
  rw [D2] at hFw
  rw [D3, D4, D5, D6, D7] at hFw
  obtain ⟨b, hbb⟩ : ∃ b, b = formedB s T := ⟨_, rfl⟩
  rw [← hbb] at hFw
  have ho' : Hid (substA s d bs' T = if b = true then (T, 0) else (.mk 0 0 [], 3)) := Lib.hid (by rw [ho.out, hbb])
  have hw3 : wb.heap[w3.heap.size]? = some (.cells #[.int .i64 T.op, .int .i64 T.n, .slice a' l' c'] 32 (0, 0)) := by rw [hwb]; exact heap_new' _ rfl
  rw [hwb] at hFw
  obtain ⟨⟨x0, x1⟩, -⟩ := c2_cells ((hbe3.block w.heap.size (by omega)).trans hsg)
  rw [hwb] at x0 x1
  replace hFw := Lib.hid hFw
  replace hbe3 := Lib.hid hbe3
  replace hF := Lib.hid hF
  replace hB3 := Lib.hid hB3
  replace hb3b := Lib.hid hb3b
  replace hw3 := Lib.hid hw3
  replace hbb := Lib.hid hbb
  clear D1 D2 D3 D4 D5 D6 D7 y0 y1 y2
  go_wp2_with fail
  refine (hFw.out).mono ?_
  rintro e w4 ⟨rfl, hB4⟩
  rw [← hwb] at hB4
  have hz4 := hB4.size
  have q1 := (hB4.block _ (by omega)).trans ((hbe3.out.block (w.heap.size + 1 + 1) (by omega)).trans hrs)
  obtain ⟨⟨p0, p1, p2⟩, p3, p4, p5⟩ := c3_cells q1
  obtain ⟨⟨r0, r1, r2⟩, -⟩ := c3_cells ((hB4.block _ (by omega)).trans hw3.out)
  have hbf : Below w.heap.size w w4 := hB0.trans ((hbe3.out.mono (by omega)).trans (hB4.mono (by omega)))
  have hs4 : ∀ j, j < w3.heap.size → w4.heap[j]? = w3.heap[j]? := fun j hj => (hB4.block j (by omega)).trans (hb3b.out.block j hj)
  replace hB4 := Lib.hid hB4
  replace hs4 := Lib.hid hs4
  replace hbf := Lib.hid hbf
  replace hwb := Lib.hid hwb
  clear x0 x1
  cases b
  · have ho2 : Hid (substA s d bs' T = (.mk 0 0 [], 3)) := Lib.hid (by rw [ho'.out]; rfl)
    obtain ⟨W3, e3, -, ⟨g0, g1, g2⟩, t2, t3⟩ := stored3 (.int .i64 0) (.int .i64 0) (.slice none 0 0) q1
    replace e3 := Lib.hid e3
    replace g0 := Lib.hid g0
    replace g1 := Lib.hid g1
    replace g2 := Lib.hid g2
    clear q1
    go_wp2_with fail
    rw [← e3.out]
    have h0 := g0.out
    have h1 := g1.out
    have h2 := g2.out
    rw [ho2.out]
    exact bodyPost_ret (v := .tuple #[.agg #[.int .i64 0, .int .i64 0, .slice none 0 0], .int .i64 3]) (by simp [results, Try.f8, go_sem, h0, h1, h2]) rfl ⟨none, 0, 0, rfl, Fresh.nil _ _ _ _, hbf.out.trans (t3.mono (by omega))⟩
  · have ho2 : Hid (substA s d bs' T = (T, 0)) := Lib.hid (by rw [ho'.out]; rfl)
    obtain ⟨W3, e3, -, ⟨g0, g1, g2⟩, t2, t3⟩ := stored3 (.int .i64 T.op) (.int .i64 T.n) (.slice a' l' c') q1
    replace e3 := Lib.hid e3
    replace g0 := Lib.hid g0
    replace g1 := Lib.hid g1
    replace g2 := Lib.hid g2
    clear q1
    go_wp2_with fail
    rw [← e3.out]
    have h0 := g0.out
    have h1 := g1.out
    have h2 := g2.out
    rw [ho2.out]
    refine bodyPost_ret (v := .tuple #[.agg #[.int .i64 T.op, .int .i64 T.n, .slice a' l' c'], .int .i64 0]) (by simp [results, Try.f8, go_sem, h0, h1, h2]) rfl ⟨a', l', c', rfl, ?_, hbf.out.trans (t3.mono (by omega))⟩
    exact hF.out.up (w := w) (by omega) (fun j h1 h2 => (t2 j (by omega)).trans (hs4.out j h2)) (by have := t3.size; omega)

end Go.Proofs.Ythlegfegkopdkaa

namespace Go.Proofs.Ythlegfegkopdkaa
open Go.RowKit Go.Shelf Go.Sort

/-- What a value stands for: a variable that is not bound, or a value that is no variable. -/
def opF (F : Int → Option DT) : Nat → DT → Option DT
  | 0, _ => none
  | N + 1, d => if d.op = 1 then (match F d.n with | some b => opF F N b | none => some d) else some d
abbrev ifU (n : Int) : Value := .iface 124 (.agg #[.int .i64 n])
abbrev ifK (d : DT) : Value := .iface 127 (.agg #[.int .i64 d.op, .int .i64 d.n, .slice d.a d.l d.c])
def opV (d : DT) : Value := if d.op = 1 then ifU d.n else ifK d
def vD (n : Int) : DT := .mk 1 n none 0 0 []

/-- Whether variable v stands in nodes, or in what their variables are bound to. -/
def lookL (v : Int) (F : Int → Option DT) (rec : (Nat → Bool) → DT → Bool × (Nat → Bool)) : (Nat → Bool) → List Nd → Bool × (Nat → Bool)
  | met, [] => (false, met)
  | met, x :: xs =>
    if x.2.op ≠ 1 ∨ met x.2.n.toNat = true then lookL v F rec met xs
    else if x.2.n = v then (true, setB met x.2.n.toNat true)
    else match F x.2.n with
      | none => lookL v F rec (setB met x.2.n.toNat true) xs
      | some b => if (rec (setB met x.2.n.toNat true) b).1 = true then rec (setB met x.2.n.toNat true) b else lookL v F rec (rec (setB met x.2.n.toNat true) b).2 xs
def lookF (v : Int) (F : Int → Option DT) : Nat → (Nat → Bool) → DT → Bool × (Nat → Bool)
  | 0, met, _ => (false, met)
  | N + 1, met, d => lookL v F (lookF v F N) met (d.pre 1)
def standsB (v : Int) (F : Int → Option DT) (d : DT) : Bool := (lookF v F 21 (fun _ => false) d).1

theorem lookL_append (v : Int) (F : Int → Option DT) (rec : (Nat → Bool) → DT → Bool × (Nat → Bool)) : ∀ (a b : List Nd) (met : Nat → Bool), (lookL v F rec met a).1 = false → lookL v F rec met (a ++ b) = lookL v F rec (lookL v F rec met a).2 b
  | [], b, met, _ => by simp [lookL]
  | x :: xs, b, met, h => by
    rw [List.cons_append, lookL]
    rw [lookL] at h ⊢
    split
    · rename_i h1; rw [if_pos h1] at h; exact lookL_append v F rec xs b met h
    · rename_i h1
      rw [if_neg h1] at h
      split
      · rename_i h2; rw [if_pos h2] at h; cases h
      · rename_i h2
        rw [if_neg h2] at h
        cases hF : F x.2.n with
        | none => rw [hF] at h; exact lookL_append v F rec xs b _ h
        | some d =>
          rw [hF] at h
          simp only at h ⊢
          split
          · rename_i h3; rw [if_pos h3] at h; rw [h3] at h; cases h
          · rename_i h3; rw [if_neg h3] at h; exact lookL_append v F rec xs b _ h
theorem lookL_stop (v : Int) (F : Int → Option DT) (rec : (Nat → Bool) → DT → Bool × (Nat → Bool)) : ∀ (a b : List Nd) (met : Nat → Bool), (lookL v F rec met a).1 = true → lookL v F rec met (a ++ b) = lookL v F rec met a
  | [], b, met, h => by simp [lookL] at h
  | x :: xs, b, met, h => by
    rw [List.cons_append, lookL]
    rw [lookL] at h ⊢
    split
    · rename_i h1; rw [if_pos h1] at h; exact lookL_stop v F rec xs b met h
    · rename_i h1
      rw [if_neg h1] at h
      split
      · rfl
      · rename_i h2
        rw [if_neg h2] at h
        cases hF : F x.2.n with
        | none => rw [hF] at h; exact lookL_stop v F rec xs b _ h
        | some d =>
          rw [hF] at h
          simp only at h ⊢
          split
          · rfl
          · rename_i h3; rw [if_neg h3] at h; exact lookL_stop v F rec xs b _ h

/-- How many variables are not met yet. -/
def unm (met : Nat → Bool) : Nat := ((List.range 20).filter fun k => !met k).length
theorem unm_le (met : Nat → Bool) : unm met ≤ 20 := by unfold unm; have := List.length_filter_le (fun k => !met k) (List.range 20); simpa using this
theorem unm_set {met : Nat → Bool} {k : Nat} (hk : k < 20) (h : met k = false) : unm (setB met k true) + 1 = unm met := by
  have key : ∀ n, k < n → ((List.range n).filter fun j => !(setB met k true) j).length + 1 = ((List.range n).filter fun j => !met j).length := by
    intro n
    induction n with
    | zero => intro h; omega
    | succ n ih =>
      intro hn
      rw [List.range_succ, List.filter_append, List.filter_append, List.length_append, List.length_append]
      by_cases e : k = n
      · subst e
        have : ((List.range k).filter fun j => !(setB met k true) j) = ((List.range k).filter fun j => !met j) := List.filter_congr (fun j hj => by
          have := List.mem_range.1 hj
          simp [setB, show ¬ j = k by omega])
        rw [this]
        simp [setB, h]
      · have := ih (by omega)
        have e2 : (setB met k true) n = met n := by simp [setB, show ¬ n = k by omega]
        simp only [List.filter_cons, List.filter_nil, e2]
        omega
  exact key 20 hk
theorem lookL_mono (v : Int) (F : Int → Option DT) (rec : (Nat → Bool) → DT → Bool × (Nat → Bool)) (hr : ∀ met d k, met k = true → (rec met d).2 k = true) : ∀ (l : List Nd) (met : Nat → Bool) (k : Nat), met k = true → (lookL v F rec met l).2 k = true
  | [], met, k, h => by simpa [lookL] using h
  | x :: xs, met, k, h => by
    have hs : setB met x.2.n.toNat true k = true := by unfold setB; split <;> simp [h]
    rw [lookL]
    split
    · exact lookL_mono v F rec hr xs met k h
    · split
      · exact hs
      · cases hF : F x.2.n with
        | none => exact lookL_mono v F rec hr xs _ k hs
        | some d =>
          simp only
          split
          · exact hr _ _ _ hs
          · exact lookL_mono v F rec hr xs _ k (hr _ _ _ hs)
theorem lookF_mono (v : Int) (F : Int → Option DT) : ∀ (N : Nat) (met : Nat → Bool) (d : DT) (k : Nat), met k = true → (lookF v F N met d).2 k = true
  | 0, _met, _, _k, h => h
  | N + 1, _met, _d, k, h => lookL_mono v F _ (fun met d k h => lookF_mono v F N met d k h) _ _ k h
theorem filter_len_mono {p q : Nat → Bool} (h : ∀ k, p k = true → q k = true) : ∀ (l : List Nat), (l.filter p).length ≤ (l.filter q).length
  | [] => by simp
  | x :: xs => by
    have := filter_len_mono h xs
    rw [List.filter_cons, List.filter_cons]
    cases hp : p x
    · cases q x <;> simp <;> omega
    · rw [h x hp]; simp; omega
theorem unm_mono {m m' : Nat → Bool} (h : ∀ k, m k = true → m' k = true) : unm m' ≤ unm m := by
  unfold unm
  refine filter_len_mono (fun k hk => ?_) _
  cases hm : m k
  · rfl
  · rw [h k hm] at hk; cases hk

/-- What two values' unification makes of the bindings: none: out of steps; some none: there is no unifier. -/
def bindF (F : Int → Option DT) (n : Int) (y : DT) : Option (Int → Option DT) :=
  if y.op = 1 then (if n = y.n then some F else some (updI F (max n y.n) (vD (min n y.n))))
  else if standsB n F y = true then none else some (updI F n y)
def uniFs (f : (Int → Option DT) → DT → DT → Option (Option (Int → Option DT))) : (Int → Option DT) → List DT → List DT → Option (Option (Int → Option DT))
  | F, x :: xs, y :: ys => match f F x y with
    | none => none
    | some none => some none
    | some (some F') => uniFs f F' xs ys
  | F, _, _ => some (some F)
def uniF : Nat → (Int → Option DT) → DT → DT → Option (Option (Int → Option DT))
  | 0, _, _, _ => none
  | N + 1, F, a, b =>
    match opF F N b, opF F N a with
    | some y, some x =>
      if x.op = 1 then some (bindF F x.n y)
      else if y.op = 1 then some (bindF F y.n x)
      else if x.op = y.op ∧ x.n = y.n ∧ x.kids.length = y.kids.length then uniFs (uniF N) F x.kids y.kids
      else some none
    | _, _ => none

end Go.Proofs.Ythlegfegkopdkaa
