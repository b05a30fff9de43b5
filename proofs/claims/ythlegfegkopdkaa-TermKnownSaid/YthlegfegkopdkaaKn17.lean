/- Own text, joined of: E2.  -/
import Derived.Deep.Cut
import Derived.Test.YthlegfegkopdkaaKn16

namespace Go.Proofs.Ythlegfegkopdkaa
open Go.RowKit Go.Shelf

mutual
def fvT : Tm → Nat → Bool
  | .mk op n ks => fvKs op n ks 0 (fun i => decide (op = 1) && decide ((i : Int) = n))
def fvKs (op n : Int) : List Tm → Nat → (Nat → Bool) → Nat → Bool
  | [], _, acc => acc
  | t :: ts, k, acc => fvKs op n ts (k + 1) (orSet acc (if op = 8 ∧ k = 1 then setB (fvT t) n.toNat false else fvT t))
end
theorem fvT_eq (t : Tm) : fvT t = fvKs t.op t.n t.kids 0 (fun i => decide (t.op = 1) && decide ((i : Int) = t.n)) := by cases t; rfl
theorem fvKs_drop (op n : Int) (ks : List Tm) (k : Nat) (acc : Nat → Bool) (h : k < ks.length) :
    fvKs op n (ks.drop k) k acc = fvKs op n (ks.drop (k + 1)) (k + 1) (orSet acc (if op = 8 ∧ k = 1 then setB (fvT ks[k]) n.toNat false else fvT ks[k])) := by
  rw [List.drop_eq_getElem_cons h, fvKs]

mutual
/-- What the walks over variables need of a formed expression. -/
def OkV : Tm → Prop
  | .mk op n ks => ((op = 1 ∨ op = 8) → 0 ≤ n ∧ n < 20) ∧ (op = 1 → ks = []) ∧ (op = 8 → ks.length = 2) ∧ OkVs ks
def OkVs : List Tm → Prop
  | [] => True
  | t :: ts => OkV t ∧ OkVs ts
end
theorem OkVs_get : ∀ (ks : List Tm) (k : Nat) (h : k < ks.length), OkVs ks → OkV ks[k]
  | t :: ts, 0, _, hk => by simp only [OkVs] at hk; exact hk.1
  | t :: ts, k + 1, h, hk => by simp only [OkVs] at hk; exact OkVs_get ts k (by simpa using h) hk.2
theorem OkV.open {t : Tm} (h : OkV t) : ((t.op = 1 ∨ t.op = 8) → 0 ≤ t.n ∧ t.n < 20) ∧ (t.op = 1 → t.kids = []) ∧ (t.op = 8 → t.kids.length = 2) ∧ OkVs t.kids := by
  cases t; rw [OkV] at h; exact h

abbrev zs : Obj := .cells #[.bool false, .bool false, .bool false, .bool false, .bool false, .bool false, .bool false, .bool false, .bool false, .bool false, .bool false, .bool false, .bool false, .bool false, .bool false, .bool false, .bool false, .bool false, .bool false, .bool false] 82

theorem load_set {ops : Array Oper} {rest : List Oper} {o : Oper} {a : Act} {w : World} {Q : Exit → Act → World → Prop} (x : Operand) {B : Nat} {f : Nat → Bool} (h : SetAt w B f) (hgd : o.guard = none) (ho : o.op = .load 82 x)
    (hx : a.eval x = .pointer (some ⟨B, 0, none⟩)) (k : wpList Try.prog ops Q rest (a.put o.dst (.agg (vs f))) w) : wpList Try.prog ops Q (o :: rest) a w :=
  wpList_load_row hgd 82 x ho B hx 82 _ (0, 0) _ h u79 rfl (i79 _) k
theorem store_set {ops : Array Oper} {rest : List Oper} {o : Oper} {a : Act} {w : World} {Q : Exit → Act → World → Prop} (x y : Operand) {B : Nat} {f : Nat → Bool} (g : Nat → Bool) (h : SetAt w B f) (hgd : o.guard = none) (ho : o.op = .store 82 x y)
    (hx : a.eval x = .pointer (some ⟨B, 0, none⟩)) (hy : a.eval y = .agg (vs g)) (k : wpList Try.prog ops Q rest (a.put o.dst undef) (w.setRow B (vs g))) : wpList Try.prog ops Q (o :: rest) a w :=
  wpList_store_row hgd 82 x y ho B _ hx hy 82 _ h (i79 _) (by rw [vs_size, vs_size]) (vs_one _) k

theorem after_kid {wr w1 : World} {o : Obj} (F : Nat → Bool) (hbe : Below (wr.alloc o).heap.size (wr.alloc o) w1) :
    ∃ w2, w2 = (w1.alloc zs).setRow w1.heap.size (vs F) ∧ Below wr.heap.size wr w2 ∧ SetAt w2 w1.heap.size F ∧ wr.heap.size < w1.heap.size ∧ w2.heap.size = w1.heap.size + 1 := by
  have hz := hbe.size
  rw [World.size_alloc] at hz hbe
  have hx : Below wr.heap.size wr w1 := ((Below.refl _ _).alloc (Nat.le_refl _) o).trans (hbe.mono (by omega))
  exact ⟨_, rfl, below_row (hx.alloc hx.size zs) hx.size (vs F), (SetAt.none w1).store F, by omega, by simp⟩

theorem vs_none_set {n : Nat} (h : n < 20) : ([.bool false, .bool false, .bool false, .bool false, .bool false, .bool false, .bool false, .bool false, .bool false, .bool false, .bool false, .bool false, .bool false, .bool false, .bool false, .bool false, .bool false, .bool false, .bool false, .bool false].set n (Value.bool true)).toArray = vs (setB (fun _ => false) n true) := by
  rw [← vs_set _ _ h, vs_none, List.setIfInBounds_toArray]
theorem SetAt.new2 (w : World) (o o' : Obj) (f : Nat → Bool) : SetAt (((w.alloc o).alloc o').alloc (.cells (vs f) 82)) (w.heap.size + 1 + 1) f := by
  have := SetAt.new ((w.alloc o).alloc o') f
  rw [World.size_alloc, World.size_alloc] at this
  exact this
theorem SetAt.none1 (w : World) (o o' : Obj) : SetAt (((w.alloc o).alloc zs).alloc o') (w.heap.size + 1) (fun _ => false) := by
  have := (SetAt.none (w.alloc o)).alloc o'
  rw [World.size_alloc] at this
  exact this

set_option maxRecDepth 100000 in
set_option maxHeartbeats 500000 in
/-- 'freeVars'. -/
theorem freeVars_any (N : Nat) : ∀ (d : DT) (n₀ : Nat) (w : World), d.size ≤ N → n₀ ≤ w.heap.size → Lies n₀ w d → OkV d.tm →
    Calls Try.prog 58 #[.agg #[.int .i64 d.op, .int .i64 d.n, .slice d.a d.l d.c]] w fun e w' => e = .returned (.agg (vs (fvT d.tm))) ∧ Below w.heap.size w w' := by
  induction N with
  | zero => intro d _ _ h; have := dsize_pos d; omega
  | succ N ih =>
    intro d n₀ w hN hn hL hO
    replace ih := Lib.hid ih
    obtain ⟨hl, hlc, hc, hk⟩ := hL.open
    obtain ⟨o1, o2, o3, o4⟩ := hO.open
    rw [DT.tm_op, DT.tm_n] at o1
    rw [DT.tm_op] at o2 o3
    have hfv := fvT_eq d.tm
    rw [DT.tm_op, DT.tm_n] at hfv
    have hsz := Lib.hid (dsize_eq d)
    have hB1 : Below w.heap.size w (w.alloc (bx d)) := (Below.refl _ _).alloc (Nat.le_refl _) _
    have s1 : SetAt (((w.alloc (bx d)).alloc zs).alloc zs) (w.heap.size + 1) (fun _ => false) := by
      have := (SetAt.none (w.alloc (bx d))).alloc zs
      rw [World.size_alloc] at this
      exact this
    have s2 : SetAt (((w.alloc (bx d)).alloc zs).alloc zs) (w.heap.size + 1 + 1) (fun _ => false) := by
      have := SetAt.none ((w.alloc (bx d)).alloc zs)
      rw [World.size_alloc, World.size_alloc] at this
      exact this
    by_cases h1 : d.op = 1
    · obtain ⟨n, hnn⟩ : ∃ n : Nat, d.n = n := ⟨d.n.toNat, by have := (o1 (.inl h1)).1; omega⟩
      have hn20 : n < 20 := by have := (o1 (.inl h1)).2; omega
      have hkn : d.kids = [] := by have := o2 h1; rw [DT.tm_kids] at this; simpa using this
      have hl0 : d.l = 0 := by rw [hl, hkn]; rfl
      have hv : Hid (vs (fvT d.tm) = vs (setB (fun _ => false) n true)) := Lib.hid (by
        rw [hfv, o2 h1]
        refine vs_congr (fun i _ => ?_)
        simp only [fvKs, h1, hnn, setB, decide_true, Bool.true_and]
        by_cases e : i = n
        · subst e; simp
        · rw [if_neg e]; simp; omega)
      have o5 : (n : Int) < 20 := by omega
      clear hL hO o1 o2 o3 o4 hfv hk hl
      go_enter Try.func58, Try.ntmps58
      go_wp2_with fail
      go_loopw [16] (fun i wi => i = .int .i64 0 ∧ SetAt wi (w.heap.size + 1 + 1) (setB (fun _ => false) n true) ∧ SetAt wi (w.heap.size + 1) (fun _ => false) ∧ Below w.heap.size w wi) (fun _ _ => 0)
      case atStart =>
        rw [vs_none_set hn20]
        refine ⟨rfl, SetAt.new2 _ _ _ _, SetAt.none1 _ _ _, ?_⟩
        exact (((Below.refl _ _).alloc (Nat.le_refl _) _).alloc (by simp) _).alloc (by simp; omega) _
      case round =>
        obtain ⟨rfl, t2, t1, hb⟩ := hrel
        replace hb := Lib.hid hb
        have hl1 : ¬ ((0 : Int) < (d.l : Int)) := by omega
        go_wp2_with (first
          | refine wpList_load_row rfl 82 _ rfl (w.heap.size + 1 + 1) rfl 82 _ (0, 0) _ t2 u79 rfl (i79 _) ?_
          | refine wpList_store_row rfl 82 _ _ rfl (w.heap.size + 1) _ rfl rfl 82 _ t1 (i79 _) (by rw [vs_size, vs_size]) (vs_one _) ?_)
        refine bodyPost_ret (results_cell_row rfl _ _ (w.heap.size + 1) 82 _ (0, 0) _ rfl (t1.store _) u79 rfl (i79 _)) rfl ⟨by rw [hv.out], below_row hb.out (by omega) _⟩
    · have hb2 : Below (w.heap.size + 1) (w.alloc (bx d)) (((w.alloc (bx d)).alloc zs).alloc zs) := ((Below.refl _ _).alloc (by simp) _).alloc (by simp) _
      have hst : Hid (fvT d.tm = fvKs d.op d.n (d.tm.kids.drop 0) 0 (fun _ => false)) := Lib.hid (by
        rw [hfv, List.drop_zero]; simp only [h1, decide_false, Bool.false_and])
      replace hb2 := Lib.hid hb2
      replace hl := Lib.hid hl
      replace o1 := Lib.hid o1
      replace o4 := Lib.hid o4
      clear o2 o3 hO hfv
      have hll : d.l ≤ 9223372036854775807 := by omega
      have hop : (d.op == 1) = false := by simpa using h1
      go_enter Try.func58, Try.ntmps58
      go_wp2_with fail
      go_loopw [4, 5, 6, 16] (fun _ _ _ i wi => ∃ (k : Nat) (acc : Nat → Bool), k ≤ d.l ∧ i = .int .i64 k ∧ Hid (fvT d.tm = fvKs d.op d.n (d.tm.kids.drop k) k acc) ∧ SetAt wi (w.heap.size + 1 + 1) acc ∧ SetAt wi (w.heap.size + 1) (fun _ => false) ∧ Below (w.heap.size + 1) (w.alloc (bx d)) wi) (fun _ _ _ i _ => d.l - (intOf i).toNat)
      case atStart => exact ⟨0, _, by omega, rfl, hst, s2, s1, hb2.out⟩
      case round =>
        obtain ⟨k, acc, hk1, rfl, hvk, t2, t1, hb⟩ := hrel
        clear s1 s2 hst hb2
        have hbw := hB1.trans (hb.mono (by omega))
        have hz := hb.size
        rw [World.size_alloc] at hz
        by_cases hlt : k < d.l
        · have hkd : k < d.kids.length := by have := hl.out; omega
          rcases hk with hk | ⟨b, off, ha, hbn, hks⟩
          · rw [hk] at hkd; simp at hkd
          obtain ⟨g1, g2⟩ := LiesAll.get _ hks k hkd
          obtain ⟨p0, p1, p2⟩ := g1.below (hbw.mono hn) hbn
          have hsk := dsize_kid d.kids k hkd
          have hB2 : Below wr.heap.size wr (wr.alloc (bx d.kids[k])) := (Below.refl _ _).alloc (Nat.le_refl _) _
          have hC := ih.out d.kids[k] n₀ (wr.alloc (bx d.kids[k])) (by have := hsz.out; omega) (by simp; omega) (g2.below ((hbw.trans (hB2.mono (by omega))).mono hn))
            (by have := OkVs_get _ k (by rw [DT.tm_kids, List.length_map]; exact hkd) o4.out; simp only [DT.tm_kids, List.getElem_map] at this; exact this)
          have hstep : Hid (fvT d.tm = fvKs d.op d.n (d.tm.kids.drop (k + 1)) (k + 1) (orSet acc (if d.op = 8 ∧ k = 1 then setB (fvT d.kids[k].tm) d.n.toNat false else fvT d.kids[k].tm))) := Lib.hid (by
            rw [hvk.out, fvKs_drop _ _ _ k _ (by rw [DT.tm_kids, List.length_map]; exact hkd)]
            simp only [DT.tm_kids, List.getElem_map])
          obtain ⟨F, hF⟩ : ∃ F, F = fvT d.kids[k].tm := ⟨_, rfl⟩
          rw [← hF] at hstep hC
          have a0 : wr.cell? ⟨w.heap.size, 0, none⟩ = some (.int .i64 d.op) := by rw [hb.cell (by simp)]; go_cell
          have a1 : wr.cell? ⟨w.heap.size, 1, none⟩ = some (.int .i64 d.n) := by rw [hb.cell (by simp)]; go_cell
          have hwth := fun f g W => with_any f g W
          replace hC := Lib.hid hC
          replace hwth := Lib.hid hwth
          have hkl : (k : Int) < (d.l : Int) := by omega
          clear hL hks g1 g2 hF o4 ih
          rw [ha]
          by_cases h8 : d.op = 8
          · by_cases hk8 : k = 1
            · skip
              have hop8 : (d.op == 8) = true := by simpa using h8
              have hk1' : ((k : Int) == 1) = true := by simp; omega
              obtain ⟨n, hnn⟩ : ∃ n : Nat, d.n = n := ⟨d.n.toNat, by have := (o1.out (.inr h8)).1; omega⟩
              have hn20 : n < 20 := by have := (o1.out (.inr h8)).2; omega
              have hstep2 : Hid (fvT d.tm = fvKs d.op d.n (d.tm.kids.drop (k + 1)) (k + 1) (orSet acc (setB F n false))) := Lib.hid (by rw [hstep.out, if_pos ⟨h8, hk8⟩, show d.n.toNat = n by omega])
              replace hnn := Lib.hid hnn
              replace h8 := Lib.hid h8
              replace hk8 := Lib.hid hk8
              clear hstep
              go_upto_region 8 with (first
                | (go_at_call 58; refine (hC.out).mono ?_; rintro e w1 ⟨rfl, hbe⟩)
                | (refine store_set (.tmp 6) (.tmp 22) F (SetAt.none w1) rfl rfl rfl rfl ?_))
              obtain ⟨w2, hw2, hx0, hx1, hzx, hz2⟩ := after_kid F hbe
              rw [← hw2]
              have a0' := (hx0.cell (p := ⟨w.heap.size, 0, none⟩) (show w.heap.size < wr.heap.size by omega)).trans a0
              have a1' := (hx0.cell (p := ⟨w.heap.size, 1, none⟩) (show w.heap.size < wr.heap.size by omega)).trans a1
              have t1' := t1.below hx0 t1.lt
              have t2' := t2.below hx0 t2.lt
              clear hw2 hbe
              replace hx0 := Lib.hid hx0
              rw [hnn.out] at a1'
              have p1 := hx1.cell hn20
              have p2 := hx1.frozen n
              have s1' := hx1.set hn20 false
              have t1s := t1'.other (p := ⟨w1.heap.size, n, none⟩) (by have := t1.lt; simp; omega) (.bool false)
              have t2s := t2'.other (p := ⟨w1.heap.size, n, none⟩) (by have := t2.lt; simp; omega) (.bool false)
              have o5 : (n : Int) < 20 := by omega
              have hx0s : Below wr.heap.size wr (w2.setCell ⟨w1.heap.size, n, none⟩ (.bool false)) := Below.setCell hx0.out (p := ⟨w1.heap.size, n, none⟩) (by simp; omega) _
              replace hx0s := Lib.hid hx0s
              go_upto_region 10 with fail
              obtain ⟨w2', hw2'⟩ : ∃ x, x = w2.setCell ⟨w1.heap.size, n, none⟩ (.bool false) := ⟨_, rfl⟩
              rw [← hw2'] at s1' t1s t2s hx0s ⊢
              clear hw2' hx1 t1' t2' hx0 p1 p2
              go_upto_region 11 with (first
                | (refine load_set (.tmp 3) t2s rfl rfl rfl ?_)
                | (refine load_set (.tmp 6) s1' rfl rfl rfl ?_)
                | (go_at_call 44; refine (hwth.out _ _ _).mono ?_; rintro e w3 ⟨rfl, hbe3⟩
                   have t2'' := t2s.below hbe3 t2s.lt
                   have t1'' := t1s.below hbe3 t1s.lt
                   replace hbe3 := Lib.hid hbe3)
                | (refine store_set (.tmp 3) (.tmp 35) _ t2'' rfl rfl rfl rfl ?_))
              go_wp2_with fail
              go_roundw
              case rel =>
                have q1 := below_row (hb.trans ((hx0s.out.mono (by omega)).trans (hbe3.out.mono (by have := hx0s.out.size; omega)))) (show w.heap.size + 1 ≤ w.heap.size + 1 + 1 by omega) (vs (orSet acc (setB F n false)))
                have q2 := t1''.rowOther (B' := w.heap.size + 1 + 1) (by omega) (vs (orSet acc (setB F n false)))
                refine ⟨k + 1, orSet acc (setB F n false), by omega, by go_num, hstep2, t2''.store _, q2, q1⟩
              case measure => simp [intOf]; omega
            · have hstep2 : Hid (fvT d.tm = fvKs d.op d.n (d.tm.kids.drop (k + 1)) (k + 1) (orSet acc F)) := Lib.hid (by rw [hstep.out, if_neg (fun h => hk8 h.2)])
              clear hstep
              have hop8 : (d.op == 8) = true := by simpa using h8
              have hk1' : ((k : Int) == 1) = false := by simp; omega
              replace h8 := Lib.hid h8
              replace hk8 := Lib.hid hk8
              go_upto_region 8 with (first
                | (go_at_call 58; refine (hC.out).mono ?_; rintro e w1 ⟨rfl, hbe⟩)
                | (refine store_set (.tmp 6) (.tmp 22) F (SetAt.none w1) rfl rfl rfl rfl ?_))
              obtain ⟨w2, hw2, hx0, hx1, hzx, hz2⟩ := after_kid F hbe
              rw [← hw2]
              have a0' := (hx0.cell (p := ⟨w.heap.size, 0, none⟩) (show w.heap.size < wr.heap.size by omega)).trans a0
              have a1' := (hx0.cell (p := ⟨w.heap.size, 1, none⟩) (show w.heap.size < wr.heap.size by omega)).trans a1
              have t1' := t1.below hx0 t1.lt
              have t2' := t2.below hx0 t2.lt
              clear hw2 hbe
              replace hx0 := Lib.hid hx0
              go_upto_region 10 with fail
              go_upto_region 11 with (first
                | (refine load_set (.tmp 3) t2' rfl rfl rfl ?_)
                | (refine load_set (.tmp 6) hx1 rfl rfl rfl ?_)
                | (go_at_call 44; refine (hwth.out _ _ _).mono ?_; rintro e w3 ⟨rfl, hbe3⟩
                   have t2'' := t2'.below hbe3 (by have := hx0.out.size; omega)
                   have t1'' := t1'.below hbe3 (by have := hx0.out.size; omega)
                   replace hbe3 := Lib.hid hbe3)
                | (refine store_set (.tmp 3) (.tmp 35) _ t2'' rfl rfl rfl rfl ?_))
              go_wp2_with fail
              go_roundw
              case rel =>
                have q1 := below_row (hb.trans ((hx0.out.mono (by omega)).trans (hbe3.out.mono (by have := hx0.out.size; omega)))) (show w.heap.size + 1 ≤ w.heap.size + 1 + 1 by omega) (vs (orSet acc F))
                have q2 := t1''.rowOther (B' := w.heap.size + 1 + 1) (by omega) (vs (orSet acc F))
                refine ⟨k + 1, orSet acc F, by omega, by go_num, hstep2, t2''.store _, q2, q1⟩
              case measure => simp [intOf]; omega
          · have hstep2 : Hid (fvT d.tm = fvKs d.op d.n (d.tm.kids.drop (k + 1)) (k + 1) (orSet acc F)) := Lib.hid (by rw [hstep.out, if_neg (fun h => h8 h.1)])
            clear hstep
            go_upto_region 8 with (first
              | (go_at_call 58; refine (hC.out).mono ?_; rintro e w1 ⟨rfl, hbe⟩)
              | (refine store_set (.tmp 6) (.tmp 22) F (SetAt.none w1) rfl rfl rfl rfl ?_))
            obtain ⟨w2, hw2, hx0, hx1, hzx, hz2⟩ := after_kid F hbe
            rw [← hw2]
            have a0' := (hx0.cell (p := ⟨w.heap.size, 0, none⟩) (show w.heap.size < wr.heap.size by omega)).trans a0
            have a1' := (hx0.cell (p := ⟨w.heap.size, 1, none⟩) (show w.heap.size < wr.heap.size by omega)).trans a1
            have t1' := t1.below hx0 t1.lt
            have t2' := t2.below hx0 t2.lt
            clear hw2 hbe
            replace hx0 := Lib.hid hx0
            go_upto_region 10 with fail
            go_upto_region 11 with (first
              | (refine load_set (.tmp 3) t2' rfl rfl rfl ?_)
              | (refine load_set (.tmp 6) hx1 rfl rfl rfl ?_)
              | (go_at_call 44; refine (hwth.out _ _ _).mono ?_; rintro e w3 ⟨rfl, hbe3⟩
                 have t2'' := t2'.below hbe3 (by have := hx0.out.size; omega)
                 have t1'' := t1'.below hbe3 (by have := hx0.out.size; omega)
                 replace hbe3 := Lib.hid hbe3)
              | (refine store_set (.tmp 3) (.tmp 35) _ t2'' rfl rfl rfl rfl ?_))
            go_wp2_with fail
            go_roundw
            case rel =>
              have q1 := below_row (hb.trans ((hx0.out.mono (by omega)).trans (hbe3.out.mono (by have := hx0.out.size; omega)))) (show w.heap.size + 1 ≤ w.heap.size + 1 + 1 by omega) (vs (orSet acc F))
              have q2 := t1''.rowOther (B' := w.heap.size + 1 + 1) (by omega) (vs (orSet acc F))
              refine ⟨k + 1, orSet acc F, by omega, by go_num, hstep2, t2''.store _, q2, q1⟩
            case measure => simp [intOf]; omega
        · have he : Hid (fvT d.tm = acc) := Lib.hid (by rw [hvk.out, List.drop_eq_nil_of_le (by rw [DT.tm_kids, List.length_map]; have := hl.out; omega)]; rfl)
          replace hb := Lib.hid hb
          have hl1 : ¬ ((k : Int) < (d.l : Int)) := by omega
          clear hk hL
          replace hbw := Lib.hid hbw
          go_wp2_with (first
            | refine wpList_load_row rfl 82 _ rfl (w.heap.size + 1 + 1) rfl 82 _ (0, 0) _ t2 u79 rfl (i79 _) ?_
            | refine wpList_store_row rfl 82 _ _ rfl (w.heap.size + 1) _ rfl rfl 82 _ t1 (i79 _) (by rw [vs_size, vs_size]) (vs_one _) ?_)
          refine bodyPost_ret (results_cell_row rfl _ _ (w.heap.size + 1) 82 _ (0, 0) _ rfl (t1.store _) u79 rfl (i79 _)) rfl ⟨by rw [he.out], below_row hbw.out (by omega) _⟩

end Go.Proofs.Ythlegfegkopdkaa
