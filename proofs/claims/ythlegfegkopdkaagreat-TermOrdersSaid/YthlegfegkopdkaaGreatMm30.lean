/- Own text, joined of: W3 W4 W5. The law's 'small', 'given', 'values'. · The law's 'values', and TermSorts. · TermSorts, of arguments that lie in memory. -/
import Derived.Test.YthlegfegkopdkaaGreatMm29

namespace Go.Proofs.YthlegfegkopdkaaGreat
open Go.RowKit Go.Shelf Go.Sort

theorem two_lies' {n₀ : Nat} {w : World} {d x : DT} (h1 : Lies n₀ w d) (h2 : Lies n₀ w x) (hn : n₀ ≤ w.heap.size) :
    LiesAll (w.heap.size + 1) (w.alloc (.cells #[.int .i64 d.op, .int .i64 d.n, .slice d.a d.l d.c, .int .i64 x.op, .int .i64 x.n, .slice x.a x.l x.c] 28)) [d, x] w.heap.size 0 := by
  have hb : Below n₀ w (w.alloc (.cells #[.int .i64 d.op, .int .i64 d.n, .slice d.a d.l d.c, .int .i64 x.op, .int .i64 x.n, .slice x.a x.l x.c] 28)) := (Below.refl _ _).alloc hn _
  simp only [LiesAll]
  exact ⟨⟨⟨by go_cell, by go_cell, by go_cell⟩, (h1.below hb).wider (by omega)⟩, ⟨⟨by go_cell, by go_cell, by go_cell⟩, (h2.below hb).wider (by omega)⟩, trivial⟩
theorem one_lies' {n₀ : Nat} {w : World} {d : DT} (h1 : Lies n₀ w d) (hn : n₀ ≤ w.heap.size) :
    LiesAll (w.heap.size + 1) (w.alloc (.cells #[.int .i64 d.op, .int .i64 d.n, .slice d.a d.l d.c] 28)) [d] w.heap.size 0 := by
  have hb : Below n₀ w (w.alloc (.cells #[.int .i64 d.op, .int .i64 d.n, .slice d.a d.l d.c] 28)) := (Below.refl _ _).alloc hn _
  simp only [LiesAll]
  exact ⟨⟨⟨by go_cell, by go_cell, by go_cell⟩, (h1.below hb).wider (by omega)⟩, trivial⟩

def smallDs (ds : List DT) : Bool := ds.all fun d => smallT d.tm
def formedDs (s : Sg) (ds : List DT) : Bool := ds.all fun d => formedB s d.tm
theorem all_no {ds : List DT} {f : DT → Bool} {k : Nat} (h : k < ds.length) (hf : f ds[k] = false) : ds.all f = false := List.all_eq_false.2 ⟨ds[k], List.getElem_mem h, by simp [hf]⟩
theorem all_yes {ds : List DT} {f : DT → Bool} (h : ∀ k (hk : k < ds.length), f ds[k] = true) : ds.all f = true := by
  rw [List.all_eq_true]
  intro x hx
  obtain ⟨k, hk, rfl⟩ := List.getElem_of_mem hx
  exact h k hk

/-- The box of the signature. -/
theorem box_sig {w W : World} {ac : Option Addr} {lc cc : Nat} {af : Option Addr} {lf cf : Nat} (h : Below (w.heap.size + 1) (w.alloc (.cells #[.slice ac lc cc, .slice af lf cf] 24)) W) :
    W.cell? ⟨w.heap.size, 0, none⟩ = some (.slice ac lc cc) ∧ W.cell? ⟨w.heap.size, 1, none⟩ = some (.slice af lf cf) ∧ Below w.heap.size w W ∧ w.heap.size + 1 ≤ W.heap.size := by
  refine ⟨?_, ?_, ((Below.refl _ w).alloc (Nat.le_refl _) _).trans (h.mono (Nat.le_succ _)), by have := h.size; simpa using this⟩
  · rw [h.cell (by simp)]; go_cell
  · rw [h.cell (by simp)]; go_cell

set_option maxRecDepth 100000 in
set_option maxHeartbeats 1000000 in
theorem small_any (s : Sg) (ds : List DT) (n₀ : Nat) (w : World) (ac : Option Addr) (lc cc : Nat) (af : Option Addr) (lf cf : Nat) (b off c : Nat) (hs : IsSg n₀ w s ac lc cc af lf cf) (hL : LiesAll n₀ w ds b off) (hbn : b < n₀) (hc : ds.length ≤ c ∧ c ≤ 1000) (hn : n₀ ≤ w.heap.size) :
    Calls Tryz.prog 11 #[.agg #[.slice ac lc cc, .slice af lf cf], .slice (some ⟨b, off, none⟩) ds.length c] w fun e w' => e = .returned (.bool (smallDs ds && smallB s)) ∧ Below w.heap.size w w' := by
  replace hs := Lib.hid hs
  replace hL := Lib.hid hL
  go_enter Tryz.func11, Tryz.ntmps11
  go_wp2_with fail
  go_loopw [5] (fun i wi => ∃ k : Nat, k ≤ ds.length ∧ i = .int .i64 k ∧ Hid (Below (w.heap.size + 1) (w.alloc (.cells #[.slice ac lc cc, .slice af lf cf] 24)) wi) ∧ Hid (∀ j (hj : j < ds.length), j < k → smallT ds[j].tm = true)) (fun i _ => ds.length - (intOf i).toNat)
  case atStart => exact ⟨0, by omega, rfl, Lib.hid (Below.refl _ _), Lib.hid (fun j h h0 => by omega)⟩
  case round =>
    obtain ⟨k, hkk, rfl, hb, hall⟩ := hrel
    obtain ⟨s0, s1, hbw, hz⟩ := box_sig hb.out
    replace hbw := Lib.hid hbw
    by_cases hp : k < ds.length
    · have o1 : (k : Int) < (ds.length : Int) := by omega
      obtain ⟨q2, q3⟩ := LiesAll.get _ (LiesAll.below (hbw.out.mono hn) _ hbn hL.out) k hp
      obtain ⟨p0, p1, p2⟩ := q2
      have hC := Small_any ds[k].tm n₀ wr ds[k].a ds[k].l ds[k].c (Lies.isTm _ q3) (by omega)
      rw [show decide (0 ≤ weigh ds[k].tm 50 14) = smallT ds[k].tm from rfl, DT.tm_op, DT.tm_n] at hC
      clear q3
      cases he : smallT ds[k].tm
      · have hv : Hid (smallDs ds = false) := Lib.hid (all_no hp he)
        rw [he] at hC
        replace hC := Lib.hid hC
        clear hall he
        go_wp2_with (go_at_call 31; refine (hC.out).mono ?_; rintro e w1 ⟨rfl, hbe⟩)
        go_ret
        exact ⟨by rw [hv.out]; rfl, hbw.out.trans (hbe.mono (by omega))⟩
      · have hall' : Hid (∀ j (hj : j < ds.length), j < k + 1 → smallT ds[j].tm = true) := Lib.hid (fun j hj h => by
          by_cases e : j = k
          · subst e; exact he
          · exact hall.out j hj (by omega))
        rw [he] at hC
        replace hC := Lib.hid hC
        clear hall he
        go_wp2_with (go_at_call 31; refine (hC.out).mono ?_; rintro e w1 ⟨rfl, hbe⟩)
        go_roundw
        case rel => exact ⟨k + 1, by omega, by go_num, Lib.hid (hb.out.trans (hbe.mono (by omega))), hall'⟩
        case measure => simp [intOf]; omega
    · have o1 : ¬ (k : Int) < (ds.length : Int) := by omega
      have hv : Hid (smallDs ds = true) := Lib.hid (all_yes fun j hj => hall.out j hj (by omega))
      have hC := SmallSig_any s n₀ wr ac lc cc af lf cf (hs.out.below (hbw.out.mono hn)) (by omega)
      replace hC := Lib.hid hC
      clear hall
      go_wp2_with (go_at_call 47; refine (hC.out).mono ?_; rintro e w1 ⟨rfl, hbe⟩)
      go_ret
      exact ⟨by rw [hv.out]; rfl, hbw.out.trans (hbe.mono (by omega))⟩

set_option maxRecDepth 100000 in
set_option maxHeartbeats 1000000 in
theorem given_any (s : Sg) (ds : List DT) (n₀ : Nat) (w : World) (ac : Option Addr) (lc cc : Nat) (af : Option Addr) (lf cf : Nat) (b off c : Nat) (hs : IsSg n₀ w s ac lc cc af lf cf) (hL : LiesAll n₀ w ds b off) (hbn : b < n₀) (hc : ds.length ≤ c ∧ c ≤ 1000) (hn : n₀ ≤ w.heap.size) :
    Calls Tryz.prog 19 #[.agg #[.slice ac lc cc, .slice af lf cf], .slice (some ⟨b, off, none⟩) ds.length c] w fun e w' => e = .returned (.bool (sigB s && formedDs s ds)) ∧ Below w.heap.size w w' := by
  have hb1 : Below w.heap.size w (w.alloc (.cells #[.slice ac lc cc, .slice af lf cf] 24)) := (Below.refl _ _).alloc (Nat.le_refl _) _
  have hSg := Sig_any s n₀ (w.alloc (.cells #[.slice ac lc cc, .slice af lf cf] 24)) ac lc cc af lf cf (hs.below (hb1.mono hn)) (by simp; omega)
  replace hs := Lib.hid hs
  replace hL := Lib.hid hL
  cases hsb : sigB s
  · rw [hsb] at hSg
    replace hSg := Lib.hid hSg
    go_enter Tryz.func19, Tryz.ntmps19
    go_wp2_with (go_at_call 18; refine (hSg.out).mono ?_; rintro e w1 ⟨rfl, hbe⟩)
    go_ret
    exact ⟨rfl, hb1.trans (hbe.mono (by simp))⟩
  rw [hsb] at hSg
  replace hSg := Lib.hid hSg
  go_enter Tryz.func19, Tryz.ntmps19
  go_wp2_with (go_at_call 18; refine (hSg.out).mono ?_; rintro e w1 ⟨rfl, hbe⟩)
  go_loopw [5] (fun i wi => ∃ k : Nat, k ≤ ds.length ∧ i = .int .i64 k ∧ Hid (Below (w.heap.size + 1) (w.alloc (.cells #[.slice ac lc cc, .slice af lf cf] 24)) wi) ∧ Hid (∀ j (hj : j < ds.length), j < k → formedB s ds[j].tm = true)) (fun i _ => ds.length - (intOf i).toNat)
  case atStart => exact ⟨0, by omega, rfl, Lib.hid (by simpa using hbe), Lib.hid (fun j h h0 => by omega)⟩
  case round =>
    obtain ⟨k, hkk, rfl, hb, hall⟩ := hrel
    clear hbe hb1
    have hbw := Lib.hid (box_sig hb.out).2.2.1
    have hz := (box_sig hb.out).2.2.2
    by_cases hp : k < ds.length
    · have o1 : (k : Int) < (ds.length : Int) := by omega
      have hX : Hid (∀ W, Below (w.heap.size + 1) (w.alloc (.cells #[.slice ac lc cc, .slice af lf cf] 24)) W → W.cell? ⟨w.heap.size, 0, none⟩ = some (.slice ac lc cc) ∧ W.cell? ⟨w.heap.size, 1, none⟩ = some (.slice af lf cf) ∧ Cells3 W b (off + k * 3) ds[k].op ds[k].n ds[k].a ds[k].l ds[k].c) := Lib.hid (fun W h => by
        obtain ⟨x0, x1, x2, x3⟩ := box_sig h
        exact ⟨x0, x1, (LiesAll.get _ (LiesAll.below (x2.mono hn) _ hbn hL.out) k hp).1⟩)
      have hC := fun W (h : Below (w.heap.size + 1) (w.alloc (.cells #[.slice ac lc cc, .slice af lf cf] 24)) W) => by
        obtain ⟨x0, x1, x2, x3⟩ := box_sig h
        have hC := Term_any s ds[k].tm n₀ W ac lc cc af lf cf ds[k].a ds[k].l ds[k].c (hs.out.below (x2.mono hn)) (Lies.isTm _ (LiesAll.get _ (LiesAll.below (x2.mono hn) _ hbn hL.out) k hp).2) (by omega)
        rw [DT.tm_op, DT.tm_n] at hC
        exact hC
      go_wp2_with fail
      refine region_named (S := fun W' => Below (w.heap.size + 1) (w.alloc (.cells #[.slice ac lc cc, .slice af lf cf] 24)) W') (by kernel_rfl) (fun W hW => ?_)
      have hq : Hid (Below (w.heap.size + 1) (w.alloc (.cells #[.slice ac lc cc, .slice af lf cf] 24)) W) := Lib.hid (by rw [hW]; exact hb.out.drew)
      have hzW := (box_sig hq.out).2.2.2
      have hCW := hC W hq.out
      clear hW hC hb hbw hz
      refine takeH 0 15 (.agg #[.slice ac lc cc, .slice af lf cf]) rfl rfl (by kernel_rfl) (by kernel_rfl) (by kernel_rfl) (fun _ _ _ h => h) (by rfl) (by intro W hSw; obtain ⟨j1, j2, j3⟩ := hX.out W hSw; clear hSw j3; go_simp) hq.out ?_
      try simp only [List.setIfInBounds_toArray, List.set_cons_zero, List.set_cons_succ]
      refine takeH 1 16 (.slice (some ⟨b, off, none⟩) ds.length c) rfl rfl (by kernel_rfl) (by kernel_rfl) (by kernel_rfl) (fun _ _ _ h => h) (by rfl) (by intro W hSw; clear hSw; go_simp) hq.out ?_
      try simp only [List.setIfInBounds_toArray, List.set_cons_zero, List.set_cons_succ]
      refine takeH 2 17 (.int .i64 k) rfl rfl (by kernel_rfl) (by kernel_rfl) (by kernel_rfl) (fun _ _ _ h => h) (by rfl) (by intro W hSw; clear hSw; go_simp) hq.out ?_
      try simp only [List.setIfInBounds_toArray, List.set_cons_zero, List.set_cons_succ]
      refine takeH 3 18 (.pointer (some ⟨b, off + k * 3, none⟩)) rfl rfl (by kernel_rfl) (by kernel_rfl) (by kernel_rfl) (fun _ _ _ h => h) (by rfl) (by intro W hSw; clear hSw; go_simp) hq.out ?_
      try simp only [List.setIfInBounds_toArray, List.set_cons_zero, List.set_cons_succ]
      refine takeH 4 19 (.agg #[.int .i64 ds[k].op, .int .i64 ds[k].n, .slice ds[k].a ds[k].l ds[k].c]) rfl rfl (by kernel_rfl) (by kernel_rfl) (by kernel_rfl) (fun _ _ _ h => h) (by rfl) (by intro W hSw; obtain ⟨-, -, ⟨j1, j2, j3⟩⟩ := hX.out W hSw; clear hSw; go_simp) hq.out ?_
      try simp only [List.setIfInBounds_toArray, List.set_cons_zero, List.set_cons_succ]
      refine wpAnyH_ready (rs := [5]) (by kernel_rfl) (by simp) ?_
      refine AllReadyH.cons rfl (fun K hKc => ?_) AllReadyH.nil
      go_simp
      refine hCW.mono ?_
      rintro e w1 ⟨rfl, hbe⟩
      replace hq := Lib.hid (hq.out.trans (hbe.mono hzW))
      refine hKc _ _ hq.out (fun _ => ?_)
      clear hKc K hbe hCW
      try simp only [List.setIfInBounds_toArray, List.set_cons_zero, List.set_cons_succ]
      refine takeH 6 21 (.bool (!formedB s ds[k].tm)) rfl rfl (by kernel_rfl) (by kernel_rfl) (by kernel_rfl) (fun _ _ _ h => h) (by rfl) (by intro W hSw; clear hSw; go_simp) hq.out ?_
      try simp only [List.setIfInBounds_toArray, List.set_cons_zero, List.set_cons_succ]
      refine wpAnyH_done (by kernel_rfl) ?_ _
      cases he : formedB s ds[k].tm
      · have hv : Hid (formedDs s ds = false) := Lib.hid (all_no hp he)
        clear hall he
        go_wp2_with fail
        go_ret
        exact ⟨by rw [hv.out]; rfl, (box_sig hq.out).2.2.1⟩
      · have hall' : Hid (∀ j (hj : j < ds.length), j < k + 1 → formedB s ds[j].tm = true) := Lib.hid (fun j hj h => by
          by_cases e : j = k
          · subst e; exact he
          · exact hall.out j hj (by omega))
        clear hall he
        go_wp2_with fail
        go_roundw
        case rel => exact ⟨k + 1, by omega, by go_num, hq, hall'⟩
        case measure => simp [intOf]; omega
    · have o1 : ¬ (k : Int) < (ds.length : Int) := by omega
      have hv : Hid (formedDs s ds = true) := Lib.hid (all_yes fun j hj => hall.out j hj (by omega))
      clear hall
      go_wp2_with fail
      go_ret
      exact ⟨by rw [hv.out]; rfl, hbw.out⟩

end Go.Proofs.YthlegfegkopdkaaGreat

namespace Go.Proofs.YthlegfegkopdkaaGreat
open Go.RowKit Go.Shelf Go.Sort

noncomputable def valB (s : Sg) (d x : DT) : Bool := ((sigB s && formedDs s [d, x]) && isVal d.tm) && isVal x.tm

abbrev bs1 (w : World) (ac : Option Addr) (lc cc : Nat) (af : Option Addr) (lf cf : Nat) : World := w.alloc (.cells #[.slice ac lc cc, .slice af lf cf] 24)
abbrev bt1 (w : World) (d : DT) : World := w.alloc (.cells #[.int .i64 d.op, .int .i64 d.n, .slice d.a d.l d.c] 28)

theorem given2 (s : Sg) (d x : DT) (n₀ : Nat) (w : World) (ac : Option Addr) (lc cc : Nat) (af : Option Addr) (lf cf : Nat) (hs : IsSg n₀ w s ac lc cc af lf cf) (h1 : Lies n₀ w d) (h2 : Lies n₀ w x) (hn : n₀ ≤ w.heap.size) :
    Calls Tryz.prog 19 #[.agg #[.slice ac lc cc, .slice af lf cf], .slice (some ⟨w.heap.size, 0, none⟩) 2 2] (w.alloc (.cells #[.int .i64 d.op, .int .i64 d.n, .slice d.a d.l d.c, .int .i64 x.op, .int .i64 x.n, .slice x.a x.l x.c] 28))
      fun e w' => e = .returned (.bool (sigB s && formedDs s [d, x])) ∧ Below w.heap.size w w' := by
  have hb := bal w (.cells #[.int .i64 d.op, .int .i64 d.n, .slice d.a d.l d.c, .int .i64 x.op, .int .i64 x.n, .slice x.a x.l x.c] 28)
  refine (given_any s [d, x] (w.heap.size + 1) _ ac lc cc af lf cf w.heap.size 0 2 ((hs.below (hb.mono hn)).wider (by omega)) (two_lies' h1 h2 hn) (by omega) ⟨by simp, by omega⟩ (by simp)).mono ?_
  rintro e w' ⟨he, h⟩
  exact ⟨he, hb.trans (h.mono (by simp))⟩
theorem box_t {w W : World} {k : Nat} {d : DT} {w1 : World} (hw : w1 = bt1 w d) (hk : w1.heap.size ≤ k) (h : Below k w1 W) :
    W.cell? ⟨w.heap.size, 0, none⟩ = some (.int .i64 d.op) ∧ W.cell? ⟨w.heap.size, 1, none⟩ = some (.int .i64 d.n) ∧ W.cell? ⟨w.heap.size, 2, none⟩ = some (.slice d.a d.l d.c) := by
  subst hw
  have hk' : w.heap.size < k := by simp at hk; omega
  exact ⟨by rw [h.cell hk']; go_cell, by rw [h.cell hk']; go_cell, by rw [h.cell hk']; go_cell⟩
theorem box_s {w W : World} {k : Nat} {ac : Option Addr} {lc cc : Nat} {af : Option Addr} {lf cf : Nat} {w1 : World} (hw : w1 = bs1 w ac lc cc af lf cf) (hk : w1.heap.size ≤ k) (h : Below k w1 W) :
    W.cell? ⟨w.heap.size, 0, none⟩ = some (.slice ac lc cc) ∧ W.cell? ⟨w.heap.size, 1, none⟩ = some (.slice af lf cf) := by
  subst hw
  have hk' : w.heap.size < k := by simp at hk; omega
  exact ⟨by rw [h.cell hk']; go_cell, by rw [h.cell hk']; go_cell⟩

set_option maxRecDepth 100000 in
set_option maxHeartbeats 1000000 in
theorem values_any (s : Sg) (d x : DT) (n₀ : Nat) (w : World) (ac : Option Addr) (lc cc : Nat) (af : Option Addr) (lf cf : Nat) (hs : IsSg n₀ w s ac lc cc af lf cf) (h1 : Lies n₀ w d) (h2 : Lies n₀ w x) (hn : n₀ ≤ w.heap.size) :
    Calls Tryz.prog 40 #[.agg #[.slice ac lc cc, .slice af lf cf], .agg #[.int .i64 d.op, .int .i64 d.n, .slice d.a d.l d.c], .agg #[.int .i64 x.op, .int .i64 x.n, .slice x.a x.l x.c]] w
      fun e w' => e = .returned (.bool (valB s d x)) ∧ Below w.heap.size w w' := by
  obtain ⟨wa, hwa⟩ : ∃ W, W = bs1 w ac lc cc af lf cf := ⟨_, rfl⟩
  obtain ⟨wb, hwb⟩ : ∃ W, W = bt1 wa d := ⟨_, rfl⟩
  obtain ⟨W0, hW0⟩ : ∃ W, W = bt1 wb x := ⟨_, rfl⟩
  have hza : wa.heap.size = w.heap.size + 1 := by rw [hwa]; simp
  have hzb : wb.heap.size = w.heap.size + 1 + 1 := by rw [hwb]; simp [hza]
  have hz0 : W0.heap.size = w.heap.size + 1 + 1 + 1 := by rw [hW0]; simp [hzb]
  have ba : Below w.heap.size w wa := by rw [hwa]; exact bal _ _
  have bb : Below wa.heap.size wa wb := by rw [hwb]; exact bal _ _
  have bc : Below wb.heap.size wb W0 := by rw [hW0]; exact bal _ _
  have hB0 : Below w.heap.size w W0 := Below.up ba (Below.up bb bc)
  have hcells : Hid (∀ W, Below W0.heap.size W0 W → (W.cell? ⟨w.heap.size + 1, 0, none⟩ = some (.int .i64 d.op) ∧ W.cell? ⟨w.heap.size + 1, 1, none⟩ = some (.int .i64 d.n) ∧ W.cell? ⟨w.heap.size + 1, 2, none⟩ = some (.slice d.a d.l d.c)) ∧ (W.cell? ⟨w.heap.size + 1 + 1, 0, none⟩ = some (.int .i64 x.op) ∧ W.cell? ⟨w.heap.size + 1 + 1, 1, none⟩ = some (.int .i64 x.n) ∧ W.cell? ⟨w.heap.size + 1 + 1, 2, none⟩ = some (.slice x.a x.l x.c))) := Lib.hid (fun W h => by
    have e1 := box_t hwb (Nat.le_refl _) (Below.up bc h)
    have e2 := box_t hW0 (Nat.le_refl _) h
    rw [hza] at e1; rw [hzb] at e2
    exact ⟨e1, e2⟩)
  have hG := given2 s d x n₀ W0 ac lc cc af lf cf (hs.below (hB0.mono hn)) (h1.below (hB0.mono hn)) (h2.below (hB0.mono hn)) (by omega)
  have hV1 := fun W (h : Below W0.heap.size W0 W) => Value_any d.tm.size d.tm n₀ W d.a d.l d.c (Nat.le_refl _) (Lies.isTm _ (h1.below ((Below.up hB0 h).mono hn))) (by have := h.size; omega)
  have hV2 := fun W (h : Below W0.heap.size W0 W) => Value_any x.tm.size x.tm n₀ W x.a x.l x.c (Nat.le_refl _) (Lies.isTm _ (h2.below ((Below.up hB0 h).mono hn))) (by have := h.size; omega)
  simp only [DT.tm_op, DT.tm_n] at hV1 hV2
  have hb0 : Hid (∀ W, Below (w.heap.size + 1 + 1 + 1) (bt1 (bt1 (bs1 w ac lc cc af lf cf) d) x) W → Below W0.heap.size W0 W) := Lib.hid (fun W h => by rw [hz0, hW0, hwb, hwa]; exact h)
  rw [hz0, hW0, hwb, hwa] at hG
  have hv : Hid (valB s d x = (((sigB s && formedDs s [d, x]) && isVal d.tm) && isVal x.tm)) := Lib.hid rfl
  obtain ⟨g, hg⟩ : ∃ g, g = (sigB s && formedDs s [d, x]) := ⟨_, rfl⟩
  obtain ⟨u, hu⟩ : ∃ u, u = isVal d.tm := ⟨_, rfl⟩
  obtain ⟨v, hv'⟩ : ∃ u, u = isVal x.tm := ⟨_, rfl⟩
  rw [← hg, ← hu, ← hv'] at hv
  rw [← hg] at hG
  rw [← hu] at hV1
  rw [← hv'] at hV2
  replace hG := Lib.hid hG
  replace hV1 := Lib.hid hV1
  replace hV2 := Lib.hid hV2
  replace hB0 := Lib.hid hB0
  clear hs h1 h2 ba bb bc hW0 hz0 hza hzb hwa hwb hg hu hv'
  go_enter Tryz.func40, Tryz.ntmps40
  go_upto_region 3 with fail
  refine (hG.out).mono ?_
  rintro e w1 ⟨rfl, hbe⟩
  replace hbe := Lib.hid (hb0.out _ hbe)
  clear hG
  cases g
  · go_wp2_with fail
    go_ret
    exact ⟨by rw [hv.out]; rfl, Below.up hB0.out hbe.out⟩
  obtain ⟨⟨p0, p1, p2⟩, -⟩ := hcells.out _ hbe.out
  have hC1 := Lib.hid (hV1.out _ hbe.out)
  cases u
  · go_wp2_with (go_at_call 20; refine (hC1.out).mono ?_; rintro e w2 ⟨rfl, hbe2⟩)
    go_ret
    exact ⟨by rw [hv.out]; rfl, Below.up hB0.out (Below.up hbe.out hbe2)⟩
  go_upto_region 9 with fail
  refine (hC1.out).mono ?_
  rintro e w2 ⟨rfl, hbe2⟩
  clear hC1 p0 p1 p2
  replace hbe := Lib.hid (Below.up hbe.out hbe2)
  obtain ⟨-, ⟨p0, p1, p2⟩⟩ := hcells.out _ hbe.out
  have hC1 := Lib.hid (hV2.out _ hbe.out)
  go_wp2_with (go_at_call 20; refine (hC1.out).mono ?_; rintro e w2 ⟨rfl, hbe2⟩)
  go_ret
  exact ⟨by rw [hv.out]; rfl, Below.up hB0.out (Below.up hbe.out hbe2)⟩

end Go.Proofs.YthlegfegkopdkaaGreat

namespace Go.Proofs.YthlegfegkopdkaaGreat
open Go.RowKit Go.Shelf Go.Sort

theorem small_size {d : DT} (h : smallT d.tm = true) : 1 + d.size ≤ 1000000 := by
  unfold smallT at h
  have h1 : 0 ≤ weigh d.tm 50 14 := by simpa using h
  have h2 := ((weigh_iff d.tm 50 14 (by omega)).1.1 h1).1
  rw [size_tm] at h2
  omega
end Go.Proofs.YthlegfegkopdkaaGreat
