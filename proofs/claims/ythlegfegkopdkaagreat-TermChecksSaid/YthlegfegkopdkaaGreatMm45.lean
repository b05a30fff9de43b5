/- Own text, joined of: X1. TermChecks, of arguments that lie in memory. -/
import Derived.Lib.QuietBelow
import Derived.Test.YthlegfegkopdkaaGreatMm44

namespace Go.Proofs.YthlegfegkopdkaaGreat
open Go.RowKit Go.Shelf Go.Sort

theorem small1 (s : Sg) (d : DT) (n₀ : Nat) (w : World) (ac : Option Addr) (lc cc : Nat) (af : Option Addr) (lf cf : Nat) (hs : IsSg n₀ w s ac lc cc af lf cf) (h1 : Lies n₀ w d) (hn : n₀ ≤ w.heap.size) :
    Calls Tryz.prog 11 #[.agg #[.slice ac lc cc, .slice af lf cf], .slice (some ⟨w.heap.size, 0, none⟩) 1 1] (w.alloc (.cells #[.int .i64 d.op, .int .i64 d.n, .slice d.a d.l d.c] 28))
      fun e w' => e = .returned (.bool (smallDs [d] && smallB s)) ∧ Below w.heap.size w w' := by
  have hb := bal w (.cells #[.int .i64 d.op, .int .i64 d.n, .slice d.a d.l d.c] 28)
  refine (small_any s [d] (w.heap.size + 1) _ ac lc cc af lf cf w.heap.size 0 1 ((hs.below (hb.mono hn)).wider (by omega)) (one_lies' h1 hn) (by omega) ⟨by simp, by omega⟩ (by simp)).mono ?_
  rintro e w' ⟨he, h⟩
  exact ⟨he, hb.trans (h.mono (by simp))⟩
theorem given1 (s : Sg) (d : DT) (n₀ : Nat) (w : World) (ac : Option Addr) (lc cc : Nat) (af : Option Addr) (lf cf : Nat) (hs : IsSg n₀ w s ac lc cc af lf cf) (h1 : Lies n₀ w d) (hn : n₀ ≤ w.heap.size) :
    Calls Tryz.prog 19 #[.agg #[.slice ac lc cc, .slice af lf cf], .slice (some ⟨w.heap.size, 0, none⟩) 1 1] (w.alloc (.cells #[.int .i64 d.op, .int .i64 d.n, .slice d.a d.l d.c] 28))
      fun e w' => e = .returned (.bool (checkB s [d])) ∧ Below w.heap.size w w' := by
  have hb := bal w (.cells #[.int .i64 d.op, .int .i64 d.n, .slice d.a d.l d.c] 28)
  refine (given_any s [d] (w.heap.size + 1) _ ac lc cc af lf cf w.heap.size 0 1 ((hs.below (hb.mono hn)).wider (by omega)) (one_lies' h1 hn) (by omega) ⟨by simp, by omega⟩ (by simp)).mono ?_
  rintro e w' ⟨he, h⟩
  exact ⟨by rw [he]; rfl, hb.trans (h.mono (by simp))⟩

/-- What the calls of TermChecks answer, in every world behind the boxes. -/
structure ChecksAt (s : Sg) (d : DT) (ac : Option Addr) (lc cc : Nat) (af : Option Addr) (lf cf : Nat) (σ χ va gr pt : Bool) (L : List Nat) (W : World) : Prop where
  k13 : Calls Tryz.prog 13 #[.agg #[.slice ac lc cc, .slice af lf cf]] W fun e w' => e = .returned (.int .i64 (errOf σ)) ∧ Below W.heap.size W w'
  k14 : Calls Tryz.prog 14 #[.agg #[.slice ac lc cc, .slice af lf cf], .agg #[.int .i64 d.op, .int .i64 d.n, .slice d.a d.l d.c]] W fun e w' => e = .returned (.int .i64 (errOf χ)) ∧ Below W.heap.size W w'
  k15 : Calls Tryz.prog 15 #[.agg #[.slice ac lc cc, .slice af lf cf], .agg #[.int .i64 d.op, .int .i64 d.n, .slice d.a d.l d.c]] W fun e w' => e = .returned (.tuple #[.bool (χ && va), .bool (χ && va && gr), .int .i64 (errOf χ)]) ∧ Below W.heap.size W w'
  k16 : Calls Tryz.prog 16 #[.agg #[.slice ac lc cc, .slice af lf cf], .agg #[.int .i64 d.op, .int .i64 d.n, .slice d.a d.l d.c]] W fun e w' => e = .returned (.tuple #[.bool (χ && pt), .int .i64 (errOf χ)]) ∧ Below W.heap.size W w'
  k17 : Calls Tryz.prog 17 #[.agg #[.slice ac lc cc, .slice af lf cf], .agg #[.int .i64 d.op, .int .i64 d.n, .slice d.a d.l d.c]] W fun e w' => ∃ v, e = .returned (.tuple #[v, .int .i64 (errOf χ)]) ∧ Hid (w'.ownsRow W.heap.size 3 1 v (if χ = true then L else []).length (natVals (if χ = true then L else []))) ∧ (χ = false → v = .slice none 0 0) ∧ Below W.heap.size W w'
  k18 : Calls Tryz.prog 18 #[.agg #[.slice ac lc cc, .slice af lf cf]] W fun e w' => e = .returned (.bool σ) ∧ Below W.heap.size W w'
  k19 : Calls Tryz.prog 19 #[.agg #[.slice ac lc cc, .slice af lf cf], .slice (some ⟨W.heap.size, 0, none⟩) 1 1] (W.alloc (.cells #[.int .i64 d.op, .int .i64 d.n, .slice d.a d.l d.c] 28)) fun e w' => e = .returned (.bool χ) ∧ Below W.heap.size W w'
  k20 : Calls Tryz.prog 20 #[.agg #[.int .i64 d.op, .int .i64 d.n, .slice d.a d.l d.c]] W fun e w' => e = .returned (.bool va) ∧ Below W.heap.size W w'
  k21 : χ = true → va = true → Calls Tryz.prog 21 #[.agg #[.int .i64 d.op, .int .i64 d.n, .slice d.a d.l d.c]] W fun e w' => e = .returned (.bool gr) ∧ Below W.heap.size W w'
  k22 : χ = true → Calls Tryz.prog 22 #[.agg #[.int .i64 d.op, .int .i64 d.n, .slice d.a d.l d.c]] W fun e w' => e = .returned (.bool pt) ∧ Below W.heap.size W w'
  k24 : χ = true → Calls Tryz.prog 24 #[.agg #[.int .i64 d.op, .int .i64 d.n, .slice d.a d.l d.c]] W fun e w' => ∃ v, e = .returned v ∧ Hid (w'.ownsRow W.heap.size 3 1 v L.length (natVals L)) ∧ Below W.heap.size W w'

theorem checks_at {s : Sg} {d : DT} {n₀ : Nat} {W : World} {ac : Option Addr} {lc cc : Nat} {af : Option Addr} {lf cf : Nat} (hs : IsSg n₀ W s ac lc cc af lf cf) (h1 : Lies n₀ W d) (hn : n₀ ≤ W.heap.size) (hsm : smallT d.tm = true) :
    ChecksAt s d ac lc cc af lf cf (sigB s) (checkB s [d]) (valueB d.tm) (groundB d.tm) (patternB d) (listTo (fvT d.tm) 20) W := by
  have hsz := small_size hsm
  have ht := Lies.isTm _ h1
  have hO := fun h : checkB s [d] = true => OkV.checked h (List.mem_singleton.2 rfl)
  refine ⟨CheckSig_any s n₀ W ac lc cc af lf cf hs hn, Check_any s d n₀ W ac lc cc af lf cf hsz hn hs h1, ?_, ?_, ?_, Sig_any s n₀ W ac lc cc af lf cf hs hn, given1 s d n₀ W ac lc cc af lf cf hs h1 hn, ?_, ?_, ?_, ?_⟩
  · have := IsValue_any s d n₀ W ac lc cc af lf cf hsz hn hs h1
    unfold isValB isValA at this
    exact this
  · have := IsPattern_any s d n₀ W ac lc cc af lf cf hsz hn hs h1
    unfold patA at this
    exact this
  · refine (Vars_any s d n₀ W ac lc cc af lf cf hsz hn hs h1).mono ?_
    rintro e w' ⟨v, he, hr, hnil, hb⟩
    refine ⟨v, he, Lib.hid ?_, fun hc => hnil.2 ?_, hb⟩
    · unfold varsL at hr; exact hr
    · unfold varsL; rw [hc]; rfl
  · have := Value_any d.tm.size d.tm n₀ W d.a d.l d.c (Nat.le_refl _) ht hn
    simp only [DT.tm_op, DT.tm_n] at this
    rw [isVal_allN] at this
    exact this
  · intro hc hv
    have := rGround_any d.tm n₀ W d.a d.l d.c ht (hO hc) hn
    simp only [DT.tm_op, DT.tm_n] at this
    rw [show decide ((listTo (fvT d.tm) 20).length = 0) = groundB d.tm by
      rw [Bool.eq_iff_iff, decide_eq_true_eq]; exact ground_nil (hO hc) hv] at this
    exact this
  · intro hc
    have := rPattern_any d.tm n₀ W d.a d.l d.c ht (hO hc) hn
    simp only [DT.tm_op, DT.tm_n] at this
    rw [pattern_eq d (hO hc)]
    exact this
  · intro hc
    have := rVars_any d.tm.size d.tm n₀ W d.a d.l d.c (Nat.le_refl _) ht (hO hc) hn
    simp only [DT.tm_op, DT.tm_n] at this
    refine this.mono ?_
    rintro e w' ⟨v, he, hr, hb⟩
    exact ⟨v, he, Lib.hid hr, hb⟩

set_option maxRecDepth 100000 in
set_option maxHeartbeats 8000000 in
theorem TermChecks_any (s : Sg) (d : DT) (n₀ : Nat) (w : World) (ac : Option Addr) (lc cc : Nat) (af : Option Addr) (lf cf : Nat) (hs : IsSg n₀ w s ac lc cc af lf cf) (h1 : Lies n₀ w d) (hn : n₀ ≤ w.heap.size) :
    Calls Tryz.prog 3 #[.agg #[.slice ac lc cc, .slice af lf cf], .agg #[.int .i64 d.op, .int .i64 d.n, .slice d.a d.l d.c]] w
      fun e w' => e = .returned (.bool true) ∧ Below w.heap.size w w' := by
  obtain ⟨wa, hwa⟩ : ∃ W, W = bs1 w ac lc cc af lf cf := ⟨_, rfl⟩
  obtain ⟨W0, hW0⟩ : ∃ W, W = bt1 wa d := ⟨_, rfl⟩
  have hza : wa.heap.size = w.heap.size + 1 := by rw [hwa]; simp
  have hz0 : W0.heap.size = w.heap.size + 1 + 1 := by rw [hW0]; simp [hza]
  have ba : Below w.heap.size w wa := by rw [hwa]; exact bal _ _
  have bb : Below wa.heap.size wa W0 := by rw [hW0]; exact bal _ _
  have hB0 : Below w.heap.size w W0 := Below.up ba bb
  have hcells : Hid (∀ W, Below W0.heap.size W0 W → (W.cell? ⟨w.heap.size, 0, none⟩ = some (.slice ac lc cc) ∧ W.cell? ⟨w.heap.size, 1, none⟩ = some (.slice af lf cf)) ∧ (W.cell? ⟨w.heap.size + 1, 0, none⟩ = some (.int .i64 d.op) ∧ W.cell? ⟨w.heap.size + 1, 1, none⟩ = some (.int .i64 d.n) ∧ W.cell? ⟨w.heap.size + 1, 2, none⟩ = some (.slice d.a d.l d.c))) := Lib.hid (fun W h => by
    have e0 := box_s hwa (Nat.le_refl _) (Below.up bb h)
    have e1 := box_t hW0 (Nat.le_refl _) h
    rw [hza] at e1
    exact ⟨e0, e1⟩)
  have hlie : Hid (∀ W, Below W0.heap.size W0 W → n₀ ≤ W.heap.size ∧ IsSg n₀ W s ac lc cc af lf cf ∧ Lies n₀ W d) := Lib.hid (fun W h => by
    have hb := (Below.up hB0 h).mono hn
    exact ⟨by have := h.size; omega, hs.below hb, h1.below hb⟩)
  have hG : Calls Tryz.prog 11 #[.agg #[.slice ac lc cc, .slice af lf cf], .slice (some ⟨W0.heap.size, 0, none⟩) 1 1] (W0.alloc (.cells #[.int .i64 d.op, .int .i64 d.n, .slice d.a d.l d.c] 28))
      fun e w' => e = .returned (.bool (smallDs [d] && smallB s)) ∧ Below W0.heap.size W0 w' := by
    obtain ⟨q0, q1, q2⟩ := hlie.out W0 (Below.refl _ _)
    exact small1 s d n₀ W0 ac lc cc af lf cf q1 q2 q0
  have hb0 : Hid (∀ W, Below (w.heap.size + 1 + 1) (bt1 (bs1 w ac lc cc af lf cf) d) W → Below W0.heap.size W0 W) := Lib.hid (fun W h => by rw [hz0, hW0, hwa]; exact h)
  rw [hz0, hW0, hwa] at hG
  have hsm : Hid ((smallDs [d] && smallB s) = true → smallT d.tm = true) := Lib.hid (fun h => by
    simp only [smallDs, List.all_cons, List.all_nil, Bool.and_true, Bool.and_eq_true] at h
    exact h.1)
  obtain ⟨g, hg⟩ : ∃ g, g = (smallDs [d] && smallB s) := ⟨_, rfl⟩
  rw [← hg] at hG hsm
  have hKn := Lib.hid (fun W => known_any W)
  obtain ⟨σ, hσ⟩ : ∃ u, u = sigB s := ⟨_, rfl⟩
  obtain ⟨χ, hχ⟩ : ∃ u, u = checkB s [d] := ⟨_, rfl⟩
  obtain ⟨va, hva⟩ : ∃ u, u = valueB d.tm := ⟨_, rfl⟩
  obtain ⟨gr, hgr⟩ : ∃ u, u = groundB d.tm := ⟨_, rfl⟩
  obtain ⟨pt, hpt⟩ : ∃ u, u = patternB d := ⟨_, rfl⟩
  obtain ⟨L, hL⟩ : ∃ u, u = listTo (fvT d.tm) 20 := ⟨_, rfl⟩
  have hσχ : σ = false → χ = false := fun h => by rw [hχ]; unfold checkB; rw [← hσ, h]; rfl
  have hAt : Hid (smallT d.tm = true → ∀ W, Below W0.heap.size W0 W → ChecksAt s d ac lc cc af lf cf σ χ va gr pt L W) := Lib.hid (fun h W hW => by
    obtain ⟨q0, q1, q2⟩ := hlie.out W hW
    rw [hσ, hχ, hva, hgr, hpt, hL]
    exact checks_at q1 q2 q0 h)
  replace hG := Lib.hid hG
  replace hB0 := Lib.hid hB0
  clear hs h1 ba bb hW0 hz0 hza hwa hg hσ hχ hva hgr hpt hL
  go_enter Tryz.func3, Tryz.ntmps3
  go_upto_region 99 with fail
  refine (hG.out).mono ?_
  rintro e w1 ⟨rfl, hbe⟩
  replace hbe := Lib.hid (hb0.out _ hbe)
  clear hG
  cases g
  · go_wp2_with (go_at_call 12; refine (hKn.out _).mono ?_; rintro e w2 ⟨rfl, hbe2⟩)
    go_ret
    exact ⟨rfl, Below.up hB0.out (Below.up hbe.out hbe2)⟩
  replace hAt := Lib.hid (hAt.out (hsm.out rfl))
  clear hsm
  cases χ
  · cases σ
    · obtain ⟨⟨s0, s1⟩, p0, p1, p2⟩ := hcells.out _ hbe.out
      go_upto_region 3 with fail
      have k13 := fun dd os => ((hAt.out (grow (redrawn w1 dd) os) (Below.up hbe.out (below_regrown _ _ _))).k13).regrown_of
      have k14 := fun dd os => ((hAt.out (grow (redrawn w1 dd) os) (Below.up hbe.out (below_regrown _ _ _))).k14).regrown_of
      simp only [errOf, Bool.false_eq_true, if_false] at k13 k14
      replace k13 := Lib.hid k13
      replace k14 := Lib.hid k14
      have d0 := fun dd os => cell_regrown s0 dd os
      have d1 := fun dd os => cell_regrown s1 dd os
      have d2 := fun dd os => cell_regrown p0 dd os
      have d3 := fun dd os => cell_regrown p1 dd os
      have d4 := fun dd os => cell_regrown p2 dd os
      clear s0 s1 p0 p1 p2
      refine wp_region_quiet_below (by kernel_rfl) (by kernel_rfl) ?_
      quiet_step (fail)
      quiet_step (exact k13.out _ _)
      quiet_step (fail)
      quiet_step (fail)
      quiet_step (exact k14.out _ _)
      quiet_step (fail)
      quiet_step (fail)
      refine wpQuiet_nil ?_
      rintro _ ⟨⟨dq, osq⟩, rfl⟩
      replace hbe := Lib.hid (Below.up hbe.out (below_regrown w1 dq osq))
      clear d0 d1 d2 d3 d4 k13 k14
      obtain ⟨w2, hw2⟩ : ∃ W, W = grow (redrawn w1 dq) osq := ⟨_, rfl⟩
      simp only [← hw2] at hbe ⊢
      clear hw2
      obtain ⟨⟨s0, s1⟩, p0, p1, p2⟩ := hcells.out _ hbe.out
      have hC := (hAt.out _ hbe.out).k15
      try simp only [errOf, Bool.false_eq_true, if_false, Bool.false_and] at hC
      replace hC := Lib.hid hC
      go_upto_region 99 with fail
      refine (hC.out).mono ?_
      rintro e wn ⟨rfl, hbe2⟩
      clear hC s0 s1 p0 p1 p2
      replace hbe := Lib.hid (Below.up hbe.out hbe2)
      clear hbe2
      obtain ⟨⟨s0, s1⟩, p0, p1, p2⟩ := hcells.out _ hbe.out
      have hC := (hAt.out _ hbe.out).k16
      try simp only [errOf, Bool.false_eq_true, if_false, Bool.false_and] at hC
      replace hC := Lib.hid hC
      go_upto_region 99 with fail
      refine (hC.out).mono ?_
      rintro e wn ⟨rfl, hbe2⟩
      clear hC s0 s1 p0 p1 p2
      replace hbe := Lib.hid (Below.up hbe.out hbe2)
      clear hbe2
      obtain ⟨⟨s0, s1⟩, p0, p1, p2⟩ := hcells.out _ hbe.out
      have hC := (hAt.out _ hbe.out).k17
      try simp only [errOf, Bool.false_eq_true, if_false] at hC
      replace hC := Lib.hid hC
      go_upto_region 99 with fail
      refine (hC.out).mono ?_
      rintro e wn ⟨v, rfl, -, hnil, hbe2⟩
      clear hC s0 s1 p0 p1 p2
      obtain rfl := hnil (by first | rfl | trivial)
      clear hnil
      replace hbe := Lib.hid (Below.up hbe.out hbe2)
      clear hbe2
      obtain ⟨⟨s0, s1⟩, p0, p1, p2⟩ := hcells.out _ hbe.out
      have hC := (hAt.out _ hbe.out).k18
      try simp only [errOf, if_true, Bool.false_eq_true, if_false, Bool.true_and, Bool.false_and] at hC
      replace hC := Lib.hid hC
      go_upto_region 99 with fail
      refine (hC.out).mono ?_
      rintro e wn ⟨rfl, hbe2⟩
      clear hC s0 s1 p0 p1 p2
      replace hbe := Lib.hid (Below.up hbe.out hbe2)
      clear hbe2
      obtain ⟨⟨s0, s1⟩, p0, p1, p2⟩ := hcells.out _ hbe.out
      have hC := (hAt.out _ hbe.out).k19
      try simp only [errOf, if_true, Bool.false_eq_true, if_false, Bool.true_and, Bool.false_and] at hC
      replace hC := Lib.hid hC
      go_upto_region 99 with fail
      refine (hC.out).mono ?_
      rintro e wn ⟨rfl, hbe2⟩
      clear hC s0 s1 p0 p1 p2
      replace hbe := Lib.hid (Below.up hbe.out hbe2)
      clear hbe2
      go_wp2_with (go_at_call 12; refine (hKn.out _).mono ?_; rintro e wl ⟨rfl, hbe2⟩)
      go_ret
      exact ⟨rfl, Below.up hB0.out (Below.up hbe.out hbe2)⟩
    · obtain ⟨⟨s0, s1⟩, p0, p1, p2⟩ := hcells.out _ hbe.out
      go_upto_region 3 with fail
      have k13 := fun dd os => ((hAt.out (grow (redrawn w1 dd) os) (Below.up hbe.out (below_regrown _ _ _))).k13).regrown_of
      have k14 := fun dd os => ((hAt.out (grow (redrawn w1 dd) os) (Below.up hbe.out (below_regrown _ _ _))).k14).regrown_of
      simp only [errOf, if_true, Bool.false_eq_true, if_false] at k13 k14
      replace k13 := Lib.hid k13
      replace k14 := Lib.hid k14
      have d0 := fun dd os => cell_regrown s0 dd os
      have d1 := fun dd os => cell_regrown s1 dd os
      have d2 := fun dd os => cell_regrown p0 dd os
      have d3 := fun dd os => cell_regrown p1 dd os
      have d4 := fun dd os => cell_regrown p2 dd os
      clear s0 s1 p0 p1 p2
      refine wp_region_quiet_below (by kernel_rfl) (by kernel_rfl) ?_
      quiet_step (fail)
      quiet_step (exact k13.out _ _)
      quiet_step (fail)
      quiet_step (fail)
      quiet_step (exact k14.out _ _)
      quiet_step (fail)
      quiet_step (fail)
      refine wpQuiet_nil ?_
      rintro _ ⟨⟨dq, osq⟩, rfl⟩
      replace hbe := Lib.hid (Below.up hbe.out (below_regrown w1 dq osq))
      clear d0 d1 d2 d3 d4 k13 k14
      obtain ⟨w2, hw2⟩ : ∃ W, W = grow (redrawn w1 dq) osq := ⟨_, rfl⟩
      simp only [← hw2] at hbe ⊢
      clear hw2
      obtain ⟨⟨s0, s1⟩, p0, p1, p2⟩ := hcells.out _ hbe.out
      have hC := (hAt.out _ hbe.out).k15
      try simp only [errOf, Bool.false_eq_true, if_false, Bool.false_and] at hC
      replace hC := Lib.hid hC
      go_upto_region 99 with fail
      refine (hC.out).mono ?_
      rintro e wn ⟨rfl, hbe2⟩
      clear hC s0 s1 p0 p1 p2
      replace hbe := Lib.hid (Below.up hbe.out hbe2)
      clear hbe2
      obtain ⟨⟨s0, s1⟩, p0, p1, p2⟩ := hcells.out _ hbe.out
      have hC := (hAt.out _ hbe.out).k16
      try simp only [errOf, Bool.false_eq_true, if_false, Bool.false_and] at hC
      replace hC := Lib.hid hC
      go_upto_region 99 with fail
      refine (hC.out).mono ?_
      rintro e wn ⟨rfl, hbe2⟩
      clear hC s0 s1 p0 p1 p2
      replace hbe := Lib.hid (Below.up hbe.out hbe2)
      clear hbe2
      obtain ⟨⟨s0, s1⟩, p0, p1, p2⟩ := hcells.out _ hbe.out
      have hC := (hAt.out _ hbe.out).k17
      try simp only [errOf, Bool.false_eq_true, if_false] at hC
      replace hC := Lib.hid hC
      go_upto_region 99 with fail
      refine (hC.out).mono ?_
      rintro e wn ⟨v, rfl, -, hnil, hbe2⟩
      clear hC s0 s1 p0 p1 p2
      obtain rfl := hnil (by first | rfl | trivial)
      clear hnil
      replace hbe := Lib.hid (Below.up hbe.out hbe2)
      clear hbe2
      obtain ⟨⟨s0, s1⟩, p0, p1, p2⟩ := hcells.out _ hbe.out
      have hC := (hAt.out _ hbe.out).k18
      try simp only [errOf, if_true, Bool.false_eq_true, if_false, Bool.true_and, Bool.false_and] at hC
      replace hC := Lib.hid hC
      go_upto_region 99 with fail
      refine (hC.out).mono ?_
      rintro e wn ⟨rfl, hbe2⟩
      clear hC s0 s1 p0 p1 p2
      replace hbe := Lib.hid (Below.up hbe.out hbe2)
      clear hbe2
      obtain ⟨⟨s0, s1⟩, p0, p1, p2⟩ := hcells.out _ hbe.out
      have hC := (hAt.out _ hbe.out).k19
      try simp only [errOf, if_true, Bool.false_eq_true, if_false, Bool.true_and, Bool.false_and] at hC
      replace hC := Lib.hid hC
      go_upto_region 99 with fail
      refine (hC.out).mono ?_
      rintro e wn ⟨rfl, hbe2⟩
      clear hC s0 s1 p0 p1 p2
      replace hbe := Lib.hid (Below.up hbe.out hbe2)
      clear hbe2
      go_wp2_with (go_at_call 12; refine (hKn.out _).mono ?_; rintro e wl ⟨rfl, hbe2⟩)
      go_ret
      exact ⟨rfl, Below.up hB0.out (Below.up hbe.out hbe2)⟩
  · obtain rfl : σ = true := by cases σ with | true => rfl | false => exact absurd (hσχ rfl) (by simp)
    clear hσχ
    obtain ⟨⟨s0, s1⟩, p0, p1, p2⟩ := hcells.out _ hbe.out
    go_upto_region 3 with fail
    have k13 := fun dd os => ((hAt.out (grow (redrawn w1 dd) os) (Below.up hbe.out (below_regrown _ _ _))).k13).regrown_of
    have k14 := fun dd os => ((hAt.out (grow (redrawn w1 dd) os) (Below.up hbe.out (below_regrown _ _ _))).k14).regrown_of
    simp only [errOf, if_true] at k13 k14
    replace k13 := Lib.hid k13
    replace k14 := Lib.hid k14
    have d0 := fun dd os => cell_regrown s0 dd os
    have d1 := fun dd os => cell_regrown s1 dd os
    have d2 := fun dd os => cell_regrown p0 dd os
    have d3 := fun dd os => cell_regrown p1 dd os
    have d4 := fun dd os => cell_regrown p2 dd os
    clear s0 s1 p0 p1 p2
    refine wp_region_quiet_below (by kernel_rfl) (by kernel_rfl) ?_
    quiet_step (fail)
    quiet_step (exact k13.out _ _)
    quiet_step (fail)
    quiet_step (fail)
    quiet_step (exact k14.out _ _)
    quiet_step (fail)
    quiet_step (fail)
    refine wpQuiet_nil ?_
    rintro _ ⟨⟨dq, osq⟩, rfl⟩
    replace hbe := Lib.hid (Below.up hbe.out (below_regrown w1 dq osq))
    clear d0 d1 d2 d3 d4 k13 k14
    obtain ⟨w2, hw2⟩ : ∃ W, W = grow (redrawn w1 dq) osq := ⟨_, rfl⟩
    simp only [← hw2] at hbe ⊢
    clear hw2
    obtain ⟨⟨s0, s1⟩, p0, p1, p2⟩ := hcells.out _ hbe.out
    have hC := (hAt.out _ hbe.out).k15
    try simp only [errOf, if_true, Bool.true_and] at hC
    replace hC := Lib.hid hC
    go_upto_region 99 with fail
    refine (hC.out).mono ?_
    rintro e wn ⟨rfl, hbe2⟩
    clear hC s0 s1 p0 p1 p2
    replace hbe := Lib.hid (Below.up hbe.out hbe2)
    clear hbe2
    obtain ⟨⟨s0, s1⟩, p0, p1, p2⟩ := hcells.out _ hbe.out
    have hC := (hAt.out _ hbe.out).k16
    try simp only [errOf, if_true, Bool.true_and] at hC
    replace hC := Lib.hid hC
    go_upto_region 99 with fail
    refine (hC.out).mono ?_
    rintro e wn ⟨rfl, hbe2⟩
    clear hC s0 s1 p0 p1 p2
    replace hbe := Lib.hid (Below.up hbe.out hbe2)
    clear hbe2
    obtain ⟨⟨s0, s1⟩, p0, p1, p2⟩ := hcells.out _ hbe.out
    have hC := (hAt.out _ hbe.out).k17
    try simp only [errOf, if_true] at hC
    replace hC := Lib.hid hC
    go_upto_region 99 with fail
    refine (hC.out).mono ?_
    rintro e wn ⟨v, rfl, hrow, -, hbe2⟩
    clear hC s0 s1 p0 p1 p2
    obtain ⟨av, cv, rfl, -⟩ := row_ints hrow.out
    replace hbe := Lib.hid (Below.up hbe.out hbe2)
    clear hbe2
    have hrowU : Hid (∀ W, Below wn.heap.size wn W → IsInts W.heap.size W (intsOf L) av L.length cv) := Lib.hid (fun W hW => by
      obtain ⟨av', cv', he, hi⟩ := row_ints (ownsRow_up hrow.out hW (Nat.le_refl _))
      simp only [Value.slice.injEq] at he
      obtain ⟨rfl, -, rfl⟩ := he
      exact hi)
    clear hrow
    obtain ⟨w3, hw3⟩ : ∃ W, W = wn := ⟨_, rfl⟩
    rw [← hw3] at hrowU
    have hsince : Hid (Below w3.heap.size w3 wn) := Lib.hid (by rw [hw3]; exact Below.refl _ _)
    clear hw3
    obtain ⟨⟨s0, s1⟩, p0, p1, p2⟩ := hcells.out _ hbe.out
    have hC := (hAt.out _ hbe.out).k18
    try simp only [errOf, if_true, Bool.false_eq_true, if_false, Bool.true_and, Bool.false_and] at hC
    replace hC := Lib.hid hC
    go_upto_region 99 with fail
    refine (hC.out).mono ?_
    rintro e wn ⟨rfl, hbe2⟩
    clear hC s0 s1 p0 p1 p2
    replace hsince := Lib.hid (Below.up hsince.out hbe2)
    replace hbe := Lib.hid (Below.up hbe.out hbe2)
    clear hbe2
    obtain ⟨⟨s0, s1⟩, p0, p1, p2⟩ := hcells.out _ hbe.out
    have hC := (hAt.out _ hbe.out).k19
    try simp only [errOf, if_true, Bool.false_eq_true, if_false, Bool.true_and, Bool.false_and] at hC
    replace hC := Lib.hid hC
    go_upto_region 99 with fail
    refine (hC.out).mono ?_
    rintro e wn ⟨rfl, hbe2⟩
    clear hC s0 s1 p0 p1 p2
    replace hsince := Lib.hid (Below.up hsince.out hbe2)
    replace hbe := Lib.hid (Below.up hbe.out hbe2)
    clear hbe2
    obtain ⟨⟨s0, s1⟩, p0, p1, p2⟩ := hcells.out _ hbe.out
    have hC := (hAt.out _ hbe.out).k20
    try simp only [errOf, if_true, Bool.false_eq_true, if_false, Bool.true_and, Bool.false_and] at hC
    replace hC := Lib.hid hC
    go_upto_region 99 with fail
    refine (hC.out).mono ?_
    rintro e wn ⟨rfl, hbe2⟩
    clear hC s0 s1 p0 p1 p2
    replace hsince := Lib.hid (Below.up hsince.out hbe2)
    replace hbe := Lib.hid (Below.up hbe.out hbe2)
    clear hbe2
    cases va
    · obtain ⟨⟨s0, s1⟩, p0, p1, p2⟩ := hcells.out _ hbe.out
      have hC := (hAt.out _ hbe.out).k22 rfl
      try simp only [errOf, if_true, Bool.false_eq_true, if_false, Bool.true_and, Bool.false_and] at hC
      replace hC := Lib.hid hC
      go_upto_region 99 with fail
      refine (hC.out).mono ?_
      rintro e wn ⟨rfl, hbe2⟩
      clear hC s0 s1 p0 p1 p2
      replace hsince := Lib.hid (Below.up hsince.out hbe2)
      replace hbe := Lib.hid (Below.up hbe.out hbe2)
      clear hbe2
      obtain ⟨⟨s0, s1⟩, p0, p1, p2⟩ := hcells.out _ hbe.out
      have hC := (hAt.out _ hbe.out).k24 rfl
      try simp only [errOf, if_true, Bool.false_eq_true, if_false, Bool.true_and, Bool.false_and] at hC
      replace hC := Lib.hid hC
      go_upto_region 99 with fail
      refine (hC.out).mono ?_
      rintro e wn ⟨v2, rfl, hrow, hbe2⟩
      clear hC s0 s1 p0 p1 p2
      obtain ⟨av2, cv2, rfl, hi2⟩ := row_ints hrow.out
      clear hrow
      replace hi2 := Lib.hid hi2
      replace hsince := Lib.hid (Below.up hsince.out hbe2)
      replace hbe := Lib.hid (Below.up hbe.out hbe2)
      clear hbe2
      have hC := SameInts_any (intsOf L) (intsOf L) wn.heap.size wn av L.length cv av2 L.length cv2 (hrowU.out _ hsince.out) hi2.out (Nat.le_refl _)
      simp only [decide_true] at hC
      replace hC := Lib.hid hC
      clear hi2
      go_upto_region 99 with fail
      refine (hC.out).mono ?_
      rintro e wm ⟨rfl, hbe2⟩
      clear hC
      replace hbe := Lib.hid (Below.up hbe.out hbe2)
      clear hbe2
      go_wp2_with (go_at_call 12; refine (hKn.out _).mono ?_; rintro e wl ⟨rfl, hbe2⟩)
      go_ret
      exact ⟨rfl, Below.up hB0.out (Below.up hbe.out hbe2)⟩
    · obtain ⟨⟨s0, s1⟩, p0, p1, p2⟩ := hcells.out _ hbe.out
      have hC := (hAt.out _ hbe.out).k21 rfl rfl
      try simp only [errOf, if_true, Bool.false_eq_true, if_false, Bool.true_and, Bool.false_and] at hC
      replace hC := Lib.hid hC
      go_upto_region 99 with fail
      refine (hC.out).mono ?_
      rintro e wn ⟨rfl, hbe2⟩
      clear hC s0 s1 p0 p1 p2
      replace hsince := Lib.hid (Below.up hsince.out hbe2)
      replace hbe := Lib.hid (Below.up hbe.out hbe2)
      clear hbe2
      obtain ⟨⟨s0, s1⟩, p0, p1, p2⟩ := hcells.out _ hbe.out
      have hC := (hAt.out _ hbe.out).k22 rfl
      try simp only [errOf, if_true, Bool.false_eq_true, if_false, Bool.true_and, Bool.false_and] at hC
      replace hC := Lib.hid hC
      go_upto_region 99 with fail
      refine (hC.out).mono ?_
      rintro e wn ⟨rfl, hbe2⟩
      clear hC s0 s1 p0 p1 p2
      replace hsince := Lib.hid (Below.up hsince.out hbe2)
      replace hbe := Lib.hid (Below.up hbe.out hbe2)
      clear hbe2
      obtain ⟨⟨s0, s1⟩, p0, p1, p2⟩ := hcells.out _ hbe.out
      have hC := (hAt.out _ hbe.out).k24 rfl
      try simp only [errOf, if_true, Bool.false_eq_true, if_false, Bool.true_and, Bool.false_and] at hC
      replace hC := Lib.hid hC
      go_upto_region 99 with fail
      refine (hC.out).mono ?_
      rintro e wn ⟨v2, rfl, hrow, hbe2⟩
      clear hC s0 s1 p0 p1 p2
      obtain ⟨av2, cv2, rfl, hi2⟩ := row_ints hrow.out
      clear hrow
      replace hi2 := Lib.hid hi2
      replace hsince := Lib.hid (Below.up hsince.out hbe2)
      replace hbe := Lib.hid (Below.up hbe.out hbe2)
      clear hbe2
      have hC := SameInts_any (intsOf L) (intsOf L) wn.heap.size wn av L.length cv av2 L.length cv2 (hrowU.out _ hsince.out) hi2.out (Nat.le_refl _)
      simp only [decide_true] at hC
      replace hC := Lib.hid hC
      clear hi2
      go_upto_region 99 with fail
      refine (hC.out).mono ?_
      rintro e wm ⟨rfl, hbe2⟩
      clear hC
      replace hbe := Lib.hid (Below.up hbe.out hbe2)
      clear hbe2
      go_wp2_with (go_at_call 12; refine (hKn.out _).mono ?_; rintro e wl ⟨rfl, hbe2⟩)
      go_ret
      exact ⟨rfl, Below.up hB0.out (Below.up hbe.out hbe2)⟩

end Go.Proofs.YthlegfegkopdkaaGreat
