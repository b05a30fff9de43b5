/- Own text, joined of: X5. TermVariants, of arguments that lie in memory. -/
import Derived.Test.YthlegfegkopdkaaGreatGe09
import Derived.Test.YthlegfegkopdkaaGreatGe30
import Derived.Test.YthlegfegkopdkaaGreatGe31

namespace Go.Proofs.YthlegfegkopdkaaGreat
open Go.RowKit Go.Shelf Go.Sort

theorem small2v (s : Sg) (d x : DT) (n₀ : Nat) (w : World) (ac : Option Addr) (lc cc : Nat) (af : Option Addr) (lf cf : Nat) (hs : IsSg n₀ w s ac lc cc af lf cf) (h1 : Lies n₀ w d) (h2 : Lies n₀ w x) (hn : n₀ ≤ w.heap.size) :
    Calls Tryz.prog 11 #[.agg #[.slice ac lc cc, .slice af lf cf], .slice (some ⟨w.heap.size, 0, none⟩) 2 2] (w.alloc (.cells #[.int .i64 d.op, .int .i64 d.n, .slice d.a d.l d.c, .int .i64 x.op, .int .i64 x.n, .slice x.a x.l x.c] 28))
      fun e w' => e = .returned (.bool (smallDs [d, x] && smallB s)) ∧ Below w.heap.size w w' := by
  have hb := bal w (.cells #[.int .i64 d.op, .int .i64 d.n, .slice d.a d.l d.c, .int .i64 x.op, .int .i64 x.n, .slice x.a x.l x.c] 28)
  refine (small_any s [d, x] (w.heap.size + 1) _ ac lc cc af lf cf w.heap.size 0 2 ((hs.below (hb.mono hn)).wider (by omega)) (two_lies' h1 h2 hn) (by omega) ⟨by simp, by omega⟩ (by simp)).mono ?_
  rintro e w' ⟨he, h⟩
  exact ⟨he, hb.trans (h.mono (by simp))⟩
theorem given2v (s : Sg) (d x : DT) (n₀ : Nat) (w : World) (ac : Option Addr) (lc cc : Nat) (af : Option Addr) (lf cf : Nat) (hs : IsSg n₀ w s ac lc cc af lf cf) (h1 : Lies n₀ w d) (h2 : Lies n₀ w x) (hn : n₀ ≤ w.heap.size) :
    Calls Tryz.prog 19 #[.agg #[.slice ac lc cc, .slice af lf cf], .slice (some ⟨w.heap.size, 0, none⟩) 2 2] (w.alloc (.cells #[.int .i64 d.op, .int .i64 d.n, .slice d.a d.l d.c, .int .i64 x.op, .int .i64 x.n, .slice x.a x.l x.c] 28))
      fun e w' => e = .returned (.bool (checkB s [d, x])) ∧ Below w.heap.size w w' := by
  have hb := bal w (.cells #[.int .i64 d.op, .int .i64 d.n, .slice d.a d.l d.c, .int .i64 x.op, .int .i64 x.n, .slice x.a x.l x.c] 28)
  refine (given_any s [d, x] (w.heap.size + 1) _ ac lc cc af lf cf w.heap.size 0 2 ((hs.below (hb.mono hn)).wider (by omega)) (two_lies' h1 h2 hn) (by omega) ⟨by simp, by omega⟩ (by simp)).mono ?_
  rintro e w' ⟨he, h⟩
  exact ⟨by rw [he]; rfl, hb.trans (h.mono (by simp))⟩
theorem check_pair (s : Sg) (d x : DT) : checkB s [d, x] = (checkB s [d] && checkB s [x]) := by
  unfold checkB
  simp only [List.all_cons, List.all_nil, Bool.and_true]
  cases sigB s <;> cases formedB s d.tm <;> cases formedB s x.tm <;> rfl

theorem Fresh.none_v {w w' : World} {op n : Int} {a : Option Addr} {l c : Nat} (h : Fresh w w' (.mk op n []) a l c) : l = 0 := by
  obtain ⟨h1, -⟩ := h.is.open
  exact h1
theorem Fresh.leafv (w w' : World) (op n : Int) : Fresh w w' (.mk op n []) none 0 0 := by
  simp only [Fresh, TmP]; exact ⟨rfl, by omega, by omega, .inl trivial⟩
/-- What 'Order' answers of a formed expression: it is too large, or its order. -/
def OrdAns (T R : Tm) (E : Int) (K : Nat) : Prop := (20 < K ∧ T = .mk 0 0 [] ∧ E = 3) ∨ (K ≤ 20 ∧ T = R ∧ E = 0)
theorem ord_ans {s : Sg} {d : DT} (h : checkB s [d] = true) : OrdAns (orderA s d).1 (ordE d.tm).1 (orderA s d).2 (ordE d.tm).2.count := by
  unfold orderA OrdAns
  rw [if_pos h]
  by_cases h2 : 20 < (ordE d.tm).2.count
  · exact .inl ⟨h2, by simp [h2], by simp [h2]⟩
  · exact .inr ⟨by omega, by simp [h2], by simp [h2]⟩

/-- What the law's calls answer, in every world behind the boxes. -/
structure VarsAt (s : Sg) (d x : DT) (m : Nat) (ac : Option Addr) (lc cc : Nat) (af : Option Addr) (lf cf : Nat) (T1 T2 R Q : Tm) (E1 E2 : Int) (b : Bool) (W0 : World) : Prop where
  k34 : ∀ W, Below W0.heap.size W0 W → Calls Tryz.prog 34 #[.agg #[.slice ac lc cc, .slice af lf cf], .agg #[.int .i64 d.op, .int .i64 d.n, .slice d.a d.l d.c], .agg #[.int .i64 x.op, .int .i64 x.n, .slice x.a x.l x.c]] W fun e w' => e = .returned (.tuple #[.bool b, .int .i64 0]) ∧ Below W.heap.size W w'
  k34' : ∀ W, Below W0.heap.size W0 W → Calls Tryz.prog 34 #[.agg #[.slice ac lc cc, .slice af lf cf], .agg #[.int .i64 x.op, .int .i64 x.n, .slice x.a x.l x.c], .agg #[.int .i64 d.op, .int .i64 d.n, .slice d.a d.l d.c]] W fun e w' => e = .returned (.tuple #[.bool b, .int .i64 0]) ∧ Below W.heap.size W w'
  k33 : ∀ W, Below W0.heap.size W0 W → Calls Tryz.prog 33 #[.agg #[.slice ac lc cc, .slice af lf cf], .agg #[.int .i64 d.op, .int .i64 d.n, .slice d.a d.l d.c]] W fun e w' => ∃ a l c, e = .returned (.tuple #[.agg #[.int .i64 T1.op, .int .i64 T1.n, .slice a l c], .int .i64 E1]) ∧ Fresh W w' T1 a l c ∧ Below W.heap.size W w'
  k33' : ∀ W, Below W0.heap.size W0 W → Calls Tryz.prog 33 #[.agg #[.slice ac lc cc, .slice af lf cf], .agg #[.int .i64 x.op, .int .i64 x.n, .slice x.a x.l x.c]] W fun e w' => ∃ a l c, e = .returned (.tuple #[.agg #[.int .i64 T2.op, .int .i64 T2.n, .slice a l c], .int .i64 E2]) ∧ Fresh W w' T2 a l c ∧ Below W.heap.size W w'
  kz : ∀ Z, formedB s Z = true → (ordE Z).1 = R → ∀ W a l c, Below W0.heap.size W0 W → IsTm W.heap.size W Z a l c → Calls Tryz.prog 34 #[.agg #[.slice ac lc cc, .slice af lf cf], .agg #[.int .i64 d.op, .int .i64 d.n, .slice d.a d.l d.c], .agg #[.int .i64 Z.op, .int .i64 Z.n, .slice a l c]] W fun e w' => e = .returned (.tuple #[.bool true, .int .i64 0]) ∧ Below W.heap.size W w'
  k26 : ∀ W a l c, Below W0.heap.size W0 W → IsBinds W.heap.size W (turnL m 20) a l c → ∃ Z E, ((E = 3 ∧ Z = .mk 0 0 []) ∨ (E = 0 ∧ formedB s Z = true ∧ (ordE Z).1 = R)) ∧ Calls Tryz.prog 26 #[.agg #[.slice ac lc cc, .slice af lf cf], .agg #[.int .i64 d.op, .int .i64 d.n, .slice d.a d.l d.c], .slice a l c] W (SubstEnd W (Z, E))

theorem vars_at {s : Sg} {d x : DT} {n₀ m : Nat} {W0 : World} {ac : Option Addr} {lc cc : Nat} {af : Option Addr} {lf cf : Nat} (hs : IsSg n₀ W0 s ac lc cc af lf cf) (h1 : Lies n₀ W0 d) (h2 : Lies n₀ W0 x) (hn : n₀ ≤ W0.heap.size) (hsm1 : smallT d.tm = true) (hsm2 : smallT x.tm = true) (hc : checkB s [d, x] = true) :
    VarsAt s d x m ac lc cc af lf cf (orderA s d).1 (orderA s x).1 (ordE d.tm).1 (ordE x.tm).1 (orderA s d).2 (orderA s x).2 (sameB (ordE d.tm).1 (ordE x.tm).1) W0 := by
  have hlie : ∀ W, Below W0.heap.size W0 W → n₀ ≤ W.heap.size ∧ IsSg n₀ W s ac lc cc af lf cf ∧ Lies n₀ W d ∧ Lies n₀ W x := fun W h => by
    have hb := h.mono hn
    exact ⟨by have := h.size; omega, hs.below hb, h1.below hb, h2.below hb⟩
  have hcd : checkB s [d] = true ∧ checkB s [x] = true := by
    rw [check_pair, Bool.and_eq_true] at hc; exact hc
  have hc' : checkB s [x, d] = true := by rw [check_pair, hcd.1, hcd.2]; rfl
  have hO := OkV.checked hcd.1 (List.mem_singleton.2 rfl)
  have hsz := small_size hsm1
  have hsz2 := small_size hsm2
  refine ⟨fun W hW => ?_, fun W hW => ?_, fun W hW => ?_, fun W hW => ?_, fun Z hZ hZo W a l c hW hI => ?_, fun W a l c hW hB => ?_⟩
  · obtain ⟨q0, q1, q2, q3⟩ := hlie W hW
    have := Variant_any s d x n₀ W ac lc cc af lf cf hsz hsz2 q0 q1 q2 q3
    unfold variantA at this
    rw [hc] at this
    exact this
  · obtain ⟨q0, q1, q2, q3⟩ := hlie W hW
    have := Variant_any s x d n₀ W ac lc cc af lf cf hsz2 hsz q0 q1 q3 q2
    unfold variantA at this
    rw [hc', sameB_symm] at this
    exact this
  · obtain ⟨q0, q1, q2, q3⟩ := hlie W hW
    exact Order_any s d n₀ W ac lc cc af lf cf hsz q0 q1 q2
  · obtain ⟨q0, q1, q2, q3⟩ := hlie W hW
    exact Order_any s x n₀ W ac lc cc af lf cf hsz2 q0 q1 q3
  · obtain ⟨q0, q1, q2, q3⟩ := hlie W hW
    obtain ⟨D, D1, D2, D3, D4, D5, D6, D7⟩ := hI.placed
    have hcD : checkB s [D] = true := by
      unfold checkB at hcd ⊢
      simp only [List.all_cons, List.all_nil, Bool.and_true, Bool.and_eq_true] at hcd ⊢
      exact ⟨hcd.1.1, by rw [D2]; exact hZ⟩
    have hDs : 1 + D.size ≤ 1000000 := by have := formed_size hZ; rw [← D2, size_tm] at this; omega
    have := Variant_any s d D W.heap.size W ac lc cc af lf cf hsz hDs (Nat.le_refl _) (q1.wider q0) (q2.wider q0) D1
    unfold variantA at this
    have e : dv D = .agg #[.int .i64 Z.op, .int .i64 Z.n, .slice a l c] := by
      show Value.agg #[.int .i64 D.op, .int .i64 D.n, .slice D.a D.l D.c] = _
      rw [D3, D4, D5, D6, D7]
    rw [check_pair, hcd.1, hcD, D2, hZo, sameB_refl, e] at this
    exact this
  · obtain ⟨q0, q1, q2, q3⟩ := hlie W hW
    obtain ⟨bs, hL, hp⟩ := hB.placed
    have hlf : lfB s (-1) (pbs bs) = true := by rw [hp]; exact turn_lf s m
    have hbs : ∀ y ∈ bs, 1 + y.d.size ≤ 1000000 := fun y hy => by
      obtain ⟨-, hall⟩ := lfB_all hlf (by omega) (by omega)
      have := formed_size (hall (y.v, y.d.tm) (List.mem_map.2 ⟨y, hy, rfl⟩)).2
      rw [size_tm] at this
      omega
    cases hT : putF (bindK bs bs.length) (stK bs bs.length) d.size (fun _ => false) d.tm with
    | none => exact ⟨.mk 0 0 [], 3, .inl ⟨rfl, rfl⟩, Subst_gone s d bs d.size W.heap.size W ac lc cc af lf cf a l c hsz hbs (Nat.le_refl _) (q1.wider q0) (q2.wider q0) hL hcd.1 hlf hT (Nat.le_refl _)⟩
    | some T =>
      have hS := Subst_any s d bs T W.heap.size W ac lc cc af lf cf a l c hsz hbs (Nat.le_refl _) (q1.wider q0) (q2.wider q0) hL (fun _ _ => ⟨_, hT⟩)
      unfold substA at hS
      rw [if_pos hcd.1, if_pos hlf] at hS
      cases hf : formedB s T with
      | true => rw [hf, if_pos rfl] at hS; exact ⟨T, 0, .inr ⟨rfl, hf, turn_ord hp hO hT⟩, hS⟩
      | false => rw [hf, if_neg (by simp)] at hS; exact ⟨.mk 0 0 [], 3, .inl ⟨rfl, rfl⟩, hS⟩

set_option maxRecDepth 100000 in
set_option maxHeartbeats 8000000 in
theorem TermVariants_any (s : Sg) (d x : DT) (m : Nat) (hm : m < 256) (n₀ : Nat) (w : World) (ac : Option Addr) (lc cc : Nat) (af : Option Addr) (lf cf : Nat) (hs : IsSg n₀ w s ac lc cc af lf cf) (h1 : Lies n₀ w d) (h2 : Lies n₀ w x) (hn : n₀ ≤ w.heap.size) :
    Calls Tryz.prog 8 #[.agg #[.slice ac lc cc, .slice af lf cf], .agg #[.int .i64 d.op, .int .i64 d.n, .slice d.a d.l d.c], .agg #[.int .i64 x.op, .int .i64 x.n, .slice x.a x.l x.c], .int .u8 (m : Nat)] w
      fun e w' => e = .returned (.bool true) ∧ Below w.heap.size w w' := by
  obtain ⟨wa, hwa⟩ : ∃ W, W = bs1 w ac lc cc af lf cf := ⟨_, rfl⟩
  obtain ⟨wb, hwb⟩ : ∃ W, W = bt1 wa d := ⟨_, rfl⟩
  obtain ⟨W0, hW0⟩ : ∃ W, W = bt1 wb x := ⟨_, rfl⟩
  have hza : wa.heap.size = w.heap.size + 1 := by rw [hwa]; simp
  have hzb : wb.heap.size = w.heap.size + 1 + 1 := by rw [hwb]; simp [hza]
  have hz0 : W0.heap.size = w.heap.size + 1 + 1 + 1 := by rw [hW0]; simp [hzb]
  have ba : Below w.heap.size w wa := by rw [hwa]; exact bal _ _
  have bb : Below wa.heap.size wa wb := by rw [hwb]; exact bal _ _
  have bd : Below wb.heap.size wb W0 := by rw [hW0]; exact bal _ _
  have hB0 : Below w.heap.size w W0 := Below.up ba (Below.up bb bd)
  have hcells : Hid (∀ W, Below W0.heap.size W0 W → (W.cell? ⟨w.heap.size, 0, none⟩ = some (.slice ac lc cc) ∧ W.cell? ⟨w.heap.size, 1, none⟩ = some (.slice af lf cf)) ∧ (W.cell? ⟨w.heap.size + 1, 0, none⟩ = some (.int .i64 d.op) ∧ W.cell? ⟨w.heap.size + 1, 1, none⟩ = some (.int .i64 d.n) ∧ W.cell? ⟨w.heap.size + 1, 2, none⟩ = some (.slice d.a d.l d.c)) ∧ (W.cell? ⟨w.heap.size + 1 + 1, 0, none⟩ = some (.int .i64 x.op) ∧ W.cell? ⟨w.heap.size + 1 + 1, 1, none⟩ = some (.int .i64 x.n) ∧ W.cell? ⟨w.heap.size + 1 + 1, 2, none⟩ = some (.slice x.a x.l x.c))) := Lib.hid (fun W h => by
    have e0 := box_s hwa (Nat.le_refl _) (Below.up bb (Below.up bd h))
    have e1 := box_t hwb (Nat.le_refl _) (Below.up bd h)
    have e2 := box_t hW0 (Nat.le_refl _) h
    rw [hza] at e1; rw [hzb] at e2
    exact ⟨e0, e1, e2⟩)
  have hlie : Hid (∀ W, Below W0.heap.size W0 W → n₀ ≤ W.heap.size ∧ IsSg n₀ W s ac lc cc af lf cf ∧ Lies n₀ W d ∧ Lies n₀ W x) := Lib.hid (fun W h => by
    have hb := (Below.up hB0 h).mono hn
    exact ⟨by have := h.size; omega, hs.below hb, h1.below hb, h2.below hb⟩)
  have hG : Calls Tryz.prog 11 #[.agg #[.slice ac lc cc, .slice af lf cf], .slice (some ⟨W0.heap.size, 0, none⟩) 2 2] (W0.alloc (.cells #[.int .i64 d.op, .int .i64 d.n, .slice d.a d.l d.c, .int .i64 x.op, .int .i64 x.n, .slice x.a x.l x.c] 28))
      fun e w' => e = .returned (.bool (smallDs [d, x] && smallB s)) ∧ Below W0.heap.size W0 w' := by
    obtain ⟨q0, q1, q2, q3⟩ := hlie.out W0 (Below.refl _ _)
    exact small2v s d x n₀ W0 ac lc cc af lf cf q1 q2 q3 q0
  have hb0 : Hid (∀ W, Below (w.heap.size + 1 + 1 + 1) (bt1 (bt1 (bs1 w ac lc cc af lf cf) d) x) W → Below W0.heap.size W0 W) := Lib.hid (fun W h => by rw [hz0, hW0, hwb, hwa]; exact h)
  rw [hz0, hW0, hwb, hwa] at hG
  have hKn := fun W => known_any W
  replace hKn := Lib.hid hKn
  have hsm : Hid ((smallDs [d, x] && smallB s) = true → smallT d.tm = true ∧ smallT x.tm = true) := Lib.hid (fun h => by
    simp only [smallDs, List.all_cons, List.all_nil, Bool.and_true, Bool.and_eq_true] at h
    exact h.1)
  obtain ⟨g, hg⟩ : ∃ g, g = (smallDs [d, x] && smallB s) := ⟨_, rfl⟩
  rw [← hg] at hG hsm
  have h19 : Hid (∀ W, Below W0.heap.size W0 W → Calls Tryz.prog 19 #[.agg #[.slice ac lc cc, .slice af lf cf], .slice (some ⟨W.heap.size, 0, none⟩) 2 2] (W.alloc (.cells #[.int .i64 d.op, .int .i64 d.n, .slice d.a d.l d.c, .int .i64 x.op, .int .i64 x.n, .slice x.a x.l x.c] 28)) fun e w' => e = .returned (.bool (checkB s [d, x])) ∧ Below W.heap.size W w') := Lib.hid (fun W hW => by
    obtain ⟨q0, q1, q2, q3⟩ := hlie.out W hW
    exact given2v s d x n₀ W ac lc cc af lf cf q1 q2 q3 q0)
  have hAt : Hid (smallT d.tm = true → smallT x.tm = true → checkB s [d, x] = true → (OrdAns (orderA s d).1 (ordE d.tm).1 (orderA s d).2 (ordE d.tm).2.count ∧ OrdAns (orderA s x).1 (ordE x.tm).1 (orderA s x).2 (ordE x.tm).2.count) ∧ (decide (0 ≤ weigh (ordE d.tm).1 50 14) = true ∧ decide (0 ≤ weigh (ordE x.tm).1 50 14) = true) ∧ ((ordE d.tm).2.count ≤ 20 → formedB s (ordE d.tm).1 = true ∧ (ordE (ordE d.tm).1).1 = (ordE d.tm).1) ∧ VarsAt s d x m ac lc cc af lf cf (orderA s d).1 (orderA s x).1 (ordE d.tm).1 (ordE x.tm).1 (orderA s d).2 (orderA s x).2 (sameB (ordE d.tm).1 (ordE x.tm).1) W0) := Lib.hid (fun e1 e2 hc => by
    obtain ⟨q0, q1, q2, q3⟩ := hlie.out W0 (Below.refl _ _)
    have hcd := hc
    rw [check_pair, Bool.and_eq_true] at hcd
    have hO := OkV.checked hcd.1 (List.mem_singleton.2 rfl)
    have hO' := OkV.checked hcd.2 (List.mem_singleton.2 rfl)
    have hf : formedB s d.tm = true := by
      have := hcd.1
      unfold checkB at this
      simp only [List.all_cons, List.all_nil, Bool.and_true, Bool.and_eq_true] at this
      exact this.2
    exact ⟨⟨ord_ans hcd.1, ord_ans hcd.2⟩, ⟨small_ordE hO e1, small_ordE hO' e2⟩, fun hk => ⟨ord_formed hf hk, ord_again hO⟩, vars_at q1 q2 q3 q0 e1 e2 hc⟩)
  obtain ⟨T1, hT1⟩ : ∃ T, T = (orderA s d).1 := ⟨_, rfl⟩
  obtain ⟨E1, hE1⟩ : ∃ T, T = (orderA s d).2 := ⟨_, rfl⟩
  obtain ⟨T2, hT2⟩ : ∃ T, T = (orderA s x).1 := ⟨_, rfl⟩
  obtain ⟨E2, hE2⟩ : ∃ T, T = (orderA s x).2 := ⟨_, rfl⟩
  obtain ⟨R, hR⟩ : ∃ T, T = (ordE d.tm).1 := ⟨_, rfl⟩
  obtain ⟨K1, hK1⟩ : ∃ T, T = (ordE d.tm).2.count := ⟨_, rfl⟩
  obtain ⟨K2, hK2⟩ : ∃ T, T = (ordE x.tm).2.count := ⟨_, rfl⟩
  obtain ⟨Q, hQ⟩ : ∃ T, T = (ordE x.tm).1 := ⟨_, rfl⟩
  obtain ⟨c, hc⟩ : ∃ T, T = checkB s [d, x] := ⟨_, rfl⟩
  rw [← hc] at h19
  rw [← hT1, ← hE1, ← hT2, ← hE2, ← hR, ← hQ, ← hK1, ← hK2, ← hc] at hAt
  clear hT1 hE1 hT2 hE2 hR hQ hK1 hK2 hc
  replace hG := Lib.hid hG
  replace hB0 := Lib.hid hB0
  clear hs h1 h2 ba bb bd hW0 hz0 hza hzb hwa hwb hg hlie
  obtain ⟨i0, hi, hz0, hz1, hz2⟩ := info_parts inf70
  go_enter Tryz.func8, Tryz.ntmps8
  go_upto_region 99 with fail
  refine (hG.out).mono ?_
  rintro e w1 ⟨rfl, hbe⟩
  replace hbe := Lib.hid (hb0.out _ hbe)
  clear hG
  cases g
  · go_wp2_with (go_at_call 12; refine (hKn.out _).mono ?_; rintro e w2 ⟨rfl, hbe2⟩)
    go_ret
    exact ⟨rfl, Below.up hB0.out (Below.up hbe.out hbe2)⟩
  obtain ⟨sm1, sm2⟩ := hsm.out rfl
  replace hAt := Lib.hid (hAt.out sm1 sm2)
  clear hsm sm1 sm2 hb0

  cases c
  · obtain ⟨⟨s0, s1⟩, ⟨p0, p1, p2⟩, ⟨p3, p4, p5⟩⟩ := hcells.out _ hbe.out
    have hC := h19.out _ hbe.out
    replace hC := Lib.hid hC
    go_upto_region 99 with fail
    refine (hC.out).mono ?_
    rintro e wn ⟨rfl, hbe2⟩
    clear hC s0 s1 p0 p1 p2 p3 p4 p5
    replace hbe := Lib.hid (Below.up hbe.out hbe2)
    clear hbe2
    go_wp2_with (go_at_call 12; refine (hKn.out _).mono ?_; rintro e wl ⟨rfl, hbe2⟩)
    go_ret
    exact ⟨rfl, Below.up hB0.out (Below.up hbe.out hbe2)⟩
  replace hAt := Lib.hid (hAt.out rfl)
  obtain ⟨⟨s0, s1⟩, ⟨p0, p1, p2⟩, ⟨p3, p4, p5⟩⟩ := hcells.out _ hbe.out
  have hC := h19.out _ hbe.out
  replace hC := Lib.hid hC
  go_upto_region 99 with fail
  refine (hC.out).mono ?_
  rintro e wm ⟨rfl, hbe2⟩
  clear hC s0 s1 p0 p1 p2 p3 p4 p5 h19
  replace hbe := Lib.hid (Below.up hbe.out hbe2)
  clear hbe2
  obtain ⟨⟨o1, o2⟩, ⟨hR1, hR2⟩, hRf, hV⟩ := hAt.out
  clear hAt
  replace hR1 := Lib.hid hR1
  replace hR2 := Lib.hid hR2
  replace hRf := Lib.hid hRf
  obtain ⟨b, hb0⟩ : ∃ b, b = sameB R Q := ⟨_, rfl⟩
  rw [← hb0] at hV
  have hbe0 := Lib.hid hb0
  clear hb0
  unfold OrdAns at o1 o2
  obtain ⟨hk1, hT, hE⟩ | ⟨hk1, hT, hE⟩ := o1
  · subst hE
    rw [hT] at hV
    clear hT hk1
    obtain ⟨hk2, hT, hE⟩ | ⟨hk2, hT, hE⟩ := o2
    · subst hE
      rw [hT] at hV
      clear hT hk2
      replace hV := Lib.hid hV
      obtain ⟨⟨s0, s1⟩, ⟨p0, p1, p2⟩, ⟨p3, p4, p5⟩⟩ := hcells.out _ hbe.out
      have hC := hV.out.k34 _ hbe.out
      replace hC := Lib.hid hC
      go_upto_region 99 with fail
      refine (hC.out).mono ?_
      rintro e wm ⟨rfl, hbe2⟩
      clear hC s0 s1 p0 p1 p2 p3 p4 p5
      replace hbe := Lib.hid (Below.up hbe.out hbe2)
      clear hbe2
      obtain ⟨⟨s0, s1⟩, ⟨p0, p1, p2⟩, ⟨p3, p4, p5⟩⟩ := hcells.out _ hbe.out
      have hC := hV.out.k34' _ hbe.out
      replace hC := Lib.hid hC
      go_upto_region 99 with fail
      refine (hC.out).mono ?_
      rintro e wm ⟨rfl, hbe2⟩
      clear hC s0 s1 p0 p1 p2 p3 p4 p5
      replace hbe := Lib.hid (Below.up hbe.out hbe2)
      clear hbe2
      obtain ⟨⟨s0, s1⟩, ⟨p0, p1, p2⟩, ⟨p3, p4, p5⟩⟩ := hcells.out _ hbe.out
      have hC := hV.out.k33 _ hbe.out
      simp only [Tm.op, Tm.n] at hC
      replace hC := Lib.hid hC
      go_upto_region 99 with fail
      refine (hC.out).mono ?_
      rintro e wm ⟨a1, l1, k1, rfl, hF1, hbe2⟩
      clear hC s0 s1 p0 p1 p2 p3 p4 p5
      obtain rfl := hF1.none_v
      clear hF1
      replace hbe := Lib.hid (Below.up hbe.out hbe2)
      clear hbe2
      obtain ⟨w5, hwx⟩ : ∃ W, W = wm.alloc (.cells #[.int .i64 0, .int .i64 0, .slice a1 0 k1] 28) := ⟨_, rfl⟩
      have st : Below wm.heap.size wm w5 := by rw [hwx]; exact bal _ _
      obtain ⟨Bx, hBx⟩ : ∃ n, n = wm.heap.size := ⟨_, rfl⟩
      have cx : Hid (w5.heap[Bx]? = some (.cells #[.int .i64 0, .int .i64 0, .slice a1 0 k1] 28 (0, 0))) := Lib.hid (by rw [hwx, hBx]; exact heap_new'' _ _)
      replace hbe := Lib.hid (Below.up hbe.out st)
      clear st
      replace hwx := Lib.hid hwx
      replace hBx := Lib.hid hBx
      obtain ⟨⟨s0, s1⟩, ⟨p0, p1, p2⟩, ⟨p3, p4, p5⟩⟩ := hcells.out _ hbe.out
      obtain ⟨⟨zx0, zx1, zx2⟩, -⟩ := c3_cells cx.out
      have hC := hV.out.k33' _ hbe.out
      simp only [Tm.op, Tm.n] at hC
      rw [hwx.out] at hC s0 s1 p0 p1 p2 p3 p4 p5 zx0 zx1 zx2
      replace hC := Lib.hid hC
      go_upto_region 99 with fail
      refine (hC.out).mono ?_
      rintro e wk ⟨a2, l2, k2, rfl, hF2, hbe2⟩
      clear hC s0 s1 p0 p1 p2 p3 p4 p5 zx0 zx1 zx2
      rw [← hwx.out] at hbe2
      rw [← hBx.out]
      obtain rfl := hF2.none_v
      clear hF2
      replace cx := Lib.hid ((hbe2.block _ (Array.getElem?_eq_some_iff.1 cx.out).1).trans cx.out)
      replace hbe := Lib.hid (Below.up hbe.out hbe2)
      clear hbe2 hwx hBx
      obtain ⟨wm, hnm⟩ : ∃ W, W = wk := ⟨_, rfl⟩
      rw [← hnm] at hbe cx ⊢
      clear hnm
      go_wp2_with (go_at_call 12; refine (hKn.out _).mono ?_; rintro e wl ⟨rfl, hbe2⟩)
      go_ret
      exact ⟨rfl, Below.up hB0.out (Below.up hbe.out (Below.up (bal _ _) hbe2))⟩
    subst hE
    rw [hT] at hV
    clear hT hk2
    replace hV := Lib.hid hV
    obtain ⟨⟨s0, s1⟩, ⟨p0, p1, p2⟩, ⟨p3, p4, p5⟩⟩ := hcells.out _ hbe.out
    have hC := hV.out.k34 _ hbe.out
    replace hC := Lib.hid hC
    go_upto_region 99 with fail
    refine (hC.out).mono ?_
    rintro e wm ⟨rfl, hbe2⟩
    clear hC s0 s1 p0 p1 p2 p3 p4 p5
    replace hbe := Lib.hid (Below.up hbe.out hbe2)
    clear hbe2
    obtain ⟨⟨s0, s1⟩, ⟨p0, p1, p2⟩, ⟨p3, p4, p5⟩⟩ := hcells.out _ hbe.out
    have hC := hV.out.k34' _ hbe.out
    replace hC := Lib.hid hC
    go_upto_region 99 with fail
    refine (hC.out).mono ?_
    rintro e wm ⟨rfl, hbe2⟩
    clear hC s0 s1 p0 p1 p2 p3 p4 p5
    replace hbe := Lib.hid (Below.up hbe.out hbe2)
    clear hbe2
    obtain ⟨⟨s0, s1⟩, ⟨p0, p1, p2⟩, ⟨p3, p4, p5⟩⟩ := hcells.out _ hbe.out
    have hC := hV.out.k33 _ hbe.out
    simp only [Tm.op, Tm.n] at hC
    replace hC := Lib.hid hC
    go_upto_region 99 with fail
    refine (hC.out).mono ?_
    rintro e wm ⟨a1, l1, k1, rfl, hF1, hbe2⟩
    clear hC s0 s1 p0 p1 p2 p3 p4 p5
    obtain rfl := hF1.none_v
    clear hF1
    replace hbe := Lib.hid (Below.up hbe.out hbe2)
    clear hbe2
    obtain ⟨w5, hwx⟩ : ∃ W, W = wm.alloc (.cells #[.int .i64 0, .int .i64 0, .slice a1 0 k1] 28) := ⟨_, rfl⟩
    have st : Below wm.heap.size wm w5 := by rw [hwx]; exact bal _ _
    obtain ⟨Bx, hBx⟩ : ∃ n, n = wm.heap.size := ⟨_, rfl⟩
    have cx : Hid (w5.heap[Bx]? = some (.cells #[.int .i64 0, .int .i64 0, .slice a1 0 k1] 28 (0, 0))) := Lib.hid (by rw [hwx, hBx]; exact heap_new'' _ _)
    replace hbe := Lib.hid (Below.up hbe.out st)
    clear st
    replace hwx := Lib.hid hwx
    replace hBx := Lib.hid hBx
    obtain ⟨⟨s0, s1⟩, ⟨p0, p1, p2⟩, ⟨p3, p4, p5⟩⟩ := hcells.out _ hbe.out
    obtain ⟨⟨zx0, zx1, zx2⟩, -⟩ := c3_cells cx.out
    have hC := hV.out.k33' _ hbe.out
    rw [hwx.out] at hC s0 s1 p0 p1 p2 p3 p4 p5 zx0 zx1 zx2
    replace hC := Lib.hid hC
    go_upto_region 99 with fail
    refine (hC.out).mono ?_
    rintro e wk ⟨a2, l2, k2, rfl, hF2, hbe2⟩
    clear hC s0 s1 p0 p1 p2 p3 p4 p5 zx0 zx1 zx2
    rw [← hwx.out] at hbe2
    rw [← hBx.out]
    have t2 := hF2.is
    clear hF2
    replace cx := Lib.hid ((hbe2.block _ (Array.getElem?_eq_some_iff.1 cx.out).1).trans cx.out)
    replace hbe := Lib.hid (Below.up hbe.out hbe2)
    clear hbe2 hwx hBx
    obtain ⟨wm, hnm⟩ : ∃ W, W = wk := ⟨_, rfl⟩
    rw [← hnm] at hbe cx t2 ⊢
    clear hnm
    go_wp2_with (go_at_call 12; refine (hKn.out _).mono ?_; rintro e wl ⟨rfl, hbe2⟩)
    go_ret
    exact ⟨rfl, Below.up hB0.out (Below.up hbe.out (Below.up (bal _ _) hbe2))⟩
  subst hE
  rw [hT] at hV
  clear hT
  replace hRf := Lib.hid (hRf.out hk1)
  clear hk1
  obtain ⟨hk2, hT, hE⟩ | ⟨hk2, hT, hE⟩ := o2
  · subst hE
    rw [hT] at hV
    clear hT hk2
    replace hV := Lib.hid hV
    obtain ⟨⟨s0, s1⟩, ⟨p0, p1, p2⟩, ⟨p3, p4, p5⟩⟩ := hcells.out _ hbe.out
    have hC := hV.out.k34 _ hbe.out
    replace hC := Lib.hid hC
    go_upto_region 99 with fail
    refine (hC.out).mono ?_
    rintro e wm ⟨rfl, hbe2⟩
    clear hC s0 s1 p0 p1 p2 p3 p4 p5
    replace hbe := Lib.hid (Below.up hbe.out hbe2)
    clear hbe2
    obtain ⟨⟨s0, s1⟩, ⟨p0, p1, p2⟩, ⟨p3, p4, p5⟩⟩ := hcells.out _ hbe.out
    have hC := hV.out.k34' _ hbe.out
    replace hC := Lib.hid hC
    go_upto_region 99 with fail
    refine (hC.out).mono ?_
    rintro e wm ⟨rfl, hbe2⟩
    clear hC s0 s1 p0 p1 p2 p3 p4 p5
    replace hbe := Lib.hid (Below.up hbe.out hbe2)
    clear hbe2
    obtain ⟨⟨s0, s1⟩, ⟨p0, p1, p2⟩, ⟨p3, p4, p5⟩⟩ := hcells.out _ hbe.out
    have hC := hV.out.k33 _ hbe.out
    replace hC := Lib.hid hC
    go_upto_region 99 with fail
    refine (hC.out).mono ?_
    rintro e wm ⟨a1, l1, k1, rfl, hF1, hbe2⟩
    clear hC s0 s1 p0 p1 p2 p3 p4 p5
    have t1 := hF1.is
    clear hF1
    replace hbe := Lib.hid (Below.up hbe.out hbe2)
    clear hbe2
    obtain ⟨w5, hwx⟩ : ∃ W, W = wm.alloc (.cells #[.int .i64 R.op, .int .i64 R.n, .slice a1 l1 k1] 28) := ⟨_, rfl⟩
    have st : Below wm.heap.size wm w5 := by rw [hwx]; exact bal _ _
    obtain ⟨Bx, hBx⟩ : ∃ n, n = wm.heap.size := ⟨_, rfl⟩
    have cx : Hid (w5.heap[Bx]? = some (.cells #[.int .i64 R.op, .int .i64 R.n, .slice a1 l1 k1] 28 (0, 0))) := Lib.hid (by rw [hwx, hBx]; exact heap_new'' _ _)
    replace t1 := Lib.hid (IsTm.wider st.size _ (IsTm.below st _ t1))
    replace hbe := Lib.hid (Below.up hbe.out st)
    clear st
    replace hwx := Lib.hid hwx
    replace hBx := Lib.hid hBx
    obtain ⟨⟨s0, s1⟩, ⟨p0, p1, p2⟩, ⟨p3, p4, p5⟩⟩ := hcells.out _ hbe.out
    obtain ⟨⟨zx0, zx1, zx2⟩, -⟩ := c3_cells cx.out
    have hC := hV.out.k33' _ hbe.out
    simp only [Tm.op, Tm.n] at hC
    rw [hwx.out] at hC s0 s1 p0 p1 p2 p3 p4 p5 zx0 zx1 zx2
    replace hC := Lib.hid hC
    go_upto_region 99 with fail
    refine (hC.out).mono ?_
    rintro e wk ⟨a2, l2, k2, rfl, hF2, hbe2⟩
    clear hC s0 s1 p0 p1 p2 p3 p4 p5 zx0 zx1 zx2
    rw [← hwx.out] at hbe2
    rw [← hBx.out]
    obtain rfl := hF2.none_v
    clear hF2
    replace cx := Lib.hid ((hbe2.block _ (Array.getElem?_eq_some_iff.1 cx.out).1).trans cx.out)
    replace t1 := Lib.hid (IsTm.wider hbe2.size _ (IsTm.below hbe2 _ t1.out))
    replace hbe := Lib.hid (Below.up hbe.out hbe2)
    clear hbe2 hwx hBx
    obtain ⟨wm, hnm⟩ : ∃ W, W = wk := ⟨_, rfl⟩
    rw [← hnm] at hbe cx t1 ⊢
    clear hnm
    go_wp2_with (go_at_call 12; refine (hKn.out _).mono ?_; rintro e wl ⟨rfl, hbe2⟩)
    go_ret
    exact ⟨rfl, Below.up hB0.out (Below.up hbe.out (Below.up (bal _ _) hbe2))⟩
  subst hE
  rw [hT] at hV
  clear hT hk2
  replace hV := Lib.hid hV
  obtain ⟨⟨s0, s1⟩, ⟨p0, p1, p2⟩, ⟨p3, p4, p5⟩⟩ := hcells.out _ hbe.out
  have hC := hV.out.k34 _ hbe.out
  replace hC := Lib.hid hC
  go_upto_region 99 with fail
  refine (hC.out).mono ?_
  rintro e wm ⟨rfl, hbe2⟩
  clear hC s0 s1 p0 p1 p2 p3 p4 p5
  replace hbe := Lib.hid (Below.up hbe.out hbe2)
  clear hbe2
  obtain ⟨⟨s0, s1⟩, ⟨p0, p1, p2⟩, ⟨p3, p4, p5⟩⟩ := hcells.out _ hbe.out
  have hC := hV.out.k34' _ hbe.out
  replace hC := Lib.hid hC
  go_upto_region 99 with fail
  refine (hC.out).mono ?_
  rintro e wm ⟨rfl, hbe2⟩
  clear hC s0 s1 p0 p1 p2 p3 p4 p5
  replace hbe := Lib.hid (Below.up hbe.out hbe2)
  clear hbe2
  obtain ⟨⟨s0, s1⟩, ⟨p0, p1, p2⟩, ⟨p3, p4, p5⟩⟩ := hcells.out _ hbe.out
  have hC := hV.out.k33 _ hbe.out
  replace hC := Lib.hid hC
  go_upto_region 99 with fail
  refine (hC.out).mono ?_
  rintro e wm ⟨a1, l1, k1, rfl, hF1, hbe2⟩
  clear hC s0 s1 p0 p1 p2 p3 p4 p5
  have t1 := hF1.is
  clear hF1
  replace hbe := Lib.hid (Below.up hbe.out hbe2)
  clear hbe2
  obtain ⟨w5, hwx⟩ : ∃ W, W = wm.alloc (.cells #[.int .i64 R.op, .int .i64 R.n, .slice a1 l1 k1] 28) := ⟨_, rfl⟩
  have st : Below wm.heap.size wm w5 := by rw [hwx]; exact bal _ _
  obtain ⟨Bx, hBx⟩ : ∃ n, n = wm.heap.size := ⟨_, rfl⟩
  have cx : Hid (w5.heap[Bx]? = some (.cells #[.int .i64 R.op, .int .i64 R.n, .slice a1 l1 k1] 28 (0, 0))) := Lib.hid (by rw [hwx, hBx]; exact heap_new'' _ _)
  replace t1 := Lib.hid (IsTm.wider st.size _ (IsTm.below st _ t1))
  replace hbe := Lib.hid (Below.up hbe.out st)
  clear st
  replace hwx := Lib.hid hwx
  replace hBx := Lib.hid hBx
  obtain ⟨⟨s0, s1⟩, ⟨p0, p1, p2⟩, ⟨p3, p4, p5⟩⟩ := hcells.out _ hbe.out
  obtain ⟨⟨zx0, zx1, zx2⟩, -⟩ := c3_cells cx.out
  have hC := hV.out.k33' _ hbe.out
  rw [hwx.out] at hC s0 s1 p0 p1 p2 p3 p4 p5 zx0 zx1 zx2
  replace hC := Lib.hid hC
  go_upto_region 99 with fail
  refine (hC.out).mono ?_
  rintro e wk ⟨a2, l2, k2, rfl, hF2, hbe2⟩
  clear hC s0 s1 p0 p1 p2 p3 p4 p5 zx0 zx1 zx2
  rw [← hwx.out] at hbe2
  rw [← hBx.out]
  have t2 := hF2.is
  clear hF2
  replace cx := Lib.hid ((hbe2.block _ (Array.getElem?_eq_some_iff.1 cx.out).1).trans cx.out)
  replace t1 := Lib.hid (IsTm.wider hbe2.size _ (IsTm.below hbe2 _ t1.out))
  replace hbe := Lib.hid (Below.up hbe.out hbe2)
  clear hbe2 hwx hBx
  obtain ⟨wm, hnm⟩ : ∃ W, W = wk := ⟨_, rfl⟩
  rw [← hnm] at hbe cx t1 t2 ⊢
  clear hnm
  obtain ⟨w6, hwy⟩ : ∃ W, W = wm.alloc (.cells #[.int .i64 Q.op, .int .i64 Q.n, .slice a2 l2 k2] 28) := ⟨_, rfl⟩
  have st : Below wm.heap.size wm w6 := by rw [hwy]; exact bal _ _
  obtain ⟨By, hBy⟩ : ∃ n, n = wm.heap.size := ⟨_, rfl⟩
  have cy : Hid (w6.heap[By]? = some (.cells #[.int .i64 Q.op, .int .i64 Q.n, .slice a2 l2 k2] 28 (0, 0))) := Lib.hid (by rw [hwy, hBy]; exact heap_new'' _ _)
  replace cx := Lib.hid ((st.block _ (Array.getElem?_eq_some_iff.1 cx.out).1).trans cx.out)
  replace t1 := Lib.hid (IsTm.wider st.size _ (IsTm.below st _ t1.out))
  replace t2 := Lib.hid (IsTm.wider st.size _ (IsTm.below st _ t2))
  replace hbe := Lib.hid (Below.up hbe.out st)
  clear st
  replace hwy := Lib.hid hwy
  replace hBy := Lib.hid hBy
  obtain ⟨⟨s0, s1⟩, ⟨p0, p1, p2⟩, ⟨p3, p4, p5⟩⟩ := hcells.out _ hbe.out
  obtain ⟨⟨zx0, zx1, zx2⟩, -⟩ := c3_cells cx.out
  obtain ⟨⟨zy0, zy1, zy2⟩, -⟩ := c3_cells cy.out
  have hC := Small_any R w6.heap.size w6 a1 l1 k1 t1.out (Nat.le_refl _)
  rw [hR1.out] at hC
  rw [hwy.out] at hC s0 s1 p0 p1 p2 p3 p4 p5 zx0 zx1 zx2 zy0 zy1 zy2
  replace hC := Lib.hid hC
  go_upto_region 99 with fail
  refine (hC.out).mono ?_
  rintro e wk ⟨rfl, hbe2⟩
  clear hC s0 s1 p0 p1 p2 p3 p4 p5 zx0 zx1 zx2 zy0 zy1 zy2
  rw [← hwy.out] at hbe2
  rw [← hBy.out]
  replace cx := Lib.hid ((hbe2.block _ (Array.getElem?_eq_some_iff.1 cx.out).1).trans cx.out)
  replace t1 := Lib.hid (IsTm.wider hbe2.size _ (IsTm.below hbe2 _ t1.out))
  replace cy := Lib.hid ((hbe2.block _ (Array.getElem?_eq_some_iff.1 cy.out).1).trans cy.out)
  replace t2 := Lib.hid (IsTm.wider hbe2.size _ (IsTm.below hbe2 _ t2.out))
  replace hbe := Lib.hid (Below.up hbe.out hbe2)
  clear hbe2 hwy hBy
  obtain ⟨wm, hnm⟩ : ∃ W, W = wk := ⟨_, rfl⟩
  rw [← hnm] at hbe cx t1 cy t2 ⊢
  clear hnm
  obtain ⟨⟨s0, s1⟩, ⟨p0, p1, p2⟩, ⟨p3, p4, p5⟩⟩ := hcells.out _ hbe.out
  obtain ⟨⟨zx0, zx1, zx2⟩, -⟩ := c3_cells cx.out
  obtain ⟨⟨zy0, zy1, zy2⟩, -⟩ := c3_cells cy.out
  have hC := Small_any Q wm.heap.size wm a2 l2 k2 t2.out (Nat.le_refl _)
  rw [hR2.out] at hC
  replace hC := Lib.hid hC
  go_upto_region 99 with fail
  refine (hC.out).mono ?_
  rintro e wm ⟨rfl, hbe2⟩
  clear hC s0 s1 p0 p1 p2 p3 p4 p5 zx0 zx1 zx2 zy0 zy1 zy2
  replace cx := Lib.hid ((hbe2.block _ (Array.getElem?_eq_some_iff.1 cx.out).1).trans cx.out)
  replace t1 := Lib.hid (IsTm.wider hbe2.size _ (IsTm.below hbe2 _ t1.out))
  replace cy := Lib.hid ((hbe2.block _ (Array.getElem?_eq_some_iff.1 cy.out).1).trans cy.out)
  replace t2 := Lib.hid (IsTm.wider hbe2.size _ (IsTm.below hbe2 _ t2.out))
  replace hbe := Lib.hid (Below.up hbe.out hbe2)
  clear hbe2
  obtain ⟨⟨s0, s1⟩, ⟨p0, p1, p2⟩, ⟨p3, p4, p5⟩⟩ := hcells.out _ hbe.out
  obtain ⟨⟨zx0, zx1, zx2⟩, -⟩ := c3_cells cx.out
  obtain ⟨⟨zy0, zy1, zy2⟩, -⟩ := c3_cells cy.out
  have hC := Same_any R.size R Q wm.heap.size wm a1 l1 k1 a2 l2 k2 (Nat.le_refl _) t1.out t2.out (Nat.le_refl _)
  rw [← hbe0.out] at hC
  replace hC := Lib.hid hC
  go_upto_region 99 with fail
  refine (hC.out).mono ?_
  rintro e wm ⟨rfl, hbe2⟩
  clear hC s0 s1 p0 p1 p2 p3 p4 p5 zx0 zx1 zx2 zy0 zy1 zy2
  replace cx := Lib.hid ((hbe2.block _ (Array.getElem?_eq_some_iff.1 cx.out).1).trans cx.out)
  replace t1 := Lib.hid (IsTm.wider hbe2.size _ (IsTm.below hbe2 _ t1.out))
  replace cy := Lib.hid ((hbe2.block _ (Array.getElem?_eq_some_iff.1 cy.out).1).trans cy.out)
  replace t2 := Lib.hid (IsTm.wider hbe2.size _ (IsTm.below hbe2 _ t2.out))
  replace hbe := Lib.hid (Below.up hbe.out hbe2)
  clear hbe2
  obtain ⟨w9, hw9⟩ : ∃ W, W = wm := ⟨_, rfl⟩
  rw [← hw9] at hbe cx cy t1 t2 ⊢
  clear hw9 cy t2
  go_wp2_with fail
  go_loopw [17, 18] (fun l i wr => ∃ k va vl vc, k ≤ 20 ∧ i = .int .i64 (k : Nat) ∧ l = .slice va vl vc ∧ Hid (BRow w9.heap.size wr (turnL m k) va vl vc) ∧ Hid (Below w9.heap.size w9 wr)) (fun _ i _ => 20 - (intOf i).toNat)
  case atStart => exact ⟨0, none, 0, 0, by omega, rfl, rfl, Lib.hid (BRow.nil _ _), Lib.hid (Below.refl _ _)⟩
  case round =>
    obtain ⟨k, va, vl, vc, hk, rfl, rfl, hBR, hb⟩ := hrel
    have hz := hb.out.size
    by_cases hlt : k < 20
    · have o1 : (k : Int) < 20 := by omega
      have o3 : IntKind.i64.wrap ((k : Int) + (m : Int)) = (k : Int) + (m : Int) := IntWalk.i64_in _ (by omega)
      have o4 : ((k : Int) + (m : Int)).tmod 20 = (((k + m) % 20 : Nat) : Int) := by rw [Int.tmod_eq_emod_of_nonneg (by omega)]; omega
      obtain ⟨y, hy⟩ : ∃ y : Nat, y = (k + m) % 20 := ⟨_, rfl⟩
      rw [← hy] at o4
      have hn1 : Hid (turnL m (k + 1) = turnL m k ++ [((k : Int), .mk 1 ((y : Nat) : Int) [])]) := Lib.hid (by rw [hy]; exact turnL_succ m k)
      replace hy := Lib.hid hy
      have hC := v_mk (y : Int) wr
      have hlen : Hid ((turnL m k).length = k) := Lib.hid (turnL_len m k)
      obtain ⟨K, g1, g2, g3⟩ := hBR.out
      clear hBR
      replace g1 := Lib.hid g1
      replace g2 := Lib.hid g2
      replace g3 := Lib.hid g3
      replace hC := Lib.hid hC
      go_upto_region 99 with fail
      refine (hC.out).mono ?_
      rintro e w2 ⟨rfl, hT⟩
      have hzT := hT.size
      have hA : Hid (∀ j, j < wr.heap.size → w2.heap[j]? = wr.heap[j]?) := Lib.hid (fun j hj => hT.block j hj)
      have g2' := Lib.hid (own_stays (w' := w2) g2.out (fun g _ hg => hA.out g hg))
      have hle : (turnL m k).length ≤ k := by rw [hlen.out]; exact Nat.le_refl _
      have hb2 := Lib.hid (Below.up hb.out hT)
      replace hT := Lib.hid hT
      clear hC
      go_wp2_with (first
        | (at_builtin; refine wpList_append_lies _ rfl _ _ 46 rfl w9.heap.size 70 i0 _ 4 48 und46 hi hz0 hz1 hz2 rfl (by omega) (.slice va vl vc) (turnL m k).length (flatB K) rfl (g2'.out.alloc _)
            ⟨w2.heap.size, 0, none⟩ 1 1 [.int .i64 (k : Int), .int .i64 1, .int .i64 (y : Int), .slice none 0 0] rfl rfl (World.news_of_block (cs := #[.int .i64 (k : Int), .int .i64 1, .int .i64 (y : Int), .slice none 0 0]) (t := 70) (fr := (0, 0)) (heap_new' _ rfl)) (by simp [Value.oneCell'])
            (by omega) (by unfold maxLen; omega) (by omega) (by simp; omega) (w2.heap.size + 1) (by simp) ?_; intro gg cap2 w3 hown1 hgrow hat hlt2))
      go_roundw
      case rel =>
        have hst := BRow.step (v := (k : Int)) (t := .mk 1 (y : Int) []) (W := w2) (W1 := w2.alloc (.cells #[.int .i64 (k : Int), .int .i64 1, .int .i64 (y : Int), .slice none 0 0] 70)) g1.out g2.out g3.out (fun j _ hj => (Below.heap_alloc _ _ j (by omega)).trans (hA.out j hj)) hzT hz (by simp)
          (Fresh.leafv _ _ 1 (y : Int)) hgrow hown1 (by simpa using hat)
        refine ⟨k + 1, _, _, _, by omega, by go_num, rfl, Lib.hid (by rw [hn1.out]; exact hst), Lib.hid ?_⟩
        exact (hb2.out.alloc (by omega) _).grown hgrow (by simp; omega) (fun q hq => (own_base g2.out hq).1)
      case measure => simp [intOf]; omega
    have hk20 : k = 20 := by omega
    subst hk20
    have hIB := hBR.out.is
    clear hBR i0 hi hz0 hz1 hz2
    replace cx := Lib.hid ((hb.out.block _ (Array.getElem?_eq_some_iff.1 cx.out).1).trans cx.out)
    replace t1 := Lib.hid (IsTm.wider hb.out.size _ (IsTm.below hb.out _ t1.out))
    replace hbe := Lib.hid (Below.up hbe.out hb.out)
    obtain ⟨Z, E, hE, hS⟩ := hV.out.k26 wr va vl vc hbe.out hIB
    unfold SubstEnd at hS
    simp only at hS
    clear hb hz hIB
    replace hS := Lib.hid hS
    obtain ⟨rfl, rfl⟩ | ⟨rfl, hZf, hZo⟩ := hE
    · simp only [Tm.op, Tm.n] at hS
      obtain ⟨⟨s0, s1⟩, ⟨p0, p1, p2⟩, ⟨p3, p4, p5⟩⟩ := hcells.out _ hbe.out
      obtain ⟨⟨zx0, zx1, zx2⟩, -⟩ := c3_cells cx.out
      have hC := hS.out
      replace hC := Lib.hid hC
      go_upto_region 99 with fail
      refine (hC.out).mono ?_
      rintro e wm ⟨a3, l3, k3, rfl, -, hbe2⟩
      clear hC s0 s1 p0 p1 p2 p3 p4 p5 zx0 zx1 zx2
      replace cx := Lib.hid ((hbe2.block _ (Array.getElem?_eq_some_iff.1 cx.out).1).trans cx.out)
      replace t1 := Lib.hid (IsTm.wider hbe2.size _ (IsTm.below hbe2 _ t1.out))
      replace hbe := Lib.hid (Below.up hbe.out hbe2)
      clear hbe2
      go_wp2_with (go_at_call 12; refine (hKn.out _).mono ?_; rintro e wl ⟨rfl, hbe2⟩)
      go_ret
      exact ⟨rfl, Below.up hB0.out (Below.up hbe.out (Below.up (bal _ _) hbe2))⟩
    replace hZf := Lib.hid hZf
    replace hZo := Lib.hid hZo
    obtain ⟨⟨s0, s1⟩, ⟨p0, p1, p2⟩, ⟨p3, p4, p5⟩⟩ := hcells.out _ hbe.out
    obtain ⟨⟨zx0, zx1, zx2⟩, -⟩ := c3_cells cx.out
    have hC := hS.out
    replace hC := Lib.hid hC
    go_upto_region 99 with fail
    refine (hC.out).mono ?_
    rintro e wm ⟨a3, l3, k3, rfl, hF3, hbe2⟩
    clear hC s0 s1 p0 p1 p2 p3 p4 p5 zx0 zx1 zx2
    have t3 := hF3.is
    clear hF3
    replace cx := Lib.hid ((hbe2.block _ (Array.getElem?_eq_some_iff.1 cx.out).1).trans cx.out)
    replace t1 := Lib.hid (IsTm.wider hbe2.size _ (IsTm.below hbe2 _ t1.out))
    replace hbe := Lib.hid (Below.up hbe.out hbe2)
    clear hbe2
    obtain ⟨w7, hwz⟩ : ∃ W, W = wm.alloc (.cells #[.int .i64 Z.op, .int .i64 Z.n, .slice a3 l3 k3] 28) := ⟨_, rfl⟩
    have st : Below wm.heap.size wm w7 := by rw [hwz]; exact bal _ _
    obtain ⟨Bz, hBz⟩ : ∃ n, n = wm.heap.size := ⟨_, rfl⟩
    have cz : Hid (w7.heap[Bz]? = some (.cells #[.int .i64 Z.op, .int .i64 Z.n, .slice a3 l3 k3] 28 (0, 0))) := Lib.hid (by rw [hwz, hBz]; exact heap_new'' _ _)
    replace cx := Lib.hid ((st.block _ (Array.getElem?_eq_some_iff.1 cx.out).1).trans cx.out)
    replace t1 := Lib.hid (IsTm.wider st.size _ (IsTm.below st _ t1.out))
    replace t3 := Lib.hid (IsTm.wider st.size _ (IsTm.below st _ t3))
    replace hbe := Lib.hid (Below.up hbe.out st)
    clear st
    replace hwz := Lib.hid hwz
    replace hBz := Lib.hid hBz
    have hC2 := Lib.hid (hV.out.kz Z hZf.out hZo.out w7 a3 l3 k3 hbe.out t3.out)
    obtain ⟨⟨s0, s1⟩, ⟨p0, p1, p2⟩, ⟨p3, p4, p5⟩⟩ := hcells.out _ hbe.out
    obtain ⟨⟨zx0, zx1, zx2⟩, -⟩ := c3_cells cx.out
    obtain ⟨⟨zz0, zz1, zz2⟩, -⟩ := c3_cells cz.out
    have hC := hC2.out
    rw [hwz.out] at hC s0 s1 p0 p1 p2 p3 p4 p5 zx0 zx1 zx2 zz0 zz1 zz2
    replace hC := Lib.hid hC
    go_upto_region 99 with fail
    refine (hC.out).mono ?_
    rintro e wk ⟨rfl, hbe2⟩
    clear hC s0 s1 p0 p1 p2 p3 p4 p5 zx0 zx1 zx2 zz0 zz1 zz2
    rw [← hwz.out] at hbe2
    rw [← hBz.out]
    replace cx := Lib.hid ((hbe2.block _ (Array.getElem?_eq_some_iff.1 cx.out).1).trans cx.out)
    replace t1 := Lib.hid (IsTm.wider hbe2.size _ (IsTm.below hbe2 _ t1.out))
    replace cz := Lib.hid ((hbe2.block _ (Array.getElem?_eq_some_iff.1 cz.out).1).trans cz.out)
    replace t3 := Lib.hid (IsTm.wider hbe2.size _ (IsTm.below hbe2 _ t3.out))
    replace hbe := Lib.hid (Below.up hbe.out hbe2)
    clear hbe2 hwz hBz
    obtain ⟨wm, hnm⟩ : ∃ W, W = wk := ⟨_, rfl⟩
    rw [← hnm] at hbe cx t1 cz t3 ⊢
    clear hnm
    have hC3 := Lib.hid (hV.out.kz R hRf.out.1 hRf.out.2 wm a1 l1 k1 hbe.out t1.out)
    obtain ⟨⟨s0, s1⟩, ⟨p0, p1, p2⟩, ⟨p3, p4, p5⟩⟩ := hcells.out _ hbe.out
    obtain ⟨⟨zx0, zx1, zx2⟩, -⟩ := c3_cells cx.out
    obtain ⟨⟨zz0, zz1, zz2⟩, -⟩ := c3_cells cz.out
    have hC := hC3.out
    replace hC := Lib.hid hC
    go_upto_region 99 with fail
    refine (hC.out).mono ?_
    rintro e wm ⟨rfl, hbe2⟩
    clear hC s0 s1 p0 p1 p2 p3 p4 p5 zx0 zx1 zx2 zz0 zz1 zz2
    replace cx := Lib.hid ((hbe2.block _ (Array.getElem?_eq_some_iff.1 cx.out).1).trans cx.out)
    replace t1 := Lib.hid (IsTm.wider hbe2.size _ (IsTm.below hbe2 _ t1.out))
    replace cz := Lib.hid ((hbe2.block _ (Array.getElem?_eq_some_iff.1 cz.out).1).trans cz.out)
    replace t3 := Lib.hid (IsTm.wider hbe2.size _ (IsTm.below hbe2 _ t3.out))
    replace hbe := Lib.hid (Below.up hbe.out hbe2)
    clear hbe2
    go_wp2_with (go_at_call 12; refine (hKn.out _).mono ?_; rintro e wl ⟨rfl, hbe2⟩)
    go_ret
    exact ⟨rfl, Below.up hB0.out (Below.up hbe.out hbe2)⟩

end Go.Proofs.YthlegfegkopdkaaGreat
