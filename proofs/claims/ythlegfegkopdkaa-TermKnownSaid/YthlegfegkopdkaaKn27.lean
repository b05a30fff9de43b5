/- Own text, joined of: U5 U6 U7 U8 U9 V1 V2 V3 V4 V5 K1 F5 F6 F7 R1 K2 K3 K4. 'bind'. · 'unify', 'unifyKids'. · 'unify', given 'unifyKids'. · 'unifyKids', given 'unify'. · 'full': the plain side; the closure that a kid is grown by. · 'full'. · 'full', where it does not give up. · 'mostGeneral'. · 'mostGeneral' where it gives up; 'Unify'. · 'Unify'. · The order of values: plain facts. · The reference's 'SameBinds'. · The chapter's examples: what the calls answer of them. · The chapter's examples: the calls' contracts at them. · The chapter's examples: the other calls' contracts at them. -/
import Derived.WalkLawsBesides
import Derived.Test.YthlegfegkopdkaaKn26

namespace Go.Proofs.Ythlegfegkopdkaa
open Go.RowKit Go.Shelf Go.Sort

/-- How many variables are not bound. -/
def unb (F : Int → Option DT) : Nat := unm (fun k : Nat => (F (k : Int)).isSome)
abbrev gaveNone : Ending := .panicked [{ v := .iface 79 (.agg #[.int .i64 5]), recovered := false }]
/-- What a step of unifying ends in: the bindings it leaves, or it gives up. -/
def StepEnd (bm B : Nat) (w : World) (R : Option (Int → Option DT)) (e : Ending) (w' : World) : Prop :=
  Turns (fun b => b = bm) w w' ∧ match R with
    | some F' => e = .returned (.tuple #[]) ∧ ∃ nb', TMap w' bm nb' F' ∧ nb' + unb F' ≤ B
    | none => e = gaveNone

theorem unb_upd {F : Int → Option DT} {n : Nat} (y : DT) (hn : n < 20) (hF : F (n : Int) = none) : unb (updI F n y) + 1 = unb F := by
  have h := unm_set (met := fun k : Nat => (F (k : Int)).isSome) hn (by simp [hF])
  have e : (fun k : Nat => ((updI F (n : Int) y) (k : Int)).isSome) = setB (fun k : Nat => (F (k : Int)).isSome) n true := by
    funext k
    unfold updI setB
    by_cases hk : k = n
    · subst hk; simp
    · rw [if_neg (by omega), if_neg hk]
  unfold unb
  rw [e]; exact h
theorem opV_U {r : DT} (h : r.op = 1) : opV r = ifU r.n := by unfold opV; rw [if_pos h]
theorem opV_K {r : DT} (h : r.op ≠ 1) : opV r = ifK r := by unfold opV; rw [if_neg h]

set_option maxRecDepth 100000 in
set_option maxHeartbeats 1000000 in
theorem bind_U (F : Int → Option DT) (n m : Nat) (bm nb : Nat) (w : World) (hm : TMap w bm nb F) (hnb : nb ≤ 1000000) (hn : n < 20) (hmm : m < 20) (hFn : F (n : Int) = none) (hFm : F (m : Int) = none) :
    Calls Try.prog 80 #[.map (some bm), .agg #[.int .i64 (n : Nat)], ifU (m : Nat)] w (StepEnd bm (nb + unb F) w (if (n : Int) = m then some F else some (updI F (max n m) (vD (min n m))))) := by
  have ha := asU_U (m : Nat)
  have hB0 : Below w.heap.size w ((w.alloc (.cells #[.int .i64 (n : Nat)] 124)).alloc (.cells #[.int .i64 (m : Nat)] 124)) := by go_grown
  have hlt := hm.lt
  by_cases h : n = m
  · have e1 : ((n : Int) != (m : Int)) = false := by simp; omega
    rw [if_pos (by omega)]
    have hm' := hm.same (hB0.block _ hlt)
    replace hm' := Lib.hid hm'
    replace h := Lib.hid h
    clear hm hFn hFm
    go_enter Try.func80, Try.ntmps80
    go_wp2_with fail
    go_end0
    exact ⟨Turns.of0' hB0, rfl, nb, hm'.out, by omega⟩
  · have e1 : ((n : Int) != (m : Int)) = true := by simp; omega
    rw [if_neg (by omega)]
    have hub : nb + 1 + unb (updI F (max (n : Int) m) (vD (min (n : Int) m))) ≤ nb + unb F := by
      rcases Nat.le_total n m with hle | hle
      · rw [show max (n : Int) m = (m : Nat) by omega]
        have := unb_upd (vD (min (n : Int) m)) hmm hFm
        omega
      · rw [show max (n : Int) m = (n : Nat) by omega]
        have := unb_upd (vD (min (n : Int) m)) hn hFn
        omega
    replace hub := Lib.hid hub
    replace hFn := Lib.hid hFn
    replace hFm := Lib.hid hFm
    go_enter Try.func80, Try.ntmps80
    go_upto_region 5 with fail
    obtain ⟨W0, hW0⟩ : ∃ W0, W0 = ((w.alloc (.cells #[.int .i64 (n : Nat)] 124)).alloc (.cells #[.int .i64 (m : Nat)] 124)) := ⟨_, rfl⟩
    rw [← hW0] at hB0 ⊢
    have hz0 : W0.heap.size = w.heap.size + 1 + 1 := by rw [hW0]; simp
    have q0 : Boxed W0 w.heap.size 124 (.int .i64 (n : Nat)) := by rw [hW0]; exact heap_old (heap_new' _ rfl)
    have q1 : Boxed W0 (w.heap.size + 1) 124 (.int .i64 (m : Nat)) := by rw [hW0]; exact heap_new' _ (by simp)
    have hm0 := hm.same (hB0.block _ hlt)
    have hK := Lib.hid (show ∀ W, Turns (fun b => b = bm) W0 W → W.cell? ⟨w.heap.size, 0, none⟩ = some (.int .i64 (n : Nat)) ∧ W.cell? ⟨w.heap.size + 1, 0, none⟩ = some (.int .i64 (m : Nat)) from fun W hT =>
      ⟨(show Boxed W _ _ _ from (hT.block _ q0.lt (by omega)).trans q0).cell, (show Boxed W _ _ _ from (hT.block _ q1.lt (by omega)).trans q1).cell⟩)
    have hV := fun W => varTerm_is (min (n : Int) m) W
    refine wp_region_held (S := fun W' => Turns (fun b => b = bm) W0 W') (by kernel_rfl) ?_
    have bdr : Below W0.heap.size W0 W0.drew := (Below.refl _ _).drew
    have hS0 : (fun W' : World => Turns (fun b => b = bm) W0 W') { W0 with drawn := W0.drawn + 1 } := Turns.of0' bdr
    have hmd : TMap W0.drew bm nb F := hm0
    replace q0 := Lib.hid q0
    replace q1 := Lib.hid q1
    replace hm0 := Lib.hid hm0
    replace hmd := Lib.hid hmd
    replace hW0 := Lib.hid hW0
    replace hm := Lib.hid hm
    replace hV := Lib.hid hV
    replace bdr := Lib.hid bdr
    refine takeH 0 17 (.map (some bm)) rfl rfl (by kernel_rfl) (by kernel_rfl) (by kernel_rfl) (fun _ _ _ h => h) (by rfl) (by intro W hSw; clear hSw; go_simp) hS0 ?_
    try simp only [List.setIfInBounds_toArray, List.set_cons_zero, List.set_cons_succ]
    refine takeH 1 18 (.pointer (some ⟨w.heap.size, 0, none⟩)) rfl rfl (by kernel_rfl) (by kernel_rfl) (by kernel_rfl) (fun _ _ _ h => h) (by rfl) (by intro W hSw; clear hSw; go_simp) hS0 ?_
    try simp only [List.setIfInBounds_toArray, List.set_cons_zero, List.set_cons_succ]
    refine takeH 2 19 (.int .i64 (n : Nat)) rfl rfl (by kernel_rfl) (by kernel_rfl) (by kernel_rfl) (fun _ _ _ h => h) (by rfl) (by intro W hSw; obtain ⟨j1, j2⟩ := hK.out W hSw; clear hSw; go_simp) hS0 ?_
    try simp only [List.setIfInBounds_toArray, List.set_cons_zero, List.set_cons_succ]
    refine takeH 3 20 (.pointer (some ⟨w.heap.size + 1, 0, none⟩)) rfl rfl (by kernel_rfl) (by kernel_rfl) (by kernel_rfl) (fun _ _ _ h => h) (by rfl) (by intro W hSw; clear hSw; go_simp) hS0 ?_
    try simp only [List.setIfInBounds_toArray, List.set_cons_zero, List.set_cons_succ]
    refine takeH 4 21 (.int .i64 (m : Nat)) rfl rfl (by kernel_rfl) (by kernel_rfl) (by kernel_rfl) (fun _ _ _ h => h) (by rfl) (by intro W hSw; obtain ⟨j1, j2⟩ := hK.out W hSw; clear hSw; go_simp) hS0 ?_
    try simp only [List.setIfInBounds_toArray, List.set_cons_zero, List.set_cons_succ]
    refine takeH 5 22 (.int .i64 (max (n : Int) m)) rfl rfl (by kernel_rfl) (by kernel_rfl) (by kernel_rfl) (fun _ _ _ h => h) (by rfl) (by intro W hSw; clear hSw; go_simp; split <;> omega) hS0 ?_
    try simp only [List.setIfInBounds_toArray, List.set_cons_zero, List.set_cons_succ]
    refine takeH 6 23 (.pointer (some ⟨w.heap.size, 0, none⟩)) rfl rfl (by kernel_rfl) (by kernel_rfl) (by kernel_rfl) (fun _ _ _ h => h) (by rfl) (by intro W hSw; clear hSw; go_simp) hS0 ?_
    try simp only [List.setIfInBounds_toArray, List.set_cons_zero, List.set_cons_succ]
    refine takeH 7 24 (.int .i64 (n : Nat)) rfl rfl (by kernel_rfl) (by kernel_rfl) (by kernel_rfl) (fun _ _ _ h => h) (by rfl) (by intro W hSw; obtain ⟨j1, j2⟩ := hK.out W hSw; clear hSw; go_simp) hS0 ?_
    try simp only [List.setIfInBounds_toArray, List.set_cons_zero, List.set_cons_succ]
    refine takeH 8 25 (.pointer (some ⟨w.heap.size + 1, 0, none⟩)) rfl rfl (by kernel_rfl) (by kernel_rfl) (by kernel_rfl) (fun _ _ _ h => h) (by rfl) (by intro W hSw; clear hSw; go_simp) hS0 ?_
    try simp only [List.setIfInBounds_toArray, List.set_cons_zero, List.set_cons_succ]
    refine takeH 9 26 (.int .i64 (m : Nat)) rfl rfl (by kernel_rfl) (by kernel_rfl) (by kernel_rfl) (fun _ _ _ h => h) (by rfl) (by intro W hSw; obtain ⟨j1, j2⟩ := hK.out W hSw; clear hSw; go_simp) hS0 ?_
    try simp only [List.setIfInBounds_toArray, List.set_cons_zero, List.set_cons_succ]
    refine takeH 10 27 (.int .i64 (min (n : Int) m)) rfl rfl (by kernel_rfl) (by kernel_rfl) (by kernel_rfl) (fun _ _ _ h => h) (by rfl) (by intro W hSw; clear hSw; go_simp; split <;> omega) hS0 ?_
    try simp only [List.setIfInBounds_toArray, List.set_cons_zero, List.set_cons_succ]
    refine wpAnyH_ready (rs := [11]) (by kernel_rfl) (by simp) ?_
    refine AllReadyH.cons rfl (fun K hKc => ?_) AllReadyH.nil
    go_simp
    go_at_call 57
    refine (hV.out _).mono ?_
    rintro e w1 ⟨rfl, hB1⟩
    have hz1 := hB1.size
    have hm1 : TMap w1 bm nb F := hmd.out.same (hB1.block _ (by rw [show W0.drew.heap.size = W0.heap.size from rfl]; omega))
    have hT1 : Turns (fun b => b = bm) W0 w1 := (Turns.of0' bdr.out).trans (Turns.of0' hB1)
    obtain ⟨g, hmg, hg⟩ := hm1
    refine hKc _ _ hT1 (fun _ => ?_)
    clear hKc K
    try simp only [List.setIfInBounds_toArray, List.set_cons_zero, List.set_cons_succ]
    refine wpAnyH_ready (rs := [12]) (by kernel_rfl) (by simp) ?_
    refine AllReadyH.cons rfl (fun K hKc => ?_) AllReadyH.nil
    rw [if_pos (by rfl)]
    with_reducible refine wp_mapStore (k := 3) (e := 32) w1 (.tmp 17) (.tmp 22) (.tmp 28) 105 ?q1 lawI und147 bm nb g ?q2 hmg ?q3 (.int .i64 (max (n : Int) m)) (dv (vD (min (n : Int) m))) _ ?q4 ?q5 (keyI (i := max (n : Int) m) (by omega)) ?q7 ?q6
    case q1 => rfl
    case q2 => rfl
    case q3 => unfold maxLen; omega
    case q4 => rfl
    case q5 => rfl
    case q7 => exact trivial
    intro w2 hm2 hg2
    have hT2 := hT1.grown hg2 (fun k e _ => by cases e; rfl)
    have hm3 : TMap w2 bm (nb + 1) (updI F (max n m) (vD (min n m))) := TMap.store hg hm2
    refine hKc _ _ hT2 (fun _ => ?_)
    clear hKc K
    have hfin : Hid (StepEnd bm (nb + unb F) w (some (updI F (max n m) (vD (min n m)))) (.returned (.tuple #[])) w2) := ⟨(Turns.of0' hB0).trans hT2, rfl, nb + 1, hm3, hub.out⟩
    clear hm3 hT2 hm2 hg2 hmg
    try simp only [List.setIfInBounds_toArray, List.set_cons_zero, List.set_cons_succ]
    refine wpAnyH_done (by kernel_rfl) ?_ _
    go_end0
    exact hfin.out

set_option maxRecDepth 100000 in
set_option maxHeartbeats 1000000 in
theorem bind_K (n₀ : Nat) (F : Int → Option DT) (n : Nat) (y : DT) (bm nb : Nat) (w : World) (hm : TMap w bm nb F) (hnb : nb ≤ 1000000) (hn : n < 20) (hFn : F (n : Int) = none) (hE : GoodF n₀ w F) (hn0 : n₀ ≤ w.heap.size) (hL : Lies n₀ w y) (hO : OkV y.tm) (hs : 1 + y.size ≤ 1000000) :
    Calls Try.prog 80 #[.map (some bm), .agg #[.int .i64 (n : Nat)], ifK y] w (StepEnd bm (nb + unb F) w (if standsB n F y = true then none else some (updI F n y))) := by
  replace hFn := Lib.hid hFn
  have ha := asU_K y
  have ha2 := asK_K y
  have hlt := hm.lt
  obtain ⟨W0, hW0⟩ : ∃ W0, W0 = ((w.alloc (.cells #[.int .i64 (n : Nat)] 124)).alloc (.cells #[.int .i64 y.op, .int .i64 y.n, .slice y.a y.l y.c] 127)) := ⟨_, rfl⟩
  have hB0 : Below w.heap.size w W0 := by rw [hW0]; go_grown
  have hm0 := hm.same (hB0.block _ hlt)
  have hS := stands_any n₀ F n bm nb y W0 hm0 (hE.below (hB0.mono hn0)) (by have := hB0.size; omega) (hL.below (hB0.mono hn0)) hO hs
  have hz0 : W0.heap.size = w.heap.size + 1 + 1 := by rw [hW0]; simp
  have q0 : Boxed W0 w.heap.size 124 (.int .i64 (n : Nat)) := by rw [hW0]; exact heap_old (heap_new' _ rfl)
  have q1 : W0.heap[w.heap.size + 1]? = some (.cells #[.int .i64 y.op, .int .i64 y.n, .slice y.a y.l y.c] 127 (0, 0)) := by rw [hW0]; exact heap_new' _ (by simp)
  rw [hW0] at hS
  cases hb : standsB n F y
  · rw [hb] at hS
    rw [if_neg (by simp)]
    replace hb := Lib.hid hb
    replace hS := Lib.hid hS
    replace q0 := Lib.hid q0
    replace q1 := Lib.hid q1
    replace hm0 := Lib.hid hm0
    clear hm hE hL hO
    go_enter Try.func80, Try.ntmps80
    go_wp2_with fail
    refine (hS.out).mono ?_
    rintro e w1 ⟨rfl, hB1⟩
    rw [← hW0] at hB1
    replace hW0 := Lib.hid hW0
    have hz1 := hB1.size
    have q0' : Boxed w1 w.heap.size 124 (.int .i64 (n : Nat)) := (hB1.block _ (by omega)).trans q0.out
    have q1' := (hB1.block _ (by omega)).trans q1.out
    have hm1 := hm0.out.same (hB1.block _ (by omega))
    have hTw : Turns (fun b => b = bm) w w1 := Turns.of0' (hB0.trans (hB1.mono (by omega)))
    have hK := Lib.hid (show ∀ W, Turns (fun b => b = bm) w1 W → W.cell? ⟨w.heap.size, 0, none⟩ = some (.int .i64 (n : Nat)) ∧ W.cell? ⟨w.heap.size + 1, 0, none⟩ = some (.int .i64 y.op) ∧ W.cell? ⟨w.heap.size + 1, 1, none⟩ = some (.int .i64 y.n) ∧ W.cell? ⟨w.heap.size + 1, 2, none⟩ = some (.slice y.a y.l y.c) from fun W hT =>
      ⟨(show Boxed W _ _ _ from (hT.block _ q0'.lt (by omega)).trans q0').cell, (c3_cells ((hT.block _ (by omega) (by omega)).trans q1')).1⟩)
    have hV := fun W => kterm_any y W
    have bdr : Below w1.heap.size w1 w1.drew := (Below.refl _ _).drew
    have hS0 : (fun W' : World => Turns (fun b => b = bm) w1 W') { w1 with drawn := w1.drawn + 1 } := Turns.of0' bdr
    have hmd : TMap w1.drew bm nb F := hm1
    replace q0' := Lib.hid q0'
    replace q1' := Lib.hid q1'
    replace hm1 := Lib.hid hm1
    replace hmd := Lib.hid hmd
    replace hV := Lib.hid hV
    replace bdr := Lib.hid bdr
    replace hTw := Lib.hid hTw
    go_upto_region 10 with fail
    refine wp_region_held (S := fun W' => Turns (fun b => b = bm) w1 W') (by kernel_rfl) ?_
    refine takeH 0 40 (.map (some bm)) rfl rfl (by kernel_rfl) (by kernel_rfl) (by kernel_rfl) (fun _ _ _ h => h) (by rfl) (by intro W hSw; clear hSw; go_simp) hS0 ?_
    try simp only [List.setIfInBounds_toArray, List.set_cons_zero, List.set_cons_succ]
    refine takeH 1 41 (.pointer (some ⟨w.heap.size, 0, none⟩)) rfl rfl (by kernel_rfl) (by kernel_rfl) (by kernel_rfl) (fun _ _ _ h => h) (by rfl) (by intro W hSw; clear hSw; go_simp) hS0 ?_
    try simp only [List.setIfInBounds_toArray, List.set_cons_zero, List.set_cons_succ]
    refine takeH 2 42 (.int .i64 (n : Nat)) rfl rfl (by kernel_rfl) (by kernel_rfl) (by kernel_rfl) (fun _ _ _ h => h) (by rfl) (by intro W hSw; obtain ⟨j1, j2, j3, j4⟩ := hK.out W hSw; clear hSw; go_simp) hS0 ?_
    try simp only [List.setIfInBounds_toArray, List.set_cons_zero, List.set_cons_succ]
    refine takeH 3 43 (dv y) rfl rfl (by kernel_rfl) (by kernel_rfl) (by kernel_rfl) (fun _ _ _ h => h) (by rfl) (by intro W hSw; obtain ⟨j1, j2, j3, j4⟩ := hK.out W hSw; clear hSw; go_simp) hS0 ?_
    try simp only [List.setIfInBounds_toArray, List.set_cons_zero, List.set_cons_succ]
    refine wpAnyH_ready (rs := [4]) (by kernel_rfl) (by simp) ?_
    refine AllReadyH.cons rfl (fun K hKc => ?_) AllReadyH.nil
    go_simp
    go_at_call 96
    refine (hV.out _).mono ?_
    rintro e w2 ⟨rfl, hB2⟩
    have hz2 := hB2.size
    have hm2 : TMap w2 bm nb F := hmd.out.same (hB2.block _ (by rw [show w1.drew.heap.size = w1.heap.size from rfl]; omega))
    have hT1 : Turns (fun b => b = bm) w1 w2 := (Turns.of0' bdr.out).trans (Turns.of0' hB2)
    obtain ⟨g, hmg, hg⟩ := hm2
    refine hKc _ _ hT1 (fun _ => ?_)
    clear hKc K
    try simp only [List.setIfInBounds_toArray, List.set_cons_zero, List.set_cons_succ]
    refine wpAnyH_ready (rs := [5]) (by kernel_rfl) (by simp) ?_
    refine AllReadyH.cons rfl (fun K hKc => ?_) AllReadyH.nil
    rw [if_pos (by rfl)]
    with_reducible refine wp_mapStore (k := 3) (e := 32) w2 (.tmp 40) (.tmp 42) (.tmp 44) 105 ?q1 lawI und147 bm nb g ?q2 hmg ?q3 (.int .i64 (n : Nat)) (dv y) _ ?q4 ?q5 (keyI (i := (n : Nat)) (by omega)) ?q7 ?q6
    case q1 => rfl
    case q2 => rfl
    case q3 => unfold maxLen; omega
    case q4 => rfl
    case q5 => rfl
    case q7 => exact trivial
    intro w3 hm3 hg3
    have hT2 := hT1.grown hg3 (fun k e _ => by cases e; rfl)
    have hm4 : TMap w3 bm (nb + 1) (updI F (n : Nat) y) := TMap.store hg hm3
    refine hKc _ _ hT2 (fun _ => ?_)
    clear hKc K
    have hfin : Hid (StepEnd bm (nb + unb F) w (some (updI F (n : Nat) y)) (.returned (.tuple #[])) w3) := ⟨hTw.out.trans hT2, rfl, nb + 1, hm4, by have := unb_upd y hn hFn.out; omega⟩
    clear hm4 hT2 hm3 hg3 hmg
    try simp only [List.setIfInBounds_toArray, List.set_cons_zero, List.set_cons_succ]
    refine wpAnyH_done (by kernel_rfl) ?_ _
    go_end0
    exact hfin.out
  · rw [hb] at hS
    rw [if_pos rfl]
    replace hb := Lib.hid hb
    replace hS := Lib.hid hS
    replace q0 := Lib.hid q0
    replace q1 := Lib.hid q1
    replace hm0 := Lib.hid hm0
    clear hm hE hL hO
    go_enter Try.func80, Try.ntmps80
    go_wp2_with fail
    refine (hS.out).mono ?_
    rintro e w1 ⟨rfl, hB1⟩
    rw [← hW0] at hB1
    have hTw : Turns (fun b => b = bm) w w1 := Turns.of0' (hB0.trans (hB1.mono (by omega)))
    replace hW0 := Lib.hid hW0
    replace hB1 := Lib.hid hB1
    replace hTw := Lib.hid hTw
    go_wp2
    exact ⟨rfl, hTw.out, rfl⟩

end Go.Proofs.Ythlegfegkopdkaa

namespace Go.Proofs.Ythlegfegkopdkaa
open Go.RowKit Go.Shelf Go.Sort

theorem opF_free {F : Int → Option DT} : ∀ (N : Nat) (d r : DT), opF F N d = some r → r.op = 1 → F r.n = none
  | 0, _, _, h, _ => by cases h
  | N + 1, d, r, h, h1 => by
    rw [opF] at h
    split at h
    · cases hq : F d.n with
      | none => rw [hq] at h; cases h; exact hq
      | some b => rw [hq] at h; exact opF_free N b r h h1
    · cases h; contradiction

structure ClosedP (P : DT → Prop) : Prop where
  kids : ∀ d, P d → ∀ k ∈ d.kids, P k
  var : ∀ n : Nat, n < 20 → P (vD (n : Int))
  rng : ∀ d, P d → OkN d
theorem bindF_els {P : DT → Prop} (hP : ClosedP P) {F F' : Int → Option DT} {n : Int} {y : DT} (hF : Els P F) (hn : 0 ≤ n ∧ n < 20) (hy : P y) (h : bindF F n y = some F') : Els P F' := by
  unfold bindF at h
  split at h
  · rename_i h1
    split at h
    · cases h; exact hF
    · cases h
      refine hF.upd ?_
      have hr := hP.rng y hy h1
      have := hP.var (min n y.n).toNat (by omega)
      rw [show (((min n y.n).toNat : Nat) : Int) = min n y.n by omega] at this
      exact this
  · split at h
    · cases h
    · cases h; exact hF.upd hy
theorem uniFs_els {P : DT → Prop} {f : (Int → Option DT) → DT → DT → Option (Option (Int → Option DT))} (hf : ∀ F F' a b, P a → P b → Els P F → f F a b = some (some F') → Els P F') : ∀ (xs ys : List DT) (F F' : Int → Option DT), (∀ x ∈ xs, P x) → (∀ y ∈ ys, P y) → Els P F → uniFs f F xs ys = some (some F') → Els P F'
  | [], [], F, F', _, _, hF, h => by simp [uniFs] at h; subst h; exact hF
  | [], _ :: _, F, F', _, _, hF, h => by simp [uniFs] at h; subst h; exact hF
  | _ :: _, [], F, F', _, _, hF, h => by simp [uniFs] at h; subst h; exact hF
  | x :: xs, y :: ys, F, F', hx, hy, hF, h => by
    rw [uniFs] at h
    split at h
    · cases h
    · cases h
    · rename_i F1 h1
      exact uniFs_els hf xs ys F1 F' (fun z hz => hx z (by simp [hz])) (fun z hz => hy z (by simp [hz])) (hf F F1 x y (hx x (by simp)) (hy y (by simp)) hF h1) h
theorem uniF_els {P : DT → Prop} (hP : ClosedP P) : ∀ (N : Nat) (F F' : Int → Option DT) (a b : DT), P a → P b → Els P F → uniF N F a b = some (some F') → Els P F'
  | 0, _, _, _, _, _, _, _, h => by cases h
  | N + 1, F, F', a, b, ha, hb, hF, h => by
    rw [uniF] at h
    split at h
    · rename_i y x hy hx
      have gy := opF_good hF N b y hy hb
      have gx := opF_good hF N a x hx ha
      split at h
      · rename_i h1; exact bindF_els hP hF (hP.rng x gx h1) gy (by simpa using h)
      · split at h
        · rename_i h1 h2; exact bindF_els hP hF (hP.rng y gy h2) gx (by simpa using h)
        · split at h
          · exact uniFs_els (fun F F' a b ha hb hF h => uniF_els hP N F F' a b ha hb hF h) _ _ F F' (hP.kids x gx) (hP.kids y gy) hF h
          · cases h
    · cases h

def UniSpec (N : Nat) : Prop := ∀ (F : Int → Option DT) (R : Option (Int → Option DT)) (a b : DT) (n₀ : Nat) (w : World) (bm nb : Nat), uniF N F a b = some R → TMap w bm nb F → GoodF n₀ w F → n₀ ≤ bm → n₀ ≤ w.heap.size → (Lies n₀ w a ∧ OkV a.tm) ∧ a.size < 1000000 → (Lies n₀ w b ∧ OkV b.tm) ∧ b.size < 1000000 → nb + unb F ≤ 1000000 →
  Calls Try.prog 55 #[.map (some bm), dv a, dv b] w (StepEnd bm (nb + unb F) w R)
def KidsSpec (N : Nat) : Prop := ∀ (F : Int → Option DT) (R : Option (Int → Option DT)) (a b : DT) (n₀ : Nat) (w : World) (bm nb : Nat), (if a.op = b.op ∧ a.n = b.n ∧ a.kids.length = b.kids.length then uniFs (uniF N) F a.kids b.kids else some none) = some R → TMap w bm nb F → GoodF n₀ w F → n₀ ≤ bm → n₀ ≤ w.heap.size → (Lies n₀ w a ∧ OkV a.tm) ∧ a.size < 1000000 → (Lies n₀ w b ∧ OkV b.tm) ∧ b.size < 1000000 → nb + unb F ≤ 1000000 →
  Calls Try.prog 81 #[.map (some bm), dv a, dv b] w (StepEnd bm (nb + unb F) w R)

theorem closedP (n₀ : Nat) (w : World) : ClosedP (fun d => (Lies n₀ w d ∧ OkV d.tm) ∧ d.size < 1000000) where
  kids := fun d hd k hk => by
    obtain ⟨i, hi, rfl⟩ := List.getElem_of_mem hk
    have h1 := dsize_kid d.kids i hi
    have h2 := dsize_eq d
    refine ⟨⟨hd.1.1.kids_lie _ hk, ?_⟩, by have := hd.2; omega⟩
    have := OkVs_get _ i (by rw [DT.tm_kids, List.length_map]; exact hi) (hd.1.2.open.2.2.2)
    simpa only [DT.tm_kids, List.getElem_map] using this
  var := fun n hn => ⟨⟨by simp only [vD, Lies]; exact ⟨rfl, by omega, by omega, .inl trivial⟩, by simp only [vD, DT.tm, tms, OkV, OkVs]; exact ⟨fun _ => by omega, fun _ => trivial, fun h => by omega, trivial⟩⟩, by simp [vD, DT.size, dsizes]⟩
  rng := fun d hd h1 => by have := (hd.1.2.open).1; rw [DT.tm_op, DT.tm_n] at this; exact this (.inl h1)

end Go.Proofs.Ythlegfegkopdkaa

namespace Go.Proofs.Ythlegfegkopdkaa
open Go.RowKit Go.Shelf Go.Sort

theorem bind_any (n₀ : Nat) (F : Int → Option DT) (n : Int) (r : DT) (bm nb : Nat) (w : World) (hm : TMap w bm nb F) (hnb : nb ≤ 1000000) (hn : 0 ≤ n ∧ n < 20) (hFn : F n = none) (hr1 : r.op = 1 → F r.n = none) (hE : GoodF n₀ w F) (hn0 : n₀ ≤ w.heap.size) (hr : (Lies n₀ w r ∧ OkV r.tm) ∧ r.size < 1000000) :
    Calls Try.prog 80 #[.map (some bm), .agg #[.int .i64 n], opV r] w (StepEnd bm (nb + unb F) w (bindF F n r)) := by
  obtain ⟨k, rfl⟩ : ∃ k : Nat, n = k := ⟨n.toNat, by omega⟩
  by_cases h1 : r.op = 1
  · have hrn := (closedP n₀ w).rng r hr h1
    have hF1 := hr1 h1
    obtain ⟨m, hm'⟩ : ∃ m : Nat, r.n = m := ⟨r.n.toNat, by omega⟩
    rw [opV_U h1, hm']
    rw [hm'] at hF1
    have := bind_U F k m bm nb w hm hnb (by omega) (by omega) hFn hF1
    unfold bindF
    rw [if_pos h1, hm']
    exact this
  · rw [opV_K h1]
    have := bind_K n₀ F k r bm nb w hm hnb (by omega) hFn hE hn0 hr.1.1 hr.1.2 (by have := hr.2; omega)
    unfold bindF
    rw [if_neg h1]
    exact this

theorem good_below {n₀ : Nat} {w w' : World} {d : DT} (h : (Lies n₀ w d ∧ OkV d.tm) ∧ d.size < 1000000) (hb : Below n₀ w w') : (Lies n₀ w' d ∧ OkV d.tm) ∧ d.size < 1000000 := ⟨⟨h.1.1.below hb, h.1.2⟩, h.2⟩

set_option maxRecDepth 100000 in
set_option maxHeartbeats 1000000 in
theorem uni_step (N : Nat) (hKs : KidsSpec N) : UniSpec (N + 1) := by
  intro F R a b n₀ w bm nb hR hm hE hnb hn ha hb hub
  rw [uniF] at hR
  cases hy : opF F N b with
  | none => rw [hy] at hR; cases hR
  | some y =>
  cases hx : opF F N a with
  | none => rw [hy, hx] at hR; cases hR
  | some x =>
  rw [hy, hx] at hR
  simp only at hR
  have gy := opF_good hE N b y hy hb
  have gx := opF_good hE N a x hx ha
  have fy := opF_free N b y hy
  have fx := opF_free N a x hx
  have hEn : Els OkN F := fun i d hd => (closedP n₀ w).rng d (hE i d hd)
  have hlt := hm.lt
  obtain ⟨W0, hW0⟩ : ∃ W0, W0 = (w.alloc (bx a)).alloc (bx b) := ⟨_, rfl⟩
  have hB0 : Below w.heap.size w W0 := by rw [hW0]; go_grown
  have hz0 : W0.heap.size = w.heap.size + 1 + 1 := by rw [hW0]; simp
  have ba : W0.heap[w.heap.size]? = some (bx a) := by rw [hW0]; exact heap_old (heap_new' _ rfl)
  have hm0 := hm.same (hB0.block _ hlt)
  have h1 := operand_any F bm nb N b y W0 hy hm0 hEn ((closedP n₀ w).rng b hb)
  have h2 := fun (W : World) (hB : Below W0.heap.size W0 W) => operand_any F bm nb N a x W hx (hm0.same (hB.block _ (by omega))) hEn ((closedP n₀ w).rng a ha)
  have hBd := fun (n : Int) (r : DT) (hn' : 0 ≤ n ∧ n < 20) (hFn : F n = none) (hr1 : r.op = 1 → F r.n = none) (hr : (Lies n₀ w r ∧ OkV r.tm) ∧ r.size < 1000000) (W : World) (hB : Below W0.heap.size W0 W) =>
    bind_any n₀ F n r bm nb W (hm0.same (hB.block _ (by omega))) (by omega) hn' hFn hr1 ((hE.below (hB0.mono hn)).below (hB.mono (by omega))) (by have := hB.size; omega) (good_below (good_below hr (hB0.mono hn)) (hB.mono (by omega)))
  have hKd := fun (hxy : ¬ x.op = 1) (hyx : ¬ y.op = 1) (W : World) (hB : Below W0.heap.size W0 W) => hKs F R x y n₀ W bm nb (by rw [if_neg hxy, if_neg hyx] at hR; exact hR) (hm0.same (hB.block _ (by omega))) ((hE.below (hB0.mono hn)).below (hB.mono (by omega))) hnb (by have := hB.size; omega) (good_below (good_below gx (hB0.mono hn)) (hB.mono (by omega))) (good_below (good_below gy (hB0.mono hn)) (hB.mono (by omega))) hub
  have rx := (closedP n₀ w).rng x gx
  have ry := (closedP n₀ w).rng y gy
  have hTT : ∀ W w', Below W0.heap.size W0 W → StepEnd bm (nb + unb F) W R (.returned (.tuple #[])) w' → StepEnd bm (nb + unb F) w R (.returned (.tuple #[])) w' := fun W w' hB hS => ⟨((Turns.of0' hB0).trans ((Turns.of0' hB))).trans hS.1, hS.2⟩
  have hTG : ∀ W w', Below W0.heap.size W0 W → StepEnd bm (nb + unb F) W R gaveNone w' → StepEnd bm (nb + unb F) w R gaveNone w' := fun W w' hB hS => ⟨((Turns.of0' hB0).trans ((Turns.of0' hB))).trans hS.1, hS.2⟩
  have hSE : ∀ W e w', StepEnd bm (nb + unb F) W R e w' → e = .returned (.tuple #[]) ∨ e = gaveNone := fun W e w' hS => by
    cases R with
    | some F' => exact .inl hS.2.1
    | none => exact .inr hS.2
  have d1 := asU_U x.n
  have d2 := asU_K x
  have d3 := asK_K x
  have d4 := asU_U y.n
  have d5 := asU_K y
  have d6 := asK_K y
  rw [hW0] at h1
  replace h1 := Lib.hid h1
  replace h2 := Lib.hid h2
  replace ba := Lib.hid ba
  replace hTT := Lib.hid hTT
  replace hTG := Lib.hid hTG
  replace hSE := Lib.hid hSE
  replace hz0 := Lib.hid hz0
  replace hB0 := Lib.hid hB0
  by_cases hx1 : x.op = 1
  · rw [if_pos hx1] at hR
    have hR' : bindF F x.n y = R := by simpa using hR
    have hC := fun W hB => hBd x.n y (rx hx1) (fx hx1) fy gy W hB
    rw [hR'] at hC
    have hv := opV_U hx1
    rw [hv] at h2
    replace hC := Lib.hid hC
    replace hv := Lib.hid hv
    replace hx1 := Lib.hid hx1
    clear hKd hBd hR hR' gx gy fx fy rx ry hm hm0 hE hEn ha hb hx hy d2 d3 d4 d5 d6
    obtain ⟨Y, hY⟩ : ∃ Y, Y = opV y := ⟨_, rfl⟩
    rw [← hY] at h1 hC
    replace hY := Lib.hid hY
    go_enter Try.func55, Try.ntmps55
    go_wp2_with fail
    refine (h1.out).mono ?_
    rintro e w1 ⟨rfl, hB1⟩
    rw [← hW0] at hB1
    obtain ⟨⟨b0, b1, b2⟩, -⟩ := c3_cells ((hB1.block _ (by have := hz0.out; omega)).trans ba.out)
    have h2' := Lib.hid (h2.out w1 hB1)
    replace hB1 := Lib.hid hB1
    go_wp2_with fail
    refine (h2'.out).mono ?_
    rintro e w2 ⟨rfl, hB2⟩
    have hB3 := hB1.out.trans (hB2.mono hB1.out.size)
    have hB4 := hB3.alloc hB3.size (.cells #[.int .i64 x.n] 124)
    have hC' := Lib.hid (hC.out _ hB4)
    replace hB2 := Lib.hid hB2
    replace hB3 := Lib.hid hB3
    replace hB4 := Lib.hid hB4
    clear b0 b1 b2
    go_wp2_with fail
    refine (hC'.out).mono ?_
    intro e w3 hS
    have hS' := hSE.out _ _ _ hS
    rcases hS' with rfl | rfl
    · replace hS := Lib.hid hS
      go_wp2_with fail
      go_end0
      exact hTT.out _ _ hB4.out hS.out
    · exact ⟨rfl, hTG.out _ _ hB4.out hS⟩
  · rw [if_neg hx1] at hR
    by_cases hy1 : y.op = 1
    · rw [if_pos hy1] at hR
      have hR' : bindF F y.n x = R := by simpa using hR
      have hC := fun W hB => hBd y.n x (ry hy1) (fy hy1) fx gx W hB
      rw [hR'] at hC
      have hv := opV_K hx1
      have hv2 := opV_U hy1
      rw [hv] at h2 hC
      rw [hv2] at h1
      replace hC := Lib.hid hC
      replace hv := Lib.hid hv
      replace hv2 := Lib.hid hv2
      replace hx1 := Lib.hid hx1
      replace hy1 := Lib.hid hy1
      clear hKd hBd hR hR' gx gy fx fy rx ry hm hm0 hE hEn ha hb hx hy d1 d5 d6
      go_enter Try.func55, Try.ntmps55
      go_wp2_with fail
      refine (h1.out).mono ?_
      rintro e w1 ⟨rfl, hB1⟩
      rw [← hW0] at hB1
      obtain ⟨⟨b0, b1, b2⟩, -⟩ := c3_cells ((hB1.block _ (by have := hz0.out; omega)).trans ba.out)
      have h2' := Lib.hid (h2.out w1 hB1)
      replace hB1 := Lib.hid hB1
      go_wp2_with fail
      refine (h2'.out).mono ?_
      rintro e w2 ⟨rfl, hB2⟩
      have hB3 := hB1.out.trans (hB2.mono hB1.out.size)
      have hB3' := hB3.alloc hB3.size (.cells #[.int .i64 x.op, .int .i64 x.n, .slice x.a x.l x.c] 127)
      have hB4 := hB3'.alloc hB3'.size (.cells #[.int .i64 y.n] 124)
      have hC' := Lib.hid (hC.out _ hB4)
      replace hB2 := Lib.hid hB2
      replace hB3 := Lib.hid hB3
      replace hB3' := Lib.hid hB3'
      replace hB4 := Lib.hid hB4
      clear b0 b1 b2
      go_wp2_with fail
      refine (hC'.out).mono ?_
      intro e w3 hS
      have hS' := hSE.out _ _ _ hS
      rcases hS' with rfl | rfl
      · replace hS := Lib.hid hS
        go_wp2_with fail
        go_end0
        exact hTT.out _ _ hB4.out hS.out
      · exact ⟨rfl, hTG.out _ _ hB4.out hS⟩
    · have hC := hKd hx1 hy1
      have hv := opV_K hx1
      have hv2 := opV_K hy1
      rw [hv] at h2
      rw [hv2] at h1
      replace hC := Lib.hid hC
      replace hv := Lib.hid hv
      replace hv2 := Lib.hid hv2
      replace hx1 := Lib.hid hx1
      replace hy1 := Lib.hid hy1
      clear hKd hBd hR gx gy fx fy rx ry hm hm0 hE hEn ha hb hx hy d1 d4
      go_enter Try.func55, Try.ntmps55
      go_wp2_with fail
      refine (h1.out).mono ?_
      rintro e w1 ⟨rfl, hB1⟩
      rw [← hW0] at hB1
      obtain ⟨⟨b0, b1, b2⟩, -⟩ := c3_cells ((hB1.block _ (by have := hz0.out; omega)).trans ba.out)
      have h2' := Lib.hid (h2.out w1 hB1)
      replace hB1 := Lib.hid hB1
      go_wp2_with fail
      refine (h2'.out).mono ?_
      rintro e w2 ⟨rfl, hB2⟩
      have hB3 := hB1.out.trans (hB2.mono hB1.out.size)
      have hB3' := hB3.alloc hB3.size (.cells #[.int .i64 x.op, .int .i64 x.n, .slice x.a x.l x.c] 127)
      have hB4 := hB3'.alloc hB3'.size (.cells #[.int .i64 y.op, .int .i64 y.n, .slice y.a y.l y.c] 127)
      have hC' := Lib.hid (hC.out _ hB4)
      replace hB2 := Lib.hid hB2
      replace hB3 := Lib.hid hB3
      replace hB3' := Lib.hid hB3'
      replace hB4 := Lib.hid hB4
      clear b0 b1 b2
      go_wp2_with fail
      refine (hC'.out).mono ?_
      intro e w3 hS
      have hS' := hSE.out _ _ _ hS
      rcases hS' with rfl | rfl
      · replace hS := Lib.hid hS
        go_wp2_with fail
        go_end0
        exact hTT.out _ _ hB4.out hS.out
      · exact ⟨rfl, hTG.out _ _ hB4.out hS⟩

end Go.Proofs.Ythlegfegkopdkaa

namespace Go.Proofs.Ythlegfegkopdkaa
open Go.RowKit Go.Shelf Go.Sort

theorem uniFs_drop (f : (Int → Option DT) → DT → DT → Option (Option (Int → Option DT))) (F : Int → Option DT) (xs ys : List DT) (k : Nat) (h : k < xs.length) (h' : k < ys.length) :
    uniFs f F (xs.drop k) (ys.drop k) = match f F xs[k] ys[k] with | none => none | some none => some none | some (some F') => uniFs f F' (xs.drop (k + 1)) (ys.drop (k + 1)) := by
  rw [List.drop_eq_getElem_cons h, List.drop_eq_getElem_cons h', uniFs]
  generalize f F xs[k] ys[k] = q
  rcases q with _ | _ | q <;> rfl
structure UKI (N : Nat) (F : Int → Option DT) (R : Option (Int → Option DT)) (a b : DT) (n₀ bm nb : Nat) (w : World) (k : Nat) (W : World) : Prop where
  ex : ∃ (Fk : Int → Option DT) (nk : Nat), TMap W bm nk Fk ∧ nk + unb Fk ≤ nb + unb F ∧ Els (fun d => (Lies n₀ w d ∧ OkV d.tm) ∧ d.size < 1000000) Fk ∧ uniFs (uniF N) Fk (a.kids.drop k) (b.kids.drop k) = some R
  trn : Turns (fun j => j = bm) w W

set_option maxRecDepth 100000 in
set_option maxHeartbeats 1000000 in
theorem kids_bad (a b : DT) (n₀ : Nat) (w : World) (bm B : Nat) (ha : Lies n₀ w a) (hb : Lies n₀ w b) (h : ¬ (a.op = b.op ∧ a.n = b.n ∧ a.kids.length = b.kids.length)) :
    Calls Try.prog 81 #[.map (some bm), dv a, dv b] w (StepEnd bm B w none) := by
  obtain ⟨hl1, -⟩ := ha.open
  obtain ⟨hl2, -⟩ := hb.open
  have hB0 : Below w.heap.size w ((w.alloc (bx a)).alloc (bx b)) := by go_grown
  have hfin : Hid (Turns (fun j => j = bm) w ((w.alloc (bx a)).alloc (bx b))) := Turns.of0' hB0
  by_cases h1 : a.op = b.op
  · have e1 : (a.op != b.op) = false := by simpa using h1
    by_cases h2 : a.n = b.n
    · have e2 : (a.n != b.n) = false := by simpa using h2
      have h3 : a.l ≠ b.l := by rw [hl1, hl2]; exact fun e => h ⟨h1, h2, e⟩
      have e3 : ((a.l : Int) != (b.l : Int)) = true := by simp; omega
      replace h1 := Lib.hid h1
      replace h2 := Lib.hid h2
      clear h hl1 hl2 ha hb h3
      go_enter Try.func81, Try.ntmps81
      go_wp2
      exact ⟨rfl, hfin.out, rfl⟩
    · have e2 : (a.n != b.n) = true := by simpa using h2
      replace h1 := Lib.hid h1
      clear h hl1 hl2 ha hb h2
      go_enter Try.func81, Try.ntmps81
      go_wp2
      exact ⟨rfl, hfin.out, rfl⟩
  · have e1 : (a.op != b.op) = true := by simpa using h1
    clear h hl1 hl2 ha hb h1
    go_enter Try.func81, Try.ntmps81
    go_wp2
    exact ⟨rfl, hfin.out, rfl⟩

set_option maxRecDepth 100000 in
set_option maxHeartbeats 1000000 in
theorem kids_step (N : Nat) (ih : UniSpec N) : KidsSpec N := by
  intro F R a b n₀ w bm nb hR hm hE hnb hn ha hb hub
  by_cases hg : a.op = b.op ∧ a.n = b.n ∧ a.kids.length = b.kids.length
  rotate_left
  · rw [if_neg hg] at hR
    cases hR
    exact kids_bad a b n₀ w bm _ ha.1.1 hb.1.1 hg
  rw [if_pos hg] at hR
  obtain ⟨h1, h2, h3⟩ := hg
  obtain ⟨hl1, hlc1, hc1, hk1⟩ := ha.1.1.open
  obtain ⟨hl2, hlc2, hc2, hk2⟩ := hb.1.1.open
  have e1 : (a.op != b.op) = false := by simpa using h1
  have e2 : (a.n != b.n) = false := by simpa using h2
  have e3 : ((a.l : Int) != (b.l : Int)) = false := by simp; omega
  have hll : a.l ≤ b.l := by omega
  obtain ⟨W0, hW0⟩ : ∃ W0, W0 = (w.alloc (bx a)).alloc (bx b) := ⟨_, rfl⟩
  have hB0 : Below w.heap.size w W0 := by rw [hW0]; go_grown
  have hz0 : W0.heap.size = w.heap.size + 1 + 1 := by rw [hW0]; simp
  have ba : W0.heap[w.heap.size]? = some (bx a) := by rw [hW0]; exact heap_old (heap_new' _ rfl)
  have bb : W0.heap[w.heap.size + 1]? = some (bx b) := by rw [hW0]; exact heap_new' _ (by simp)
  have hlt := hm.lt
  have hstart : Hid (UKI N F R a b n₀ bm nb w 0 W0 ∧ Turns (fun j => j = bm) W0 W0) := ⟨⟨⟨F, nb, hm.same (hB0.block _ hlt), Nat.le_refl _, hE, by simpa using hR⟩, Turns.of0' hB0⟩, Turns.refl _ _⟩
  have ha' := ha
  have hb' := hb
  replace ha := Lib.hid ha
  replace hb := Lib.hid hb
  replace h1 := Lib.hid h1
  replace h2 := Lib.hid h2
  replace h3 := Lib.hid h3
  replace hl1 := Lib.hid hl1
  replace hl2 := Lib.hid hl2
  replace hW0' := Lib.hid hW0
  replace ih := Lib.hid ih
  replace ba := Lib.hid ba
  replace bb := Lib.hid bb
  replace hz0 := Lib.hid hz0
  clear ha' hb' hR hm hE
  go_enter Try.func81, Try.ntmps81
  go_wp2_with fail
  rw [show (w.alloc (.cells #[.int .i64 a.op, .int .i64 a.n, .slice a.a a.l a.c] 32)).alloc (.cells #[.int .i64 b.op, .int .i64 b.n, .slice b.a b.l b.c] 32) = W0 from hW0.symm]
  clear hW0
  go_loopw [6, 33] (fun _ i wr => ∃ k : Nat, k ≤ a.l ∧ i = .int .i64 k ∧ Hid (UKI N F R a b n₀ bm nb w k wr ∧ Turns (fun j => j = bm) W0 wr)) (fun _ i _ => a.l - (intOf i).toNat)
  case atStart => exact ⟨0, by omega, rfl, hstart⟩
  case round =>
    obtain ⟨k, hk, rfl, hI⟩ := hrel
    by_cases hlt2 : k < a.l
    · have o1 : (k : Int) < (a.l : Int) := by omega
      have o2 : (k : Int) < (b.l : Int) := by omega
      have hka : k < a.kids.length := by have := hl1.out; omega
      have hkb : k < b.kids.length := by have := hl2.out; omega
      rcases hk1 with hk1 | ⟨b1, off1, hba, hbn1, hks1⟩
      · rw [hk1] at hka; simp at hka
      rcases hk2 with hk2 | ⟨b2, off2, hbb, hbn2, hks2⟩
      · rw [hk2] at hkb; simp at hkb
      obtain ⟨⟨⟨Fk, nk, m1, m2, m3, m4⟩, m5⟩, m6⟩ := hI.out
      rw [uniFs_drop _ _ _ _ _ hka hkb] at m4
      have hzw := m5.size
      have hbl : Below n₀ w wr := m5.below hn (fun j hj e => by omega)
      obtain ⟨p1, p2⟩ := LiesAll.get _ hks1 k hka
      obtain ⟨r1, r2⟩ := LiesAll.get _ hks2 k hkb
      have hga := (closedP n₀ w).kids a ha.out _ (List.getElem_mem hka)
      have hgb := (closedP n₀ w).kids b hb.out _ (List.getElem_mem hkb)
      obtain ⟨x, hx⟩ : ∃ x, x = a.kids[k] := ⟨_, rfl⟩
      obtain ⟨y, hy⟩ : ∃ y, y = b.kids[k] := ⟨_, rfl⟩
      rw [← hx] at m4 p1 p2 hga
      rw [← hy] at m4 r1 r2 hgb
      have hK := Lib.hid (show ∀ W, Turns (fun j => j = bm) wr W → (W.cell? ⟨w.heap.size, 2, none⟩ = some (.slice a.a a.l a.c) ∧ W.cell? ⟨w.heap.size + 1, 2, none⟩ = some (.slice b.a b.l b.c)) ∧ (W.cell? ⟨b1, off1 + k * 3, none⟩ = some (.int .i64 x.op) ∧ W.cell? ⟨b1, off1 + k * 3 + 1, none⟩ = some (.int .i64 x.n) ∧ W.cell? ⟨b1, off1 + k * 3 + 2, none⟩ = some (.slice x.a x.l x.c)) ∧ (W.cell? ⟨b2, off2 + k * 3, none⟩ = some (.int .i64 y.op) ∧ W.cell? ⟨b2, off2 + k * 3 + 1, none⟩ = some (.int .i64 y.n) ∧ W.cell? ⟨b2, off2 + k * 3 + 2, none⟩ = some (.slice y.a y.l y.c)) from fun W hT => by
        have hz := hz0.out
        have hT' := m6.trans hT
        have hbl2 : Below n₀ w W := (m5.trans hT).below hn (fun j hj e => by omega)
        have c1 := p1.below hbl2 hbn1
        have c2 := r1.below hbl2 hbn2
        exact ⟨⟨(c3_cells ((hT'.block _ (by omega) (by omega)).trans ba.out)).1.2.2, (c3_cells ((hT'.block _ (by omega) (by omega)).trans bb.out)).1.2.2⟩, ⟨c1.c0, c1.c1, c1.c2⟩, ⟨c2.c0, c2.c1, c2.c2⟩⟩)
      cases hf : uniF N Fk x y with
      | none => rw [hf] at m4; cases m4
      | some R1 =>
      rw [hf] at m4
      have bdr : Below wr.heap.size wr wr.drew := (Below.refl _ _).drew
      have hC := ih.out Fk R1 x y n₀ wr.drew bm nk hf m1 (fun i d hd => good_below (good_below (m3 i d hd) hbl) (bdr.mono (by omega))) hnb (show n₀ ≤ wr.heap.size by omega) (good_below (good_below hga hbl) (bdr.mono (by omega))) (good_below (good_below hgb hbl) (bdr.mono (by omega))) (by omega)
      have hS0 : (fun W' : World => Turns (fun j => j = bm) wr W') { wr with drawn := wr.drawn + 1 } := Turns.of0' bdr
      have hnext : Hid (∀ w3, StepEnd bm (nk + unb Fk) wr.drew R1 (.returned (.tuple #[])) w3 → UKI N F R a b n₀ bm nb w (k + 1) w3 ∧ Turns (fun j => j = bm) W0 w3) := fun w3 hS => by
        cases R1 with
        | none => cases hS.2
        | some F1 =>
          obtain ⟨hT, -, n1, t1, t2⟩ := hS
          have hTT := hS0.trans hT
          exact ⟨⟨⟨F1, n1, t1, by omega, uniF_els (closedP n₀ w) N Fk F1 x y hga hgb m3 hf, m4⟩, m5.trans hTT⟩, m6.trans hTT⟩
      have hstop : Hid (∀ w3, StepEnd bm (nk + unb Fk) wr.drew R1 gaveNone w3 → StepEnd bm (nb + unb F) w R gaveNone w3) := fun w3 hS => by
        cases R1 with
        | some F1 => cases hS.2.1
        | none =>
          have : R = none := by simpa using m4.symm
          subst this
          exact ⟨m5.trans (hS0.trans hS.1), rfl⟩
      have hSE : Hid (∀ e w', StepEnd bm (nk + unb Fk) wr.drew R1 e w' → (e = .returned (.tuple #[]) ∨ e = gaveNone) ∧ Turns (fun j => j = bm) wr w') := fun e w' hS => ⟨by
        cases R1 with
        | some F' => exact .inl hS.2.1
        | none => exact .inr hS.2, hS0.trans hS.1⟩
      replace hC := Lib.hid hC
      replace m1 := Lib.hid m1
      replace m3 := Lib.hid m3
      replace m4 := Lib.hid m4
      replace m5 := Lib.hid m5
      replace m6 := Lib.hid m6
      replace hx := Lib.hid hx
      replace hy := Lib.hid hy
      replace hf := Lib.hid hf
      rw [hba, hbb] at hK ⊢
      clear hks1 hks2 p1 p2 r1 r2 hga hgb hI
      go_upto_region 6 with fail
      refine wp_region_held (S := fun W' => Turns (fun j => j = bm) wr W') (by kernel_rfl) ?_
      refine takeH 0 36 (.map (some bm)) rfl rfl (by kernel_rfl) (by kernel_rfl) (by kernel_rfl) (fun _ _ _ h => h) (by rfl) (by intro W hSw; clear hSw; go_simp) hS0 ?_
      try simp only [List.setIfInBounds_toArray, List.set_cons_zero, List.set_cons_succ]
      refine takeH 1 37 (.pointer (some ⟨w.heap.size, 2, none⟩)) rfl rfl (by kernel_rfl) (by kernel_rfl) (by kernel_rfl) (fun _ _ _ h => h) (by rfl) (by intro W hSw; clear hSw; go_simp) hS0 ?_
      try simp only [List.setIfInBounds_toArray, List.set_cons_zero, List.set_cons_succ]
      refine takeH 2 38 (.slice (some ⟨b1, off1, none⟩) a.l a.c) rfl rfl (by kernel_rfl) (by kernel_rfl) (by kernel_rfl) (fun _ _ _ h => h) (by rfl) (by intro W hSw; obtain ⟨⟨j1, j2⟩, ⟨j3, j4, j5⟩, ⟨j6, j7, j8⟩⟩ := hK.out W hSw; clear hSw; go_simp) hS0 ?_
      try simp only [List.setIfInBounds_toArray, List.set_cons_zero, List.set_cons_succ]
      refine takeH 3 39 (.int .i64 (k : Nat)) rfl rfl (by kernel_rfl) (by kernel_rfl) (by kernel_rfl) (fun _ _ _ h => h) (by rfl) (by intro W hSw; clear hSw; go_simp) hS0 ?_
      try simp only [List.setIfInBounds_toArray, List.set_cons_zero, List.set_cons_succ]
      refine takeH 4 40 (.pointer (some ⟨b1, off1 + k * 3, none⟩)) rfl rfl (by kernel_rfl) (by kernel_rfl) (by kernel_rfl) (fun _ _ _ h => h) (by rfl) (by intro W hSw; clear hSw; go_simp) hS0 ?_
      try simp only [List.setIfInBounds_toArray, List.set_cons_zero, List.set_cons_succ]
      refine takeH 5 41 (dv x) rfl rfl (by kernel_rfl) (by kernel_rfl) (by kernel_rfl) (fun _ _ _ h => h) (by rfl) (by intro W hSw; obtain ⟨⟨j1, j2⟩, ⟨j3, j4, j5⟩, ⟨j6, j7, j8⟩⟩ := hK.out W hSw; clear hSw; go_simp) hS0 ?_
      try simp only [List.setIfInBounds_toArray, List.set_cons_zero, List.set_cons_succ]
      refine takeH 6 42 (.pointer (some ⟨w.heap.size + 1, 2, none⟩)) rfl rfl (by kernel_rfl) (by kernel_rfl) (by kernel_rfl) (fun _ _ _ h => h) (by rfl) (by intro W hSw; clear hSw; go_simp) hS0 ?_
      try simp only [List.setIfInBounds_toArray, List.set_cons_zero, List.set_cons_succ]
      refine takeH 7 43 (.slice (some ⟨b2, off2, none⟩) b.l b.c) rfl rfl (by kernel_rfl) (by kernel_rfl) (by kernel_rfl) (fun _ _ _ h => h) (by rfl) (by intro W hSw; obtain ⟨⟨j1, j2⟩, ⟨j3, j4, j5⟩, ⟨j6, j7, j8⟩⟩ := hK.out W hSw; clear hSw; go_simp) hS0 ?_
      try simp only [List.setIfInBounds_toArray, List.set_cons_zero, List.set_cons_succ]
      refine takeH 8 44 (.int .i64 (k : Nat)) rfl rfl (by kernel_rfl) (by kernel_rfl) (by kernel_rfl) (fun _ _ _ h => h) (by rfl) (by intro W hSw; clear hSw; go_simp) hS0 ?_
      try simp only [List.setIfInBounds_toArray, List.set_cons_zero, List.set_cons_succ]
      refine takeH 9 45 (.pointer (some ⟨b2, off2 + k * 3, none⟩)) rfl rfl (by kernel_rfl) (by kernel_rfl) (by kernel_rfl) (fun _ _ _ h => h) (by rfl) (by intro W hSw; clear hSw; go_simp) hS0 ?_
      try simp only [List.setIfInBounds_toArray, List.set_cons_zero, List.set_cons_succ]
      refine takeH 10 46 (dv y) rfl rfl (by kernel_rfl) (by kernel_rfl) (by kernel_rfl) (fun _ _ _ h => h) (by rfl) (by intro W hSw; obtain ⟨⟨j1, j2⟩, ⟨j3, j4, j5⟩, ⟨j6, j7, j8⟩⟩ := hK.out W hSw; clear hSw; go_simp) hS0 ?_
      try simp only [List.setIfInBounds_toArray, List.set_cons_zero, List.set_cons_succ]
      refine wpAnyH_ready (rs := [11]) (by kernel_rfl) (by simp) ?_
      refine AllReadyH.cons rfl (fun K hKc => ?_) AllReadyH.nil
      go_simp
      go_at_call 55
      refine (hC.out).mono ?_
      intro e w3 hS
      obtain ⟨hS', hT3⟩ := hSE.out _ _ hS
      rcases hS' with rfl | rfl
      · refine hKc _ _ hT3 (fun _ => ?_)
        clear hKc K
        have hrel' : Hid (UKI N F R a b n₀ bm nb w (k + 1) w3 ∧ Turns (fun j => j = bm) W0 w3) := hnext.out _ hS
        clear hS hT3
        try simp only [List.setIfInBounds_toArray, List.set_cons_zero, List.set_cons_succ]
        refine wpAnyH_done (by kernel_rfl) ?_ _
        go_wp2_with fail
        go_roundw
        case rel => exact ⟨k + 1, by omega, by go_num, hrel'⟩
        case measure => simp [intOf]; omega
      · exact ⟨rfl, hstop.out _ hS⟩
    · have : k = a.l := by omega
      subst this
      have hend : Hid (StepEnd bm (nb + unb F) w R (.returned (.tuple #[])) wr) := by
        obtain ⟨⟨⟨Fk, nk, m1, m2, m3, m4⟩, m5⟩, m6⟩ := hI.out
        rw [List.drop_eq_nil_of_le (by have := hl1.out; omega), List.drop_eq_nil_of_le (by have := hl1.out; have := h3.out; omega)] at m4
        simp [uniFs] at m4
        subst m4
        exact ⟨m5, rfl, nk, m1, m2⟩
      clear hk1 hk2
      go_wp2_with fail
      go_end0
      exact hend.out

theorem uni_all (N : Nat) : UniSpec N := by
  induction N with
  | zero => intro F R a b n₀ w bm nb h; cases h
  | succ N ih => exact uni_step N (kids_step N ih)

end Go.Proofs.Ythlegfegkopdkaa

namespace Go.Proofs.Ythlegfegkopdkaa
open Go.RowKit Go.Shelf Go.Sort

def growK (f : Nat → DT → Option (Tm × Nat)) : Nat → List DT → Option (List Tm × Nat)
  | c, [] => some ([], c)
  | c, x :: xs => match f c x with
    | none => none
    | some (t, c1) => match growK f c1 xs with
      | none => none
      | some (ts, c2) => some (t :: ts, c2)
/-- A value with all bindings put in; none: it gives up, as the term would be too large. -/
def growF (F : Int → Option DT) : Nat → Nat → Nat → DT → Option (Tm × Nat)
  | 0, _, _, _ => none
  | N + 1, dep, c, d => if 40 < c + 1 ∨ 12 < dep then none else
    match opF F N d with
    | none => none
    | some r => match growK (growF F N (dep + 1)) (c + 1) r.kids with
      | none => none
      | some (ts, c') => some (.mk r.op r.n ts, c')
theorem growK_get {f : Nat → DT → Option (Tm × Nat)} : ∀ {l : List DT} {c c' : Nat} {ts : List Tm}, growK f c l = some (ts, c') → ∃ cs : Nat → Nat, cs 0 = c ∧ cs l.length = c' ∧ ts.length = l.length ∧ ∀ k (h : k < l.length), f (cs k) l[k] = some (ts.getD k (.mk 0 0 []), cs (k + 1))
  | [], c, c', ts, h => by simp [growK] at h; obtain ⟨rfl, rfl⟩ := h; exact ⟨fun _ => c, rfl, rfl, rfl, fun k h => by simp at h⟩
  | x :: xs, c, c', ts, h => by
    rw [growK] at h
    split at h
    · cases h
    · rename_i t c1 h1
      split at h
      · cases h
      · rename_i ts1 c2 h2
        simp at h
        obtain ⟨rfl, rfl⟩ := h
        obtain ⟨cs, g1, g2, g3, g4⟩ := growK_get h2
        refine ⟨fun k => if k = 0 then c else cs (k - 1), rfl, by simp [g2], by simp [g3], fun k hk => ?_⟩
        cases k with
        | zero => simp [h1, g1]
        | succ k => simpa using g4 k (by simpa using hk)

structure GCap (n₀ : Nat) (F : Int → Option DT) (bm nb Bc Bg Bu : Nat) (W : World) : Prop where
  g : Boxed W Bg 128 (.func (.func 82) #[] #[.pointer (some ⟨Bc, 0, none⟩), .pointer (some ⟨Bg, 0, none⟩), .pointer (some ⟨Bu, 0, none⟩)])
  u : Boxed W Bu 105 (.map (some bm))
  m : TMap W bm nb F
  e : GoodF n₀ W F
  n1 : n₀ ≤ Bc
  n2 : Bc ≠ Bg ∧ Bc ≠ Bu ∧ Bc ≠ bm
  n3 : n₀ ≤ W.heap.size
theorem GCap.turns {n₀ : Nat} {F : Int → Option DT} {bm nb Bc Bg Bu : Nat} {W W' : World} (h : GCap n₀ F bm nb Bc Bg Bu W) (hT : Turns (fun b => b = Bc) W W') : GCap n₀ F bm nb Bc Bg Bu W' := by
  have hb : Below n₀ W W' := hT.below h.n3 (fun k hk e => by have := h.n1; omega)
  obtain ⟨q1, q2, q3⟩ := h.n2
  exact ⟨(hT.block _ h.g.lt (fun e => q1 e.symm)).trans h.g, (hT.block _ h.u.lt (fun e => q2 e.symm)).trans h.u, h.m.same (hT.block _ h.m.lt (fun e => q3 e.symm)), h.e.below hb, h.n1, h.n2, Nat.le_trans h.n3 hT.size⟩

abbrev Cnt (Bc c : Nat) (W : World) : Prop := Boxed W Bc 3 (.int .i64 (c : Nat))
def GrowSpec (n₀ : Nat) (F : Int → Option DT) (bm nb Bc Bg Bu N : Nat) : Prop := ∀ (dep c : Nat) (d : DT) (w : World) (T : Tm) (c' : Nat), growF F N dep c d = some (T, c') → dep ≤ 1000 → ((Lies n₀ w d ∧ OkV d.tm) ∧ d.size < 1000000) → GCap n₀ F bm nb Bc Bg Bu w → Cnt Bc c w →
  Calls Try.prog 82 #[.int .i64 (dep : Nat), dv d, .pointer (some ⟨Bc, 0, none⟩), .pointer (some ⟨Bg, 0, none⟩), .pointer (some ⟨Bu, 0, none⟩)] w (Makes (fun b => b = Bc) w T (Cnt Bc c'))

set_option maxRecDepth 100000 in
set_option maxHeartbeats 1000000 in
theorem grow_kid (n₀ : Nat) (F : Int → Option DT) (bm nb Bc Bg Bu N : Nat) (ih : GrowSpec n₀ F bm nb Bc Bg Bu N) (dep c Bd : Nat) (d : DT) (w : World) (T : Tm) (c' : Nat) (hT : growF F N (dep + 1) c d = some (T, c')) (hdep : dep ≤ 900) (hd : (Lies n₀ w d ∧ OkV d.tm) ∧ d.size < 1000000) (hG : GCap n₀ F bm nb Bc Bg Bu w) (hc : Cnt Bc c w) (hD : Boxed w Bd 3 (.int .i64 (dep : Nat))) :
    Calls Try.prog 83 #[dv d, .pointer (some ⟨Bg, 0, none⟩), .pointer (some ⟨Bd, 0, none⟩)] w (Makes (fun b => b = Bc) w T (Cnt Bc c')) := by
  obtain ⟨W0, hW0⟩ : ∃ W0, W0 = (w.alloc (bx d)).alloc zer3 := ⟨_, rfl⟩
  have hB0 : Below w.heap.size w W0 := by rw [hW0]; go_grown
  have hz0 : W0.heap.size = w.heap.size + 1 + 1 := by rw [hW0]; simp
  have hT0 : Turns (fun b => b = Bc) w W0 := Turns.of0' hB0
  have hr0 : W0.heap[w.heap.size + 1]? = some zer3 := by rw [hW0]; exact heap_new' _ (by simp)
  have hn := hG.n3
  have hclt := hc.lt
  have hC := ih (dep + 1) c d W0 T c' hT (by omega) (good_below hd (hB0.mono hn)) (hG.turns hT0) ((hB0.block _ hclt).trans hc)
  have b1 := fun o o' => ((hG.g.alloc o).alloc o').cell
  have b2 := fun o o' => ((hD.alloc o).alloc o').cell
  rw [hW0] at hC
  replace hC := Lib.hid hC
  clear ih hT hd hG hc hD
  go_enter Try.func83, Try.ntmps83
  go_wp2_with fail
  refine (hC.out).mono ?_
  rintro e w1 ⟨a, l, k, rfl, hF, hJ, hT1⟩
  rw [← hW0] at hF hT1
  have hr1 := (hT1.block (w.heap.size + 1) (by omega) (by omega)).trans hr0
  obtain ⟨⟨q0, q1, q2⟩, q3, q4, q5⟩ := c3_cells hr1
  obtain ⟨W3, e3, -, ⟨g0, g1, g2⟩, s2, s3⟩ := stored3 (.int .i64 T.op) (.int .i64 T.n) (.slice a l k) hr1
  have hJ3 : Hid (Cnt Bc c' W3) := (s2 Bc (by omega)).trans hJ
  replace hF := Lib.hid hF
  replace hT1 := Lib.hid hT1
  clear hr1 hJ
  replace e3 := Lib.hid e3
  replace g0 := Lib.hid g0
  replace g1 := Lib.hid g1
  replace g2 := Lib.hid g2
  go_wp2_with fail
  rw [← e3.out]
  have h0 := g0.out
  have h1 := g1.out
  have h2 := g2.out
  refine bodyPost_ret (v := .agg #[.int .i64 T.op, .int .i64 T.n, .slice a l k]) (by simp [results, Try.f83, go_sem, h0, h1, h2]) rfl ?_
  exact makes_end hB0 hT1.out hF.out hJ3.out (B := w.heap.size + 1) (by omega) s2 s3

end Go.Proofs.Ythlegfegkopdkaa

namespace Go.Proofs.Ythlegfegkopdkaa
open Go.RowKit Go.Shelf Go.Sort

theorem uterm_any (n : Int) (w : World) : Calls Try.prog 117 #[.agg #[.int .i64 n]] w fun e w' => e = .returned (dv (vD n)) ∧ Below w.heap.size w w' := by
  have hV := fun W => varTerm_is n W
  have hb0 : Below w.heap.size w ((w.alloc (.cells #[.int .i64 n] 124)).alloc zer3) := by go_grown
  have hr0 : ((w.alloc (.cells #[.int .i64 n] 124)).alloc zer3).heap[w.heap.size + 1]? = some zer3 := heap_new' _ (by simp)
  replace hV := Lib.hid hV
  replace hr0 := Lib.hid hr0
  go_enter Try.func117, Try.ntmps117
  go_wp2_with fail
  refine (hV.out _).mono ?_
  rintro e w1 ⟨rfl, hB⟩
  have hr1 := (hB.block (w.heap.size + 1) (by simp)).trans hr0.out
  obtain ⟨⟨q0, q1, q2⟩, q3, q4, q5⟩ := c3_cells hr1
  obtain ⟨W3, e3, -, ⟨g0, g1, g2⟩, s2, s3⟩ := stored3 (.int .i64 (vD n).op) (.int .i64 (vD n).n) (.slice (vD n).a (vD n).l (vD n).c) hr1
  replace e3 := Lib.hid e3
  replace g0 := Lib.hid g0
  replace g1 := Lib.hid g1
  replace g2 := Lib.hid g2
  replace hB := Lib.hid hB
  clear hr1
  go_wp2_with fail
  rw [← e3.out]
  have h0 := g0.out
  have h1 := g1.out
  have h2 := g2.out
  exact bodyPost_ret (v := dv (vD n)) (by simp [results, Try.f117, go_sem, h0, h1, h2]) rfl ⟨rfl, (hb0.trans (hB.out.mono (by simp; omega))).trans (s3.mono (by omega))⟩

abbrev gw0 (w : World) (dep : Nat) (d : DT) : World := ((w.alloc (.cells #[.int .i64 (dep : Nat)] 3)).alloc (bx d)).alloc zer3

set_option maxRecDepth 100000 in
set_option maxHeartbeats 1000000 in
theorem grow_step (n₀ : Nat) (F : Int → Option DT) (bm nb Bc Bg Bu N : Nat) (ih : GrowSpec n₀ F bm nb Bc Bg Bu N) : GrowSpec n₀ F bm nb Bc Bg Bu (N + 1) := by
  intro dep c d w T c' hT hdep hd hG hc
  rw [growF] at hT
  split at hT
  · cases hT
  rename_i hg
  cases hr : opF F N d with
  | none => rw [hr] at hT; cases hT
  | some r =>
  rw [hr] at hT
  simp only at hT
  have hmf : ∀ (fn : Fn) (first cap : Array Value) (w : World), (Instr.makeFunc fn first cap).run Try.prog w = .ok (.func fn first cap) w := fun _ _ _ _ => rfl
  obtain ⟨W0, hW0⟩ : ∃ W0, W0 = gw0 w dep d := ⟨_, rfl⟩
  have hB0 : Below w.heap.size w W0 := by rw [hW0]; go_grown
  have hz0 : W0.heap.size = w.heap.size + 1 + 1 + 1 := by rw [hW0]; simp
  obtain ⟨W1, hW1⟩ : ∃ W1, W1 = W0.setCell ⟨Bc, 0, none⟩ (.int .i64 ((c : Int) + 1)) := ⟨_, rfl⟩
  have hc0 : Cnt Bc c W0 := (hB0.block _ hc.lt).trans hc
  have hcl := hc0.cell
  have hcf := hc0.frozen
  rw [hW0] at hcl hcf
  have o1 : (c : Int) ≤ 40 := by omega
  have o2 : ¬ (40 : Int) < (c : Int) + 1 := by omega
  have o3 : ¬ (12 : Int) < (dep : Int) := by omega
  have hG0 := hG.turns (Turns.of0' hB0)
  have hclt := hc.lt
  have hne : ¬ w.heap.size = Bc := by omega
  replace hT := Lib.hid hT
  replace hG0 := Lib.hid hG0
  replace hc0 := Lib.hid hc0
  clear hG hc
  go_enter Try.func82, Try.ntmps82
  go_upto_region 5 with fail
  have hW1' : W1 = (((w.alloc (.cells #[.int .i64 (dep : Nat)] 3)).alloc (bx d)).alloc zer3).setCell ⟨Bc, 0, none⟩ (.int .i64 ((c : Int) + 1)) := by rw [hW1, hW0]
  rw [← hW1']
  have hT1 : Turns (fun b => b = Bc) W0 W1 := by rw [hW1]; exact (Turns.refl (fun b => b = Bc) W0).setCell (p := ⟨Bc, 0, none⟩) (fun _ => rfl) _
  have hTw1 : Turns (fun b => b = Bc) w W1 := (Turns.of0' hB0).trans hT1
  have hz1 : W1.heap.size = W0.heap.size := by rw [hW1]; simp
  have hc1 : Cnt Bc (c + 1) W1 := by
    have h0 : Cnt Bc c W0 := hc0.out
    rw [hW1]
    exact h0.set _
  have hG1 := hG0.out.turns hT1
  have f0 : Boxed W1 w.heap.size 3 (.int .i64 (dep : Nat)) := (hT1.block _ (by omega) (by omega)).trans (by rw [hW0]; exact heap_old (heap_old (heap_new' _ rfl)))
  have f1 : W1.heap[w.heap.size + 1]? = some (bx d) := (hT1.block _ (by omega) (by omega)).trans (by rw [hW0]; exact heap_old (heap_new' _ (by simp)))
  have f2 : W1.heap[w.heap.size + 1 + 1]? = some zer3 := (hT1.block _ (by omega) (by omega)).trans (by rw [hW0]; exact heap_new' _ (by simp))
  have hO := operand_any F bm nb N d r W1 hr hG1.m (fun i x hx => (closedP n₀ W1).rng x (hG1.e i x hx)) ((closedP n₀ w).rng d hd)
  have hbn : Below n₀ w W1 := hTw1.below (by have := hG1.n1; omega) (fun j hj e => by have := hG1.n1; omega)
  have gr : (Lies n₀ W1 r ∧ OkV r.tm) ∧ r.size < 1000000 := opF_good (P := fun d => (Lies n₀ W1 d ∧ OkV d.tm) ∧ d.size < 1000000) hG1.e N d r hr (good_below hd hbn)
  have u1 := hG1.u.cell
  obtain ⟨⟨x0, x1, x2⟩, -⟩ := c3_cells f1
  replace hW0 := Lib.hid hW0
  replace hW1 := Lib.hid hW1
  replace hW1' := Lib.hid hW1'
  replace hO := Lib.hid hO
  replace hG1 := Lib.hid hG1
  replace gr := Lib.hid gr
  replace hc1 := Lib.hid hc1
  replace f0 := Lib.hid f0
  replace f1 := Lib.hid f1
  replace f2 := Lib.hid f2
  replace hTw1 := Lib.hid hTw1
  replace hT1 := Lib.hid hT1
  replace hz1 := Lib.hid hz1
  replace hr := Lib.hid hr
  clear hcl hcf
  have hRb : Hid (∀ (r' : DT) (W : World), r'.op = r.op → r'.n = r.n → r'.kids = r.kids → Below W1.heap.size W1 W → (Lies n₀ W1 r' ∧ r'.size < 1000000) → Calls Try.prog 65 #[dv r', .func (.func 83) #[] #[.pointer (some ⟨Bg, 0, none⟩), .pointer (some ⟨w.heap.size, 0, none⟩)]] W (Makes (fun b => b = Bc) W T (Cnt Bc c'))) := by
    intro r' W e1 e2 e3 hbW hr'
    have hT' := hT.out
    cases hk : growK (growF F N (dep + 1)) (c + 1) r.kids with
    | none => rw [hk] at hT'; cases hT'
    | some q =>
    obtain ⟨ts, c2⟩ := q
    rw [hk] at hT'
    simp only [Option.some.injEq, Prod.mk.injEq] at hT'
    obtain ⟨rfl, rfl⟩ := hT'
    obtain ⟨cs, g1, g2, g3, g4⟩ := growK_get hk
    have hzW := hbW.size
    have hn1 := hG1.out.n1
    have hn3 := hG1.out.n3
    have hcw := hc1.out
    have hsz := dsize_eq r'
    have hlen : r'.kids.length ≤ dsizes r'.kids := by
      have h1 := length_le_sizes (tms r'.kids); rw [sizes_tms, tms_map, List.length_map] at h1; exact h1
    have hz := hz1.out
    have hRr := rebuild_any r' 83 #[] #[.pointer (some ⟨Bg, 0, none⟩), .pointer (some ⟨w.heap.size, 0, none⟩)] (enters_of Try.func83 (by kernel_rfl) rfl) (fun b => b = Bc) (fun k => ts.getD k (.mk 0 0 [])) (fun k W' => Cnt Bc (cs k) W') n₀ W (by omega) (by omega) (hr'.1.below (hbW.mono (by omega))) (fun b e => by omega)
      (fun k X Y hX hB => (hB.block _ (by omega)).trans hX)
      (fun k hk' X hI hTX => by
        have hkr : k < r.kids.length := by rw [← e3]; exact hk'
        have hTX1 : Turns (fun b => b = Bc) W1 X := (Turns.of0' hbW).trans hTX
        have hGX := hG1.out.turns hTX1
        have hbn1 : Below n₀ W1 X := hTX1.below (by omega) (fun j hj e => by omega)
        have hkk : r'.kids[k] = r.kids[k] := by simp only [e3]
        have hkp := (closedP n₀ W1).kids r gr.out _ (List.getElem_mem hkr)
        have := grow_kid n₀ F bm nb Bc Bg Bu N ih dep (cs k) w.heap.size r.kids[k] X _ _ (g4 k hkr) (by omega) (good_below hkp hbn1) hGX hI ((hTX1.block _ (by omega) (by omega)).trans f0.out)
        rw [hkk]
        exact this)
      (by rw [g1]; exact (hbW.block _ (by omega)).trans hcw)
    have hmap : (List.range r'.kids.length).map (fun k => ts.getD k (.mk 0 0 [])) = ts := by
      apply List.ext_getElem
      · simp; rw [e3, g3]
      · intro i hi1 hi2
        simp only [List.getElem_map, List.getElem_range]
        rw [List.getD_eq_getElem?_getD, List.getElem?_eq_getElem hi2]; rfl
    rw [hmap, e1, e2] at hRr
    rw [← e3] at g2
    rw [← g2]
    unfold dv
    rw [e1, e2]
    exact hRr
  by_cases h1 : r.op = 1
  all_goals
    go_wp2_with fail
    refine (hO.out).mono ?_
    rintro e w2 ⟨rfl, hB2⟩
  · rw [opV_U h1]
    have hz2 := hB2.size
    have hkids : r.kids = [] := by have := gr.out.1.2.open.2.1; rw [DT.tm_op, DT.tm_kids] at this; exact List.map_eq_nil_iff.1 (this h1)
    have hU := fun W => uterm_any r.n W
    have hRv := fun (W : World) (hb : Below W1.heap.size W1 W) => hRb.out (vD r.n) W h1.symm rfl hkids.symm hb ⟨by simp only [vD, Lies]; exact ⟨rfl, by omega, by omega, .inl trivial⟩, by simp [vD, DT.size, dsizes]⟩
    replace hRv := Lib.hid hRv
    replace hRb := Lib.hid hRb
    replace hkids := Lib.hid hkids
    replace h1 := Lib.hid h1
    replace hU := Lib.hid hU
    replace hB2 := Lib.hid hB2
    go_wp2_with fail
    refine (hU.out _).mono ?_
    rintro e w3 ⟨rfl, hB3⟩
    have hB13 := hB2.out.trans (hB3.mono hz2)
    have hz3 := hB3.size
    have hRw := Lib.hid (hRv.out w3 hB13)
    have z3 := Lib.hid ((hB13.block (w.heap.size + 1 + 1) (by have := hz1.out; omega)).trans f2.out)
    have hTw3 : Hid (Turns (fun b => b = Bc) w w3) := hTw1.out.trans (Turns.of0' hB13)
    have hz1' := hz1.out
    replace hB3 := Lib.hid hB3
    replace hB13 := Lib.hid hB13
    go_wp2_with fail
    refine (hRw.out).mono ?_
    rintro e w4 ⟨a, l, k, rfl, hF, hJ, hT4⟩
    have hr1 := (hT4.block (w.heap.size + 1 + 1) (by omega) (by omega)).trans z3.out
    obtain ⟨⟨q0, q1, q2⟩, q3, q4, q5⟩ := c3_cells hr1
    obtain ⟨W3, e3, -, ⟨g0, g1, g2⟩, s2, s3⟩ := stored3 (.int .i64 T.op) (.int .i64 T.n) (.slice a l k) hr1
    have hJ3 : Hid (Cnt Bc c' W3) := (s2 Bc (by omega)).trans hJ
    replace hF := Lib.hid hF
    replace hT4 := Lib.hid hT4
    clear hr1 hJ
    replace e3 := Lib.hid e3
    replace g0 := Lib.hid g0
    replace g1 := Lib.hid g1
    replace g2 := Lib.hid g2
    go_wp2_with fail
    rw [← e3.out]
    have h0 := g0.out
    have h1 := g1.out
    have h2 := g2.out
    refine bodyPost_ret (v := .agg #[.int .i64 T.op, .int .i64 T.n, .slice a l k]) (by simp [results, Try.f82, go_sem, h0, h1, h2]) rfl ?_
    refine ⟨a, l, k, rfl, hF.out.up (by omega) (fun j h1 _ => s2 j (by omega)) s3.size, hJ3.out, ((hTw3.out).trans hT4.out).then (s3.mono (by omega))⟩
  · rw [opV_K h1]
    have hz2 := hB2.size
    have hU := fun W => kterm_any r W
    have hRv := fun (W : World) (hb : Below W1.heap.size W1 W) => hRb.out r W rfl rfl rfl hb ⟨gr.out.1.1, gr.out.2⟩
    replace hRv := Lib.hid hRv
    replace hRb := Lib.hid hRb
    replace h1 := Lib.hid h1
    replace hU := Lib.hid hU
    replace hB2 := Lib.hid hB2
    go_wp2_with fail
    refine (hU.out _).mono ?_
    rintro e w3 ⟨rfl, hB3⟩
    have hB13 := hB2.out.trans (hB3.mono hz2)
    have hz3 := hB3.size
    have hRw := Lib.hid (hRv.out w3 hB13)
    have z3 := Lib.hid ((hB13.block (w.heap.size + 1 + 1) (by have := hz1.out; omega)).trans f2.out)
    have hTw3 : Hid (Turns (fun b => b = Bc) w w3) := hTw1.out.trans (Turns.of0' hB13)
    have hz1' := hz1.out
    replace hB3 := Lib.hid hB3
    replace hB13 := Lib.hid hB13
    go_wp2_with fail
    refine (hRw.out).mono ?_
    rintro e w4 ⟨a, l, k, rfl, hF, hJ, hT4⟩
    have hr1 := (hT4.block (w.heap.size + 1 + 1) (by omega) (by omega)).trans z3.out
    obtain ⟨⟨q0, q1, q2⟩, q3, q4, q5⟩ := c3_cells hr1
    obtain ⟨W3, e3, -, ⟨g0, g1, g2⟩, s2, s3⟩ := stored3 (.int .i64 T.op) (.int .i64 T.n) (.slice a l k) hr1
    have hJ3 : Hid (Cnt Bc c' W3) := (s2 Bc (by omega)).trans hJ
    replace hF := Lib.hid hF
    replace hT4 := Lib.hid hT4
    clear hr1 hJ
    replace e3 := Lib.hid e3
    replace g0 := Lib.hid g0
    replace g1 := Lib.hid g1
    replace g2 := Lib.hid g2
    go_wp2_with fail
    rw [← e3.out]
    have h0 := g0.out
    have h1 := g1.out
    have h2 := g2.out
    refine bodyPost_ret (v := .agg #[.int .i64 T.op, .int .i64 T.n, .slice a l k]) (by simp [results, Try.f82, go_sem, h0, h1, h2]) rfl ?_
    refine ⟨a, l, k, rfl, hF.out.up (by omega) (fun j h1 _ => s2 j (by omega)) s3.size, hJ3.out, ((hTw3.out).trans hT4.out).then (s3.mono (by omega))⟩

end Go.Proofs.Ythlegfegkopdkaa

namespace Go.Proofs.Ythlegfegkopdkaa
open Go.RowKit Go.Shelf Go.Sort

theorem grow_any (n₀ : Nat) (F : Int → Option DT) (bm nb Bc Bg Bu N : Nat) : GrowSpec n₀ F bm nb Bc Bg Bu N := by
  induction N with
  | zero => intro dep c d w T c' h; cases h
  | succ N ih => exact grow_step n₀ F bm nb Bc Bg Bu N ih

set_option maxRecDepth 100000 in
set_option maxHeartbeats 1000000 in
theorem full_any (n₀ : Nat) (F : Int → Option DT) (bm nb N : Nat) (d : DT) (w : World) (T : Tm) (c' : Nat) (hT : growF F N 1 0 d = some (T, c')) (hm : TMap w bm nb F) (hE : GoodF n₀ w F) (hn : n₀ ≤ w.heap.size) (hd : (Lies n₀ w d ∧ OkV d.tm) ∧ d.size < 1000000) :
    Calls Try.prog 56 #[.map (some bm), dv d] w (Makes noR w T (fun _ => True)) := by
  have hmf : ∀ (fn : Fn) (first cap : Array Value) (w : World), (Instr.makeFunc fn first cap).run Try.prog w = .ok (.func fn first cap) w := fun _ _ _ _ => rfl
  obtain ⟨W0, hW0⟩ : ∃ W0, W0 = ((((w.alloc (.cells #[.map (some bm)] 105)).alloc (bx d)).alloc zer3).alloc (.cells #[.int .i64 0] 3)).alloc (.cells #[.func (.func 82) #[] #[.pointer (some ⟨w.heap.size + 1 + 1 + 1, 0, none⟩), .pointer (some ⟨w.heap.size + 1 + 1 + 1 + 1, 0, none⟩), .pointer (some ⟨w.heap.size, 0, none⟩)]] 128) := ⟨_, rfl⟩
  have hB0 : Below w.heap.size w W0 := by rw [hW0]; go_grown
  have hz0 : W0.heap.size = w.heap.size + 1 + 1 + 1 + 1 + 1 := by rw [hW0]; simp
  have hlt := hm.lt
  have q0 : Boxed W0 w.heap.size 105 (.map (some bm)) := by rw [hW0]; exact heap_old (heap_old (heap_old (heap_old (heap_new' _ rfl))))
  have q2 : W0.heap[w.heap.size + 1 + 1]? = some zer3 := by rw [hW0]; exact heap_old (heap_old (heap_new' _ (by simp)))
  have q3 : Cnt (w.heap.size + 1 + 1 + 1) 0 W0 := by rw [hW0]; exact heap_old (heap_new' _ (by simp))
  have q4 : Boxed W0 (w.heap.size + 1 + 1 + 1 + 1) 128 (.func (.func 82) #[] #[.pointer (some ⟨w.heap.size + 1 + 1 + 1, 0, none⟩), .pointer (some ⟨w.heap.size + 1 + 1 + 1 + 1, 0, none⟩), .pointer (some ⟨w.heap.size, 0, none⟩)]) := by rw [hW0]; exact heap_new' _ (by simp)
  have hG : GCap n₀ F bm nb (w.heap.size + 1 + 1 + 1) (w.heap.size + 1 + 1 + 1 + 1) w.heap.size W0 := ⟨q4, q0, hm.same (hB0.block _ hlt), hE.below (hB0.mono hn), by omega, by omega, by omega⟩
  have hC := grow_any n₀ F bm nb (w.heap.size + 1 + 1 + 1) (w.heap.size + 1 + 1 + 1 + 1) w.heap.size N 1 0 d W0 T c' hT (by omega) (good_below hd (hB0.mono hn)) hG q3
  rw [hW0] at hC
  replace hC := Lib.hid hC
  replace hW0 := Lib.hid hW0
  replace q2 := Lib.hid q2
  clear hG q0 q3 q4 hE hm hd hT
  go_enter Try.func56, Try.ntmps56
  go_wp2_with fail
  refine (hC.out).mono ?_
  rintro e w1 ⟨a, l, k, rfl, hF, -, hT1⟩
  rw [← hW0.out] at hF hT1
  have hr1 := (hT1.block (w.heap.size + 1 + 1) (by omega) (by omega)).trans q2.out
  obtain ⟨⟨q0, q1, q2⟩, q3, q4, q5⟩ := c3_cells hr1
  obtain ⟨W3, e3, -, ⟨g0, g1, g2⟩, s2, s3⟩ := stored3 (.int .i64 T.op) (.int .i64 T.n) (.slice a l k) hr1
  have hBw : Below w.heap.size W0 w1 := hT1.below (by omega) (fun j hj e => by omega)
  replace hF := Lib.hid hF
  replace hT1 := Lib.hid hT1
  replace hBw := Lib.hid hBw
  clear hr1
  replace e3 := Lib.hid e3
  replace g0 := Lib.hid g0
  replace g1 := Lib.hid g1
  replace g2 := Lib.hid g2
  go_wp2_with fail
  rw [← e3.out]
  have h0 := g0.out
  have h1 := g1.out
  have h2 := g2.out
  refine bodyPost_ret (v := .agg #[.int .i64 T.op, .int .i64 T.n, .slice a l k]) (by simp [results, Try.f56, go_sem, h0, h1, h2]) rfl ?_
  have hz1 := hT1.out.size
  exact ⟨a, l, k, rfl, hF.out.up (by omega) (fun j h1 _ => s2 j (by omega)) s3.size, trivial, Turns.of0 ((hB0.trans hBw.out).trans (s3.mono (by omega)))⟩

def listG (F : Int → Option DT) (G : Nat → Tm) (k : Nat) : List (Int × Tm) := (List.range k).filterMap fun v : Nat => (F v).map fun _ => ((v : Int), G v)
theorem listG_some {F : Int → Option DT} {G : Nat → Tm} {k : Nat} {d : DT} (h : F (k : Nat) = some d) : listG F G (k + 1) = listG F G k ++ [((k : Int), G k)] := by
  simp [listG, List.range_succ, h]
theorem listG_none {F : Int → Option DT} {G : Nat → Tm} {k : Nat} (h : F (k : Nat) = none) : listG F G (k + 1) = listG F G k := by
  simp [listG, List.range_succ, h]
theorem listG_len (F : Int → Option DT) (G : Nat → Tm) (k : Nat) : (listG F G k).length ≤ k := by
  have := List.length_filterMap_le (fun v : Nat => (F v).map fun _ => ((v : Int), G v)) (List.range k); simpa [listG] using this

end Go.Proofs.Ythlegfegkopdkaa

namespace Go.Proofs.Ythlegfegkopdkaa
open Go.RowKit Go.Shelf Go.Sort

abbrev sl0 : Obj := .cells #[.slice none 0 0] 39
abbrev e0 : Obj := .cells #[.int .i64 0] 22
abbrev mg0 (w : World) (a b : DT) : World := ((((w.alloc (bx a)).alloc (bx b)).alloc sl0).alloc e0).alloc (.map #[] 0)
def MgEnd (w : World) (L : List (Int × Tm)) (err : Int) (e : Ending) (w' : World) : Prop :=
  ∃ va vl vc, e = .returned (.tuple #[.slice va vl vc, .int .i64 err]) ∧ IsBinds w'.heap.size w' L va vl vc ∧ Below w.heap.size w w'

/-- The loop of mostGeneral after k variables. -/
structure MgI (w W1 : World) (F : Int → Option DT) (G : Nat → Tm) (k : Nat) (W : World) : Prop where
  ex : ∃ va vl vc, W.heap[w.heap.size + 1 + 1]? = some (.cells #[.slice va vl vc] 39 (0, 0)) ∧ BRow W1.heap.size W (listG F G k) va vl vc
  trn : Turns (fun j => j = w.heap.size + 1 + 1) W1 W

set_option maxRecDepth 100000 in
set_option maxHeartbeats 1000000 in
theorem mostGeneral_any (n₀ : Nat) (N : Nat) (a b : DT) (w : World) (F : Int → Option DT) (G : Nat → Tm) (hU : uniF N noB a b = some (some F)) (hG : ∀ v : Nat, v < 20 → F v ≠ none → ∃ c, growF F N 1 0 (vD v) = some (G v, c)) (hn : n₀ ≤ w.heap.size)
    (ha : (Lies n₀ w a ∧ OkV a.tm) ∧ a.size < 1000000) (hb : (Lies n₀ w b ∧ OkV b.tm) ∧ b.size < 1000000) :
    Calls Try.prog 32 #[dv a, dv b] w (MgEnd w (listG F G 20) 0) := by
  have hmf : ∀ (fn : Fn) (first cap : Array Value) (w : World), (Instr.makeFunc fn first cap).run Try.prog w = .ok (.func fn first cap) w := fun _ _ _ _ => rfl
  have hmm := @run_makeMap Try.prog
  obtain ⟨i0, hi, hz0, hz1, hz2⟩ := info_parts inf70
  obtain ⟨W0, hW0⟩ : ∃ W0, W0 = mg0 w a b := ⟨_, rfl⟩
  have hB0 : Below w.heap.size w W0 := by rw [hW0]; go_grown
  have hs0 : W0.heap.size = w.heap.size + 1 + 1 + 1 + 1 + 1 := by rw [hW0]; simp
  have ba : W0.heap[w.heap.size]? = some (bx a) := by rw [hW0]; exact heap_old (heap_old (heap_old (heap_old (heap_new' _ rfl))))
  have bb : W0.heap[w.heap.size + 1]? = some (bx b) := by rw [hW0]; exact heap_old (heap_old (heap_old (heap_new' _ (by simp))))
  have b2 : W0.heap[w.heap.size + 1 + 1]? = some sl0 := by rw [hW0]; exact heap_old (heap_old (heap_new' _ (by simp)))
  have b3 : W0.heap[w.heap.size + 1 + 1 + 1]? = some e0 := by rw [hW0]; exact heap_old (heap_new' _ (by simp))
  have b4 : TMap W0 (w.heap.size + 1 + 1 + 1 + 1) 0 noB := by
    have := TMap.made ((((w.alloc (bx a)).alloc (bx b)).alloc sl0).alloc e0)
    simp only [World.size_alloc] at this
    rw [hW0]; exact this
  have hC := uni_all N noB (some F) a b n₀ W0 (w.heap.size + 1 + 1 + 1 + 1) 0 hU b4 (fun i d h => by cases h) (by omega) (by omega) (good_below ha (hB0.mono hn)) (good_below hb (hB0.mono hn)) (by have := unm_le (fun k : Nat => (noB (k : Int)).isSome); unfold unb; omega)
  have hPF : Els (fun d => (Lies n₀ w d ∧ OkV d.tm) ∧ d.size < 1000000) F := uniF_els (closedP n₀ w) N noB F a b ha hb (fun i d h => by cases h) hU
  rw [hW0] at hC
  replace hC := Lib.hid hC
  replace hPF := Lib.hid hPF
  replace hG := Lib.hid hG
  replace hU := Lib.hid hU
  replace ha := Lib.hid ha
  replace hb := Lib.hid hb
  replace ba := Lib.hid ba
  replace bb := Lib.hid bb
  replace b2 := Lib.hid b2
  replace b3 := Lib.hid b3
  replace b4 := Lib.hid b4
  replace hB0 := Lib.hid hB0
  go_enter_defers Try.func32, Try.ntmps32
  go_wp2_with fail
  refine (hC.out).mono ?_
  rintro e w1 ⟨hT1, rfl, nb, hm1, hnb⟩
  rw [← hW0] at hT1
  have hz1' := hT1.size
  replace hW0 := Lib.hid hW0
  have hnb' : nb ≤ 1000 := by have := unm_le (fun k : Nat => (noB (k : Int)).isSome); unfold unb at hnb; omega
  have hB1 : Below w.heap.size w w1 := hB0.out.trans (hT1.below (by omega) (fun j hj e => by omega))
  have k2 := (hT1.block _ (by omega) (by omega)).trans b2.out
  have k3 := (hT1.block _ (by omega) (by omega)).trans b3.out
  have hE1 : GoodF n₀ w1 F := fun i d hd => good_below (hPF.out i d hd) (hB1.mono hn)
  have hst : Hid (MgI w w1 F G 0 w1) := ⟨⟨none, 0, 0, k2, by unfold listG; exact BRow.nil _ _⟩, Turns.refl _ _⟩
  replace hB1 := Lib.hid hB1
  replace k2 := Lib.hid k2
  replace k3 := Lib.hid k3
  replace hE1 := Lib.hid hE1
  replace hm1 := Lib.hid hm1
  replace hnb := Lib.hid hnb
  replace hT1 := Lib.hid hT1
  go_wp2_with fail
  go_loopw [7, 8, 9, 16] (fun _ _ _ i wr => ∃ k : Nat, k ≤ 20 ∧ i = .int .i64 k ∧ Hid (MgI w w1 F G k wr)) (fun _ _ _ i _ => 20 - (intOf i).toNat)
  case atStart => exact ⟨0, by omega, rfl, hst⟩
  case round =>
    obtain ⟨k, hk, rfl, hI⟩ := hrel
    by_cases hlt : k < 20
    · have o1 : (k : Int) < 20 := by omega
      obtain ⟨⟨va, vl, vc, r1, r2⟩, r3⟩ := hI.out
      have hzr := r3.size
      have hm1lt := hm1.out.lt
      have hmr : TMap wr (w.heap.size + 1 + 1 + 1 + 1) nb F := hm1.out.same (r3.block _ (by omega) (by omega))
      cases hf : F (k : Nat) with
      | none =>
        have hl := hmr.look_none und147 (i := (k : Nat)) (by omega) hf
        have hn1 := Lib.hid (listG_none (G := G) hf)
        have hnx : Hid (∀ o, MgI w w1 F G (k + 1) (wr.alloc o)) := fun o => by
          refine ⟨⟨va, vl, vc, heap_old r1, ?_⟩, r3.alloc o⟩
          rw [hn1.out]
          obtain ⟨K, h1, h2, h3⟩ := r2
          exact ⟨K, h1, h2.alloc _, fun x hx => TmP.move (fun b hb' hlt => ⟨hb', Below.heap_alloc _ _ b hlt⟩) _ (h3 x hx)⟩
        clear hmr hf r1 r2 r3
        go_wp2_with fail
        go_roundw
        case rel => exact ⟨k + 1, by omega, by go_num, hnx.out _⟩
        case measure => simp [intOf]; omega
      | some d =>
        have hl := hmr.look_some und147 (i := (k : Nat)) (by omega) hf
        obtain ⟨cc, hcc⟩ := hG.out k hlt (by rw [hf]; simp)
        have hn1 := Lib.hid (listG_some (G := G) hf)
        obtain ⟨wo, hwo⟩ : ∃ wo, wo = wr.alloc (bx d) := ⟨_, rfl⟩
        have hBo : Below wr.heap.size wr wo := by rw [hwo]; exact (Below.refl _ _).alloc (Nat.le_refl _) _
        have hzo : wo.heap.size = wr.heap.size + 1 := by rw [hwo]; simp
        obtain ⟨K, h1, h2, h3⟩ := r2
        have hlen := listG_len F G k
        obtain ⟨X, hX⟩ : ∃ X, X = G k := ⟨_, rfl⟩
        rw [← hX] at hcc hn1
        have hV := Lib.hid (fun W => varTerm_is (k : Nat) W)
        have hFu := Lib.hid (show ∀ W, Below wo.heap.size wo W → Calls Try.prog 56 #[.map (some (w.heap.size + 1 + 1 + 1 + 1)), dv (vD (k : Nat))] W (Makes noR W X (fun _ => True)) from fun W hB => by
          have hzW := hB.size
          have hT : Turns (fun j => j = w.heap.size + 1 + 1) w1 W := (r3.trans (Turns.of0' hBo)).trans (Turns.of0' hB)
          have hBn : Below n₀ w1 W := hT.below (by omega) (fun j hj e => by omega)
          exact full_any n₀ F (w.heap.size + 1 + 1 + 1 + 1) nb N (vD (k : Nat)) W X cc hcc (hmr.same ((hB.block _ (by omega)).trans (hBo.block _ (by omega)))) (hE1.out.below hBn) (by omega) ((closedP n₀ W).var k hlt))
        have hfa := Lib.hid (show ∀ W, Below wo.heap.size wo W → W.heap[w.heap.size + 1 + 1]? = some (.cells #[.slice va vl vc] 39 (0, 0)) ∧ W.ownsRow w1.heap.size 38 4 (.slice va vl vc) (listG F G k).length (flatB K) from fun W hB =>
          ⟨(hB.block _ (by omega)).trans ((hBo.block _ (by omega)).trans r1), own_stays h2 (fun g _ hg => (hB.block g (by omega)).trans (hBo.block g hg))⟩)
        have p0 : wo.drew.cell? ⟨w.heap.size + 1 + 1, 0, none⟩ = some (.slice va vl vc) := (show Boxed wo.drew _ 39 _ from (hfa.out wo.drew ((Below.refl _ _).drew)).1).cell
        have hnext : Hid (∀ w4 w5 a' l' c' g cap, Below wo.heap.size wo w4 → TmP (fun b => wo.heap.size ≤ b ∧ b < w4.heap.size) w4 X a' l' c' → (w4.alloc (.cells #[.int .i64 (k : Int), .int .i64 X.op, .int .i64 X.n, .slice a' l' c'] 38)).grownBy w5 (Value.slice va vl vc).ownBlock →
            w5.ownsRow w1.heap.size 38 4 (.slice (some ⟨g, 0, none⟩) ((listG F G k).length + 1) cap) ((listG F G k).length + 1) (flatB K ++ [.int .i64 (k : Int), .int .i64 X.op, .int .i64 X.n, .slice a' l' c']) → ((Value.slice va vl vc).ownBlock = some g ∨ g = (w4.alloc (.cells #[.int .i64 (k : Int), .int .i64 X.op, .int .i64 X.n, .slice a' l' c'] 38)).heap.size) →
            MgI w w1 F G (k + 1) (w5.setCell ⟨w.heap.size + 1 + 1, 0, none⟩ (.slice (some ⟨g, 0, none⟩) ((listG F G k).length + 1) cap))) := fun w4 w5 a' l' c' g cap hB4 ht hgrow hown hat => by
          have hz4 := hB4.size
          have hz5 := hgrow.size
          rw [World.size_alloc] at hz5
          have hb2 := (hfa.out w4 hB4).1
          have hlt2 := (Array.getElem?_eq_some_iff.1 hb2).1
          have hrow : ∀ q, (Value.slice va vl vc).ownBlock = some q → w1.heap.size ≤ q := fun q hq => (own_base h2 hq).1
          have hb5 : w5.heap[w.heap.size + 1 + 1]? = some (.cells #[.slice va vl vc] 39 (0, 0)) := (hgrow.block _ (by simp; omega) (fun e => by have := hrow _ e.symm; omega)).trans (heap_old hb2)
          have hst := BRow.step (v := (k : Int)) (W := wo) h1 h2 h3 (fun j _ hj => (Below.heap_alloc _ _ j (by omega)).trans ((hB4.block j (by omega)).trans (hBo.block j hj))) (by omega) (by omega) (by simp; omega)
            (TmP.move (fun b hb' hlt => ⟨⟨hb'.1, by have := hb'.2; simp; omega⟩, Below.heap_alloc _ _ b hlt⟩) _ ht) hgrow hown hat
          refine ⟨⟨some ⟨g, 0, none⟩, (listG F G k).length + 1, cap, ?_, ?_⟩, ?_⟩
          · exact (heap_setCell_same w5 _ 0 _ 39 _ hb5).trans rfl
          · rw [hn1.out]
            obtain ⟨K', g1, g2, g3⟩ := hst
            exact ⟨K', g1, own_stays g2 (fun j hj _ => heap_setCell_other _ _ _ _ (by simp; omega)), fun x hx => TmP.move (fun b hb' _ => ⟨hb', heap_setCell_other _ _ _ _ (by have := hb'.1; simp; omega)⟩) _ (g3 x hx)⟩
          · exact ((((r3.trans (Turns.of0' hBo)).trans (Turns.of0' hB4)).alloc _).grown hgrow (fun q hq hq2 => by have := hrow q hq; omega)).setCell (p := ⟨w.heap.size + 1 + 1, 0, none⟩) (fun _ => rfl) _
        have hg5 := Lib.hid (show ∀ w4 w5 o, Below wo.heap.size wo w4 → (w4.alloc o).grownBy w5 (Value.slice va vl vc).ownBlock → w5.cell? ⟨w.heap.size + 1 + 1, 0, none⟩ = some (.slice va vl vc) ∧ w5.frozen? ⟨w.heap.size + 1 + 1, 0, none⟩ = false from fun w4 w5 o hB4 hgrow => by
          have hb2 := (hfa.out w4 hB4).1
          have hlt2 := (Array.getElem?_eq_some_iff.1 hb2).1
          have hb5 : Boxed w5 (w.heap.size + 1 + 1) 39 (.slice va vl vc) := (hgrow.block _ (by simp; omega) (fun e => by have := (own_base h2 e.symm).1; omega)).trans (heap_old hb2)
          exact ⟨hb5.cell, hb5.frozen⟩)
        rw [hwo] at p0
        replace h1 := Lib.hid h1
        replace h2 := Lib.hid h2
        replace h3 := Lib.hid h3
        replace r3 := Lib.hid r3
        replace hcc := Lib.hid hcc
        replace hX := Lib.hid hX
        replace hBo := Lib.hid hBo
        clear hmr r1 hf hI
        go_upto_region 9 with fail
        refine onlyN ?_
        go_region_law (first
          | (go_simp; go_at_call 57; refine (hV.out _).mono ?_; rintro e w3 ⟨rfl, hB3'⟩; have hB3 : Hid (Below wo.heap.size wo w3) := (by rw [hwo]; exact ((Below.refl _ _).drew).trans (hB3'.mono (Nat.le_refl _))); have p3 := (show Boxed w3 _ 39 _ from (hfa.out w3 hB3.out).1).cell; replace hB3' := Lib.hid hB3')
          | (go_simp; go_at_call 56; refine (hFu.out w3 hB3.out).mono ?_; rintro e w4 ⟨a', l', c', rfl, hF4, -, hT4⟩; have hB4 : Hid (Below wo.heap.size wo w4) := hB3.out.trans (hT4.b0.mono hB3.out.size); have p4 := (show Boxed w4 _ 39 _ from (hfa.out w4 hB4.out).1).cell; have p4' := (fun o => alloc_cell (o := o) p4); have n2 := Lib.hid (hfa.out w4 hB4.out).2; have nz := hB4.out.size; replace hF4 := Lib.hid hF4; replace hT4 := Lib.hid hT4)
          | (refine step_append_lies _ (by rfl) _ _ _ (by rfl) w1.heap.size 38 i0 _ 4 48 und46 hi hz0 hz1 hz2 rfl (by omega) (.slice va vl vc) (listG F G k).length (flatB K) (by rfl) (n2.out.alloc _)
              ⟨w4.heap.size, 0, none⟩ 1 1 [.int .i64 (k : Int), .int .i64 X.op, .int .i64 X.n, .slice a' l' c'] (by rfl) (by rfl) (World.news_of_block (cs := #[.int .i64 (k : Int), .int .i64 X.op, .int .i64 X.n, .slice a' l' c']) (t := 38) (fr := (0, 0)) (heap_new' _ rfl)) (by simp [Value.oneCell'])
              (by omega) (by unfold maxLen; omega) (by omega) (by simp; omega) (w4.heap.size + 1) (by simp) ?_; intro gg cap2 w5 hown1 hgrow hat hlt2; have m1 := hg5.out w4 w5 _ hB4.out hgrow; have m2 := m1.1; have m3 := m1.2; clear m1))
        all_goals
          have hrel := Lib.hid (hnext.out w4 w5 a' l' c' gg cap2 hB4.out (TmP.move (fun b hb' _ => ⟨⟨by have := hB3.out.size; omega, hb'.2⟩, rfl⟩) _ hF4.out) hgrow hown1 (by simpa using hat))
          clear m2 m3 p3 p4 p4' hown1 hgrow hat hlt2
          refine onlyN_out ?_
          go_wp2_with fail
          go_roundw
          case rel => exact ⟨k + 1, by omega, by go_num, hrel.out⟩
          case measure => simp [intOf]; omega
    · have : k = 20 := by omega
      subst this
      obtain ⟨⟨va, vl, vc, r1, r2⟩, r3⟩ := hI.out
      have hzr := r3.size
      have hx : Boxed wr (w.heap.size + 1 + 1) 39 (.slice va vl vc) := r1
      have hy : Boxed wr (w.heap.size + 1 + 1 + 1) 22 (.int .i64 0) := (r3.block _ (by omega) (by omega)).trans k3.out
      have x1 := hx.cell
      have x2 := hx.frozen
      have y1 := hy.cell
      have y2 := hy.frozen
      have hbw : Below w.heap.size w wr := hB1.out.trans (r3.below (by omega) (fun j hj e => by omega))
      obtain ⟨W4, hW4⟩ : ∃ W4, W4 = (wr.setCell ⟨w.heap.size + 1 + 1, 0, none⟩ (.slice va vl vc)).setCell ⟨w.heap.size + 1 + 1 + 1, 0, none⟩ (.int .i64 0) := ⟨_, rfl⟩
      have v2 : Boxed W4 (w.heap.size + 1 + 1) 39 (.slice va vl vc) := by rw [hW4]; exact (hx.set _).other (by simp) _
      have v3 : Boxed W4 (w.heap.size + 1 + 1 + 1) 22 (.int .i64 0) := by rw [hW4]; exact (hy.other (by simp) _).set _
      have hB4 : Below (w.heap.size + 1 + 1) wr W4 := by rw [hW4]; exact ((Below.refl _ _).setCell (p := ⟨w.heap.size + 1 + 1, 0, none⟩) (by simp) _).setCell (p := ⟨w.heap.size + 1 + 1 + 1, 0, none⟩) (by simp) _
      have hz4 : W4.heap.size = wr.heap.size := by rw [hW4]; simp
      have hrow4 : ∀ j, w1.heap.size ≤ j → W4.heap[j]? = wr.heap[j]? := fun j hj => by rw [hW4, heap_setCell_other _ _ _ _ (by simp; omega), heap_setCell_other _ _ _ _ (by simp; omega)]
      have hlt3 := hy.lt
      have hgo : Hid (∀ w5, Below W4.heap.size W4 w5 → IsBinds w5.heap.size w5 (listG F G 20) va vl vc ∧ Below w.heap.size w w5) := fun w5 hB5 => by
        obtain ⟨K', g1, g2, g3⟩ := r2
        have hst : ∀ j, w1.heap.size ≤ j → j < wr.heap.size → w5.heap[j]? = wr.heap[j]? := fun j h1 h2 => (hB5.block j (by omega)).trans (hrow4 j h1)
        exact ⟨BRow.is (base := w1.heap.size) ⟨K', g1, own_stays g2 hst, fun x hx => TmP.move (fun b hb' hlt => ⟨hb', hst b hb'.1 hlt⟩) _ (g3 x hx)⟩, hbw.trans ((hB4.mono (by omega)).trans (hB5.mono (by omega)))⟩
      replace hW4 := Lib.hid hW4
      replace v2 := Lib.hid v2
      replace v3 := Lib.hid v3
      clear r1 r2 r3 hx hy hI hbw hB4 hrow4
      go_wp2_with fail
      rw [← hW4.out]
      clear x1 x2 y1 y2
      refine leaves_cons (f := 54) (args := #[.pointer (some ⟨w.heap.size + 1 + 1, 0, none⟩), .pointer (some ⟨w.heap.size + 1 + 1 + 1, 0, none⟩)]) (by simp) (by simp [go_sem]) ?_
      refine (catch108_idle ⟨w.heap.size + 1 + 1, 0, none⟩ ⟨w.heap.size + 1 + 1 + 1, 0, none⟩ _).mono ?_
      rintro e u' w5 ⟨rfl, rfl, hB5⟩
      have q2 := (show Boxed w5 _ _ _ from (hB5.block _ (by omega)).trans v2.out).cell
      have q3 := (show Boxed w5 _ _ _ from (hB5.block _ (by omega)).trans v3.out).cell
      have hfin := hgo.out w5 hB5
      simp [Leaves, settle, results, Try.results32, go_sem, q2, q3]
      exact ⟨va, vl, vc, rfl, hfin⟩

end Go.Proofs.Ythlegfegkopdkaa

namespace Go.Proofs.Ythlegfegkopdkaa
open Go.RowKit Go.Shelf Go.Sort

theorem catch108_pan (B C : Nat) (x y : Value) (n : Int) (older : List PanicEntry) (w : World) (hx : w.cell? ⟨B, 0, none⟩ = some x) (hxz : w.frozen? ⟨B, 0, none⟩ = false) (hy : w.cell? ⟨C, 0, none⟩ = some y) (hyz : w.frozen? ⟨C, 0, none⟩ = false) (hne : B ≠ C) (hB : B < w.heap.size) (hC : C < w.heap.size) :
    CallsD Try.prog 54 #[.pointer (some ⟨B, 0, none⟩), .pointer (some ⟨C, 0, none⟩)] (.panicking ({ v := .iface 79 (.agg #[.int .i64 n]), recovered := false } :: older)) w fun e u' w' =>
      e = .returned (.tuple #[]) ∧ u' = .panicking ({ v := .iface 79 (.agg #[.int .i64 n]), recovered := true } :: older) ∧
      Below (min B C) w w' ∧ w'.heap = (((w.alloc (.cells #[.int .i64 n] 79)).setCell ⟨B, 0, none⟩ (.slice none 0 0)).setCell ⟨C, 0, none⟩ (.int .i64 n)).heap := by
  have ha := assert_gave
  refine callsD_of_wpS Try.func54 rfl fun c₀ cs hu => ?_
  apply wpS_seq
  apply wpS_region
  simp [wpOpsS, go_sem, recoverD, hu, Try.ntmps54, Exit.thenS, ha]
  apply wpS_seq
  apply wpS_region
  simp [wpOpsS, go_sem, Exit.thenS]
  refine wpS_cond (t := true) (by simp [Act.eval, Array.replicate]) ?_
  simp only [if_true]
  refine wpS_of_wp ?_
  obtain ⟨W, hW⟩ : ∃ W, W = w.alloc (Obj.cells #[Value.int IntKind.i64 n] 79) := ⟨_, rfl⟩
  have hn0 : W.cell? ⟨w.heap.size, 0, none⟩ = some (.int .i64 n) := by rw [hW]; simp [go_sem]
  have e1 : W.cell? ⟨B, 0, none⟩ = some x := by rw [hW]; exact alloc_cell hx
  have e2 : W.cell? ⟨C, 0, none⟩ = some y := by rw [hW]; exact alloc_cell hy
  have e3 : W.frozen? ⟨B, 0, none⟩ = false := by rw [hW, ((Below.refl _ _).alloc (Nat.le_refl _) _ : Below w.heap.size w _).frozen hB]; exact hxz
  have e4 : W.frozen? ⟨C, 0, none⟩ = false := by rw [hW, ((Below.refl _ _).alloc (Nat.le_refl _) _ : Below w.heap.size w _).frozen hC]; exact hyz
  have q1 : ¬ w.heap.size = B := by omega
  have q2 : ¬ w.heap.size = C := by omega
  have q3 : ¬ C = B := fun h => hne h.symm
  rw [← hW]
  have hbel : Below (min B C) w (((W.setCell ⟨B, 0, none⟩ (.slice none 0 0)).setCell ⟨C, 0, none⟩ (.int .i64 n)).drew) := by
    rw [hW]; exact ((((Below.refl _ _).alloc (by omega) _).setCell (p := ⟨B, 0, none⟩) (by simp; omega) _).setCell (p := ⟨C, 0, none⟩) (by simp; omega) _).drew
  replace hbel := Lib.hid hbel
  replace hW := Lib.hid hW
  clear ha
  go_region
  all_goals
    cases c₀
    simp [bodyPostS, results, Try.results54]
    exact ⟨hbel.out, by rw [hW.out]; rfl⟩

set_option maxRecDepth 100000 in
set_option maxHeartbeats 1000000 in
theorem mostGeneral_none (n₀ : Nat) (N : Nat) (a b : DT) (w : World) (hU : uniF N noB a b = some none) (hn : n₀ ≤ w.heap.size)
    (ha : (Lies n₀ w a ∧ OkV a.tm) ∧ a.size < 1000000) (hb : (Lies n₀ w b ∧ OkV b.tm) ∧ b.size < 1000000) :
    Calls Try.prog 32 #[dv a, dv b] w (MgEnd w [] 5) := by
  have hmf : ∀ (fn : Fn) (first cap : Array Value) (w : World), (Instr.makeFunc fn first cap).run Try.prog w = .ok (.func fn first cap) w := fun _ _ _ _ => rfl
  have hmm := @run_makeMap Try.prog
  obtain ⟨W0, hW0⟩ : ∃ W0, W0 = mg0 w a b := ⟨_, rfl⟩
  have hB0 : Below w.heap.size w W0 := by rw [hW0]; go_grown
  have hs0 : W0.heap.size = w.heap.size + 1 + 1 + 1 + 1 + 1 := by rw [hW0]; simp
  have b2 : W0.heap[w.heap.size + 1 + 1]? = some sl0 := by rw [hW0]; exact heap_old (heap_old (heap_new' _ (by simp)))
  have b3 : W0.heap[w.heap.size + 1 + 1 + 1]? = some e0 := by rw [hW0]; exact heap_old (heap_new' _ (by simp))
  have b4 : TMap W0 (w.heap.size + 1 + 1 + 1 + 1) 0 noB := by
    have := TMap.made ((((w.alloc (bx a)).alloc (bx b)).alloc sl0).alloc e0)
    simp only [World.size_alloc] at this
    rw [hW0]; exact this
  have hC := uni_all N noB none a b n₀ W0 (w.heap.size + 1 + 1 + 1 + 1) 0 hU b4 (fun i d h => by cases h) (by omega) (by omega) (good_below ha (hB0.mono hn)) (good_below hb (hB0.mono hn)) (by have := unm_le (fun k : Nat => (noB (k : Int)).isSome); unfold unb; omega)
  rw [hW0] at hC
  replace hC := Lib.hid hC
  replace hU := Lib.hid hU
  replace b2 := Lib.hid b2
  replace b3 := Lib.hid b3
  replace b4 := Lib.hid b4
  replace hB0 := Lib.hid hB0
  clear ha hb
  go_enter_defers Try.func32, Try.ntmps32
  go_wp2_with fail
  refine (hC.out).mono ?_
  rintro e w1 ⟨hT1, rfl⟩
  rw [← hW0] at hT1
  have hz1' := hT1.size
  have hB1 : Below w.heap.size w w1 := hB0.out.trans (hT1.below (by omega) (fun j hj e => by omega))
  have k2 : Boxed w1 (w.heap.size + 1 + 1) 39 (.slice none 0 0) := (hT1.block _ (by omega) (by omega)).trans b2.out
  have k3 : Boxed w1 (w.heap.size + 1 + 1 + 1) 22 (.int .i64 0) := (hT1.block _ (by omega) (by omega)).trans b3.out
  have c2 := k2.cell
  have c3 := k2.frozen
  have c4 := k3.cell
  have c5 := k3.frozen
  simp only []
  refine leaves_cons (f := 54) (args := #[.pointer (some ⟨w.heap.size + 1 + 1, 0, none⟩), .pointer (some ⟨w.heap.size + 1 + 1 + 1, 0, none⟩)]) (by simp) (by simp [go_sem]) ?_
  refine (catch108_pan (w.heap.size + 1 + 1) (w.heap.size + 1 + 1 + 1) _ _ 5 [] _ c2 c3 c4 c5 (by omega) (by omega) (by omega)).mono ?_
  rintro e u' w5 ⟨rfl, rfl, hB5, hA⟩
  have q2 : w5.cell? ⟨w.heap.size + 1 + 1, 0, none⟩ = some (.slice none 0 0) := by
    have h : Boxed (((w1.alloc (.cells #[.int .i64 5] 79)).setCell ⟨w.heap.size + 1 + 1, 0, none⟩ (.slice none 0 0)).setCell ⟨w.heap.size + 1 + 1 + 1, 0, none⟩ (.int .i64 5)) (w.heap.size + 1 + 1) 39 (.slice none 0 0) := ((k2.alloc _).set _).other (by simp) _
    have h' : Boxed w5 (w.heap.size + 1 + 1) 39 (.slice none 0 0) := by unfold Boxed; rw [hA]; exact h
    exact h'.cell
  have q3 : w5.cell? ⟨w.heap.size + 1 + 1 + 1, 0, none⟩ = some (.int .i64 5) := by
    have h : Boxed (((w1.alloc (.cells #[.int .i64 5] 79)).setCell ⟨w.heap.size + 1 + 1, 0, none⟩ (.slice none 0 0)).setCell ⟨w.heap.size + 1 + 1 + 1, 0, none⟩ (.int .i64 5)) (w.heap.size + 1 + 1 + 1) 22 (.int .i64 5) := ((k3.alloc _).other (by simp) _).set _
    have h' : Boxed w5 (w.heap.size + 1 + 1 + 1) 22 (.int .i64 5) := by unfold Boxed; rw [hA]; exact h
    exact h'.cell
  have hfin : Below w.heap.size w w5 := hB1.trans (hB5.mono (by omega))
  clear hA hB5 k2 k3 c2 c3 c4 c5
  simp [Leaves, settle, results, Try.results32, go_sem, q2, q3]
  exact ⟨none, 0, 0, rfl, IsBinds.none _ _, hfin⟩

end Go.Proofs.Ythlegfegkopdkaa

namespace Go.Proofs.Ythlegfegkopdkaa
open Go.RowKit Go.Shelf Go.Sort

/-- What 'Unify' answers of formed values. -/
def UniAns (a b : DT) (L : List (Int × Tm)) (err : Int) : Prop :=
  ∃ N, (uniF N noB a b = some none ∧ L = [] ∧ err = 5) ∨ (∃ F G, uniF N noB a b = some (some F) ∧ (∀ v : Nat, v < 20 → F v ≠ none → ∃ c, growF F N 1 0 (vD v) = some (G v, c)) ∧ L = listG F G 20 ∧ err = 0)

set_option maxRecDepth 100000 in
set_option maxHeartbeats 1000000 in
theorem Unify_any (s : Sg) (d x : DT) (n₀ : Nat) (w : World) (ac : Option Addr) (lc cc : Nat) (af : Option Addr) (lf cf : Nat) (L : List (Int × Tm)) (err : Int) (hs1 : 1 + d.size ≤ 1000000) (hs2 : 1 + x.size ≤ 1000000) (hn : n₀ ≤ w.heap.size) (hS : IsSg n₀ w s ac lc cc af lf cf) (hL1 : Lies n₀ w d) (hL2 : Lies n₀ w x)
    (hA : checkV s [d, x] = true → UniAns d x L err) (hN : checkV s [d, x] = false → L = [] ∧ err = 2) :
    Calls Try.prog 12 #[.agg #[.slice ac lc cc, .slice af lf cf], dv d, dv x] w (MgEnd w L err) := by
  obtain ⟨W0, hW0⟩ : ∃ W0, W0 = ((w.alloc (bs 27 ac lc cc af lf cf)).alloc (bx d)).alloc (bx x) := ⟨_, rfl⟩
  have hB0 : Below w.heap.size w W0 := by rw [hW0]; go_grown
  have hz0 : W0.heap.size = w.heap.size + 1 + 1 + 1 := by rw [hW0]; simp
  have hl1 := hL1.below (hB0.mono hn)
  have hl2 := hL2.below (hB0.mono hn)
  have hB1 : Below W0.heap.size W0 (W0.alloc (two d x)) := (Below.refl _ _).alloc (Nat.le_refl _) _
  have hC := checkValues_any s [d, x] (W0.heap.size + 1) (W0.alloc (two d x)) ac lc cc af lf cf (some ⟨W0.heap.size, 0, none⟩) 2 2 (by intro y hy; simp at hy; rcases hy with rfl | rfl <;> assumption) (by simp) ((hS.below ((hB0.trans (hB1.mono hB0.size)).mono hn)).wider (by omega)) (two_lies hl1 hl2 (by omega))
  have bd : W0.heap[w.heap.size + 1]? = some (bx d) := by rw [hW0]; exact heap_old (heap_new' _ (by simp))
  have bx' : W0.heap[w.heap.size + 1 + 1]? = some (bx x) := by rw [hW0]; exact heap_new' _ (by simp)
  rw [hz0] at hC
  cases hv : checkV s [d, x]
  · rw [hv] at hC
    obtain ⟨rfl, rfl⟩ := hN hv
    have he : errOf false = 2 := rfl
    rw [hW0] at hC
    replace hC := Lib.hid hC
    clear hl1 hl2 hL1 hL2 hS hv hA hN
    go_enter Try.func12, Try.ntmps12
    go_wp2_with fail
    refine (hC.out).mono ?_
    rintro e w1 ⟨rfl, hbe⟩
    replace hbe := Lib.hid hbe
    go_wp2_with fail
    go_ret2
    rw [hW0] at hB0 hB1
    exact ⟨none, 0, 0, rfl, IsBinds.none _ _, hB0.trans ((hB1.mono (by simp; omega)).trans (hbe.out.mono (by simp; omega)))⟩
  · have hcb : checkB s [d, x] = true := by unfold checkV at hv; rw [Bool.and_eq_true] at hv; exact hv.1
    have hO1 := OkV.checked hcb (by simp : d ∈ [d, x])
    have hO2 := OkV.checked hcb (by simp : x ∈ [d, x])
    rw [hv] at hC
    have he : errOf true = 0 := rfl
    have hM : ∀ W, Below W0.heap.size W0 W → Calls Try.prog 32 #[dv d, dv x] W (MgEnd W L err) := fun W hb => by
      have g1 : (Lies n₀ W d ∧ OkV d.tm) ∧ d.size < 1000000 := ⟨⟨hl1.below (hb.mono (by omega)), hO1⟩, by omega⟩
      have g2 : (Lies n₀ W x ∧ OkV x.tm) ∧ x.size < 1000000 := ⟨⟨hl2.below (hb.mono (by omega)), hO2⟩, by omega⟩
      have hnW : n₀ ≤ W.heap.size := by have := hb.size; omega
      obtain ⟨N, ⟨h1, rfl, rfl⟩ | ⟨F, G, h1, h2, rfl, rfl⟩⟩ := hA hv
      · exact mostGeneral_none n₀ N d x W h1 hnW g1 g2
      · exact mostGeneral_any n₀ N d x W F G h1 h2 hnW g1 g2
    rw [hW0] at hC
    replace hC := Lib.hid hC
    replace hM := Lib.hid hM
    clear hl1 hl2 hL1 hL2 hS hv hO1 hO2 hcb hA hN
    go_enter Try.func12, Try.ntmps12
    go_wp2_with fail
    refine (hC.out).mono ?_
    rintro e w1 ⟨rfl, hbe⟩
    have hb1 : Below W0.heap.size W0 w1 := hB1.trans ((show Below (W0.alloc (two d x)).heap.size (W0.alloc (two d x)) w1 from by rw [hW0]; exact hbe).mono hB1.size)
    obtain ⟨⟨b0, b1, b2⟩, -⟩ := c3_cells ((hb1.block (w.heap.size + 1) (by omega)).trans bd)
    obtain ⟨⟨x0, x1, x2⟩, -⟩ := c3_cells ((hb1.block (w.heap.size + 1 + 1) (by omega)).trans bx')
    have hz1 := hb1.size
    have hMw := Lib.hid (hM.out w1 hb1)
    replace hb1 := Lib.hid hb1
    clear hbe
    go_wp2_with fail
    refine (hMw.out).mono ?_
    rintro e w2 ⟨va, vl, vc, rfl, hI, hB2⟩
    replace hI := Lib.hid hI
    replace hB2 := Lib.hid hB2
    clear b0 b1 b2 x0 x1 x2
    go_wp2_with fail
    go_ret2
    exact ⟨va, vl, vc, rfl, hI.out, hB0.trans ((hb1.out.mono (by omega)).trans (hB2.out.mono (by omega)))⟩

end Go.Proofs.Ythlegfegkopdkaa

namespace Go.Proofs.Ythlegfegkopdkaa




end Go.Proofs.Ythlegfegkopdkaa

namespace Go.Proofs.Ythlegfegkopdkaa
open Go.RowKit Go.Shelf

set_option maxHeartbeats 400000 in
/-- The examples' 'node'. -/
theorem node_mk (op n : Int) (a : Option Addr) (l c : Nat) (w : World) :
    Calls Try.prog 9 #[.int .i64 op, .int .i64 n, .slice a l c] w fun e w' => e = .returned (.agg #[.int .i64 op, .int .i64 n, .slice a l c]) ∧ w' = w.alloc (.cells #[.int .i64 op, .int .i64 n, .slice a l c] 32) := by
  go_enter Try.func9, Try.ntmps9
  go_wp2
  refine bodyPost_ret (v := .agg #[.int .i64 op, .int .i64 n, .slice a l c]) (by simp [results, Try.f9, go_sem]) rfl ⟨rfl, ?_⟩
  simp [go_sem]

set_option maxHeartbeats 400000 in
/-- The examples' 'con'. -/
theorem con_mk (n : Int) (a : Option Addr) (l c : Nat) (w : World) :
    Calls Try.prog 6 #[.int .i64 n, .slice a l c] w fun e w' => e = .returned (.agg #[.int .i64 3, .int .i64 n, .slice a l c]) ∧ Below w.heap.size w w' := by
  have hC := fun W => node_mk 3 n a l c W
  replace hC := Lib.hid hC
  go_enter Try.func6, Try.ntmps6
  go_wp2_with (go_at_call 9; refine (hC.out _).mono ?_; rintro e w1 ⟨rfl, rfl⟩)
  refine bodyPost_ret (v := .agg #[.int .i64 3, .int .i64 n, .slice a l c]) (by simp [results, Try.f6, go_sem]) rfl ⟨rfl, ?_⟩
  go_grown

end Go.Proofs.Ythlegfegkopdkaa

namespace Go.Proofs.Ythlegfegkopdkaa
open Go.RowKit Go.Shelf

/-- The examples' signature. -/
def sgS : Sg := ⟨[(⟨#[70, 97, 108, 115, 101]⟩, 0), (⟨#[84, 114, 117, 101]⟩, 0), (⟨#[90]⟩, 0), (⟨#[83]⟩, 1), (⟨#[78, 105, 108]⟩, 0), (⟨#[67, 111, 110, 115]⟩, 2)], [(⟨#[97, 112, 112]⟩, 2), (⟨#[111, 110, 101]⟩, 0)]⟩

set_option maxRecDepth 100000 in
set_option maxHeartbeats 1000000 in
/-- The examples' 'S'. -/
theorem S_mk (w : World) :
    Calls Try.prog 5 #[] w fun e w' => e = .returned (.agg #[.slice (some ⟨w.heap.size + 1, 0, none⟩) 6 6, .slice (some ⟨w.heap.size + 1 + 1, 0, none⟩) 2 2]) ∧
      IsSg w'.heap.size w' sgS (some ⟨w.heap.size + 1, 0, none⟩) 6 6 (some ⟨w.heap.size + 1 + 1, 0, none⟩) 2 2 ∧ Below w.heap.size w w' := by
  go_enter Try.func5, Try.ntmps5
  go_wp2
  refine bodyPost_ret (v := .agg #[.slice (some ⟨w.heap.size + 1, 0, none⟩) 6 6, .slice (some ⟨w.heap.size + 1 + 1, 0, none⟩) 2 2]) (by simp [results, Try.f5, go_sem]) rfl ⟨rfl, ⟨?_, ?_⟩, ?_⟩
  · refine ⟨rfl, by omega, by omega, .inr ⟨w.heap.size + 1, 0, rfl, by simp, fun k h => ?_⟩⟩
    have hk : k = 0 ∨ k = 1 ∨ k = 2 ∨ k = 3 ∨ k = 4 ∨ k = 5 := by simp [sgS] at h; omega
    rcases hk with rfl | rfl | rfl | rfl | rfl | rfl <;> exact ⟨by simp [sgS, go_sem], by simp [sgS, go_sem], Nat.le_of_ble_eq_true rfl⟩
  · refine ⟨rfl, by omega, by omega, .inr ⟨w.heap.size + 1 + 1, 0, rfl, by simp, fun k h => ?_⟩⟩
    have hk : k = 0 ∨ k = 1 := by simp [sgS] at h; omega
    rcases hk with rfl | rfl <;> exact ⟨by simp [sgS, go_sem], by simp [sgS, go_sem], Nat.le_of_ble_eq_true rfl⟩
  · go_grown

end Go.Proofs.Ythlegfegkopdkaa

namespace Go.Proofs.Ythlegfegkopdkaa
open Go.RowKit Go.Shelf

set_option maxHeartbeats 400000 in
/-- The reference's 'Var'. -/
theorem Var_mk (n : Int) (w : World) :
    Calls Try.prog 22 #[.int .i64 n] w fun e w' => e = .returned (.agg #[.int .i64 1, .int .i64 n, .slice none 0 0]) ∧ Below w.heap.size w w' := by
  go_enter Try.func22, Try.ntmps22
  go_wp2
  refine bodyPost_ret (v := .agg #[.int .i64 1, .int .i64 n, .slice none 0 0]) (by simp [results, Try.f22, go_sem]) rfl ⟨rfl, ?_⟩
  go_grown

set_option maxHeartbeats 400000 in
/-- The examples' 'v'. -/
theorem v_mk (n : Int) (w : World) :
    Calls Try.prog 7 #[.int .i64 n] w fun e w' => e = .returned (.agg #[.int .i64 1, .int .i64 n, .slice none 0 0]) ∧ Below w.heap.size w w' := by
  have hC := fun W => Var_mk n W
  replace hC := Lib.hid hC
  have hb0 : Below w.heap.size w (w.alloc (.cells #[.int .i64 0, .int .i64 0, .slice none 0 0] 32)) := (Below.refl _ _).alloc (Nat.le_refl _) _
  go_enter Try.func7, Try.ntmps7
  go_wp2_with (go_at_call 22; refine (hC.out _).mono ?_; rintro e w1 ⟨rfl, hbe⟩
               have q0 : w1.cell? ⟨w.heap.size, 0, none⟩ = some (.int .i64 0) := by rw [hbe.cell (by simp)]; go_cell
               have q1 : w1.cell? ⟨w.heap.size, 1, none⟩ = some (.int .i64 0) := by rw [hbe.cell (by simp)]; go_cell
               have q2 : w1.cell? ⟨w.heap.size, 2, none⟩ = some (.slice none 0 0) := by rw [hbe.cell (by simp)]; go_cell
               have q3 : w1.frozen? ⟨w.heap.size, 0, none⟩ = false := by rw [hbe.frozen (by simp)]; simp [go_sem]
               have q4 : w1.frozen? ⟨w.heap.size, 1, none⟩ = false := by rw [hbe.frozen (by simp)]; simp [go_sem]
               have q5 : w1.frozen? ⟨w.heap.size, 2, none⟩ = false := by rw [hbe.frozen (by simp)]; simp [go_sem])
  have b0 : w1.heap[w.heap.size]? = some (.cells #[.int .i64 0, .int .i64 0, .slice none 0 0] 32 (0, 0)) := (hbe.block w.heap.size (by simp)).trans (World.alloc_heap_new w _)
  have b1 := heap_setCell_same w1 w.heap.size 0 _ 32 (.int .i64 1) b0
  have b2 := heap_setCell_same _ w.heap.size 1 _ 32 (.int .i64 n) b1
  have b3 := heap_setCell_same _ w.heap.size 2 _ 32 (.slice none 0 0) b2
  have z0 := cell_of_row _ w.heap.size 0 _ 32 (0, 0) b3
  have z1 := cell_of_row _ w.heap.size 1 _ 32 (0, 0) b3
  have z2 := cell_of_row _ w.heap.size 2 _ 32 (0, 0) b3
  have hbl := (((hb0.trans (hbe.mono (by simp))).setCell (p := ⟨w.heap.size, 0, none⟩) (Nat.le_refl _) (.int .i64 1)).setCell (p := ⟨w.heap.size, 1, none⟩) (Nat.le_refl _) (.int .i64 n)).setCell (p := ⟨w.heap.size, 2, none⟩) (Nat.le_refl _) (.slice none 0 0)
  obtain ⟨W, hW⟩ : ∃ W, W = (((w1.setCell { block := w.heap.size, off := 0 } (Value.int IntKind.i64 1)).setCell { block := w.heap.size, off := 1 } (Value.int IntKind.i64 n)).setCell { block := w.heap.size, off := 2 } (Value.slice none 0 0)) := ⟨_, rfl⟩
  rw [← hW] at z0 z1 z2 hbl ⊢
  clear hW b0 b1 b2 b3 q0 q1 q2 q3 q4 q5
  simp at z0 z1 z2
  exact bodyPost_ret (v := .agg #[.int .i64 1, .int .i64 n, .slice none 0 0]) (by simp [results, Try.f7, go_sem, z0, z1, z2]) rfl ⟨rfl, hbl⟩

end Go.Proofs.Ythlegfegkopdkaa

namespace Go.Proofs.Ythlegfegkopdkaa
open Go.RowKit Go.Shelf Go.Sort

def sameBs : List (Int × Tm) → List (Int × Tm) → Bool
  | [], [] => true
  | x :: xs, y :: ys => (x.1 == y.1 && sameB x.2 y.2) && sameBs xs ys
  | _, _ => false
theorem sameBs_len : ∀ (a b : List (Int × Tm)), a.length ≠ b.length → sameBs a b = false
  | [], [], h => by simp at h
  | [], _ :: _, _ => by simp [sameBs]
  | _ :: _, [], _ => by simp [sameBs]
  | t :: ts, u :: us, h => by simp only [sameBs, sameBs_len ts us (by simpa using h), Bool.and_false]
theorem sameBs_drop (a b : List (Int × Tm)) (k : Nat) (h : k < a.length) (h' : k < b.length) : sameBs (a.drop k) (b.drop k) = ((a[k].1 == b[k].1 && sameB a[k].2 b[k].2) && sameBs (a.drop (k + 1)) (b.drop (k + 1))) := by
  rw [List.drop_eq_getElem_cons h, List.drop_eq_getElem_cons h', sameBs]

set_option maxRecDepth 100000 in
set_option maxHeartbeats 1000000 in
theorem SameBinds_any (L M : List (Int × Tm)) (n₀ : Nat) (w : World) (a : Option Addr) (l c : Nat) (a2 : Option Addr) (l2 c2 : Nat) (hA : IsBinds n₀ w L a l c) (hM : IsBinds n₀ w M a2 l2 c2) (hn : n₀ ≤ w.heap.size) :
    Calls Try.prog 17 #[.slice a l c, .slice a2 l2 c2] w fun e w' => e = .returned (.bool (sameBs L M)) ∧ Below w.heap.size w w' := by
  obtain ⟨rfl, ha1, ha2, hka⟩ := hA
  obtain ⟨rfl, hb1, hb2, hkb⟩ := hM
  by_cases hlen : L.length = M.length
  rotate_left
  · have h1 : ((L.length : Int) != (M.length : Int)) = true := by simp; omega
    have hv := Lib.hid (sameBs_len L M hlen)
    replace hlen := Lib.hid hlen
    clear hka hkb
    go_enter Try.func17, Try.ntmps17
    go_wp2_with fail
    go_ret
    exact ⟨by rw [hv.out]; rfl, Below.refl _ _⟩
  have h1 : ((L.length : Int) != (M.length : Int)) = false := by simp; omega
  have hle : L.length ≤ M.length := by omega
  replace hlen := Lib.hid hlen
  go_enter Try.func17, Try.ntmps17
  go_wp2_with fail
  go_loopw [5] (fun i wi => ∃ k : Nat, k ≤ L.length ∧ i = .int .i64 k ∧ Below w.heap.size w wi ∧ Hid (sameBs L M = sameBs (L.drop k) (M.drop k))) (fun i _ => L.length - (intOf i).toNat)
  case atStart => exact ⟨0, by omega, rfl, Below.refl _ _, Lib.hid (by simp)⟩
  case round =>
    obtain ⟨k, hk, rfl, hb, hv⟩ := hrel
    have hz := hb.size
    by_cases hlt : k < L.length
    · have hlt2 : k < M.length := by omega
      have o1 : (k : Int) < (L.length : Int) := by omega
      have o2 : (k : Int) < (M.length : Int) := by omega
      rcases hka with hka | ⟨b1, off1, rfl, hbn1, hks1⟩
      · rw [hka] at hlt; simp at hlt
      rcases hkb with hkb | ⟨b2, off2, rfl, hbn2, hks2⟩
      · rw [hkb] at hlt2; simp at hlt2
      obtain ⟨p0, a', l', c', p1, p2⟩ := hks1 k hlt
      obtain ⟨q0, a'', l'', c'', q1, q2⟩ := hks2 k hlt2
      have p0' := (hb.cell (p := ⟨b1, off1 + k * 4, none⟩) (by simp; omega)).trans p0
      have q0' := (hb.cell (p := ⟨b2, off2 + k * 4, none⟩) (by simp; omega)).trans q0
      obtain ⟨x0, x1, x2⟩ := p1.below (hb.mono hn) hbn1
      obtain ⟨y0, y1, y2⟩ := q1.below (hb.mono hn) hbn2
      have hst := sameBs_drop L M k hlt hlt2
      have hSm := fun dd os => (Same_any (L[k].2.size) L[k].2 M[k].2 n₀ (grow (redrawn wr dd) os) a' l' c' a'' l'' c'' (Nat.le_refl _) (IsTm.below ((hb.trans ((below_regrown wr dd os).mono hz)).mono hn) _ p2) (IsTm.below ((hb.trans ((below_regrown wr dd os).mono hz)).mono hn) _ q2) (by have := (below_regrown wr dd os).size; omega)).regrown_of
      have d0 := fun dd os => cell_regrown p0' dd os
      have d1 := fun dd os => cell_regrown q0' dd os
      have d2 := fun dd os => cell_regrown x0 dd os
      have d3 := fun dd os => cell_regrown x1 dd os
      have d4 := fun dd os => cell_regrown x2 dd os
      have d5 := fun dd os => cell_regrown y0 dd os
      have d6 := fun dd os => cell_regrown y1 dd os
      have d7 := fun dd os => cell_regrown y2 dd os
      cases hvar : L[k].1 == M[k].1
      · rw [hvar, Bool.false_and, Bool.false_and] at hst
        have hne : (L[k].1 != M[k].1) = true := by simpa using hvar
        replace hst := Lib.hid (hv.out.trans hst)
        replace hvar := Lib.hid hvar
        clear hks1 hks2 hSm p1 p2 q1 q2
        go_wp2_with fail
        refine wp_region_quiet_below (by kernel_rfl) (by kernel_rfl) ?_
        repeat (first | go_big_quiet_step (fail) | quiet_step (fail))
        refine wpQuiet_nil ?_
        rintro _ ⟨⟨dq, osq⟩, rfl⟩
        have hb3 := below_regrown wr dq osq
        clear d0 d1 d2 d3 d4 d5 d6 d7
        go_wp2_with fail
        go_ret
        exact ⟨by rw [hst.out]; rfl, hb.trans (hb3.mono hz)⟩
      · rw [hvar, Bool.true_and] at hst
        have hne : (L[k].1 != M[k].1) = false := by simpa using hvar
        replace hvar := Lib.hid hvar
        cases hs : sameB L[k].2 M[k].2
        all_goals
          rw [hs] at hst hSm
          simp only [Bool.false_and, Bool.true_and] at hst
          replace hst := Lib.hid (hv.out.trans hst)
          replace hs := Lib.hid hs
          replace hSm := Lib.hid hSm
          clear hks1 hks2 p1 p2 q1 q2
          go_wp2_with fail
          refine wp_region_quiet_below (by kernel_rfl) (by kernel_rfl) ?_
          iterate 12 (quiet_step (fail))
          repeat (first | go_big_quiet_step (exact hSm.out _ _) | quiet_step (exact hSm.out _ _))
          refine wpQuiet_nil ?_
          rintro _ ⟨⟨dq, osq⟩, rfl⟩
          have hb3 := below_regrown wr dq osq
          clear d0 d1 d2 d3 d4 d5 d6 d7
          go_wp2_with fail
        · go_ret
          exact ⟨by rw [hst.out]; rfl, hb.trans (hb3.mono hz)⟩
        · go_roundw
          case rel => exact ⟨k + 1, by omega, by go_num, hb.trans (hb3.mono hz), hst⟩
          case measure => simp [intOf]; omega
    · have : k = L.length := by omega
      subst this
      have hend : Hid (sameBs L M = true) := by
        have h := hv.out
        rw [List.drop_eq_nil_of_le (Nat.le_refl _), List.drop_eq_nil_of_le (by have := hlen.out; omega)] at h
        exact h
      clear hka hkb
      go_wp2_with fail
      go_ret
      exact ⟨by rw [hend.out]; rfl, hb⟩

end Go.Proofs.Ythlegfegkopdkaa

namespace Go.Proofs.Ythlegfegkopdkaa
open Go.RowKit Go.Shelf Go.Sort

mutual
theorem Lies.isTm {n₀ : Nat} {w : World} : ∀ (d : DT), Lies n₀ w d → IsTm n₀ w d.tm d.a d.l d.c
  | .mk op n a l c ks, h => by
    simp only [Lies] at h
    simp only [DT.tm, IsTm, DT.a, DT.l, DT.c]
    obtain ⟨h1, h2, h3, h4⟩ := h
    refine ⟨by rw [h1, tms_map, List.length_map], h2, h3, ?_⟩
    rcases h4 with h4 | ⟨b, off, ha, hb, hk⟩
    · subst h4; exact .inl rfl
    · exact .inr ⟨b, off, ha, hb, LiesAll.isKids ks hk⟩
theorem LiesAll.isKids {n₀ : Nat} {w : World} : ∀ (ks : List DT) {b off : Nat}, LiesAll n₀ w ks b off → IsKids n₀ w (tms ks) b off
  | [], _, _, _ => by simp [tms, IsKids]
  | d :: ds, b, off, h => by
    simp only [LiesAll] at h
    simp only [tms, IsKids]
    exact ⟨⟨d.a, d.l, d.c, by rw [DT.tm_op, DT.tm_n]; exact h.1.1, Lies.isTm d h.1.2⟩, LiesAll.isKids ds h.2⟩
end

/-- A term, and a signature, that stand in a world. -/
def Liv (w : World) (d : DT) : Prop := Lies w.heap.size w d
def SgV (w : World) (A B : Option Addr) : Prop := IsSg w.heap.size w sgS A 6 6 B 2 2
theorem Liv.up {w w' : World} {d : DT} (h : Liv w d) (hb : Below w.heap.size w w') : Liv w' d := (Lies.below h hb).wider hb.size
theorem SgV.up {w w' : World} {A B : Option Addr} (h : SgV w A B) (hb : Below w.heap.size w w') : SgV w' A B := (IsSg.below hb h).wider hb.size
theorem bal (w : World) (o : Obj) : Below w.heap.size w (w.alloc o) := (Below.refl _ _).alloc (Nat.le_refl _) _
theorem Below.up {w0 w w' : World} (h : Below w0.heap.size w0 w) (hb : Below w.heap.size w w') : Below w0.heap.size w0 w' := h.trans (hb.mono h.size)

abbrev dN (op n : Int) : DT := .mk op n none 0 0 []
abbrev dS (op n : Int) (k : Nat) (x : DT) : DT := .mk op n (some ⟨k, 0, none⟩) 1 1 [x]
abbrev dP (op n : Int) (k : Nat) (x y : DT) : DT := .mk op n (some ⟨k, 0, none⟩) 2 2 [x, y]
theorem Liv.N (w : World) (op n : Int) : Liv w (dN op n) := by simp only [Liv, Lies]; exact ⟨rfl, by omega, by omega, .inl trivial⟩
theorem Liv.S {w : World} {x : DT} (op n : Int) (h : Liv w x) : Liv (w.alloc (.cells #[.int .i64 x.op, .int .i64 x.n, .slice x.a x.l x.c] 32)) (dS op n w.heap.size x) := by
  have := one_lies h (Nat.le_refl _)
  simp only [LiesL, Lies] at this
  simp only [Liv, Lies, World.size_alloc]
  exact this
theorem Liv.P {w : World} {x y : DT} (op n : Int) (h : Liv w x) (h2 : Liv w y) : Liv (w.alloc (.cells #[.int .i64 x.op, .int .i64 x.n, .slice x.a x.l x.c, .int .i64 y.op, .int .i64 y.n, .slice y.a y.l y.c] 32)) (dP op n w.heap.size x y) := by
  have := two_lies h h2 (Nat.le_refl _)
  simp only [LiesL, Lies] at this
  simp only [Liv, Lies, World.size_alloc]
  exact this

theorem kS (w : World) : Calls Try.prog 5 #[] w fun e w' => ∃ A B, e = .returned (.agg #[.slice A 6 6, .slice B 2 2]) ∧ Hid (SgV w' A B) ∧ Hid (Below w.heap.size w w') :=
  (S_mk w).mono fun _ _ ⟨he, h1, h2⟩ => ⟨_, _, he, h1, h2⟩
theorem kv (n : Int) (w : World) : Calls Try.prog 7 #[.int .i64 n] w fun e w' => e = .returned (.agg #[.int .i64 1, .int .i64 n, .slice none 0 0]) ∧ Hid (Below w.heap.size w w') := v_mk n w
theorem kcon (n : Int) (a : Option Addr) (l c : Nat) (w : World) : Calls Try.prog 6 #[.int .i64 n, .slice a l c] w fun e w' => e = .returned (.agg #[.int .i64 3, .int .i64 n, .slice a l c]) ∧ Hid (Below w.heap.size w w') := con_mk n a l c w
theorem knode (op n : Int) (a : Option Addr) (l c : Nat) (w : World) : Calls Try.prog 9 #[.int .i64 op, .int .i64 n, .slice a l c] w fun e w' => e = .returned (.agg #[.int .i64 op, .int .i64 n, .slice a l c]) ∧ Hid (Below w.heap.size w w') :=
  (node_mk op n a l c w).mono fun _ _ ⟨he, h⟩ => ⟨he, by rw [h]; exact bal _ _⟩

theorem sgS_ok : SigOk sgS := by
  refine ⟨by decide, by decide, by decide, rfl, rfl, ?_⟩
  simp only [sgS, List.cons_append, List.nil_append, OkNames]
  repeat' apply And.intro
  all_goals first | trivial | rfl | (simp; done) | decide
theorem sgS_sig : sigB sgS = true := sigB_true sgS_ok
theorem chk1 (d : DT) : checkB sgS [d] = formedB sgS d.tm := by unfold checkB; rw [sgS_sig]; simp
theorem chk2 (d x : DT) : checkB sgS [d, x] = (formedB sgS d.tm && formedB sgS x.tm) := by unfold checkB; rw [sgS_sig]; simp
theorem chkV (d x : DT) : checkV sgS [d, x] = ((formedB sgS d.tm && formedB sgS x.tm) && (valueB d.tm && valueB x.tm)) := by unfold checkV; rw [chk2]; simp

theorem kCheck {w : World} {A B : Option Addr} (d : DT) (hs : 1 + d.size ≤ 1000000) (hS : Hid (SgV w A B)) (hL : Hid (Liv w d)) (v : Int) (hv : errOf (formedB sgS d.tm) = v) :
    Calls Try.prog 19 #[.agg #[.slice A 6 6, .slice B 2 2], .agg #[.int .i64 d.op, .int .i64 d.n, .slice d.a d.l d.c]] w fun e w' => e = .returned (.int .i64 v) ∧ Hid (Below w.heap.size w w') :=
  (Check_any sgS d _ w A 6 6 B 2 2 hs (Nat.le_refl _) hS.out hL.out).mono fun _ _ ⟨he, hb⟩ => ⟨by rw [he, chk1, hv], hb⟩

end Go.Proofs.Ythlegfegkopdkaa

namespace Go.Proofs.Ythlegfegkopdkaa
open Go.RowKit Go.Shelf Go.Sort

abbrev tv (n : Int) : Tm := .mk 1 n []
abbrev tc (n : Int) : Tm := .mk 3 n []

theorem ints_of_own {w : World} {base : Nat} {v : Value} {l : List Nat} (h : w.ownsRow base 3 1 v l.length (natVals l)) : ∃ va vl vc, v = .slice va vl vc ∧ IsInts w.heap.size w (l.map fun n : Nat => (n : Int)) va vl vc := by
  rcases h.2 with ⟨hv, h0⟩ | ⟨g, cap, cur, hv, hg, hcur, hn, hcap, hs, ht⟩
  · subst hv
    have : l = [] := List.length_eq_zero_iff.1 h0
    subst this
    exact ⟨none, 0, 0, rfl, rfl, by omega, by omega, .inl rfl⟩
  · subst hv
    obtain ⟨hc, h1, h2, h3, h4⟩ := own_cells h
    refine ⟨_, _, _, rfl, by simp, h1, h2, .inr ⟨g, 0, rfl, h3, fun k hk => ?_⟩⟩
    rw [Nat.zero_add]
    refine hc k _ ?_
    unfold natVals
    simp at hk
    rw [List.getElem?_map, List.getElem?_eq_getElem (by simpa using hk)]
    simp

abbrev d3 (k1 k2 : Nat) : DT := dP 8 0 k2 (dN 1 1) (dP 3 5 k1 (dN 1 0) (dN 1 2))
theorem f3 (k1 k2 : Nat) : formedB sgS (d3 k1 k2).tm = true := by rfl
theorem v3 (k1 k2 : Nat) : listTo (fvT (d3 k1 k2).tm) 20 = [1, 2] := by rfl
theorem kVars {w : World} {A B : Option Addr} (k1 k2 : Nat) (hS : Hid (SgV w A B)) (hL : Hid (Liv w (d3 k1 k2))) :
    Calls Try.prog 35 #[.agg #[.slice A 6 6, .slice B 2 2], .agg #[.int .i64 8, .int .i64 0, .slice (some ⟨k2, 0, none⟩) 2 2]] w fun e w' => ∃ va vl vc, e = .returned (.tuple #[.slice va vl vc, .int .i64 0]) ∧ Hid (IsInts w'.heap.size w' [1, 2] va vl vc) ∧ Hid (Below w.heap.size w w') :=
  (Vars_any sgS (d3 k1 k2) _ w A 6 6 B 2 2 (by simp [DT.size, dsizes]) (Nat.le_refl _) hS.out hL.out).mono fun e w' ⟨v, he, h1, h2, hb⟩ => by
    have hl : varsL sgS (d3 k1 k2) = [1, 2] := by unfold varsL; rw [chk1, f3, if_pos rfl, v3]
    rw [hl] at h1
    obtain ⟨va, vl, vc, rfl, hi⟩ := ints_of_own h1
    rw [chk1, f3] at he
    exact ⟨va, vl, vc, he, hi, hb⟩

abbrev T4 : Tm := .mk 8 3 [tv 1, .mk 3 5 [tv 3, .mk 3 3 [tv 0]]]
abbrev b4 (k : Nat) : List PB := [⟨2, dS 3 3 k (dN 1 0)⟩]
theorem p4 (k k1 k2 : Nat) : putF (bindK (b4 k) 1) (stK (b4 k) 1) 5 (fun _ => false) (d3 k1 k2).tm = some T4 := by rfl
theorem l4 (k : Nat) : lfB sgS (-1) (pbs (b4 k)) = true := by
  unfold b4 pbs
  simp only [List.map_cons, List.map_nil, lfB]
  rfl
theorem s4 (k k1 k2 : Nat) : substA sgS (d3 k1 k2) (b4 k) T4 = (T4, 0) := by
  unfold substA
  rw [chk1, f3, if_pos rfl, l4, if_pos rfl, if_pos (by rfl)]

abbrev d5 (k1 k2 : Nat) : DT := dP 3 5 k2 (dN 1 5) (dP 8 5 k1 (dN 1 2) (dN 1 5))
abbrev T5 : Tm := .mk 3 5 [tv 0, .mk 8 1 [tv 2, tv 1]]
theorem o5 (k1 k2 : Nat) : orderA sgS (d5 k1 k2) = (T5, 0) := by
  unfold orderA
  rw [chk1, show formedB sgS (d5 k1 k2).tm = true from rfl, if_pos rfl]
  rfl
theorem m6 (k1 k2 : Nat) : matchA sgS (dP 3 5 k1 (dN 1 0) (dN 1 1)) (dP 3 5 k2 (dN 3 2) (dN 3 4)) = ([(0, tc 2), (1, tc 4)], 0) := by
  unfold matchA
  rw [chkV]
  rfl
theorem u7 (k1 k2 : Nat) : UniAns (dP 3 5 k1 (dN 1 0) (dN 1 1)) (dP 3 5 k2 (dN 1 1) (dN 3 4)) [(0, tc 4), (1, tc 4)] 0 := by
  refine ⟨6, .inr ⟨updI (updI noB 1 (vD 0)) 0 (dN 3 4), fun _ => tc 4, by rfl, fun v hv hne => ?_, by rfl, rfl⟩⟩
  by_cases h0 : v = 0
  · subst h0; exact ⟨1, by rfl⟩
  · by_cases h1 : v = 1
    · subst h1; exact ⟨1, by rfl⟩
    · exfalso; apply hne
      unfold updI noB
      rw [if_neg (by omega), if_neg (by omega)]
theorem u8 (k : Nat) : UniAns (dN 1 0) (dS 3 3 k (dN 1 0)) [] 5 := ⟨6, .inl ⟨by rfl, rfl, rfl⟩⟩

end Go.Proofs.Ythlegfegkopdkaa

namespace Go.Proofs.Ythlegfegkopdkaa
open Go.RowKit Go.Shelf Go.Sort

def Tv (w : World) (t : Tm) (a : Option Addr) (l c : Nat) : Prop := IsTm w.heap.size w t a l c
def Bv (w : World) (L : List (Int × Tm)) (a : Option Addr) (l c : Nat) : Prop := IsBinds w.heap.size w L a l c
def Iv (w : World) (L : List Int) (a : Option Addr) (l c : Nat) : Prop := IsInts w.heap.size w L a l c
def LbV (w : World) (bs : List PB) (a : Option Addr) (l c : Nat) : Prop := LiesB w.heap.size w bs a l c
def BxV (w : World) (k : Nat) (x y z : Value) : Prop := w.heap[k]? = some (.cells #[x, y, z] 32 (0, 0))
theorem BxV.up {w w' : World} {k : Nat} {x y z : Value} (h : BxV w k x y z) (hb : Below w.heap.size w w') : BxV w' k x y z := (hb.block k (Array.getElem?_eq_some_iff.1 h).1).trans h
theorem IsBinds.wider' {n₀ n₁ : Nat} {A : World} (h : n₀ ≤ n₁) {l : List (Int × Tm)} {a : Option Addr} {len c : Nat} (x : IsBinds n₀ A l a len c) : IsBinds n₁ A l a len c := by
  obtain ⟨h1, h2, h3, h4⟩ := x
  refine ⟨h1, h2, h3, ?_⟩
  rcases h4 with h4 | ⟨b, off, ha, hb, hk⟩
  · exact .inl h4
  · refine .inr ⟨b, off, ha, by omega, fun k hk' => ?_⟩
    obtain ⟨q1, a', l', c', q2, q3⟩ := hk k hk'
    exact ⟨q1, a', l', c', q2, IsTm.wider h _ q3⟩
theorem Tv.up {w w' : World} {t : Tm} {a : Option Addr} {l c : Nat} (h : Tv w t a l c) (hb : Below w.heap.size w w') : Tv w' t a l c := IsTm.wider hb.size _ (IsTm.below hb _ h)
theorem Bv.up {w w' : World} {L : List (Int × Tm)} {a : Option Addr} {l c : Nat} (h : Bv w L a l c) (hb : Below w.heap.size w w') : Bv w' L a l c := (IsBinds.below hb h).wider' hb.size
theorem Iv.up {w w' : World} {L : List Int} {a : Option Addr} {l c : Nat} (h : Iv w L a l c) (hb : Below w.heap.size w w') : Iv w' L a l c := by
  obtain ⟨h1, h2, h3, h4⟩ := IsInts.below hb h
  refine ⟨h1, h2, h3, ?_⟩
  rcases h4 with h4 | ⟨b, off, ha, hlt, hk⟩
  · exact .inl h4
  · exact .inr ⟨b, off, ha, Nat.lt_of_lt_of_le hlt hb.size, hk⟩
theorem LbV.up {w w' : World} {bs : List PB} {a : Option Addr} {l c : Nat} (h : LbV w bs a l c) (hb : Below w.heap.size w w') : LbV w' bs a l c := (LiesB.below hb h).wider hb.size
theorem LbV.one {w : World} {x : DT} (v : Int) (h : Liv w x) : LbV (w.alloc (.cells #[.int .i64 v, .int .i64 x.op, .int .i64 x.n, .slice x.a x.l x.c] 38)) [⟨v, x⟩] (some ⟨w.heap.size, 0, none⟩) 1 1 := by
  refine ⟨rfl, by omega, by omega, .inr ⟨w.heap.size, 0, rfl, by simp, fun k hk => ?_⟩⟩
  have : k = 0 := by simp at hk; omega
  subst this
  exact ⟨⟨by go_cell, by go_cell, by go_cell, by go_cell⟩, (Liv.up h (bal _ _))⟩
theorem Bv.two {w : World} {x y : DT} (v u : Int) (h : Liv w x) (h2 : Liv w y) : Bv (w.alloc (.cells #[.int .i64 v, .int .i64 x.op, .int .i64 x.n, .slice x.a x.l x.c, .int .i64 u, .int .i64 y.op, .int .i64 y.n, .slice y.a y.l y.c] 38)) [(v, x.tm), (u, y.tm)] (some ⟨w.heap.size, 0, none⟩) 2 2 := by
  refine ⟨rfl, by omega, by omega, .inr ⟨w.heap.size, 0, rfl, by simp, fun k hk => ?_⟩⟩
  have h1' := Lies.isTm x (Liv.up h (bal w (.cells #[.int .i64 v, .int .i64 x.op, .int .i64 x.n, .slice x.a x.l x.c, .int .i64 u, .int .i64 y.op, .int .i64 y.n, .slice y.a y.l y.c] 38)))
  have h2' := Lies.isTm y (Liv.up h2 (bal w (.cells #[.int .i64 v, .int .i64 x.op, .int .i64 x.n, .slice x.a x.l x.c, .int .i64 u, .int .i64 y.op, .int .i64 y.n, .slice y.a y.l y.c] 38)))
  have : k = 0 ∨ k = 1 := by simp at hk; omega
  rcases this with rfl | rfl
  · exact ⟨by go_cell, x.a, x.l, x.c, ⟨by simp only [List.getElem_cons_zero, DT.tm_op]; go_cell, by simp only [List.getElem_cons_zero, DT.tm_n]; go_cell, by go_cell⟩, h1'⟩
  · exact ⟨by go_cell, y.a, y.l, y.c, ⟨by simp only [List.getElem_cons_succ, List.getElem_cons_zero, DT.tm_op]; go_cell, by simp only [List.getElem_cons_succ, List.getElem_cons_zero, DT.tm_n]; go_cell, by go_cell⟩, h2'⟩
theorem Iv.two (w : World) (v u : Int) : Iv (w.alloc (.cells #[.int .i64 v, .int .i64 u] 3)) [v, u] (some ⟨w.heap.size, 0, none⟩) 2 2 := by
  refine ⟨rfl, by omega, by omega, .inr ⟨w.heap.size, 0, rfl, by simp, fun k hk => ?_⟩⟩
  have : k = 0 ∨ k = 1 := by simp at hk; omega
  rcases this with rfl | rfl
  · go_cell
  · go_cell

theorem kSubst {w : World} {A B : Option Addr} (k1 k2 k3 k : Nat) (hS : Hid (SgV w A B)) (hL : Hid (Liv w (d3 k1 k2))) (hB : Hid (LbV w (b4 k) (some ⟨k3, 0, none⟩) 1 1)) :
    Calls Try.prog 8 #[.agg #[.slice A 6 6, .slice B 2 2], .agg #[.int .i64 8, .int .i64 0, .slice (some ⟨k2, 0, none⟩) 2 2], .slice (some ⟨k3, 0, none⟩) 1 1] w fun e w' => ∃ a l c, e = .returned (.tuple #[.agg #[.int .i64 8, .int .i64 3, .slice a l c], .int .i64 0]) ∧ Hid (Tv w' T4 a l c) ∧ Hid (Below w.heap.size w w') :=
  (Subst_any sgS (d3 k1 k2) (b4 k) T4 _ w A 6 6 B 2 2 _ 1 1 (by simp [DT.size, dsizes]) (by intro x hx; simp at hx; subst hx; simp [DT.size, dsizes]) (Nat.le_refl _) hS.out hL.out hB.out (fun _ _ => ⟨5, p4 k k1 k2⟩)).mono fun e w' ⟨a, l, c, he, hF, hb⟩ => by
    rw [s4] at he hF
    exact ⟨a, l, c, he, hF.is, hb⟩
theorem kOrder {w : World} {A B : Option Addr} (k1 k2 : Nat) (hS : Hid (SgV w A B)) (hL : Hid (Liv w (d5 k1 k2))) :
    Calls Try.prog 36 #[.agg #[.slice A 6 6, .slice B 2 2], .agg #[.int .i64 3, .int .i64 5, .slice (some ⟨k2, 0, none⟩) 2 2]] w fun e w' => ∃ a l c, e = .returned (.tuple #[.agg #[.int .i64 3, .int .i64 5, .slice a l c], .int .i64 0]) ∧ Hid (Tv w' T5 a l c) ∧ Hid (Below w.heap.size w w') :=
  (Order_any sgS (d5 k1 k2) _ w A 6 6 B 2 2 (by simp [DT.size, dsizes]) (Nat.le_refl _) hS.out hL.out).mono fun e w' ⟨a, l, c, he, hF, hb⟩ => by
    rw [o5] at he hF
    exact ⟨a, l, c, he, hF.is, hb⟩
theorem kMatch {w : World} {A B : Option Addr} (k1 k2 : Nat) (hS : Hid (SgV w A B)) (hL : Hid (Liv w (dP 3 5 k1 (dN 1 0) (dN 1 1)))) (hL2 : Hid (Liv w (dP 3 5 k2 (dN 3 2) (dN 3 4)))) :
    Calls Try.prog 11 #[.agg #[.slice A 6 6, .slice B 2 2], .agg #[.int .i64 3, .int .i64 5, .slice (some ⟨k1, 0, none⟩) 2 2], .agg #[.int .i64 3, .int .i64 5, .slice (some ⟨k2, 0, none⟩) 2 2]] w fun e w' => ∃ va vl vc, e = .returned (.tuple #[.slice va vl vc, .int .i64 0]) ∧ Hid (Bv w' [(0, tc 2), (1, tc 4)] va vl vc) ∧ Hid (Below w.heap.size w w') :=
  (Match_any sgS (dP 3 5 k1 (dN 1 0) (dN 1 1)) (dP 3 5 k2 (dN 3 2) (dN 3 4)) _ w A 6 6 B 2 2 (by simp [DT.size, dsizes]) (by simp [DT.size, dsizes]) (Nat.le_refl _) hS.out hL.out hL2.out).mono fun e w' ⟨a, l, c, he, hF, hb⟩ => by
    rw [m6] at he hF
    exact ⟨a, l, c, he, hF, hb⟩
theorem kUnify {w : World} {A B : Option Addr} (d x : DT) (L : List (Int × Tm)) (err : Int) (hs1 : 1 + d.size ≤ 1000000) (hs2 : 1 + x.size ≤ 1000000) (hS : Hid (SgV w A B)) (hL : Hid (Liv w d)) (hL2 : Hid (Liv w x)) (hv : checkV sgS [d, x] = true) (hA : UniAns d x L err) :
    Calls Try.prog 12 #[.agg #[.slice A 6 6, .slice B 2 2], .agg #[.int .i64 d.op, .int .i64 d.n, .slice d.a d.l d.c], .agg #[.int .i64 x.op, .int .i64 x.n, .slice x.a x.l x.c]] w fun e w' => ∃ va vl vc, e = .returned (.tuple #[.slice va vl vc, .int .i64 err]) ∧ Hid (Bv w' L va vl vc) ∧ Hid (Below w.heap.size w w') :=
  (Unify_any sgS d x _ w A 6 6 B 2 2 L err hs1 hs2 (Nat.le_refl _) hS.out hL.out hL2.out (fun _ => hA) (fun h => by rw [hv] at h; cases h)).mono fun e w' ⟨a, l, c, he, hF, hb⟩ => ⟨a, l, c, he, hF, hb⟩
theorem kCompare {w : World} {A B : Option Addr} (d x : DT) (v : Int) (hs1 : 1 + d.size ≤ 1000000) (hs2 : 1 + x.size ≤ 1000000) (hS : Hid (SgV w A B)) (hL : Hid (Liv w d)) (hL2 : Hid (Liv w x)) (hv : checkV sgS [d, x] = true) (hc : cmpT d.tm x.tm = v) :
    Calls Try.prog 37 #[.agg #[.slice A 6 6, .slice B 2 2], .agg #[.int .i64 d.op, .int .i64 d.n, .slice d.a d.l d.c], .agg #[.int .i64 x.op, .int .i64 x.n, .slice x.a x.l x.c]] w fun e w' => e = .returned (.tuple #[.int .i64 v, .int .i64 0]) ∧ Hid (Below w.heap.size w w') :=
  (Compare_any sgS d x _ w A 6 6 B 2 2 hs1 hs2 (Nat.le_refl _) hS.out hL.out hL2.out).mono fun e w' ⟨he, hb⟩ => by
    unfold cmpV at he
    rw [hv, if_pos rfl, hc] at he
    exact ⟨he, hb⟩
theorem kSmall {w : World} {t : Tm} {a : Option Addr} {l c : Nat} (h : Hid (Tv w t a l c)) (ht : decide (0 ≤ weigh t 50 14) = true) :
    Calls Try.prog 14 #[.agg #[.int .i64 t.op, .int .i64 t.n, .slice a l c]] w fun e w' => e = .returned (.bool true) ∧ Hid (Below w.heap.size w w') :=
  (Small_any t _ w a l c h.out (Nat.le_refl _)).mono fun e w' ⟨he, hb⟩ => ⟨by rw [he, ht], hb⟩
theorem kSame {w : World} {t : Tm} {a : Option Addr} {l c : Nat} (d : DT) (h : Hid (Tv w t a l c)) (hL : Hid (Liv w d)) (ht : sameB t d.tm = true) :
    Calls Try.prog 15 #[.agg #[.int .i64 t.op, .int .i64 t.n, .slice a l c], .agg #[.int .i64 d.op, .int .i64 d.n, .slice d.a d.l d.c]] w fun e w' => e = .returned (.bool true) ∧ Hid (Below w.heap.size w w') := by
  have := Same_any t.size t d.tm _ w a l c d.a d.l d.c (Nat.le_refl _) h.out (Lies.isTm d hL.out) (Nat.le_refl _)
  rw [DT.tm_op, DT.tm_n, ht] at this
  exact this.mono fun e w' ⟨he, hb⟩ => ⟨he, hb⟩
theorem kSmallBinds {w : World} {L : List (Int × Tm)} {a : Option Addr} {l c : Nat} (h : Hid (Bv w L a l c)) (ht : smallBs L = true) :
    Calls Try.prog 16 #[.slice a l c] w fun e w' => e = .returned (.bool true) ∧ Hid (Below w.heap.size w w') :=
  (SmallBinds_any L _ w a l c h.out (Nat.le_refl _)).mono fun e w' ⟨he, hb⟩ => ⟨by rw [he, ht], hb⟩
theorem kSameBinds {w : World} {L M : List (Int × Tm)} {a : Option Addr} {l c : Nat} {a2 : Option Addr} {l2 c2 : Nat} (h : Hid (Bv w L a l c)) (h2 : Hid (Bv w M a2 l2 c2)) (ht : sameBs L M = true) :
    Calls Try.prog 17 #[.slice a l c, .slice a2 l2 c2] w fun e w' => e = .returned (.bool true) ∧ Hid (Below w.heap.size w w') :=
  (SameBinds_any L M _ w a l c a2 l2 c2 h.out h2.out (Nat.le_refl _)).mono fun e w' ⟨he, hb⟩ => ⟨by rw [he, ht], hb⟩
theorem kSameInts {w : World} {L M : List Int} {a : Option Addr} {l c : Nat} {a2 : Option Addr} {l2 c2 : Nat} (h : Hid (Iv w L a l c)) (h2 : Hid (Iv w M a2 l2 c2)) (ht : L = M) :
    Calls Try.prog 38 #[.slice a l c, .slice a2 l2 c2] w fun e w' => e = .returned (.bool true) ∧ Hid (Below w.heap.size w w') :=
  (SameInts_any L M _ w a l c a2 l2 c2 h.out h2.out (Nat.le_refl _)).mono fun e w' ⟨he, hb⟩ => ⟨by rw [he, decide_eq_true ht], hb⟩

end Go.Proofs.Ythlegfegkopdkaa
