/- Own text, joined of: R6 R7. The reference's 'once' and 'Pattern': the models. · The reference's 'once', 'Pattern', 'Ground': the walks. -/
import Derived.Test.YthlegfegkopdkaaGreatMm31

namespace Go.Proofs.YthlegfegkopdkaaGreat
open Go.RowKit Go.Shelf Go.Sort

/-! Once -/
mutual
/-- The variables met, and whether each stood once; the walk ends at the first that does not. -/
def onceT : Tm → (Nat → Bool) → (Nat → Bool) × Bool
  | .mk op n ks, met => if op = 1 then (setB met n.toNat true, !met n.toNat) else onceKs ks met
def onceKs : List Tm → (Nat → Bool) → (Nat → Bool) × Bool
  | [], met => (met, true)
  | t :: ts, met => if (onceT t met).2 = true then onceKs ts (onceT t met).1 else (onceT t met)
end
theorem onceT_eq (t : Tm) (met : Nat → Bool) : onceT t met = if t.op = 1 then (setB met t.n.toNat true, !met t.n.toNat) else onceKs t.kids met := by cases t; rfl
theorem onceKs_take_succ : ∀ (ks : List Tm) (k : Nat) (h : k < ks.length) (met : Nat → Bool), (onceKs (ks.take k) met).2 = true → onceKs (ks.take (k + 1)) met = onceT ks[k] (onceKs (ks.take k) met).1
  | t :: ts, 0, _, met, _ => by
    simp only [List.take_succ_cons, List.take_zero, onceKs, List.getElem_cons_zero]
    split
    · next h => exact Prod.ext rfl h.symm
    · rfl
  | t :: ts, k + 1, h, met, hk => by
    simp only [List.take_succ_cons, List.getElem_cons_succ] at *
    rw [onceKs] at hk
    rw [onceKs]
    split at hk
    · next h1 =>
      rw [if_pos h1]
      have h2 := onceKs_take_succ ts k (by simpa using h) (onceT t met).1 hk
      rw [h2]
      congr 2
      rw [onceKs, if_pos h1]
    · next h1 => exact absurd hk h1
theorem onceKs_stop : ∀ (ks : List Tm) (k : Nat) (h : k < ks.length) (met : Nat → Bool), (onceKs (ks.take k) met).2 = true → (onceT ks[k] (onceKs (ks.take k) met).1).2 = false → onceKs ks met = onceT ks[k] (onceKs (ks.take k) met).1
  | t :: ts, 0, _, met, _, hf => by
    simp only [List.take_zero, onceKs, List.getElem_cons_zero] at *
    rw [if_neg (by rw [hf]; simp)]
  | t :: ts, k + 1, h, met, hk, hf => by
    simp only [List.take_succ_cons, List.getElem_cons_succ] at *
    rw [onceKs] at hk
    by_cases h1 : (onceT t met).2 = true
    · rw [if_pos h1] at hk
      have e : onceKs (t :: List.take k ts) met = onceKs (List.take k ts) (onceT t met).1 := by rw [onceKs, if_pos h1]
      rw [e] at hf ⊢
      rw [onceKs, if_pos h1]
      exact onceKs_stop ts k (by simpa using h) _ hk hf
    · rw [if_neg h1] at hk; exact absurd hk h1

/-! Pattern, as the program has it -/
mutual
theorem pat_once : ∀ (d : DT) (dep : Nat) (met : Nat → Bool), OkV d.tm → (patRun (d.pre dep) met = ((onceT d.tm met).2 && isSh d.tm)) ∧ (patRun (d.pre dep) met = true → metsOf (d.pre dep) met = (onceT d.tm met).1)
  | .mk op n a l c ks, dep, met, hO => by
    rw [DT.tm, OkV] at hO
    rw [DT.pre, DT.tm, onceT, isSh, patRun, metsOf]
    by_cases h1 : op = 1
    · subst h1
      have hk : tms ks = [] := hO.2.1 rfl
      have hks : ks = [] := by cases ks with | nil => rfl | cons d ds => rw [tms] at hk; cases hk
      subst hks
      simp [pres, patRun, metsOf, patOk, metN, isShs, tms, DT.op, DT.n]
    · rw [if_neg h1]
      obtain ⟨i1, i2⟩ := pats_once ks (dep + 1) met hO.2.2.2
      have e : metN met op n = met := by unfold metN; rw [if_neg h1]
      show (patOk met op n && patRun (pres ks (dep + 1)) (metN met op n)) = _ ∧ ((patOk met op n && patRun (pres ks (dep + 1)) (metN met op n)) = true → metsOf (pres ks (dep + 1)) (metN met op n) = _)
      rw [e, i1]
      have e2 : patOk met op n = (op == 1 || op == 3) := by
        have hb : (op == 1) = false := beq_eq_false_iff_ne.2 h1
        unfold patOk; rw [hb]; rfl
      rw [e2]
      constructor
      · cases (onceKs (tms ks) met).2 <;> cases isShs (tms ks) <;> cases (op == 1 || op == 3) <;> rfl
      · intro h
        rw [Bool.and_eq_true] at h
        exact i2 (by rw [i1]; exact h.2)
theorem pats_once : ∀ (ds : List DT) (dep : Nat) (met : Nat → Bool), OkVs (tms ds) → (patRun (pres ds dep) met = ((onceKs (tms ds) met).2 && isShs (tms ds))) ∧ (patRun (pres ds dep) met = true → metsOf (pres ds dep) met = (onceKs (tms ds) met).1)
  | [], dep, met, _ => by simp [pres, tms, onceKs, isShs, patRun, metsOf]
  | d :: ds, dep, met, hO => by
    rw [tms, OkVs] at hO
    rw [pres, tms, onceKs, isShs, patRun_append, metsOf_append]
    obtain ⟨i1, i2⟩ := pat_once d dep met hO.1
    cases hp : patRun (d.pre dep) met
    · rw [hp] at i1
      constructor
      · by_cases ho : (onceT d.tm met).2 = true
        · rw [if_pos ho]; rw [ho] at i1
          have : isSh d.tm = false := by simpa using i1.symm
          rw [this]; simp
        · rw [if_neg ho]; rw [Bool.not_eq_true] at ho; rw [ho]; simp
      · intro h; simp at h
    · rw [hp] at i1
      have h2 := i1.symm
      rw [Bool.and_eq_true] at h2
      rw [if_pos h2.1, i2 hp, h2.2]
      obtain ⟨j1, j2⟩ := pats_once ds dep (onceT d.tm met).1 hO.2
      constructor
      · rw [Bool.true_and, Bool.true_and]; exact j1
      · intro h; rw [Bool.true_and] at h; exact j2 h
end
theorem pattern_eq (d : DT) (h : OkV d.tm) : patternB d = ((onceT d.tm (fun _ => false)).2 && isSh d.tm) := (pat_once d 1 _ h).1

/-! Ground -/
theorem valOp_ne8 {op : Int} (h : valOp op = true) : op ≠ 8 := by rintro rfl; revert h; decide
mutual
theorem fv_ground : ∀ (t : Tm), OkV t → valueB t = true → ((∀ i, i < 20 → fvT t i = false) ↔ groundB t = true)
  | .mk op n ks, hO, hv => by
    rw [OkV] at hO
    unfold valueB at hv
    rw [allN, Bool.and_eq_true] at hv
    unfold groundB
    rw [allN, Bool.and_eq_true, fvT]
    rw [fvs_ground ks op n 0 _ (valOp_ne8 hv.1) hO.2.2.2 hv.2]
    refine and_congr ?_ Iff.rfl
    by_cases h1 : op = 1
    · constructor
      · intro h
        have h2 := hO.1 (.inl h1)
        have h3 := h n.toNat (by omega)
        simp [h1] at h3
        omega
      · intro h; simp [h1] at h
    · simp [h1]
theorem fvs_ground : ∀ (ks : List Tm) (op n : Int) (k : Nat) (acc : Nat → Bool), op ≠ 8 → OkVs ks → allNs (fun op _ => valOp op) ks = true → ((∀ i, i < 20 → fvKs op n ks k acc i = false) ↔ (∀ i, i < 20 → acc i = false) ∧ allNs (fun op _ => !(op == 1)) ks = true)
  | [], op, n, k, acc, _, _, _ => by simp [fvKs, allNs]
  | t :: ts, op, n, k, acc, h8, hO, hv => by
    rw [OkVs] at hO
    rw [allNs, Bool.and_eq_true] at hv
    rw [fvKs, if_neg (fun h => h8 h.1), fvs_ground ts op n (k + 1) _ h8 hO.2 hv.2, allNs, Bool.and_eq_true]
    have e := fv_ground t hO.1 hv.1
    unfold groundB at e
    rw [← e, ← and_assoc]
    refine and_congr ?_ Iff.rfl
    constructor
    · intro h
      exact ⟨fun i hi => by have := h i hi; unfold orSet at this; rw [Bool.or_eq_false_iff] at this; exact this.1, fun i hi => by have := h i hi; unfold orSet at this; rw [Bool.or_eq_false_iff] at this; exact this.2⟩
    · intro h i hi
      unfold orSet; rw [h.1 i hi, h.2 i hi]; rfl
end
theorem ground_nil {t : Tm} (hO : OkV t) (hv : valueB t = true) : (listTo (fvT t) 20).length = 0 ↔ groundB t = true := by
  rw [← fv_ground t hO hv, List.length_eq_zero_iff, List.eq_nil_iff_forall_not_mem]
  constructor
  · intro h i hi
    cases he : fvT t i
    · rfl
    · exact absurd (mem_listTo.2 ⟨hi, he⟩) (h i)
  · intro h i hm
    obtain ⟨h1, h2⟩ := mem_listTo.1 hm
    rw [h i h1] at h2; cases h2

end Go.Proofs.YthlegfegkopdkaaGreat

namespace Go.Proofs.YthlegfegkopdkaaGreat
open Go.RowKit Go.Shelf Go.Sort

def intsOf (l : List Nat) : List Int := l.map fun (x : Nat) => (x : Int)
theorem row_ints {w : World} {base : Nat} {v : Value} {l : List Nat} (h : w.ownsRow base 3 1 v l.length (natVals l)) : ∃ av cv, v = .slice av l.length cv ∧ IsInts w.heap.size w (intsOf l) av l.length cv := by
  obtain ⟨av, cv, h1, h2, h3, h4⟩ := owns_ints h
  refine ⟨av, cv, h1, by simp [intsOf], h2, by unfold maxLen at h3; omega, ?_⟩
  rcases h4.out with ⟨h5, _⟩ | ⟨g, h5, h6, h7, h8⟩
  · left; rw [h5]; rfl
  · refine .inr ⟨g, 0, h5, h7, fun k hk => ?_⟩
    rw [Nat.zero_add, h8 k (by simpa [intsOf] using hk)]
    simp [intsOf]
theorem mem_intsOf {f : Nat → Bool} {n : Nat} (h : n < 20) : decide ((n : Int) ∈ intsOf (listTo f 20)) = f n := by
  have e : (n : Int) ∈ intsOf (listTo f 20) ↔ n ∈ listTo f 20 := by
    unfold intsOf
    rw [List.mem_map]
    constructor
    · rintro ⟨x, hx, he⟩; have : x = n := by omega
      subst this; exact hx
    · intro h; exact ⟨n, h, rfl⟩
  cases hf : f n
  · rw [decide_eq_false_iff_not, e, mem_listTo]; simp [hf]
  · rw [decide_eq_true_eq, e, mem_listTo]; exact ⟨h, hf⟩
theorem has_row (f : Nat → Bool) {n : Nat} (hn : n < 20) {w : World} {base : Nat} {v : Value} (h : w.ownsRow base 3 1 v (listTo f 20).length (natVals (listTo f 20))) :
    Calls Tryz.prog 91 #[v, .int .i64 n] w fun e w' => e = .returned (.bool (f n)) ∧ w = w' := by
  obtain ⟨av, cv, rfl, hi⟩ := row_ints h
  have := has_any (intsOf (listTo f 20)) n w.heap.size w av _ cv hi
  rw [mem_intsOf hn] at this
  exact this

theorem wp_call2 {P : Program} {o : Oper} {a : Act} {w : World} {K : Act → World → Prop} {Q : Exit → Act → World → Prop} {x y : Operand} {f : FuncId} {ts : Array TypeId} {u v : Value} {d : Tmp}
    (ho : o.op = .call { callee := .value (.func f), args := #[x, y], argTypes := ts }) (hd : o.dst = some d) (hf : (callFunc f #[u, v]).run P w = .ok (.enter f #[u, v]) w) (hx : a.eval x = u) (hy : a.eval y = v)
    (h : Calls P f #[u, v] w fun e w' => ∃ r, e = .returned r ∧ K { tmps := a.tmps.setIfInBounds d r, defers := a.defers } w') : o.wp P a w K Q := by
  have e : (execOp a.eval o).run P w = .ok (.enter f #[u, v]) w := by
    unfold execOp
    unfold Act.eval at hx hy
    simp only [ho, resolve, invoke, Deferred.ofValue, Act.eval, Sem.run_bind, Sem.run_pure, Result.andThen_ok, List.map_toArray, List.map_cons, List.map_nil, hx, hy, Array.append_empty]
    exact hf
  unfold Oper.wp
  rw [e, Oper.upon_enter, hd]
  refine h.mono ?_
  rintro e w' ⟨r, rfl, hk⟩
  exact hk

set_option maxRecDepth 100000 in
set_option maxHeartbeats 4000000 in
theorem once_any (N : Nat) : ∀ (t : Tm) (f : Nat → Bool) (n₀ : Nat) (w : World) (a : Option Addr) (l c : Nat) (base : Nat) (v : Value), t.size ≤ N → IsTm n₀ w t a l c → OkV t → n₀ ≤ w.heap.size → w.ownsRow base 3 1 v (listTo f 20).length (natVals (listTo f 20)) → base ≤ w.heap.size →
    Calls Tryz.prog 60 #[.agg #[.int .i64 t.op, .int .i64 t.n, .slice a l c], v] w fun e w' => ∃ v', e = .returned (.tuple #[v', .bool (onceT t f).2]) ∧ w'.ownsRow base 3 1 v' (listTo (onceT t f).1 20).length (natVals (listTo (onceT t f).1 20)) ∧ Below w.heap.size w w' := by
  induction N with
  | zero => intro t _ _ _ _ _ _ _ _ h; have := size_pos t; omega
  | succ N ih =>
    intro t f n₀ w a l c base v hs ht hO hn hrow hbase
    replace ih := Lib.hid ih
    obtain ⟨rfl, hlc, hc, hk⟩ := ht.open
    obtain ⟨o1, o2, o3, o4⟩ := hO.open
    have hsz := Lib.hid (size_eq t)
    have hsb : sizes t.kids ≤ N := by have := hsz.out; omega
    have hv := Lib.hid (onceT_eq t f)
    replace o4 := Lib.hid o4
    by_cases h1 : t.op = 1
    · obtain ⟨n, hnn⟩ := Int.eq_ofNat_of_zero_le (o1 (.inl h1)).1
      have hn20 : n < 20 := by have := (o1 (.inl h1)).2; omega
      have hres : Hid (onceT t f = (setB f n true, !f n)) := Lib.hid (by
        rw [hv.out, if_pos h1, hnn]; rfl)
      have h1b : (t.op == 1) = true := by simp [h1]
      rw [hres.out]
      have hP := fun W (hW : Below w.heap.size w W) => rput_any f n hn20 W base v (ownsRow_up hrow hW (Nat.le_refl _)) (by have := hW.size; omega)
      have hH := fun W (hW : Below w.heap.size w W) => has_row f hn20 (ownsRow_up hrow hW (Nat.le_refl _))
      simp only [hnn] at *
      replace hP := Lib.hid hP
      replace hH := Lib.hid hH
      obtain ⟨p, hp⟩ : ∃ p, p = f n := ⟨_, rfl⟩
      rw [← hp] at hH
      rw [← hp]
      replace hp := Lib.hid hp
      clear o1 o2 o3 hk ht hO h1 hv hres hrow
      go_enter Tryz.func60, Tryz.ntmps60
      go_upto_region 2 with fail
      obtain ⟨w0, hw0⟩ : ∃ W, W = w.alloc (.cells #[.int .i64 t.op, .int .i64 n, .slice a t.kids.length c] 28) := ⟨_, rfl⟩
      have hbw : Hid (Below w.heap.size w w0) := Lib.hid (by rw [hw0]; exact bal _ _)
      have hbx : Hid (∀ W, Below w0.heap.size w0 W → W.cell? ⟨w.heap.size, 1, none⟩ = some (.int .i64 n)) := Lib.hid (fun W hW => by
        rw [hW.cell (by rw [hw0]; simp), hw0]; go_cell)
      rw [← hw0]
      clear hw0
      refine region_named (S := fun W' => Below w0.heap.size w0 W') (by kernel_rfl) (fun W hW => ?_)
      have hq : Hid (Below w0.heap.size w0 W) := Lib.hid (by rw [hW]; exact (Below.refl _ _).drew)
      clear hW
      refine takeH 0 11 v rfl rfl (by kernel_rfl) (by kernel_rfl) (by kernel_rfl) (fun _ _ _ h => h) (by rfl) (by intro W hSw; clear hSw; go_simp) hq.out ?_
      try simp only [List.setIfInBounds_toArray, List.set_cons_zero, List.set_cons_succ]
      refine takeH 1 12 (.pointer (some ⟨w.heap.size, 1, none⟩)) rfl rfl (by kernel_rfl) (by kernel_rfl) (by kernel_rfl) (fun _ _ _ h => h) (by rfl) (by intro W hSw; clear hSw; go_simp) hq.out ?_
      try simp only [List.setIfInBounds_toArray, List.set_cons_zero, List.set_cons_succ]
      refine takeH 2 13 (.int .i64 n) rfl rfl (by kernel_rfl) (by kernel_rfl) (by kernel_rfl) (fun _ _ _ h => h) (by rfl) (by intro W hSw; have j := hbx.out W hSw; clear hSw; go_simp) hq.out ?_
      try simp only [List.setIfInBounds_toArray, List.set_cons_zero, List.set_cons_succ]
      refine takeH 4 15 v rfl rfl (by kernel_rfl) (by kernel_rfl) (by kernel_rfl) (fun _ _ _ h => h) (by rfl) (by intro W hSw; clear hSw; go_simp) hq.out ?_
      try simp only [List.setIfInBounds_toArray, List.set_cons_zero, List.set_cons_succ]
      refine takeH 5 16 (.pointer (some ⟨w.heap.size, 1, none⟩)) rfl rfl (by kernel_rfl) (by kernel_rfl) (by kernel_rfl) (fun _ _ _ h => h) (by rfl) (by intro W hSw; clear hSw; go_simp) hq.out ?_
      try simp only [List.setIfInBounds_toArray, List.set_cons_zero, List.set_cons_succ]
      refine takeH 6 17 (.int .i64 n) rfl rfl (by kernel_rfl) (by kernel_rfl) (by kernel_rfl) (fun _ _ _ h => h) (by rfl) (by intro W hSw; have j := hbx.out W hSw; clear hSw; go_simp) hq.out ?_
      try simp only [List.setIfInBounds_toArray, List.set_cons_zero, List.set_cons_succ]
      refine wpAnyH_ready (rs := [3]) (by kernel_rfl) (by simp) ?_
      refine AllReadyH.cons rfl (fun K hKc => ?_) AllReadyH.nil
      rw [if_pos (by rfl)]
      refine wp_call2 (f := 62) (d := 14) rfl rfl (enters_of Tryz.func62 (by kernel_rfl) rfl _ _) rfl rfl ((hP.out _ (Below.up hbw.out hq.out)).mono ?_)
      rintro e W1 ⟨v1, rfl, hr1, hb1⟩
      refine ⟨_, rfl, ?_⟩
      replace hq := Lib.hid (Below.up hq.out hb1)
      replace hr1 := Lib.hid hr1
      clear hb1
      refine hKc _ _ hq.out (fun _ => ?_)
      clear hKc K
      try simp only [List.setIfInBounds_toArray, List.set_cons_zero, List.set_cons_succ]
      refine wpAnyH_ready (rs := [7]) (by kernel_rfl) (by simp) ?_
      refine AllReadyH.cons rfl (fun K hKc => ?_) AllReadyH.nil
      rw [if_pos (by rfl)]
      refine wp_call2 (f := 91) (d := 18) rfl rfl (enters_of Tryz.func91 (by kernel_rfl) rfl _ _) rfl rfl ((hH.out _ (Below.up hbw.out hq.out)).mono ?_)
      rintro e W2 ⟨rfl, rfl⟩
      refine ⟨_, rfl, ?_⟩
      refine hKc _ _ hq.out (fun _ => ?_)
      clear hKc K
      try simp only [List.setIfInBounds_toArray, List.set_cons_zero, List.set_cons_succ]
      refine takeH 8 19 (.bool (!p)) rfl rfl (by kernel_rfl) (by kernel_rfl) (by kernel_rfl) (fun _ _ _ h => h) (by rfl) (by intro W hSw; clear hSw; go_simp) hq.out ?_
      try simp only [List.setIfInBounds_toArray, List.set_cons_zero, List.set_cons_succ]
      refine takeH 9 4 v1 rfl rfl (by kernel_rfl) (by kernel_rfl) (by kernel_rfl) (fun _ _ _ h => h) (by rfl) (by intro W hSw; clear hSw; go_simp) hq.out ?_
      try simp only [List.setIfInBounds_toArray, List.set_cons_zero, List.set_cons_succ]
      refine takeH 10 5 (.bool (!p)) rfl rfl (by kernel_rfl) (by kernel_rfl) (by kernel_rfl) (fun _ _ _ h => h) (by rfl) (by intro W hSw; clear hSw; go_simp) hq.out ?_
      try simp only [List.setIfInBounds_toArray, List.set_cons_zero, List.set_cons_succ]
      refine wpAnyH_done (by kernel_rfl) ?_ _
      go_wp2_with fail
      refine bodyPost_ret (v := .tuple #[v1, .bool (!p)]) (by simp [results, Tryz.f60, go_sem]) rfl ⟨v1, rfl, hr1.out, Below.up hbw.out hq.out⟩
    · have h1b : (t.op == 1) = false := by simp [h1]
      have hres : Hid (onceT t f = onceKs t.kids f) := Lib.hid (by rw [hv.out, if_neg h1])
      clear o1 o2 o3 ht hO h1 hv
      replace hrow := Lib.hid hrow
      go_enter Tryz.func60, Tryz.ntmps60
      go_wp2_with fail
      go_loopw [1, 6, 7] (fun bv isv i wi => ∃ (k : Nat) (met : Nat → Bool) (b : Bool), k ≤ t.kids.length ∧ i = .int .i64 k ∧ isv = .bool b ∧ Hid (b = true → onceKs (t.kids.take k) f = (met, true)) ∧ Hid (b = false → onceKs t.kids f = (met, false)) ∧ Hid (wi.ownsRow base 3 1 bv (listTo met 20).length (natVals (listTo met 20))) ∧ Hid (Below (w.heap.size + 1) (w.alloc (.cells #[.int .i64 t.op, .int .i64 t.n, .slice a t.kids.length c] 28)) wi)) (fun _ _ i _ => t.kids.length - (intOf i).toNat)
      case atStart => exact ⟨0, f, true, by omega, rfl, rfl, Lib.hid (fun _ => by simp [onceKs]), Lib.hid (fun h => by cases h), Lib.hid (ownsRow_up hrow.out (bal _ _) (Nat.le_refl _)), Lib.hid (Below.refl _ _)⟩
      case round =>
        obtain ⟨k, met, b, hk1, rfl, rfl, hyes, hno, hown, hb⟩ := hrel
        clear hrow
        have hbw := Lib.hid (((Below.refl w.heap.size w).alloc (Nat.le_refl _) _).trans (hb.out.mono (Nat.le_succ _)))
        have hz := hb.out.size
        rw [World.size_alloc] at hz
        have b2 : wr.cell? ⟨w.heap.size, 2, none⟩ = some (.slice a t.kids.length c) := by rw [hb.out.cell (by simp)]; go_cell
        by_cases hlt : k < t.kids.length
        · cases b
          · have hfin : Hid (onceT t f = (met, false)) := Lib.hid (by rw [hres.out]; exact hno.out rfl)
            clear hyes hno hk
            go_wp2_with fail
            refine bodyPost_ret (v := .tuple #[u1, .bool false]) (by simp [results, Tryz.f60, go_sem]) rfl ⟨u1, by rw [hfin.out], by rw [hfin.out]; exact hown.out, hbw.out⟩
          · rcases hk with hk | ⟨bb, off, rfl, hbn, hks⟩
            · rw [hk] at hlt; simp at hlt
            obtain ⟨a', l', c', hc3, ht'⟩ := IsKids.get _ hks k hlt
            have hc3 := hc3.below (hbw.out.mono hn) hbn
            have ht' := (IsTm.below (hbw.out.mono hn) _ ht')
            obtain ⟨d0, d1, d2⟩ := hc3
            have hsk := size_kid t.kids k hlt
            have hS := Lib.hid (ih.out t.kids[k] met n₀ wr a' l' c' base u1 (by omega) ht' (OkVs_get _ k hlt o4.out) (by omega) hown.out (by omega))
            have hy1 := Lib.hid (hyes.out rfl)
            have hstep := Lib.hid (onceKs_take_succ t.kids k hlt f (by rw [hy1.out]))
            have hstop := Lib.hid (onceKs_stop t.kids k hlt f (by rw [hy1.out]))
            obtain ⟨R, hR⟩ : ∃ R, R = onceT t.kids[k] met := ⟨_, rfl⟩
            have hstep2 : Hid (onceKs (t.kids.take (k + 1)) f = R) := Lib.hid (by rw [hstep.out, hy1.out, hR])
            have hstop2 : Hid (R.2 = false → onceKs t.kids f = R) := Lib.hid (fun h => by
              have := hstop.out
              rw [hy1.out] at this
              rw [this (by rw [← hR]; exact h), hR])
            obtain ⟨met', b'⟩ := R
            rw [← hR] at hS
            clear hks ht' hR hstep hstop hyes hno hown hy1 hsk
            go_wp2_with (go_at_call 60; refine (hS.out).mono ?_; rintro e w1 ⟨v1, rfl, hrow1, hb1⟩)
            go_roundw
            case rel => exact ⟨k + 1, met', b', by omega, by go_num, rfl, Lib.hid (fun h => by subst h; exact hstep2.out), Lib.hid (fun h => by subst h; exact hstop2.out rfl), Lib.hid hrow1, Lib.hid (hb.out.trans (hb1.mono hz))⟩
            case measure => simp [intOf]; omega
        · have hke : Hid (k = t.kids.length) := Lib.hid (by omega)
          have hfin : Hid (onceT t f = (met, b)) := Lib.hid (by
            rw [hres.out]
            cases b
            · exact hno.out rfl
            · have := hyes.out rfl
              rw [hke.out, List.take_length] at this
              exact this)
          have q1 : ¬ (k : Int) < (t.kids.length : Int) := by omega
          clear hyes hno hk
          go_wp2_with fail
          refine bodyPost_ret (v := .tuple #[u1, .bool b]) (by simp [results, Tryz.f60, go_sem]) rfl ⟨u1, by rw [hfin.out], by rw [hfin.out]; exact hown.out, hbw.out⟩

set_option maxRecDepth 100000 in
set_option maxHeartbeats 1000000 in
/-- 'Pattern'. -/
theorem rPattern_any (t : Tm) (n₀ : Nat) (w : World) (a : Option Addr) (l c : Nat) (ht : IsTm n₀ w t a l c) (hO : OkV t) (hn : n₀ ≤ w.heap.size) :
    Calls Tryz.prog 22 #[.agg #[.int .i64 t.op, .int .i64 t.n, .slice a l c]] w fun e w' => e = .returned (.bool ((onceT t (fun _ => false)).2 && isSh t)) ∧ Below w.heap.size w w' := by
  obtain ⟨w0, hw0⟩ : ∃ W, W = w.alloc (.cells #[.int .i64 t.op, .int .i64 t.n, .slice a l c] 28) := ⟨_, rfl⟩
  have hb0 : Below w.heap.size w w0 := by rw [hw0]; exact bal _ _
  have hO1 := fun W (hW : Below w.heap.size w W) => once_any t.size t (fun _ => false) n₀ W a l c W.heap.size (.slice none 0 0) (Nat.le_refl _) (IsTm.below (hW.mono hn) _ ht) hO (by have := hW.size; omega) (World.ownsRow_nil _ _ _ _) (Nat.le_refl _)
  have hS1 := fun W (hW : Below w.heap.size w W) => shape_any t.size t n₀ W a l c (Nat.le_refl _) (IsTm.below (hW.mono hn) _ ht) (by have := hW.size; omega)
  have hbx : Hid (∀ W, Below w0.heap.size w0 W → W.cell? ⟨w.heap.size, 0, none⟩ = some (.int .i64 t.op) ∧ W.cell? ⟨w.heap.size, 1, none⟩ = some (.int .i64 t.n) ∧ W.cell? ⟨w.heap.size, 2, none⟩ = some (.slice a l c)) := Lib.hid (fun W hW => by
    have hz : w.heap.size < w0.heap.size := by rw [hw0]; simp
    refine ⟨?_, ?_, ?_⟩ <;> (rw [hW.cell hz, hw0]; go_cell))
  have hO2 := hO1 w0 hb0
  rw [hw0] at hO2
  have hbe : Hid (∀ W, Below (w.alloc (.cells #[.int .i64 t.op, .int .i64 t.n, .slice a l c] 28)).heap.size (w.alloc (.cells #[.int .i64 t.op, .int .i64 t.n, .slice a l c] 28)) W → Below w0.heap.size w0 W) := Lib.hid (fun W h => by rw [hw0]; exact h)
  obtain ⟨R, hR⟩ : ∃ R, R = onceT t (fun _ => false) := ⟨_, rfl⟩
  obtain ⟨q, hq⟩ : ∃ q, q = isSh t := ⟨_, rfl⟩
  rw [← hR] at hO2
  rw [← hq] at hS1
  rw [← hR, ← hq]
  replace hO2 := Lib.hid hO2
  replace hS1 := Lib.hid hS1
  replace hb0 := Lib.hid hb0
  obtain ⟨met, b⟩ := R
  clear hO1 hw0 hR hq ht hO
  cases b
  · go_enter Tryz.func22, Tryz.ntmps22
    go_wp2_with (go_at_call 60; refine (hO2.out).mono ?_; rintro e w1 ⟨v1, rfl, hr, hb1⟩; replace hb1 := Lib.hid (hbe.out _ hb1))
    go_ret
    exact ⟨rfl, Below.up hb0.out hb1.out⟩
  · go_enter Tryz.func22, Tryz.ntmps22
    go_upto_region 2 with (go_at_call 60; refine (hO2.out).mono ?_; rintro e w1 ⟨v1, rfl, hr, hb1⟩; replace hb1 := Lib.hid (hbe.out _ hb1))
    obtain ⟨b0, b1, b2⟩ := hbx.out _ hb1.out
    go_wp2_with (go_at_call 61; refine (hS1.out _ (Below.up hb0.out hb1.out)).mono ?_; rintro e w2 ⟨rfl, hb2⟩)
    go_ret
    exact ⟨rfl, Below.up hb0.out (Below.up hb1.out hb2)⟩

set_option maxRecDepth 100000 in
set_option maxHeartbeats 1000000 in
/-- 'Ground'. -/
theorem rGround_any (t : Tm) (n₀ : Nat) (w : World) (a : Option Addr) (l c : Nat) (ht : IsTm n₀ w t a l c) (hO : OkV t) (hn : n₀ ≤ w.heap.size) :
    Calls Tryz.prog 21 #[.agg #[.int .i64 t.op, .int .i64 t.n, .slice a l c]] w fun e w' => e = .returned (.bool (decide ((listTo (fvT t) 20).length = 0))) ∧ Below w.heap.size w w' := by
  have hb0 : Below w.heap.size w (w.alloc (.cells #[.int .i64 t.op, .int .i64 t.n, .slice a l c] 28)) := bal _ _
  have hV := rVars_any t.size t n₀ (w.alloc (.cells #[.int .i64 t.op, .int .i64 t.n, .slice a l c] 28)) a l c (Nat.le_refl _) (IsTm.below (hb0.mono hn) _ ht) hO (by simp; omega)
  obtain ⟨L, hL⟩ : ∃ L, L = listTo (fvT t) 20 := ⟨_, rfl⟩
  rw [← hL] at hV
  rw [← hL]
  replace hV := Lib.hid hV
  replace hb0 := Lib.hid hb0
  clear ht hO hL
  go_enter Tryz.func21, Tryz.ntmps21
  go_wp2_with (go_at_call 24; refine (hV.out).mono ?_; rintro e w1 ⟨v1, rfl, hr, hb1⟩; obtain ⟨av, cv, rfl, hcv, hel⟩ := ints_row hr)
  go_ret
  refine ⟨?_, Below.up hb0.out hb1⟩
  have e : ((L.length : Int) == 0) = decide (L.length = 0) := by rw [Bool.eq_iff_iff]; simp
  rw [← e]
  rfl

end Go.Proofs.YthlegfegkopdkaaGreat
