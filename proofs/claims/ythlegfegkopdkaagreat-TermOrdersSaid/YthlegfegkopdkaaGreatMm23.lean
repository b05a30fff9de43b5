/- Own text, joined of: S4 S5 S6 M3 L1 L2. 'leastOutside', 'catches'. · 'put': the plain side; a variable, a node. · 'putLet'. · 'Match'. · 'all' over bindings, 'listFormed'. · 'listFormed'. -/
import Derived.Test.YthlegfegkopdkaaGreatMm22

namespace Go.Proofs.YthlegfegkopdkaaGreat
open Go.RowKit Go.Shelf

def leastN (f : Nat → Bool) : Option Nat := (List.range 20).find? fun v => !f v
theorem leastN_at {f : Nat → Bool} {k : Nat} (hk : k < 20) (hb : ∀ j, j < k → f j = true) (hf : f k = false) : leastN f = some k := by
  unfold leastN
  rw [List.find?_eq_some_iff_append]
  refine ⟨by simp [hf], List.range k, (List.range' (k + 1) (19 - k)), ?_, fun a ha => by simp [hb a (List.mem_range.1 ha)]⟩
  rw [List.range_eq_range', List.range_eq_range', show (20 : Nat) = k + (1 + (19 - k)) by omega, ← List.range'_append, ← List.range'_append]
  simp
theorem leastN_lt {f : Nat → Bool} {v : Nat} (h : leastN f = some v) : v < 20 := by
  unfold leastN at h
  exact List.mem_range.1 (List.mem_of_find?_eq_some h)
theorem leastN_none {f : Nat → Bool} (hb : ∀ j, j < 20 → f j = true) : leastN f = none := by
  unfold leastN
  rw [List.find?_eq_none]
  intro x hx
  simp [hb x (List.mem_range.1 hx)]

set_option maxRecDepth 100000 in
set_option maxHeartbeats 1000000 in
theorem leastOutside_any (f : Nat → Bool) (v : Nat) (w : World) (hv : leastN f = some v) :
    Calls Tryz.prog 143 #[.agg (vs f)] w fun e w' => e = .returned (.int .i64 (v : Nat)) ∧ Below w.heap.size w w' := by
  have hB0 : Below w.heap.size w (w.alloc (.cells (vs f) 79)) := (Below.refl _ _).alloc (Nat.le_refl _) _
  have hc := fun k (hk : k < 20) => vs_get f hk
  replace hv := Lib.hid hv
  replace hc := Lib.hid hc
  go_enter Tryz.func143, Tryz.ntmps143
  go_wp2_with fail
  go_loop [3, 4] (fun _ i => ∃ k : Nat, k ≤ 20 ∧ i = .int .i64 k ∧ Hid (∀ j, j < k → f j = true)) (fun _ i => 20 - (intOf i).toNat)
  case atStart => exact ⟨0, by omega, rfl, fun j hj => by omega⟩
  case round =>
    obtain ⟨k, hk, rfl, hI⟩ := hrel
    by_cases hlt : k < 20
    · have o1 : (k : Int) < 20 := by omega
      have c1 := hc.out k hlt
      cases hf : f k
      · rw [hf] at c1
        have hr := leastN_at hlt hI.out hf
        rw [hv.out] at hr
        simp only [Option.some.injEq] at hr
        subst hr
        replace hf := Lib.hid hf
        go_wp2_with fail
        go_ret
        exact ⟨rfl, hB0⟩
      · rw [hf] at c1
        have hI' : Hid (∀ j, j < k + 1 → f j = true) := fun j hj => by
          by_cases e : j = k
          · subst e; exact hf
          · exact hI.out j (by omega)
        replace hf := Lib.hid hf
        go_wp2_with fail
        go_round
        case rel => exact ⟨k + 1, by omega, by go_num, hI'⟩
        case measure => simp [intOf]; omega
    · have : k = 20 := by omega
      subst this
      have := leastN_none hI.out
      rw [hv.out] at this
      cases this

def catchB (F : Int → Option DT) (g : Nat → Bool) (own : Nat) (t : Tm) : Bool := (listTo (fvT t) 20).any fun v => (findD F g v).2 && fvT (findD F g v).1.tm own

theorem findD_some {F : Int → Option DT} {g : Nat → Bool} {u : Nat} (h : (findD F g u).2 = true) : F (u : Int) = some (findD F g u).1 := by
  unfold findD at h ⊢
  cases hF : F (u : Int) with
  | none => rw [hF] at h; cases h
  | some d => rfl
theorem any_take_succ {α : Type} (l : List α) (p : α → Bool) (k : Nat) (h : k < l.length) : (l.take (k + 1)).any p = ((l.take k).any p || p l[k]) := by
  rw [List.take_succ_eq_append_getElem h, List.any_append]; simp

set_option maxRecDepth 100000 in
set_option maxHeartbeats 1000000 in
theorem catches_any (w : World) (bm nb n₀ : Nat) (F : Int → Option DT) (f g : Nat → Bool) (own : Nat) (d : DT) (ho : own < 20) (hm : TMap w bm nb F) (hE : Els (fun y => Lies n₀ w y ∧ OkV y.tm) F) (hn : n₀ ≤ w.heap.size) (hL : Lies n₀ w d) (hO : OkV d.tm) :
    Calls Tryz.prog 142 #[.agg (psA bm f g), .int .i64 (own : Nat), dv d] w fun e w' => e = .returned (.bool (catchB F g own d.tm)) ∧ Below w.heap.size w w' := by
  obtain ⟨w0, hw0⟩ : ∃ w0, w0 = (w.alloc (.cells (psA bm f g) 125)).alloc (bx d) := ⟨_, rfl⟩
  have hp0 : PsAt w0 w.heap.size bm f g := by rw [hw0]; exact heap_old (heap_alloc_new w _)
  have hz0 : w0.heap.size = w.heap.size + 1 + 1 := by rw [hw0]; simp
  have hB0 : Below w.heap.size w w0 := by rw [hw0]; go_grown
  have hFr := freeVars_any d.size d n₀ w0 (Nat.le_refl _) (by omega) (hL.below (hB0.mono hn)) hO
  have hLs := fun W => list_any (fvT d.tm) W
  have hFd := fun (v : Nat) (hv : v < 20) (W : World) (hb : Below w.heap.size w W) => find_any W bm nb F f g v hv (hm.same (hb.block _ hm.lt))
  have hix : ∀ (G : Nat → Bool) (W : World), (Instr.index 79 (.agg (vs G)) (.int .i64 (own : Nat))).run Tryz.prog W = .ok (.bool (G own)) W := fun G W => by
    have h1 : (vs G)[own]? = some (.bool (G own)) := vs_get G ho
    have hn : 0 ≤ ((own : Nat) : Int) ∧ ((own : Nat) : Int) < (20 : Nat) := by omega
    simp [Instr.index, run_underlying u79, asIntOf, hn, go_sem]
    rw [if_pos ho, h1]; rfl
  have hvars : ∀ v, v ∈ listTo (fvT d.tm) 20 → v < 20 := fun v hv => by
    unfold listTo at hv; exact List.mem_range.1 (List.mem_filter.1 hv).1
  have hcb : catchB F g own d.tm = (listTo (fvT d.tm) 20).any (fun v => (findD F g v).2 && fvT (findD F g v).1.tm own) := rfl
  obtain ⟨G, hG⟩ : ∃ G, G = fvT d.tm := ⟨_, rfl⟩
  rw [← hG] at hFr hLs hvars hcb
  obtain ⟨L, hLL⟩ : ∃ L, L = listTo G 20 := ⟨_, rfl⟩
  have hlen : L.length ≤ 20 := by rw [hLL]; exact listTo_len _ _
  rw [← hLL] at hLs hvars hcb
  rw [hw0] at hFr
  replace hFr := Lib.hid hFr
  replace hLs := Lib.hid hLs
  replace hFd := Lib.hid hFd
  replace hE := Lib.hid hE
  replace hvars := Lib.hid hvars
  replace hcb := Lib.hid hcb
  replace hm := Lib.hid hm
  clear hG hLL hL hO
  go_enter Tryz.func142, Tryz.ntmps142
  go_wp2_with fail
  refine (hFr.out).mono ?_
  rintro e w1 ⟨rfl, hB1⟩
  rw [← hw0] at hB1
  have hp1 : PsAt w1 w.heap.size bm f g := (hB1.block _ (by omega)).trans hp0
  have hb1 := hB0.trans (hB1.mono (by omega))
  replace hB1 := Lib.hid hB1
  replace hw0 := Lib.hid hw0
  go_wp2_with fail
  refine (hLs.out _).mono ?_
  rintro e w2 ⟨v, rfl, hown, hnil, hB2⟩
  have hp2 : PsAt w2 w.heap.size bm f g := (hB2.block _ hp1.lt).trans hp1
  have hb2 := hb1.trans (hB2.mono hb1.size)
  obtain ⟨va, vl, vc, rfl, hvl, hcells⟩ : ∃ va vl vc, v = .slice va vl vc ∧ vl = L.length ∧ ∀ k (h : k < L.length), ∃ bq, va = some ⟨bq, 0, none⟩ ∧ w2.cell? ⟨bq, k, none⟩ = some (.int .i64 (L[k] : Nat)) := by
    rcases hown.2 with ⟨hv, h0⟩ | ⟨q, cap, cur, hv, _⟩
    · exact ⟨none, 0, 0, hv, h0.symm, fun k h => by omega⟩
    · subst hv
      refine ⟨some ⟨q, 0, none⟩, _, cap, rfl, rfl, fun k h => ⟨q, rfl, ?_⟩⟩
      refine (own_cells hown).1 k _ ?_
      unfold natVals
      rw [List.getElem?_map, List.getElem?_eq_getElem h]; rfl
  replace hcells := Lib.hid hcells
  replace hp1 := Lib.hid hp1
  replace hp2 := Lib.hid hp2
  replace hb1 := Lib.hid hb1
  replace hb2 := Lib.hid hb2
  replace hB2 := Lib.hid hB2
  subst hvl
  clear hown hnil
  go_wp2_with fail
  go_loopw [8, 9, 10, 15] (fun _ _ _ i wr => ∃ k : Nat, k ≤ L.length ∧ i = .int .i64 k ∧ Hid ((L.take k).any (fun v => (findD F g v).2 && fvT (findD F g v).1.tm own) = false) ∧ Below w2.heap.size w2 wr) (fun _ _ _ i _ => L.length - (intOf i).toNat)
  case atStart => exact ⟨0, by omega, rfl, rfl, Below.refl _ _⟩
  case round =>
    obtain ⟨k, hk, rfl, hno, hb⟩ := hrel
    have hz := hb.size
    by_cases hlt : k < L.length
    · have o1 : (k : Int) < (L.length : Int) := by omega
      obtain ⟨bq, rfl, hcl⟩ := hcells.out k hlt
      have hcl' := hb.cell (p := ⟨bq, k, none⟩) (lt_cell hcl)
      rw [hcl] at hcl'
      have hv20 := hvars.out L[k] (List.getElem_mem hlt)
      have hpr : PsAt wr w.heap.size bm f g := (hb.block _ hp2.out.lt).trans hp2.out
      have hbr := hb2.out.trans (hb.mono hb2.out.size)
      have hC := hFd.out L[k] hv20 wr hbr
      have hst := any_take_succ L (fun v => (findD F g v).2 && fvT (findD F g v).1.tm own) k hlt
      rw [hno.out, Bool.false_or] at hst
      obtain ⟨u, hu⟩ : ∃ u : Nat, u = L[k] := ⟨_, rfl⟩
      rw [← hu] at hcl' hC hst hv20
      obtain ⟨y, hy⟩ : ∃ y, y = findD F g u := ⟨_, rfl⟩
      rw [← hy] at hC hst
      replace hC := Lib.hid hC
      replace hpr := Lib.hid hpr
      replace hbr := Lib.hid hbr
      replace hu := Lib.hid hu
      clear hcl
      go_upto_region 4 with fail
      go_wp2_with (first | refine load_ps (.tmp 3) hpr.out rfl rfl rfl ?_)
      refine (hC.out).mono ?_
      rintro e w3 ⟨rfl, hB3⟩
      have hz3 := hB3.size
      obtain ⟨wb, hwb⟩ : ∃ wb, wb = w3.alloc (bx y.1) := ⟨_, rfl⟩
      have hBb : Below w2.heap.size w2 wb := by rw [hwb]; exact (hb.trans (hB3.mono hz)).alloc (by omega) _
      cases hy2 : y.2
      · rw [hy2, Bool.false_and] at hst
        replace hst := Lib.hid hst
        rw [hwb] at hBb
        replace hwb := Lib.hid hwb
        replace hB3 := Lib.hid hB3
        replace hy := Lib.hid hy
        replace hy2 := Lib.hid hy2
        go_wp2_with fail
        go_roundw
        case rel => exact ⟨k + 1, by omega, by go_num, hst, hBb⟩
        case measure => simp [intOf]; omega
      · rw [hy2, Bool.true_and] at hst
        have hFy : F (u : Int) = some y.1 := by rw [hy] at hy2 ⊢; exact findD_some hy2
        obtain ⟨hLy, hOy⟩ := hE.out _ _ hFy
        have hbw : Below w.heap.size w wb := hb2.out.trans (hBb.mono hb2.out.size)
        have hFv := freeVars_any y.1.size y.1 n₀ wb (Nat.le_refl _) (by have := hbw.size; omega) (hLy.below (hbw.mono hn)) hOy
        have hix1 := fun W => hix (fvT y.1.tm) W
        obtain ⟨H, hH⟩ : ∃ H, H = fvT y.1.tm := ⟨_, rfl⟩
        rw [← hH] at hFv hix1 hst
        obtain ⟨r, hr⟩ : ∃ r, r = H own := ⟨_, rfl⟩
        rw [← hr] at hix1 hst
        rw [hwb] at hBb hFv
        replace hwb := Lib.hid hwb
        replace hB3 := Lib.hid hB3
        replace hy := Lib.hid hy
        replace hy2 := Lib.hid hy2
        replace hH := Lib.hid hH
        replace hr := Lib.hid hr
        replace hFv := Lib.hid hFv
        replace hbw := Lib.hid hbw
        clear hix hFy hLy hOy
        cases r
        · replace hst := Lib.hid hst
          go_wp2_with fail
          refine (hFv.out).mono ?_
          rintro e w4 ⟨rfl, hB4⟩
          replace hB4 := Lib.hid hB4
          go_wp2_with fail
          go_roundw
          case rel => exact ⟨k + 1, by omega, by go_num, hst, hBb.trans (hB4.out.mono (by have := hBb.size; simp at this ⊢; omega))⟩
          case measure => simp [intOf]; omega
        · have hfin : Hid (catchB F g own d.tm = true) := by
            rw [hcb.out]
            have : (L.take (k + 1)).any (fun v => (findD F g v).2 && fvT (findD F g v).1.tm own) = true := hst
            rw [List.any_eq_true] at this ⊢
            obtain ⟨z, hz1, hz2⟩ := this
            exact ⟨z, List.mem_of_mem_take hz1, hz2⟩
          replace hst := Lib.hid hst
          go_wp2_with fail
          refine (hFv.out).mono ?_
          rintro e w4 ⟨rfl, hB4⟩
          replace hB4 := Lib.hid hB4
          go_wp2_with fail
          go_ret
          exact ⟨by rw [hfin.out]; rfl, hb2.out.trans ((hBb.trans (hB4.out.mono (by have := hBb.size; simp at this ⊢; omega))).mono hb2.out.size)⟩
    · have : k = L.length := by omega
      subst this
      rw [List.take_length] at hno
      go_wp2_with fail
      go_ret
      exact ⟨by rw [hcb.out, hno.out]; rfl, hb2.out.trans (hb.mono hb2.out.size)⟩

end Go.Proofs.YthlegfegkopdkaaGreat

namespace Go.Proofs.YthlegfegkopdkaaGreat
open Go.RowKit Go.Shelf

/-- What 'put' makes of a term; none: it gives up, as all variables are taken. -/
def putF (F : Int → Option DT) (st : Nat → Bool) : Nat → (Nat → Bool) → Tm → Option Tm
  | 0, _, _ => none
  | N + 1, g, .mk op n ks =>
    if op = 1 then some (if (findD F g n.toNat).2 = true then (findD F g n.toNat).1.tm else .mk op n [])
    else if op = 8 then
      match ks with
      | [a, b] =>
        if catchB F (setB g n.toNat true) n.toNat b = true then
          match leastN (orSet (stT (.mk op n ks) (fun _ => false)) st) with
          | none => none
          | some m => (putF F st N g a).bind fun a' => (putF F st N (setB g m true) (renT n m b)).map fun b' => .mk 8 m [a', b']
        else (putF F st N g a).bind fun a' => (putF F st N (setB g n.toNat true) b).map fun b' => .mk 8 n [a', b']
      | _ => none
    else (ks.mapM (putF F st N g)).map fun ts => .mk op n ts

theorem putF_var (F : Int → Option DT) (st : Nat → Bool) (N : Nat) (g : Nat → Bool) (op n : Int) (ks : List Tm) (h : op = 1) : putF F st (N + 1) g (.mk op n ks) = some (if (findD F g n.toNat).2 = true then (findD F g n.toNat).1.tm else .mk op n []) := by
  subst h; unfold putF; rw [if_pos rfl]
theorem putF_node (F : Int → Option DT) (st : Nat → Bool) (N : Nat) (g : Nat → Bool) (op n : Int) (ks : List Tm) (h1 : op ≠ 1) (h8 : op ≠ 8) : putF F st (N + 1) g (.mk op n ks) = (ks.mapM (putF F st N g)).map fun ts => .mk op n ts := by
  unfold putF; rw [if_neg h1, if_neg h8]
theorem putF_let (F : Int → Option DT) (st : Nat → Bool) (N : Nat) (g : Nat → Bool) (n : Int) (a b : Tm) : putF F st (N + 1) g (.mk 8 n [a, b]) = if catchB F (setB g n.toNat true) n.toNat b = true then
          match leastN (orSet (stT (.mk 8 n [a, b]) (fun _ => false)) st) with
          | none => none
          | some m => (putF F st N g a).bind fun a' => (putF F st N (setB g m true) (renT n m b)).map fun b' => .mk 8 m [a', b']
        else (putF F st N g a).bind fun a' => (putF F st N (setB g n.toNat true) b).map fun b' => .mk 8 n [a', b'] := by
  rw [putF, if_neg (by omega), if_pos rfl]

theorem mapM_some {α β : Type} {f : α → Option β} : ∀ {l : List α} {r : List β}, l.mapM f = some r → r.length = l.length ∧ ∀ k (h : k < l.length) (h' : k < r.length), f l[k] = some r[k]
  | [], r, h => by simp at h; subst h; exact ⟨rfl, fun k h => by simp at h⟩
  | a :: l, r, h => by
    rw [List.mapM_cons] at h
    cases ha : f a with
    | none => rw [ha] at h; cases h
    | some x =>
      rw [ha] at h
      cases hl : l.mapM f with
      | none => simp [hl] at h
      | some s =>
        simp [hl] at h
        subst h
        obtain ⟨h1, h2⟩ := mapM_some hl
        refine ⟨by simp [h1], fun k hk hk' => ?_⟩
        cases k with
        | zero => exact ha
        | succ k => exact h2 k (by simpa using hk) (by simpa using hk')

def PutOk (n₀ : Nat) (w : World) (F : Int → Option DT) : Prop := Els (fun y => (Lies n₀ w y ∧ OkV y.tm) ∧ y.size ≤ 1000000) F
theorem PutOk.below {n₀ : Nat} {w w' : World} {F : Int → Option DT} (h : PutOk n₀ w F) (hb : Below n₀ w w') : PutOk n₀ w' F := fun i d hd => ⟨⟨((h i d hd).1.1).below hb, (h i d hd).1.2⟩, (h i d hd).2⟩
theorem PutOk.wider {n₀ n₁ : Nat} {w : World} {F : Int → Option DT} (h : PutOk n₀ w F) (hn : n₀ ≤ n₁) : PutOk n₁ w F := fun i d hd => ⟨⟨((h i d hd).1.1).wider hn, (h i d hd).1.2⟩, (h i d hd).2⟩

def PutSpec (F : Int → Option DT) (st : Nat → Bool) (bm nb : Nat) (N : Nat) : Prop := ∀ (d : DT) (n₀ : Nat) (w : World) (g : Nat → Bool) (T : Tm), putF F st N g d.tm = some T → Lies n₀ w d → n₀ ≤ w.heap.size → 1 + d.size ≤ 1000000 → OkV d.tm → TMap w bm nb F → PutOk n₀ w F →
  Calls Tryz.prog 97 #[.agg (psA bm st g), dv d] w (Makes noR w T (fun _ => True))
def PutLetSpec (F : Int → Option DT) (st : Nat → Bool) (bm nb : Nat) (N : Nat) : Prop := ∀ (d : DT) (n₀ : Nat) (w : World) (g : Nat → Bool) (T : Tm), putF F st N g d.tm = some T → d.op = 8 → Lies n₀ w d → n₀ ≤ w.heap.size → 1 + d.size ≤ 1000000 → OkV d.tm → TMap w bm nb F → PutOk n₀ w F →
  Calls Tryz.prog 120 #[.agg (psA bm st g), dv d] w (Makes noR w T (fun _ => True))

abbrev put0 (w : World) (bm : Nat) (st g : Nat → Bool) (d : DT) : World := ((w.alloc (.cells (psA bm st g) 125)).alloc (bx d)).alloc zer3
theorem put0_facts (w : World) (bm : Nat) (st g : Nat → Bool) (d : DT) : PsAt (put0 w bm st g d) w.heap.size bm st g ∧ (put0 w bm st g d).heap[w.heap.size + 1]? = some (bx d) ∧
    (put0 w bm st g d).heap[w.heap.size + 1 + 1]? = some zer3 ∧ (put0 w bm st g d).heap.size = w.heap.size + 3 ∧ Below w.heap.size w (put0 w bm st g d) :=
  ⟨heap_old (heap_old (heap_new' _ rfl)), heap_old (heap_new' _ (by simp)), heap_new' _ (by simp), by simp, by go_grown⟩

set_option maxRecDepth 100000 in
set_option maxHeartbeats 1000000 in
theorem put_node (F : Int → Option DT) (st : Nat → Bool) (bm nb N : Nat) (ih : PutSpec F st bm nb N) (d : DT) (n₀ : Nat) (w : World) (g : Nat → Bool) (T : Tm) (hT : putF F st (N + 1) g d.tm = some T) (hL : Lies n₀ w d) (hn : n₀ ≤ w.heap.size) (hsz : 1 + d.size ≤ 1000000) (hO : OkV d.tm) (hm : TMap w bm nb F) (hE : PutOk n₀ w F)
    (h1 : d.op ≠ 1) (h8 : d.op ≠ 8) : Calls Tryz.prog 97 #[.agg (psA bm st g), dv d] w (Makes noR w T (fun _ => True)) := by
  obtain ⟨f1, f2, f3, f4, f5⟩ := put0_facts w bm st g d
  have hds := dsize_eq d
  have hL0 := hL.below (f5.mono hn)
  have hlen : d.kids.length ≤ dsizes d.kids := by
    have h1 := length_le_sizes (tms d.kids); rw [sizes_tms, tms_map, List.length_map] at h1; exact h1
  have hOk : OkVs d.tm.kids := hO.open.2.2.2
  obtain ⟨ts, hts, rfl⟩ : ∃ ts, d.tm.kids.mapM (putF F st N g) = some ts ∧ T = .mk d.op d.n ts := by
    rw [show d.tm = .mk d.op d.n d.tm.kids by cases d; simp [DT.tm, DT.op, DT.n, Tm.kids], putF_node _ _ _ _ _ _ _ h1 h8] at hT
    cases hq : d.tm.kids.mapM (putF F st N g) with
    | none => rw [hq] at hT; cases hT
    | some ts => rw [hq] at hT; simp at hT; exact ⟨ts, rfl, hT.symm⟩
  obtain ⟨hl1, hl2⟩ := mapM_some hts
  have hkl : d.tm.kids.length = d.kids.length := by rw [DT.tm_kids, List.length_map]
  have hC := rebuild_any d 97 #[.agg (psA bm st g)] #[] (enters_of Tryz.func97 (by kernel_rfl) rfl) noR (fun k => ts.getD k (.mk 0 0 [])) (fun _ W => Below (put0 w bm st g d).heap.size (put0 w bm st g d) W) n₀ (put0 w bm st g d) (by omega) (by omega) hL0 (fun _ h => h.elim)
    (fun k W W' hI hBl => hI.trans hBl)
    (fun k hk W hI hT => by
      have hsk := dsize_kid d.kids k hk
      have hkt : k < d.tm.kids.length := by omega
      have hke : d.tm.kids[k] = d.kids[k].tm := by simp only [DT.tm_kids, List.getElem_map]
      have hOkk : OkV d.kids[k].tm := by rw [← hke]; exact OkVs_get _ k hkt hOk
      have hq := hl2 k hkt (by omega)
      rw [hke] at hq
      have hbw : Below w.heap.size w W := f5.trans (hI.mono (by omega))
      have hgd : ts.getD k (.mk 0 0 []) = ts[k]'(by omega) := by rw [List.getD_eq_getElem?_getD, List.getElem?_eq_getElem (by omega)]; rfl
      refine (ih d.kids[k] n₀ W g _ hq ((hL0.kids_lie _ (List.getElem_mem hk)).below (hI.mono (by omega))) (by have := hI.size; omega) (by omega) hOkk (hm.same (hbw.block _ hm.lt)) (hE.below (hbw.mono hn))).mono ?_
      rintro e W' ⟨a, l, c, rfl, hF, -, hT'⟩
      rw [hgd]
      exact ⟨a, l, c, rfl, hF, hI.trans (hT'.b0.mono hI.size), hT'⟩)
    (Below.refl _ _)
  have hmap : (List.range d.kids.length).map (fun k => ts.getD k (.mk 0 0 [])) = ts := by
    apply List.ext_getElem
    · simp; omega
    · intro i hi1 hi2
      simp only [List.getElem_map, List.getElem_range]
      rw [List.getD_eq_getElem?_getD, List.getElem?_eq_getElem hi2]; rfl
  rw [hmap] at hC
  obtain ⟨T, hT0⟩ : ∃ T, T = Tm.mk d.op d.n ts := ⟨_, rfl⟩
  rw [← hT0] at hC ⊢
  have e1 : (d.op == 1) = false := by simpa using h1
  have e8 : (d.op == 8) = false := by simpa using h8
  replace hT0 := Lib.hid hT0
  replace hC := Lib.hid hC
  replace f1 := Lib.hid f1
  replace f3 := Lib.hid f3
  replace f5 := Lib.hid f5
  clear f2 ih hL hL0 hO hOk hlen hm hE hT hts hl1 hl2 hkl hmap h1 h8 hds
  go_enter Tryz.func97, Tryz.ntmps97
  go_upto_region 8 with fail
  go_wp2_with (first | refine load_ps (.tmp 2) f1.out rfl rfl rfl ?_)
  refine (hC.out).mono ?_
  rintro e w1 ⟨a, l, c, rfl, hF, -, hT⟩
  have hr1 := (hT.block (w.heap.size + 1 + 1) (by omega) id).trans f3.out
  obtain ⟨⟨q0, q1, q2⟩, q3, q4, q5⟩ := c3_cells hr1
  obtain ⟨W3, e3, -, ⟨g0, g1, g2⟩, s2, s3⟩ := stored3 (.int .i64 T.op) (.int .i64 T.n) (.slice a l c) hr1
  replace hF := Lib.hid hF
  replace hT := Lib.hid hT
  clear hr1
  replace e3 := Lib.hid e3
  replace g0 := Lib.hid g0
  replace g1 := Lib.hid g1
  replace g2 := Lib.hid g2
  go_wp2_with fail
  rw [← e3.out]
  have h0 := g0.out
  have h1 := g1.out
  have h2 := g2.out
  refine bodyPost_ret (v := .agg #[.int .i64 T.op, .int .i64 T.n, .slice a l c]) (by simp [results, Tryz.f97, go_sem, h0, h1, h2]) rfl ?_
  exact makes_end f5.out hT.out hF.out trivial (B := w.heap.size + 1 + 1) (by omega) s2 s3

set_option maxRecDepth 100000 in
set_option maxHeartbeats 1000000 in
theorem put_let (F : Int → Option DT) (st : Nat → Bool) (bm nb N : Nat) (ihl : PutLetSpec F st bm nb (N + 1)) (d : DT) (n₀ : Nat) (w : World) (g : Nat → Bool) (T : Tm) (hT : putF F st (N + 1) g d.tm = some T) (hL : Lies n₀ w d) (hn : n₀ ≤ w.heap.size) (hsz : 1 + d.size ≤ 1000000) (hO : OkV d.tm) (hm : TMap w bm nb F) (hE : PutOk n₀ w F)
    (h8 : d.op = 8) : Calls Tryz.prog 97 #[.agg (psA bm st g), dv d] w (Makes noR w T (fun _ => True)) := by
  obtain ⟨f1, f2, f3, f4, f5⟩ := put0_facts w bm st g d
  have hC := ihl d n₀ (put0 w bm st g d) g T hT h8 (hL.below (f5.mono hn)) (by omega) hsz hO (hm.same (f5.block _ hm.lt)) (hE.below (f5.mono hn))
  have e1 : (d.op == 1) = false := by simp; omega
  have e8 : (d.op == 8) = true := by simpa using h8
  replace h8 := Lib.hid h8
  replace hC := Lib.hid hC
  replace f1 := Lib.hid f1
  replace f3 := Lib.hid f3
  replace f5 := Lib.hid f5
  clear f2 ihl hL hO hm hE hT
  go_enter Tryz.func97, Tryz.ntmps97
  go_upto_region 7 with fail
  go_wp2_with (first | refine load_ps (.tmp 2) f1.out rfl rfl rfl ?_)
  refine (hC.out).mono ?_
  rintro e w1 ⟨a, l, c, rfl, hF, -, hT⟩
  have hr1 := (hT.block (w.heap.size + 1 + 1) (by omega) id).trans f3.out
  obtain ⟨⟨q0, q1, q2⟩, q3, q4, q5⟩ := c3_cells hr1
  obtain ⟨W3, e3, -, ⟨g0, g1, g2⟩, s2, s3⟩ := stored3 (.int .i64 (T).op) (.int .i64 (T).n) (.slice a l c) hr1
  replace hF := Lib.hid hF
  replace hT := Lib.hid hT
  clear hr1
  replace e3 := Lib.hid e3
  replace g0 := Lib.hid g0
  replace g1 := Lib.hid g1
  replace g2 := Lib.hid g2
  go_wp2_with fail
  rw [← e3.out]
  have h0 := g0.out
  have h1 := g1.out
  have h2 := g2.out
  refine bodyPost_ret (v := .agg #[.int .i64 (T).op, .int .i64 (T).n, .slice a l c]) (by simp [results, Tryz.f97, go_sem, h0, h1, h2]) rfl ?_
  exact makes_end f5.out hT.out hF.out trivial (B := w.heap.size + 1 + 1) (by omega) s2 s3

set_option maxRecDepth 100000 in
set_option maxHeartbeats 1000000 in
theorem put_var (F : Int → Option DT) (st : Nat → Bool) (bm nb N : Nat) (d : DT) (n₀ : Nat) (w : World) (g : Nat → Bool) (T : Tm) (hT : putF F st (N + 1) g d.tm = some T) (hL : Lies n₀ w d) (hn : n₀ ≤ w.heap.size) (hO : OkV d.tm) (hm : TMap w bm nb F) (hE : PutOk n₀ w F)
    (hop : d.op = 1) : Calls Tryz.prog 97 #[.agg (psA bm st g), dv d] w (Makes noR w T (fun _ => True)) := by
  obtain ⟨f1, f2, f3, f4, f5⟩ := put0_facts w bm st g d
  obtain ⟨o1, o2, -, -⟩ := hO.open
  rw [DT.tm_op, DT.tm_n] at o1
  rw [DT.tm_op] at o2
  obtain ⟨hn0, hn20⟩ := o1 (.inl hop)
  obtain ⟨v, hv⟩ : ∃ v : Nat, d.n = v := ⟨d.n.toNat, by omega⟩
  have hkids : d.kids = [] := by have := o2 hop; rw [DT.tm_kids] at this; exact List.map_eq_nil_iff.1 this
  have hFd := find_any (put0 w bm st g d) bm nb F st g v (by omega) (hm.same (f5.block _ hm.lt))
  rw [show d.tm = .mk d.op d.n d.tm.kids by cases d; simp [DT.tm, DT.op, DT.n, Tm.kids], putF_var _ _ _ _ _ _ _ hop] at hT
  simp only [Option.some.injEq] at hT
  rw [show d.n.toNat = v by omega] at hT
  have hL0 := hL.below (f5.mono hn)
  have e1 : (d.op == 1) = true := by simpa using hop
  have hRb := fun (W : World) (hb : Below w.heap.size w W) => rebuild_any d 97 #[.agg (psA bm st g)] #[] (enters_of Tryz.func97 (by kernel_rfl) rfl) noR (fun _ => .mk 0 0 []) (fun _ _ => True) n₀ W (by rw [hkids]; simp) (by have := hb.size; omega) (hL.below (hb.mono hn)) (fun _ h => h.elim) (fun _ _ _ _ _ => trivial) (fun k hk _ _ _ => by rw [hkids] at hk; simp at hk) trivial
  rw [hkids] at hRb
  simp only [List.length_nil, List.range_zero, List.map_nil] at hRb
  have hCl := fun (h : (findD F g v).2 = true) (W : World) (hb : Below w.heap.size w W) => clone_any (findD F g v).1.size (hE _ _ (findD_some h)).2 (findD F g v).1 n₀ W (Nat.le_refl _) (((hE _ _ (findD_some h)).1.1).below (hb.mono hn)) (by have := hb.size; omega)
  obtain ⟨y, hy⟩ : ∃ y, y = findD F g v := ⟨_, rfl⟩
  rw [← hy] at hFd hT hCl
  have e8 : (d.op == 8) = false := by simp; omega
  rw [← hv] at hFd
  replace hv := Lib.hid hv
  replace hop := Lib.hid hop
  replace hFd := Lib.hid hFd
  replace hRb := Lib.hid hRb
  replace hCl := Lib.hid hCl
  replace f1 := Lib.hid f1
  replace f3 := Lib.hid f3
  replace f5 := Lib.hid f5
  replace hkids := Lib.hid hkids
  clear hL hL0 hO hm hE o1 o2 hy
  cases hy2 : y.2
  · rw [hy2, if_neg (by simp)] at hT
    subst hT
    replace hy2 := Lib.hid hy2
    go_enter Tryz.func97, Tryz.ntmps97
    go_upto_region 3 with fail
    go_wp2_with (first | refine load_ps (.tmp 2) f1.out rfl rfl rfl ?_)
    refine (hFd.out).mono ?_
    rintro e w1 ⟨rfl, hB1⟩
    have hz1 := hB1.size
    obtain ⟨wb, hwb⟩ : ∃ wb, wb = w1.alloc (bx y.1) := ⟨_, rfl⟩
    have hBb : Below (put0 w bm st g d).heap.size (put0 w bm st g d) wb := by rw [hwb]; exact hB1.alloc (by omega) _
    have f1b : Hid (PsAt wb w.heap.size bm st g) := (hBb.block _ (by omega)).trans f1.out
    have f3b := (hBb.block (w.heap.size + 1 + 1) (by omega)).trans f3.out
    have hbw : Below w.heap.size w wb := f5.out.trans (hBb.mono (by omega))
    obtain ⟨⟨t0, t1, t2⟩, -⟩ := c3_cells ((hBb.block (w.heap.size + 1) (by omega)).trans f2)
    have hC := hRb.out wb hbw
    rw [hwb] at hC f1b t0 t1 t2
    replace hC := Lib.hid hC
    replace hwb := Lib.hid hwb
    replace hbw := Lib.hid hbw
    replace hBb := Lib.hid hBb
    replace hB1 := Lib.hid hB1
    replace f3b := Lib.hid f3b
    clear f2
    rw [hy2.out]
    go_upto_region 8 with fail
    go_wp2_with (first | refine load_ps (.tmp 2) f1b.out rfl rfl rfl ?_)
    refine (hC.out).mono ?_
    rintro e w2 ⟨a, l, c, rfl, hF, -, hT⟩
    rw [← hwb.out] at hF hT
    have hzb := hBb.out.size
    have hr1 := (hT.block (w.heap.size + 1 + 1) (by omega) id).trans f3b.out
    obtain ⟨⟨q0, q1, q2⟩, q3, q4, q5⟩ := c3_cells hr1
    obtain ⟨W3, e3, -, ⟨g0, g1, g2⟩, s2, s3⟩ := stored3 (.int .i64 (Tm.mk d.op d.n []).op) (.int .i64 (Tm.mk d.op d.n []).n) (.slice a l c) hr1
    replace hF := Lib.hid hF
    replace hT := Lib.hid hT
    clear hr1
    replace e3 := Lib.hid e3
    replace g0 := Lib.hid g0
    replace g1 := Lib.hid g1
    replace g2 := Lib.hid g2
    go_wp2_with fail
    rw [← e3.out]
    have h0 := g0.out
    have h1 := g1.out
    have h2 := g2.out
    refine bodyPost_ret (v := .agg #[.int .i64 (Tm.mk d.op d.n []).op, .int .i64 (Tm.mk d.op d.n []).n, .slice a l c]) (by simp [results, Tryz.f97, go_sem, h0, h1, h2]) rfl ?_
    exact makes_end (t := .mk d.op d.n []) hbw.out hT.out hF.out trivial (B := w.heap.size + 1 + 1) (by omega) s2 s3
  · rw [hy2, if_pos rfl] at hT
    subst hT
    have hClT := Lib.hid (hCl.out hy2)
    replace hy2 := Lib.hid hy2
    go_enter Tryz.func97, Tryz.ntmps97
    go_upto_region 3 with fail
    go_wp2_with (first | refine load_ps (.tmp 2) f1.out rfl rfl rfl ?_)
    refine (hFd.out).mono ?_
    rintro e w1 ⟨rfl, hB1⟩
    have hz1 := hB1.size
    obtain ⟨wb, hwb⟩ : ∃ wb, wb = w1.alloc (bx y.1) := ⟨_, rfl⟩
    have hBb : Below (put0 w bm st g d).heap.size (put0 w bm st g d) wb := by rw [hwb]; exact hB1.alloc (by omega) _
    have f3b := (hBb.block (w.heap.size + 1 + 1) (by omega)).trans f3.out
    have hbw : Below w.heap.size w wb := f5.out.trans (hBb.mono (by omega))
    have hC := hClT.out wb hbw
    rw [hwb] at hC
    replace hC := Lib.hid hC
    replace hwb := Lib.hid hwb
    replace hbw := Lib.hid hbw
    replace hBb := Lib.hid hBb
    replace hB1 := Lib.hid hB1
    replace f3b := Lib.hid f3b
    clear f2
    rw [hy2.out]
    go_wp2_with fail
    refine (hC.out).mono ?_
    rintro e w2 ⟨a, l, c, rfl, hF, -, hT⟩
    rw [← hwb.out] at hF hT
    have hzb := hBb.out.size
    have hr1 := (hT.block (w.heap.size + 1 + 1) (by omega) id).trans f3b.out
    obtain ⟨⟨q0, q1, q2⟩, q3, q4, q5⟩ := c3_cells hr1
    obtain ⟨W3, e3, -, ⟨g0, g1, g2⟩, s2, s3⟩ := stored3 (.int .i64 (y.1.tm).op) (.int .i64 (y.1.tm).n) (.slice a l c) hr1
    replace hF := Lib.hid hF
    replace hT := Lib.hid hT
    clear hr1
    replace e3 := Lib.hid e3
    replace g0 := Lib.hid g0
    replace g1 := Lib.hid g1
    replace g2 := Lib.hid g2
    go_wp2_with fail
    rw [← e3.out]
    have h0 := g0.out
    have h1 := g1.out
    have h2 := g2.out
    refine bodyPost_ret (v := .agg #[.int .i64 (y.1.tm).op, .int .i64 (y.1.tm).n, .slice a l c]) (by simp [results, Tryz.f97, go_sem, h0, h1, h2]) rfl ?_
    exact makes_end (t := y.1.tm) hbw.out hT.out hF.out trivial (B := w.heap.size + 1 + 1) (by omega) s2 s3

theorem put_any (F : Int → Option DT) (st : Nat → Bool) (bm nb : Nat) (ihl : ∀ N, PutSpec F st bm nb N → PutLetSpec F st bm nb (N + 1)) (N : Nat) : PutSpec F st bm nb N := by
  induction N with
  | zero => intro d n₀ w g T hT; cases hT
  | succ N ih =>
    intro d n₀ w g T hT hL hn hsz hO hm hE
    by_cases h1 : d.op = 1
    · exact put_var F st bm nb N d n₀ w g T hT hL hn hO hm hE h1
    · by_cases h8 : d.op = 8
      · exact put_let F st bm nb N (ihl N ih) d n₀ w g T hT hL hn hsz hO hm hE h8
      · exact put_node F st bm nb N ih d n₀ w g T hT hL hn hsz hO hm hE h1 h8

end Go.Proofs.YthlegfegkopdkaaGreat

namespace Go.Proofs.YthlegfegkopdkaaGreat
open Go.RowKit Go.Shelf Go.Sort

theorem quiet_row {P : Program} {ops : Array Oper} {rest : List Oper} {o : Oper} {a : Act} {C : World → Prop} {Q : Act → Prop} (hgd : o.guard = none) (ty : TypeId) (x : Operand) (ho : o.op = .load ty x)
    (g : Nat) (hx : a.eval x = .pointer (some ⟨g, 0, none⟩)) (t : TypeId) (cs : Array Value) (fr : Nat × Nat) (d : TypeDesc) (hg : ∀ w, C w → w.heap[g]? = some (.cells cs t fr))
    (hu : P.underlying ty = some d) (hd : (match d with | .struct _ | .array _ _ => true | _ => false) = true) (hi : (P.info? ty).map (·.size) = some cs.size)
    (h : wpQuiet P ops C Q rest (a.put o.dst (.agg cs))) : wpQuiet P ops C Q (o :: rest) a := by
  refine wpQuiet_step (fun K hK => ?_)
  rw [if_pos (by simp [Region.wanted, hgd])]
  refine ⟨.agg cs, fun w hw => ?_, hK _ h⟩
  unfold Oper.quietAt execOp
  simp only [ho, hx, Instr.loadAt, Instr.sureAddr, Sem.run_bind, Sem.run_pure, Result.andThen_ok, run_loadVar_row w g t ty cs fr d (hg w hw) hu hd hi]
  exact ⟨rfl, rfl⟩

theorem quiet_mid {P : Program} {ops : Array Oper} {rest : List Oper} {o : Oper} {a : Act} {C : World → Prop} {Q : Act → Prop} (hgd : o.guard = none) (ty : TypeId) (x : Operand) (ho : o.op = .load ty x)
    (g off : Nat) (hx : a.eval x = .pointer (some ⟨g, off, none⟩)) (cs : List Value) (d : TypeDesc) (hg : ∀ w, C w → w.rangeAt g off cs)
    (hu : P.underlying ty = some d) (hd : d.isRow = true) (hi : (P.info? ty).map (·.size) = some cs.length)
    (h : wpQuiet P ops C Q rest (a.put o.dst (.agg cs.toArray))) : wpQuiet P ops C Q (o :: rest) a := by
  refine wpQuiet_step (fun K hK => ?_)
  rw [if_pos (by simp [Region.wanted, hgd])]
  refine ⟨.agg cs.toArray, fun w hw => ?_, hK _ h⟩
  unfold Oper.quietAt execOp
  simp only [ho, hx, run_loadAt_mid w g off ty cs d (hg w hw) hu hd hi, Sem.run_bind, Result.andThen_ok, Sem.run_pure]
  exact ⟨rfl, rfl⟩
theorem PsAt.range {w : World} {B bm : Nat} {f g : Nat → Bool} (h : PsAt w B bm f g) : w.rangeAt B 1 (vs f).toList := fun j v hv => by
  have hj : j < 20 := by
    have := (List.getElem?_eq_some_iff.1 hv).1
    simpa [vs_size] using this
  rw [cell_of_row w B (1 + j) _ 125 (0, 0) h, psA_stand bm f g hj]
  have h2 : (vs f)[j]? = some v := by simpa using hv
  rw [vs_get f hj] at h2
  exact h2

mutual
theorem renT_size (u v : Int) : ∀ (t : Tm), OkV t → (renT u v t).size = t.size
  | .mk op n ks, h => by
    rw [renT]
    rw [OkV] at h
    split
    · rename_i h1
      rw [h.2.1 h1.1]; rfl
    · split
      · rw [Tm.size, Tm.size, renH_size u v ks h.2.2.2]
      · rw [Tm.size, Tm.size, renTs_size u v ks h.2.2.2]
theorem renTs_size (u v : Int) : ∀ (ks : List Tm), OkVs ks → sizes (renTs u v ks) = sizes ks
  | [], _ => rfl
  | t :: ts, h => by rw [OkVs] at h; rw [renTs, sizes, sizes, renT_size u v t h.1, renTs_size u v ts h.2]
theorem renH_size (u v : Int) : ∀ (ks : List Tm), OkVs ks → sizes (renH u v ks) = sizes ks
  | [], _ => rfl
  | t :: ts, h => by rw [OkVs] at h; rw [renH, sizes, sizes, renT_size u v t h.1]
end
mutual
theorem renT_ok (u v : Int) (hv : 0 ≤ v ∧ v < 20) : ∀ (t : Tm), OkV t → OkV (renT u v t)
  | .mk op n ks, h => by
    rw [renT]
    rw [OkV] at h
    split
    · rw [OkV]; exact ⟨fun _ => hv, fun _ => rfl, fun h => by omega, by rw [OkVs]; trivial⟩
    · split
      · rename_i h8
        rw [OkV]
        exact ⟨h.1, fun h1 => by omega, fun h' => by have := h.2.2.1 h'; rw [renH_len]; exact this, renH_ok u v hv ks h.2.2.2⟩
      · rw [OkV]
        exact ⟨h.1, fun h1 => by rw [h.2.1 h1]; rfl, fun h' => by have := h.2.2.1 h'; rw [renTs_map, List.length_map]; exact this, renTs_ok u v hv ks h.2.2.2⟩
theorem renTs_ok (u v : Int) (hv : 0 ≤ v ∧ v < 20) : ∀ (ks : List Tm), OkVs ks → OkVs (renTs u v ks)
  | [], _ => by rw [renTs, OkVs]; trivial
  | t :: ts, h => by rw [OkVs] at h; rw [renTs, OkVs]; exact ⟨renT_ok u v hv t h.1, renTs_ok u v hv ts h.2⟩
theorem renH_ok (u v : Int) (hv : 0 ≤ v ∧ v < 20) : ∀ (ks : List Tm), OkVs ks → OkVs (renH u v ks)
  | [], _ => by rw [renH, OkVs]; trivial
  | t :: ts, h => by rw [OkVs] at h; rw [renH, OkVs]; exact ⟨renT_ok u v hv t h.1, h.2⟩
theorem renH_len (u v : Int) : ∀ (ks : List Tm), (renH u v ks).length = ks.length
  | [] => rfl
  | t :: ts => by simp [renH]
end

theorem _root_.Go.World.rangeAt_of_block' {w : World} {b : Nat} {C : Array Value} {t : TypeId} {fr : Nat × Nat} (hb : w.heap[b]? = some (.cells C t fr)) : w.rangeAt b 0 C.toList := fun j v hv => by
  rw [Nat.zero_add, cell_of_row w b j C t fr hb]; simpa using hv
theorem row_yield {P : Program} {a : Act} {o : Oper} {w : World} {ty t : TypeId} {x : Operand} {cs : Array Value} {fr : Nat × Nat} {d : TypeDesc} (ho : o.op = .load ty x) (g : Nat) (hx : a.eval x = .pointer (some ⟨g, 0, none⟩)) (hg : w.heap[g]? = some (.cells cs t fr))
    (hu : P.underlying ty = some d) (hd : (match d with | .struct _ | .array _ _ => true | _ => false) = true) (hi : (P.info? ty).map (·.size) = some cs.size) : (execOp a.eval o).run P w = .ok (.value (.agg cs)) w := by
  unfold execOp
  simp only [ho, hx, Instr.loadAt, Instr.sureAddr, Sem.run_bind, Sem.run_pure, Result.andThen_ok, run_loadVar_row w g t ty cs fr d hg hu hd hi]
theorem zer_keep {W w1 : World} {B : Nat} (h : Below W.heap.size W w1) (hB : W.heap[B]? = some zer3) : w1.heap[B]? = some zer3 := (h.block B (Array.getElem?_eq_some_iff.1 hB).1).trans hB
def LetRel (F : Int → Option DT) (st g : Nat → Bool) (N : Nat) (x : DT) (T : Tm) (w w0 : World) (s5 : Value) (W : World) : Prop :=
  ∃ (m : Nat) (Y : DT), m < 20 ∧ s5 = .int .i64 m ∧ W.heap[w.heap.size + 1 + 1 + 1]? = some (bx Y) ∧ Lies W.heap.size W Y ∧ 1 + Y.size ≤ 1000000 ∧ OkV Y.tm ∧ Below w0.heap.size w0 W ∧
    ∃ A B, putF F st N g x.tm = some A ∧ putF F st N (setB g m true) Y.tm = some B ∧ T = .mk 8 m [A, B]

set_option maxRecDepth 100000 in
set_option maxHeartbeats 1000000 in
theorem putLet_any (F : Int → Option DT) (st : Nat → Bool) (bm nb N : Nat) (ih : PutSpec F st bm nb N) : PutLetSpec F st bm nb (N + 1) := by
  intro d n₀ w g T hT h8 hL hn hsz hO hm hE
  obtain ⟨f1, f2, f3, f4, f5⟩ := put0_facts w bm st g d
  obtain ⟨o1, -, o3, o4⟩ := hO.open
  rw [DT.tm_op, DT.tm_n] at o1
  rw [DT.tm_op] at o3
  obtain ⟨hn0, hn20⟩ := o1 (.inr h8)
  obtain ⟨v, hv⟩ : ∃ v : Nat, d.n = v := ⟨d.n.toNat, by omega⟩
  have hv20 : v < 20 := by omega
  obtain ⟨x, y, b, off, hxy, hsx, hl, ha, hbn, ⟨g1, g2⟩, ⟨g3, g4⟩⟩ := two_kids (hL.below (f5.mono hn)) (by have := o3 h8; rwa [DT.tm_kids, List.length_map] at this)
  have hdt : d.tm.kids = [x.tm, y.tm] := by rw [DT.tm_kids, hxy]; rfl
  rw [hdt] at o4
  simp only [OkVs] at o4
  have hbz : b < w.heap.size := by omega
  obtain ⟨w0, hw0⟩ : ∃ w0, w0 = put0 w bm st g d := ⟨_, rfl⟩
  rw [← hw0] at f1 f2 f3 f4 f5 g1 g2 g3 g4
  obtain ⟨⟨b0, b1, b2⟩, -⟩ := c3_cells f2
  rw [ha] at b2
  obtain ⟨y0, y1, y2⟩ := g3
  have hl2 : (1 : Int) < (d.l : Int) := by omega
  have hl0 : 0 < d.l := by omega
  have hl1 : 1 < d.l := by omega
  rw [hv] at b1
  rw [hw0] at b0 b1 b2 y0 y1 y2
  replace hw0 := Lib.hid hw0
  replace ha := Lib.hid ha
  replace hl := Lib.hid hl
  replace h8 := Lib.hid h8
  replace hv := Lib.hid hv
  replace f1 := Lib.hid f1
  replace f2 := Lib.hid f2
  replace f3 := Lib.hid f3
  replace f5 := Lib.hid f5
  replace hm := Lib.hid hm
  replace hE := Lib.hid hE
  replace ih := Lib.hid ih
  replace hT := Lib.hid hT
  replace g1 := Lib.hid g1
  have hdt' := Lib.hid hdt
  have hLd := Lib.hid hL
  have hOd := Lib.hid hO
  clear hL hO o1 o3 hxy hdt
  go_enter Tryz.func120, Tryz.ntmps120
  go_upto_region 1 with fail
  go_region_held3 (fun W' => (W'.cell? ⟨w.heap.size + 1, 1, none⟩ = some (.int .i64 (v : Nat)) ∧ W'.cell? ⟨w.heap.size + 1, 2, none⟩ = some (.slice (some ⟨b, off, none⟩) d.l d.c)) ∧ (W'.cell? ⟨b, off + 3, none⟩ = some (.int .i64 y.op) ∧ W'.cell? ⟨b, off + 3 + 1, none⟩ = some (.int .i64 y.n) ∧ W'.cell? ⟨b, off + 3 + 2, none⟩ = some (.slice y.a y.l y.c)))
    (go_keep) (fail)
  go_upto_region 2 with fail
  obtain ⟨W1, hW1⟩ : ∃ W1, W1 = (((((w.alloc (.cells (psA bm st g) 125)).alloc (.cells #[.int .i64 d.op, .int .i64 d.n, .slice d.a d.l d.c] 28)).alloc (.cells #[.int .i64 0, .int .i64 0, .slice none 0 0] 28)).alloc (.cells #[.int .i64 y.op, .int .i64 y.n, .slice y.a y.l y.c] 28)).drew) := ⟨_, rfl⟩
  rw [← hW1]
  have hB1 : Below w0.heap.size w0 W1 := by rw [hW1, hw0.out]; exact ((Below.refl _ _).alloc (Nat.le_refl _) _).drew
  have hy6 : W1.heap[w.heap.size + 1 + 1 + 1]? = some (bx y) := by rw [hW1]; exact heap_new' _ (by simp)
  have hz1 : W1.heap.size = w.heap.size + 4 := by rw [hW1]; simp [World.drew]
  have p1 : PsAt W1 w.heap.size bm st g := (hB1.block _ (by omega)).trans f1.out
  have hbw1 : Below w.heap.size w W1 := f5.out.trans (hB1.mono (by omega))
  replace hW1 := Lib.hid hW1
  clear b0 b1 b2 y0 y1 y2
  have hIn := Lib.hid (fun dd os => (pinside_any (grow (redrawn W1 dd) os) bm st g v hv20).regrown_of)
  have hCt := Lib.hid (fun dd os => (catches_any (grow (redrawn W1 dd) os) bm nb n₀ F st (setB g v true) v y hv20 (hm.out.same (((below_regrown W1 dd os).block _ (by have := hm.out.lt; omega)).trans (hbw1.block _ hm.out.lt))) (fun i z hz => ((hE.out.below (hbw1.mono hn)).below ((below_regrown W1 dd os).mono (by omega)) i z hz).1) (by have := (below_regrown W1 dd os).size; omega) ((g4.below (hB1.mono (by omega))).below ((below_regrown W1 dd os).mono (by omega))) o4.2.1).regrown_of)
  obtain ⟨⟨z0, z1, z2⟩, -⟩ := c3_cells hy6
  have d0 := fun dd os => cell_regrown z0 dd os
  have d1 := fun dd os => cell_regrown z1 dd os
  have d2 := fun dd os => cell_regrown z2 dd os
  have hps : ∀ w', (∃ p : Regrown, w' = grow (redrawn W1 p.d) p.os) → w'.heap[w.heap.size]? = some (.cells (psA bm st g) 125 (0, 0)) := fun w' ⟨q, hq⟩ => by
    subst hq; exact ((below_regrown W1 q.d q.os).block _ (by omega)).trans p1
  replace hps := Lib.hid hps
  replace p1 := Lib.hid p1
  replace hy6 := Lib.hid hy6
  replace hB1 := Lib.hid hB1
  replace hbw1 := Lib.hid hbw1
  -- what is to be made
  have hT' : (if catchB F (setB g v true) v y.tm = true then
          match leastN (orSet (stT d.tm (fun _ => false)) st) with
          | none => none
          | some m => (putF F st N g x.tm).bind fun a' => (putF F st N (setB g m true) (renT v m y.tm)).map fun b' => Tm.mk 8 m [a', b']
        else (putF F st N g x.tm).bind fun a' => (putF F st N (setB g v true) y.tm).map fun b' => Tm.mk 8 v [a', b']) = some T := by
    have h := hT.out
    have hd : d.tm = .mk 8 v [x.tm, y.tm] := by
      cases hd' : d.tm with
      | mk op n ks =>
        have e1 : d.tm.op = op := by rw [hd']; rfl
        have e2 : d.tm.n = n := by rw [hd']; rfl
        have e3 : d.tm.kids = ks := by rw [hd']; rfl
        rw [DT.tm_op, h8.out] at e1
        rw [DT.tm_n, hv.out] at e2
        rw [hdt'.out] at e3
        rw [← e1, ← e2, ← e3]
    rw [hd, putF_let] at h
    simp only [Int.toNat_natCast] at h
    rw [hd]
    exact h
  replace hT' := Lib.hid hT'
  obtain ⟨c, hcb⟩ : ∃ c, c = catchB F (setB g v true) v y.tm := ⟨_, rfl⟩
  rw [← hcb] at hCt
  replace hcb := Lib.hid hcb
  refine wp_region_quiet_below (by kernel_rfl) (by kernel_rfl) ?_
  refine quiet_row rfl 125 (.tmp 2) rfl w.heap.size rfl 125 _ (0, 0) _ hps.out Tryz.underlying125 rfl (i125 _ _ _) ?_
  quiet_step (fail)
  quiet_step (exact hIn.out _ _)
  quiet_step (fail)
  quiet_step (fail)
  quiet_step (exact hCt.out _ _)
  refine wpQuiet_nil ?_
  rintro _ ⟨⟨dq, osq⟩, rfl⟩
  have hb2 := below_regrown W1 dq osq
  obtain ⟨W2, hW2⟩ : ∃ W2, W2 = grow (redrawn W1 dq) osq := ⟨_, rfl⟩
  rw [← hW2] at hb2 ⊢
  clear d0 d1 d2 hCt hIn hps z0 z1 z2
  replace hW2 := Lib.hid hW2
  go_upto_if 20 with (fail)
  go_cut [5] from 21 to 32 (fun s5 W => LetRel F st g N x T w w0 s5 W)
  case first =>
    have hB2 : Below w0.heap.size w0 W2 := hB1.out.trans (hb2.mono (by omega))
    have hz2 := hb2.size
    have hbw2 : Below w.heap.size w W2 := f5.out.trans (hB2.mono (by omega))
    have hy62 := (hb2.block _ (by omega)).trans hy6.out
    have hLy : Lies W2.heap.size W2 y := (g4.below (hB2.mono (by omega))).wider (by omega)
    cases c
    · have hrel : Hid (LetRel F st g N x T w w0 (.int .i64 (v : Nat)) W2) := by
        have h := hT'.out
        rw [← hcb.out, if_neg (by simp)] at h
        cases hA : putF F st N g x.tm with
        | none => rw [hA] at h; cases h
        | some A =>
          cases hB : putF F st N (setB g v true) y.tm with
          | none => rw [hA, hB] at h; cases h
          | some B =>
            rw [hA, hB] at h
            simp at h
            exact ⟨v, y, hv20, rfl, hy62, hLy, by omega, o4.2.1, hB2, A, B, hA, hB, h.symm⟩
      clear hy62 hLy hbw2 hB2 hb2
      go_wp2_with fail
      go_meet
      case rel => exact hrel.out
    · obtain ⟨m, hm1, hm2⟩ : ∃ m, leastN (orSet (stT d.tm (fun _ => false)) st) = some m ∧ ((putF F st N g x.tm).bind fun a' => (putF F st N (setB g m true) (renT v m y.tm)).map fun b' => Tm.mk 8 m [a', b']) = some T := by
        have h := hT'.out
        rw [← hcb.out, if_pos rfl] at h
        cases hl : leastN (orSet (stT d.tm (fun _ => false)) st) with
        | none => rw [hl] at h; cases h
        | some m => rw [hl] at h; exact ⟨m, rfl, h⟩
      have hm20 := leastN_lt hm1
      have hSt := Lib.hid (fun dd os => (standing_any d n₀ (grow (redrawn W2 dd) os) hsz (by have := (below_regrown W2 dd os).size; omega) (hLd.out.below ((hbw2.trans ((below_regrown W2 dd os).mono (by omega))).mono hn)) hOd.out).regrown_of)
      have hWi := Lib.hid (fun dd os => (with_any (stT d.tm (fun _ => false)) st (grow (redrawn W2 dd) os)).regrown_of)
      have hLo := Lib.hid (fun dd os => (leastOutside_any (orSet (stT d.tm (fun _ => false)) st) m (grow (redrawn W2 dd) os) hm1).regrown_of)
      have hp2 : PsAt W2 w.heap.size bm st g := (hb2.block _ (by omega)).trans p1.out
      have hbd2 : W2.heap[w.heap.size + 1]? = some (bx d) := (hB2.block _ (by omega)).trans f2.out
      obtain ⟨⟨z0, z1, z2⟩, -⟩ := c3_cells hbd2
      have d0 := fun dd os => cell_regrown z0 dd os
      have d1 := fun dd os => cell_regrown z1 dd os
      have d2 := fun dd os => cell_regrown z2 dd os
      have hrg : ∀ w', (∃ p : Regrown, w' = grow (redrawn W2 p.d) p.os) → w'.rangeAt w.heap.size 1 (vs st).toList := fun w' ⟨q, hq⟩ => by
        subst hq
        exact PsAt.range (show PsAt _ w.heap.size bm st g from ((below_regrown W2 q.d q.os).block _ (by omega)).trans hp2)
      replace hrg := Lib.hid hrg
      replace hp2 := Lib.hid hp2
      replace hbd2 := Lib.hid hbd2
      replace hB2 := Lib.hid hB2
      replace hbw2 := Lib.hid hbw2
      replace hy62 := Lib.hid hy62
      replace hm1 := Lib.hid hm1
      replace hm2 := Lib.hid hm2
      replace hb2 := Lib.hid hb2
      replace hLy := Lib.hid hLy
      go_upto_region 3 with fail
      refine wp_region_quiet_below (by kernel_rfl) (by kernel_rfl) ?_
      quiet_step (fail)
      quiet_step (exact hSt.out _ _)
      quiet_step (fail)
      quiet_step (fail)
      refine quiet_mid rfl 79 (.tmp 24) rfl w.heap.size 1 rfl (vs st).toList _ hrg.out u79 rfl (by rw [Array.length_toList, vs_size]; exact i79') ?_
      rw [Array.toArray_toList]
      quiet_step (exact hWi.out _ _)
      quiet_step (exact hLo.out _ _)
      quiet_step (fail)
      refine wpQuiet_nil ?_
      rintro _ ⟨⟨dq3, osq3⟩, rfl⟩
      have hb3 := below_regrown W2 dq3 osq3
      obtain ⟨W3, hW3⟩ : ∃ W3, W3 = grow (redrawn W2 dq3) osq3 := ⟨_, rfl⟩
      rw [← hW3] at hb3 ⊢
      clear d0 d1 d2 hSt hWi hLo hrg z0 z1 z2
      replace hW3 := Lib.hid hW3
      have hB3 : Below w0.heap.size w0 W3 := hB2.out.trans (hb3.mono (by omega))
      have hbd3 := (hb3.block _ (by omega)).trans hbd2.out
      have hy63 := (hb3.block _ (by omega)).trans hy62.out
      obtain ⟨⟨z0, z1, z2⟩, -⟩ := c3_cells hbd3
      rw [hv.out] at z1
      obtain ⟨⟨r0, r1, r2⟩, r3, r4, r5⟩ := c3_cells hy63
      have hRn := rename_any y.size (by omega) y W2.heap.size W3 (v : Nat) (m : Nat) (Nat.le_refl _) (hLy.out.below hb3) hb3.size o4.2.1
      have hRo := renT_ok (v : Nat) (m : Nat) (by omega) y.tm o4.2.1
      have hRs := renT_size (v : Nat) (m : Nat) y.tm o4.2.1
      obtain ⟨U, hU⟩ : ∃ U, U = renT (v : Nat) (m : Nat) y.tm := ⟨_, rfl⟩
      rw [← hU] at hRn hRo hRs
      replace hU := Lib.hid hU
      replace hRs := Lib.hid hRs
      replace hRn := Lib.hid hRn
      replace hB3 := Lib.hid hB3
      replace hb3 := Lib.hid hb3
      replace hbd3 := Lib.hid hbd3
      replace hy63 := Lib.hid hy63
      go_upto_region 4 with fail
      go_wp2_with fail
      refine (hRn.out).mono ?_
      rintro e W4 ⟨a1, l1, k1, rfl, hF4, -, hT4⟩
      have hb4 := hT4.b0
      have hz3 := hb3.out.size
      have hz4 := hb4.size
      have hy64 := (hb4.block _ (by omega)).trans hy63.out
      obtain ⟨⟨q0, q1, q2⟩, q3, q4, q5⟩ := c3_cells hy64
      obtain ⟨W5, e5, k5, -, s5, t5⟩ := stored3 (.int .i64 U.op) (.int .i64 U.n) (.slice a1 l1 k1) hy64
      obtain ⟨Y, hYl, hYt, hY1, hY2, hY3, hY4, hY5⟩ := (hF4.up (w := W3) (W := W5) (Nat.le_refl _) (fun j h1 _ => s5 j (by omega)) t5.size).is.placed
      have hrel : Hid (LetRel F st g N x T w w0 (.int .i64 (m : Nat)) W5) := by
        have h := hm2.out
        cases hA : putF F st N g x.tm with
        | none => rw [hA] at h; cases h
        | some A =>
          cases hB : putF F st N (setB g m true) U with
          | none => rw [hA, ← hU.out, hB] at h; cases h
          | some B =>
            rw [hA, ← hU.out, hB] at h
            simp at h
            refine ⟨m, Y, hm20, rfl, ?_, ?_, ?_, by rw [hYt]; exact hRo, ?_, A, B, hA, by rw [hYt]; exact hB, h.symm⟩
            · rw [k5]; unfold bx; rw [hY1, hY2, hY3, hY4, hY5]
            · exact hYl
            · have : Y.size = U.size := by rw [← hYt, size_tm]
              rw [this, hRs.out, size_tm]; omega
            · exact hB3.out.trans ((hb4.mono (by omega)).trans (t5.mono (by omega)))
      replace e5 := Lib.hid e5
      clear hy64 hYl hYt hY1 hY2 hY3 hY4 hY5 k5 s5 t5 hT4 hF4 z0 z1 z2 r0 r1 r2 r3 r4 r5
      go_wp2_with fail
      rw [← e5.out]
      go_meet
      case rel => exact hrel.out
  case rest =>
    obtain ⟨wx, rfl⟩ : ∃ wx : World, wx = wc := ⟨_, rfl⟩
    obtain ⟨m, Y, hm20, rfl, hwY, hYl, hYs, hYo, hBc, A, B, hA, hB, hTT⟩ := hcut
    subst hTT
    clear hb2
    have hbwc : Below w.heap.size w wx := f5.out.trans (hBc.mono (by omega))
    have hzc := hBc.size
    have hpc : PsAt wx w.heap.size bm st g := (hBc.block _ (by omega)).trans f1.out
    have hbdc : wx.heap[w.heap.size + 1]? = some (bx d) := (hBc.block _ (by omega)).trans f2.out
    have hrc : wx.heap[w.heap.size + 1 + 1]? = some zer3 := (hBc.block _ (by omega)).trans f3.out
    obtain ⟨⟨t0, t1, t2⟩, -⟩ := c3_cells hbdc
    rw [ha.out] at t2
    obtain ⟨x0, x1, x2⟩ := g1.out.below hBc (by omega)
    have hmc := hm.out.same (hbwc.block _ hm.out.lt)
    have hEc := hE.out.below (hbwc.mono hn)
    have hK := Lib.hid (show ∀ W, Below wx.heap.size wx W → W.rangeAt w.heap.size 0 (psA bm st g).toList ∧ W.cell? ⟨w.heap.size + 1, 2, none⟩ = some (.slice (some ⟨b, off, none⟩) d.l d.c) ∧ (W.cell? ⟨b, off, none⟩ = some (.int .i64 x.op) ∧ W.cell? ⟨b, off + 1, none⟩ = some (.int .i64 x.n) ∧ W.cell? ⟨b, off + 2, none⟩ = some (.slice x.a x.l x.c)) from fun W hb =>
      ⟨World.rangeAt_of_block' ((hb.block _ (by omega)).trans hpc), (hb.cell (p := ⟨w.heap.size + 1, 2, none⟩) (by simp; omega)).trans t2, (hb.cell (p := ⟨b, off, none⟩) (by simp; omega)).trans x0, (hb.cell (p := ⟨b, off + 1, none⟩) (by simp; omega)).trans x1, (hb.cell (p := ⟨b, off + 2, none⟩) (by simp; omega)).trans x2⟩)
    have hXc := Lib.hid (show ∀ W, Below wx.heap.size wx W → Calls Tryz.prog 97 #[.agg (psA bm st g), dv x] W fun e w1 => ∃ a l c, e = .returned (.agg #[.int .i64 A.op, .int .i64 A.n, .slice a l c]) ∧ Hid (Fresh W w1 A a l c ∧ Below W.heap.size W w1) ∧ Hid (Below wx.heap.size wx w1) ∧ wx.heap.size ≤ w1.heap.size from fun W hb =>
      (ih.out x n₀ W g A hA (g2.below ((hBc.trans (hb.mono hzc)).mono (by omega))) (by have := hb.size; omega) (by omega) o4.1 (hmc.same (hb.block _ hmc.lt)) (hEc.below (hb.mono (by omega)))).mono (by
        rintro e w1 ⟨a, l, c, rfl, hF, -, hT⟩
        exact ⟨a, l, c, rfl, ⟨hF, hT.b0⟩, hb.trans (hT.b0.mono hb.size), (hb.trans (hT.b0.mono hb.size)).size⟩))
    obtain ⟨k0, k1, k2, k3, k4⟩ := hK.out wx (Below.refl _ _)
    have hu125 := Tryz.underlying125
    have hi125 : (Tryz.prog.info? 125).map (·.size) = some (psA bm st g).toList.length := by rw [Array.length_toList]; exact i125 _ _ _
    have hz4 : w.heap.size + 4 ≤ wx.heap.size := by have := (Array.getElem?_eq_some_iff.1 hwY).1; omega
    replace hwY := Lib.hid hwY
    replace hBc := Lib.hid hBc
    replace hbwc := Lib.hid hbwc
    replace hpc := Lib.hid hpc
    replace hbdc := Lib.hid hbdc
    replace hrc := Lib.hid hrc
    replace hmc := Lib.hid hmc
    replace hEc := Lib.hid hEc
    replace hA := Lib.hid hA
    replace hB := Lib.hid hB
    clear t0 t1 t2 x0 x1 x2 hT' hcb
    go_upto_region 5 with fail
    go_cut [7] from 33 to 38 (fun s7 W => Slot3 (w.heap.size + 4) A s7 W ∧ Below wx.heap.size wx W)
    case first =>
      refine wp_region_held (S := fun W' => Below wx.heap.size wx W') (by kernel_rfl) ?_
      have hS0 : (fun W' : World => Below wx.heap.size wx W') { wx with drawn := wx.drawn + 1 } := (Below.refl _ _).drew
      refine takeH 0 33 (.agg (psA bm st g)) rfl rfl (by kernel_rfl) (by kernel_rfl) (by kernel_rfl) (fun _ _ _ h => h) (by rfl) (fun W hSw => row_yield (t := 125) (fr := (0, 0)) rfl w.heap.size rfl ((hSw.block _ (by omega)).trans hpc.out) hu125 rfl (i125 _ _ _)) hS0 ?_
      try simp only [List.setIfInBounds_toArray, List.set_cons_zero, List.set_cons_succ]
      refine takeH 1 34 (.pointer (some ⟨w.heap.size + 1, 2, none⟩)) rfl rfl (by kernel_rfl) (by kernel_rfl) (by kernel_rfl) (fun _ _ _ h => h) (by rfl) (by intro W hSw; clear hSw; go_simp) hS0 ?_
      try simp only [List.setIfInBounds_toArray, List.set_cons_zero, List.set_cons_succ]
      refine takeH 2 35 (.slice (some ⟨b, off, none⟩) d.l d.c) rfl rfl (by kernel_rfl) (by kernel_rfl) (by kernel_rfl) (fun _ _ _ h => h) (by rfl) (by intro W hSw; obtain ⟨-, j1, j2, j3, j4⟩ := hK.out W hSw; clear hSw; go_simp) hS0 ?_
      try simp only [List.setIfInBounds_toArray, List.set_cons_zero, List.set_cons_succ]
      refine takeH 3 36 (.pointer (some ⟨b, off, none⟩)) rfl rfl (by kernel_rfl) (by kernel_rfl) (by kernel_rfl) (fun _ _ _ h => h) (by rfl) (by intro W hSw; clear hSw; go_simp) hS0 ?_
      try simp only [List.setIfInBounds_toArray, List.set_cons_zero, List.set_cons_succ]
      refine takeH 4 37 (dv x) rfl rfl (by kernel_rfl) (by kernel_rfl) (by kernel_rfl) (fun _ _ _ h => h) (by rfl) (by intro W hSw; obtain ⟨-, j1, j2, j3, j4⟩ := hK.out W hSw; clear hSw; go_simp) hS0 ?_
      try simp only [List.setIfInBounds_toArray, List.set_cons_zero, List.set_cons_succ]
      have bdr := Lib.hid (show Below wx.heap.size wx wx.drew from (Below.refl _ _).drew)
      have bal := Lib.hid (show Below wx.heap.size wx (wx.alloc zer3).drew from ((Below.refl _ _).alloc (Nat.le_refl _) _).drew)
      have hSd : (fun W' : World => Below wx.heap.size wx W') wx.drew := (Below.refl _ _).drew
      refine wpAnyH_ready (rs := [5, 6]) (by kernel_rfl) (by simp) ?_
      refine AllReadyH.cons rfl (fun K hKc => ?_) (AllReadyH.cons rfl (fun K hKc => ?_) AllReadyH.nil)
      · go_simp
        go_at_call 97
        refine (hXc.out _ bdr.out).mono ?_
        rintro e w1 ⟨a1, l1, c1', rfl, hF1, hb1, hz1'⟩
        refine hKc _ _ hb1.out (fun _ => ?_)
        clear hKc K
        try simp only [Act.put, List.setIfInBounds_toArray, List.set_cons_zero, List.set_cons_succ]
        refine wpAnyH_ready (rs := [6]) (by kernel_rfl) (by simp) ?_
        refine AllReadyH.cons rfl (fun K hKc => ?_) AllReadyH.nil
        go_simp
        refine hKc _ _ (hb1.out.alloc hz1' _) (fun _ => ?_)
        clear hKc K
        try simp only [Act.put, List.setIfInBounds_toArray, List.set_cons_zero, List.set_cons_succ]
        refine wpAnyH_ready (rs := [7]) (by kernel_rfl) (by simp) ?_
        refine AllReadyH.cons rfl (fun K hKc => ?_) AllReadyH.nil
        go_simp
        refine hKc _ _ (hb1.out.alloc hz1' _) (fun _ => ?_)
        clear hKc K
        try simp only [Act.put, List.setIfInBounds_toArray, List.set_cons_zero, List.set_cons_succ]
        refine wpAnyH_done (by kernel_rfl) ?_ _
        have hs3 := Lib.hid (Slot3.behind (lo := w.heap.size + 4) (B := w1.heap.size) (W := wx.drew) rfl (by show _ ≤ wx.heap.size; omega) (by show wx.heap.size ≤ _; exact hz1') hF1.out.1)
        go_wp2_with fail
        go_meet
        case rel => exact ⟨hs3.out, hb1.out.alloc hz1' _⟩
      · go_simp
        refine hKc _ _ bal.out (fun _ => ?_)
        clear hKc K
        try simp only [Act.put, List.setIfInBounds_toArray, List.set_cons_zero, List.set_cons_succ]
        refine wpAnyH_ready (rs := [5]) (by kernel_rfl) (by simp) ?_
        refine AllReadyH.cons rfl (fun K hKc => ?_) AllReadyH.nil
        go_simp
        go_at_call 97
        refine (hXc.out _ bal.out).mono ?_
        rintro e w1 ⟨a1, l1, c1', rfl, hF1, hb1, hz1'⟩
        have zz := zer_keep hF1.out.2 (new_drew wx zer3)
        obtain ⟨⟨z0, z1, z2⟩, z3, z4, z5⟩ := c3_cells zz
        replace zz := Lib.hid zz
        refine hKc _ _ hb1.out (fun _ => ?_)
        clear hKc K
        try simp only [Act.put, List.setIfInBounds_toArray, List.set_cons_zero, List.set_cons_succ]
        refine wpAnyH_ready (rs := [7]) (by kernel_rfl) (by simp) ?_
        refine AllReadyH.cons rfl (fun K hKc => ?_) AllReadyH.nil
        go_simp
        refine hKc _ _ (hb1.out.trans (set3_below _ _ _ (Nat.le_refl _))) (fun _ => ?_)
        clear hKc K z0 z1 z2 z3 z4 z5
        try simp only [Act.put, List.setIfInBounds_toArray, List.set_cons_zero, List.set_cons_succ]
        refine wpAnyH_done (by kernel_rfl) ?_ _
        have hs3 := Lib.hid (Slot3.before (lo := w.heap.size + 4) (B := wx.heap.size) zz.out (by omega) (by simp [World.drew]) hF1.out.1)
        go_wp2_with fail
        go_meet
        case rel => exact ⟨hs3.out, hb1.out.trans (set3_below _ _ _ (Nat.le_refl _))⟩
    case rest =>
      obtain ⟨hx3, hbx⟩ := hcut
      obtain ⟨wy, rfl⟩ : ∃ wy : World, wy = wc := ⟨_, rfl⟩
      have hzy := hbx.size
      have hbwy : Below w.heap.size w wy := hbwc.out.trans (hbx.mono (by omega))
      have hpy : PsAt wy w.heap.size bm st g := (hbx.block _ (by omega)).trans hpc.out
      have hry := (hbx.block _ (by omega)).trans hrc.out
      have hYy := (hbx.block _ (by omega)).trans hwY.out
      obtain ⟨⟨y0, y1, y2⟩, -⟩ := c3_cells hYy
      have hIc := Lib.hid (show ∀ W, Below wy.heap.size wy W → Calls Tryz.prog 141 #[.agg (psA bm st g), .int .i64 (m : Nat)] W fun e w1 => e = .returned (.agg (psA bm st (setB g m true))) ∧ Hid (Below W.heap.size W w1) ∧ Hid (Below wy.heap.size wy w1) ∧ wy.heap.size ≤ w1.heap.size from fun W hb => (pinside_any W bm st g m hm20).mono (by
        rintro e w1 ⟨rfl, hB⟩
        exact ⟨rfl, hB, hb.trans (hB.mono hb.size), (hb.trans (hB.mono hb.size)).size⟩))
      have hYc := Lib.hid (show ∀ W, Below wy.heap.size wy W → Calls Tryz.prog 97 #[.agg (psA bm st (setB g m true)), dv Y] W fun e w1 => ∃ a l c, e = .returned (.agg #[.int .i64 B.op, .int .i64 B.n, .slice a l c]) ∧ Hid (Fresh W w1 B a l c ∧ Below W.heap.size W w1) ∧ Hid (Below wy.heap.size wy w1) ∧ wy.heap.size ≤ w1.heap.size from fun W hb =>
        (ih.out Y wx.heap.size W (setB g m true) B hB.out (hYl.below ((hbx.trans (hb.mono hzy)))) (by have := hb.size; omega) hYs hYo (hm.out.same ((hb.block _ (by have := hm.out.lt; omega)).trans (hbwy.block _ hm.out.lt))) ((hE.out.below ((hbwy.trans (hb.mono hbwy.size)).mono hn)).wider (by omega))).mono (by
          rintro e w1 ⟨a, l, c, rfl, hF, -, hT⟩
          exact ⟨a, l, c, rfl, ⟨hF, hT.b0⟩, hb.trans (hT.b0.mono hb.size), (hb.trans (hT.b0.mono hb.size)).size⟩))
      have hK2 := Lib.hid (show ∀ W, Below wy.heap.size wy W → W.cell? ⟨w.heap.size + 1 + 1 + 1, 0, none⟩ = some (.int .i64 Y.op) ∧ W.cell? ⟨w.heap.size + 1 + 1 + 1, 1, none⟩ = some (.int .i64 Y.n) ∧ W.cell? ⟨w.heap.size + 1 + 1 + 1, 2, none⟩ = some (.slice Y.a Y.l Y.c) from fun W hb => (c3_cells ((hb.block _ (by omega)).trans hYy)).1)
      replace hx3 := Lib.hid hx3
      replace hbx := Lib.hid hbx
      replace hbwy := Lib.hid hbwy
      replace hpy := Lib.hid hpy
      replace hry := Lib.hid hry
      replace hYy := Lib.hid hYy
      clear k0 k1 k2 k3 k4 hXc hK
      go_upto_region 6 with fail
      go_cut [8] from 39 to 43 (fun s8 W => Slot3 (w.heap.size + 4) B s8 W ∧ Below wy.heap.size wy W)
      case first =>
        refine wp_region_held (S := fun W' => Below wy.heap.size wy W') (by kernel_rfl) ?_
        have hS0 : (fun W' : World => Below wy.heap.size wy W') { wy with drawn := wy.drawn + 1 } := (Below.refl _ _).drew
        refine takeH 0 39 (.agg (psA bm st g)) rfl rfl (by kernel_rfl) (by kernel_rfl) (by kernel_rfl) (fun _ _ _ h => h) (by rfl) (fun W hSw => row_yield (t := 125) (fr := (0, 0)) rfl w.heap.size rfl ((hSw.block _ (by omega)).trans hpy.out) hu125 rfl (i125 _ _ _)) hS0 ?_
        try simp only [List.setIfInBounds_toArray, List.set_cons_zero, List.set_cons_succ]
        refine takeH 1 40 (.int .i64 (m : Nat)) rfl rfl (by kernel_rfl) (by kernel_rfl) (by kernel_rfl) (fun _ _ _ h => h) (by rfl) (by intro W hSw; clear hSw; go_simp) hS0 ?_
        try simp only [List.setIfInBounds_toArray, List.set_cons_zero, List.set_cons_succ]
        refine takeH 3 42 (dv Y) rfl rfl (by kernel_rfl) (by kernel_rfl) (by kernel_rfl) (fun _ _ _ h => h) (by rfl) (by intro W hSw; obtain ⟨j1, j2, j3⟩ := hK2.out W hSw; clear hSw; go_simp) hS0 ?_
        try simp only [List.setIfInBounds_toArray, List.set_cons_zero, List.set_cons_succ]
        have bdr := Lib.hid (show Below wy.heap.size wy wy.drew from (Below.refl _ _).drew)
        have bal := Lib.hid (show Below wy.heap.size wy (wy.alloc zer3).drew from ((Below.refl _ _).alloc (Nat.le_refl _) _).drew)
        have hSd : (fun W' : World => Below wy.heap.size wy W') wy.drew := (Below.refl _ _).drew
        refine wpAnyH_ready (rs := [2, 5]) (by kernel_rfl) (by simp) ?_
        refine AllReadyH.cons rfl (fun K hKc => ?_) (AllReadyH.cons rfl (fun K hKc => ?_) AllReadyH.nil)
        · go_simp
          go_at_call 141
          refine (hIc.out _ bdr.out).mono ?_
          rintro e w1 ⟨rfl, hI1, hb1, hz1'⟩
          refine hKc _ _ hb1.out (fun _ => ?_)
          clear hKc K
          try simp only [Act.put, List.setIfInBounds_toArray, List.set_cons_zero, List.set_cons_succ]
          refine wpAnyH_ready (rs := [4, 5]) (by kernel_rfl) (by simp) ?_
          refine AllReadyH.cons rfl (fun K hKc => ?_) (AllReadyH.cons rfl (fun K hKc => ?_) AllReadyH.nil)
          · go_simp
            go_at_call 97
            refine (hYc.out _ hb1.out).mono ?_
            rintro e w2 ⟨a2, l2, c2', rfl, hF2, hb2, hz2'⟩
            refine hKc _ _ hb2.out (fun _ => ?_)
            clear hKc K
            try simp only [Act.put, List.setIfInBounds_toArray, List.set_cons_zero, List.set_cons_succ]
            refine wpAnyH_ready (rs := [5]) (by kernel_rfl) (by simp) ?_
            refine AllReadyH.cons rfl (fun K hKc => ?_) AllReadyH.nil
            go_simp
            refine hKc _ _ (hb2.out.alloc hz2' _) (fun _ => ?_)
            clear hKc K
            try simp only [Act.put, List.setIfInBounds_toArray, List.set_cons_zero, List.set_cons_succ]
            refine wpAnyH_ready (rs := [6]) (by kernel_rfl) (by simp) ?_
            refine AllReadyH.cons rfl (fun K hKc => ?_) AllReadyH.nil
            go_simp
            refine hKc _ _ (hb2.out.alloc hz2' _) (fun _ => ?_)
            clear hKc K
            try simp only [Act.put, List.setIfInBounds_toArray, List.set_cons_zero, List.set_cons_succ]
            refine wpAnyH_done (by kernel_rfl) ?_ _
            have hs3 := Lib.hid (Slot3.behind (lo := w.heap.size + 4) (B := w2.heap.size) (W := w1) rfl (by omega) hF2.out.2.size hF2.out.1)
            go_wp2_with fail
            go_meet
            case rel => exact ⟨hs3.out, hb2.out.alloc hz2' _⟩
          · go_simp
            have bw1 := Lib.hid (hb1.out.alloc hz1' zer3)
            refine hKc _ _ bw1.out (fun _ => ?_)
            clear hKc K
            try simp only [Act.put, List.setIfInBounds_toArray, List.set_cons_zero, List.set_cons_succ]
            refine wpAnyH_ready (rs := [4]) (by kernel_rfl) (by simp) ?_
            refine AllReadyH.cons rfl (fun K hKc => ?_) AllReadyH.nil
            go_simp
            go_at_call 97
            refine (hYc.out _ bw1.out).mono ?_
            rintro e w2 ⟨a2, l2, c2', rfl, hF2, hb2, hz2'⟩
            have zz := zer_keep hF2.out.2 (heap_new'' w1 zer3)
            obtain ⟨⟨z0, z1, z2⟩, z3, z4, z5⟩ := c3_cells zz
            replace zz := Lib.hid zz
            refine hKc _ _ hb2.out (fun _ => ?_)
            clear hKc K
            try simp only [Act.put, List.setIfInBounds_toArray, List.set_cons_zero, List.set_cons_succ]
            refine wpAnyH_ready (rs := [6]) (by kernel_rfl) (by simp) ?_
            refine AllReadyH.cons rfl (fun K hKc => ?_) AllReadyH.nil
            go_simp
            refine hKc _ _ (hb2.out.trans (set3_below _ _ _ hz1')) (fun _ => ?_)
            clear hKc K z0 z1 z2 z3 z4 z5
            try simp only [Act.put, List.setIfInBounds_toArray, List.set_cons_zero, List.set_cons_succ]
            refine wpAnyH_done (by kernel_rfl) ?_ _
            have hs3 := Lib.hid (Slot3.before (lo := w.heap.size + 4) (B := w1.heap.size) (W := w1.alloc zer3) zz.out (by omega) (by simp) hF2.out.1)
            go_wp2_with fail
            go_meet
            case rel => exact ⟨hs3.out, hb2.out.trans (set3_below _ _ _ hz1')⟩
        · go_simp
          refine hKc _ _ bal.out (fun _ => ?_)
          clear hKc K
          try simp only [Act.put, List.setIfInBounds_toArray, List.set_cons_zero, List.set_cons_succ]
          refine wpAnyH_ready (rs := [2]) (by kernel_rfl) (by simp) ?_
          refine AllReadyH.cons rfl (fun K hKc => ?_) AllReadyH.nil
          go_simp
          go_at_call 141
          refine (hIc.out _ bal.out).mono ?_
          rintro e w1 ⟨rfl, hI1, hb1, hz1'⟩
          have zz1 := Lib.hid (zer_keep hI1.out (new_drew wy zer3))
          refine hKc _ _ hb1.out (fun _ => ?_)
          clear hKc K
          try simp only [Act.put, List.setIfInBounds_toArray, List.set_cons_zero, List.set_cons_succ]
          refine wpAnyH_ready (rs := [4]) (by kernel_rfl) (by simp) ?_
          refine AllReadyH.cons rfl (fun K hKc => ?_) AllReadyH.nil
          go_simp
          go_at_call 97
          refine (hYc.out _ hb1.out).mono ?_
          rintro e w2 ⟨a2, l2, c2', rfl, hF2, hb2, hz2'⟩
          have zz := zer_keep hF2.out.2 zz1.out
          obtain ⟨⟨z0, z1, z2⟩, z3, z4, z5⟩ := c3_cells zz
          replace zz := Lib.hid zz
          refine hKc _ _ hb2.out (fun _ => ?_)
          clear hKc K
          try simp only [Act.put, List.setIfInBounds_toArray, List.set_cons_zero, List.set_cons_succ]
          refine wpAnyH_ready (rs := [6]) (by kernel_rfl) (by simp) ?_
          refine AllReadyH.cons rfl (fun K hKc => ?_) AllReadyH.nil
          go_simp
          refine hKc _ _ (hb2.out.trans (set3_below _ _ _ (Nat.le_refl _))) (fun _ => ?_)
          clear hKc K z0 z1 z2 z3 z4 z5
          try simp only [Act.put, List.setIfInBounds_toArray, List.set_cons_zero, List.set_cons_succ]
          refine wpAnyH_done (by kernel_rfl) ?_ _
          have hs3 := Lib.hid (Slot3.before (lo := w.heap.size + 4) (B := wy.heap.size) (W := w1) zz.out (by omega) (by have := (Array.getElem?_eq_some_iff.1 zz1.out).1; omega) hF2.out.1)
          go_wp2_with fail
          go_meet
          case rel => exact ⟨hs3.out, hb2.out.trans (set3_below _ _ _ (Nat.le_refl _))⟩
      case rest =>
        obtain ⟨hy3, hbz2⟩ := hcut
        obtain ⟨wz, rfl⟩ : ∃ wz : World, wz = wc := ⟨_, rfl⟩
        have hxz := hx3.out.stays (fun b _ h2 => hbz2.block b h2) hbz2.size
        obtain ⟨B6, a6, l6, k6, rfl, hc6, hb6, ht6⟩ := hxz
        obtain ⟨B7, a7, l7, k7, rfl, hc7, hb7, ht7⟩ := hy3
        obtain ⟨⟨u0, u1, u2⟩, -⟩ := c3_cells hc6
        obtain ⟨⟨v0, v1, v2⟩, -⟩ := c3_cells hc7
        have hq := (hbz2.block _ (by omega)).trans hry.out
        obtain ⟨wd, hwd⟩ : ∃ wd, wd = wz.alloc (.cells #[.int .i64 A.op, .int .i64 A.n, .slice a6 l6 k6, .int .i64 B.op, .int .i64 B.n, .slice a7 l7 k7] 28) := ⟨_, rfl⟩
        have hqd : wd.heap[w.heap.size + 1 + 1]? = some zer3 := by rw [hwd]; exact heap_old hq
        have hwz := hbz2.size
        have hB0z : Below w0.heap.size w0 wz := hBc.out.trans ((hbx.out.mono (by omega)).trans (hbz2.mono (by omega)))
        have hBd : Hid (Below w0.heap.size w0 wd) := by rw [hwd]; exact hB0z.alloc hB0z.size _
        have hFr : Hid (Fresh w0 wd (.mk 8 (m : Nat) [A, B]) (some ⟨wz.heap.size, 0, none⟩) 2 2) :=
          fresh_two hwd hB0z.size (TmP.move (fun j hj _ => ⟨⟨by omega, hj.2.1⟩, rfl⟩) _ ht6) (TmP.move (fun j hj _ => ⟨⟨by omega, hj.2.1⟩, rfl⟩) _ ht7)
        obtain ⟨⟨q10, q11, q12⟩, q13, q14, q15⟩ := c3_cells hqd
        obtain ⟨W3, e3, -, ⟨g0, g1', g2'⟩, s2, s3⟩ := stored3 (.int .i64 8) (.int .i64 (m : Nat)) (.slice (some ⟨wz.heap.size, 0, none⟩) 2 2) hqd
        rw [hwd] at q10 q11 q12 q13 q14 q15 e3
        replace hwd := Lib.hid hwd
        replace e3 := Lib.hid e3
        replace g0 := Lib.hid g0
        replace g1' := Lib.hid g1'
        replace g2' := Lib.hid g2'
        replace hB0z := Lib.hid hB0z
        replace hbz2 := Lib.hid hbz2
        clear hqd hc6 hc7 ht6 ht7 hq y0 y1 y2
        go_wp2_with fail
        rw [← e3.out]
        have h0 := g0.out
        have h1 := g1'.out
        have h2 := g2'.out
        refine bodyPost_ret (v := .agg #[.int .i64 8, .int .i64 (m : Nat), .slice (some ⟨wz.heap.size, 0, none⟩) 2 2]) (by simp [results, Tryz.f120, go_sem, h0, h1, h2]) rfl ?_
        exact makes_end (t := .mk 8 (m : Nat) [A, B]) f5.out (Turns.of0 hBd.out) hFr.out trivial (B := w.heap.size + 1 + 1) (by omega) s2 s3

end Go.Proofs.YthlegfegkopdkaaGreat

namespace Go.Proofs.YthlegfegkopdkaaGreat
open Go.RowKit Go.Shelf

def noB : Int → Option DT := fun _ => none
/-- What 'Match' answers. -/
noncomputable def matchA (s : Sg) (d x : DT) : List (Int × Tm) × Int :=
  if checkV s [d, x] = true then (if (matchD noB d x).1 = true then (listB (matchD noB d x).2 20, 0) else ([], 5)) else ([], 2)
theorem IsBinds.none (n : Nat) (w : World) : IsBinds n w [] none 0 0 := ⟨rfl, by omega, by omega, .inl rfl⟩

set_option maxRecDepth 100000 in
set_option maxHeartbeats 1000000 in
theorem Match_any (s : Sg) (d x : DT) (n₀ : Nat) (w : World) (ac : Option Addr) (lc cc : Nat) (af : Option Addr) (lf cf : Nat) (hs1 : 1 + d.size ≤ 1000000) (hs2 : 1 + x.size ≤ 1000000) (hn : n₀ ≤ w.heap.size) (hS : IsSg n₀ w s ac lc cc af lf cf) (hL1 : Lies n₀ w d) (hL2 : Lies n₀ w x) :
    Calls Tryz.prog 37 #[.agg #[.slice ac lc cc, .slice af lf cf], dv d, dv x] w fun e w' => ∃ va vl vc, e = .returned (.tuple #[.slice va vl vc, .int .i64 (matchA s d x).2]) ∧ IsBinds w'.heap.size w' (matchA s d x).1 va vl vc ∧ Below w.heap.size w w' := by
  obtain ⟨W0, hW0⟩ : ∃ W0, W0 = ((w.alloc (bs 24 ac lc cc af lf cf)).alloc (bx d)).alloc (bx x) := ⟨_, rfl⟩
  have hB0 : Below w.heap.size w W0 := by rw [hW0]; go_grown
  have hz0 : W0.heap.size = w.heap.size + 1 + 1 + 1 := by rw [hW0]; simp
  have hl1 := hL1.below (hB0.mono hn)
  have hl2 := hL2.below (hB0.mono hn)
  have hB1 : Below W0.heap.size W0 (W0.alloc (two d x)) := (Below.refl _ _).alloc (Nat.le_refl _) _
  have hC := checkValues_any s [d, x] (W0.heap.size + 1) (W0.alloc (two d x)) ac lc cc af lf cf (some ⟨W0.heap.size, 0, none⟩) 2 2 (by intro y hy; simp at hy; rcases hy with rfl | rfl <;> assumption) (by simp) ((hS.below ((hB0.trans (hB1.mono hB0.size)).mono hn)).wider (by omega)) (two_lies hl1 hl2 (by omega))
  have bd : W0.heap[w.heap.size + 1]? = some (bx d) := by rw [hW0]; exact heap_old (heap_new' _ (by simp))
  have bx' : W0.heap[w.heap.size + 1 + 1]? = some (bx x) := by rw [hW0]; exact heap_new' _ (by simp)
  rw [hz0] at hC
  have hmm := @run_makeMap Tryz.prog
  cases hv : checkV s [d, x]
  · rw [hv] at hC
    have hv2 : Hid (matchA s d x = ([], 2)) := Lib.hid (by unfold matchA; rw [hv]; rfl)
    have he : errOf false = 2 := rfl
    rw [hW0] at hC
    replace hC := Lib.hid hC
    clear hl1 hl2 hL1 hL2 hS hv
    go_enter Tryz.func37, Tryz.ntmps37
    go_wp2_with fail
    refine (hC.out).mono ?_
    rintro e w1 ⟨rfl, hbe⟩
    replace hbe := Lib.hid hbe
    go_wp2_with fail
    go_ret2
    rw [hW0] at hB0 hB1
    rw [hv2.out]
    exact ⟨none, 0, 0, rfl, IsBinds.none _ _, hB0.trans ((hB1.mono (by simp; omega)).trans (hbe.out.mono (by simp; omega)))⟩
  · have hcb : checkB s [d, x] = true := by unfold checkV at hv; rw [Bool.and_eq_true] at hv; exact hv.1
    have hO1 := OkV.checked hcb (by simp : d ∈ [d, x])
    rw [hv] at hC
    have he : errOf true = 0 := rfl
    have hM := fun (W : World) (hb : Below W0.heap.size W0 W) => match_any d.size d x n₀ (W.alloc (.map #[] 0)) W.heap.size 0 noB (Nat.le_refl _) (hl1.below ((hb.alloc hb.size _).mono (by omega))) (hl2.below ((hb.alloc hb.size _).mono (by omega))) (by have := hb.size; omega) (by have := hb.size; simp; omega) (TMap.made W) (fun i y hy => by cases hy) (by omega) hO1
    have hEl : Els (fun y => Lies n₀ W0 y ∧ y.size ≤ 1000000) (matchD noB d x).2 := matchD_els (fun y hy k hk => ⟨hy.1.kids_lie k hk, by
      obtain ⟨i, hi, rfl⟩ := List.getElem_of_mem hk
      have h1 := dsize_kid y.kids i hi
      have h2 := dsize_eq y
      have := hy.2; omega⟩) d x noB ⟨hl2, by omega⟩ (fun i y hy => by cases hy)
    obtain ⟨r, hr⟩ : ∃ r, r = matchD noB d x := ⟨_, rfl⟩
    have ho : matchA s d x = if r.1 = true then (listB r.2 20, 0) else ([], 5) := by unfold matchA; rw [hv, if_pos rfl, hr]
    rw [← hr] at hM hEl
    rw [hW0] at hC
    replace hC := Lib.hid hC
    replace hM := Lib.hid hM
    replace hEl := Lib.hid hEl
    clear hr hl1 hl2 hL1 hL2 hS hv hO1 hcb
    replace ho := Lib.hid ho
    go_enter Tryz.func37, Tryz.ntmps37
    go_wp2_with fail
    refine (hC.out).mono ?_
    rintro e w1 ⟨rfl, hbe⟩
    have hb1 : Below W0.heap.size W0 w1 := hB1.trans ((show Below (W0.alloc (two d x)).heap.size (W0.alloc (two d x)) w1 from by rw [hW0]; exact hbe).mono hB1.size)
    have hba := hb1.alloc hb1.size (.map #[] 0)
    obtain ⟨⟨b0, b1, b2⟩, -⟩ := c3_cells ((hba.block (w.heap.size + 1) (by omega)).trans bd)
    obtain ⟨⟨x0, x1, x2⟩, -⟩ := c3_cells ((hba.block (w.heap.size + 1 + 1) (by omega)).trans bx')
    have hz1 := hb1.size
    have hMw := Lib.hid (hM.out w1 hb1)
    replace hb1 := Lib.hid hb1
    replace hba := Lib.hid hba
    clear hbe
    go_wp2_with fail
    refine (hMw.out).mono ?_
    rintro e w2 ⟨hT, ⟨rfl, hr1, n', hn', hm2⟩ | ⟨rfl, hr1⟩⟩
    · have hb2 : Below W0.heap.size W0 w2 := hba.out.trans (hT.below (by simp; omega) (fun k hk e => by omega))
      have hLs := Lib.hid (mlist_any w2 w1.heap.size n' n₀ r.2 hm2 (fun i y hy => ⟨((hEl.out i y hy).1).below (hb2.mono (by omega)), (hEl.out i y hy).2⟩) (by have := hb2.size; omega))
      rw [hr1, if_pos rfl] at ho
      replace hr1 := Lib.hid hr1
      replace hm2 := Lib.hid hm2
      replace hT := Lib.hid hT
      replace hb2 := Lib.hid hb2
      clear hmm b0 b1 b2 x0 x1 x2
      go_wp2_with fail
      refine (hLs.out).mono ?_
      rintro e w3 ⟨va, vl, vc, rfl, hBr, hB3⟩
      have hBi := Lib.hid hBr.is
      replace hB3 := Lib.hid hB3
      clear hBr
      go_wp2_with fail
      go_ret2
      rw [ho.out]
      exact ⟨va, vl, vc, rfl, hBi.out, hB0.trans ((hb2.out.mono (by omega)).trans (hB3.out.mono (by have := hb2.out.size; omega)))⟩
    · have hb2 : Below W0.heap.size W0 w2 := hba.out.trans (hT.below (by simp; omega) (fun k hk e => by omega))
      rw [hr1, if_neg (by simp)] at ho
      replace hr1 := Lib.hid hr1
      replace hT := Lib.hid hT
      replace hb2 := Lib.hid hb2
      clear hmm b0 b1 b2 x0 x1 x2
      go_wp2_with fail
      go_ret2
      rw [ho.out]
      exact ⟨none, 0, 0, rfl, IsBinds.none _ _, hB0.trans (hb2.out.mono (by omega))⟩

end Go.Proofs.YthlegfegkopdkaaGreat

namespace Go.Proofs.YthlegfegkopdkaaGreat
open Go.RowKit Go.Shelf

/-- A binding with its places. -/
structure PB where
  v : Int
  d : DT
abbrev PB.val (x : PB) : Value := .agg #[.int .i64 x.v, .int .i64 x.d.op, .int .i64 x.d.n, .slice x.d.a x.d.l x.d.c]
structure Cells4 (w : World) (b off : Nat) (x : PB) : Prop where
  c0 : w.cell? ⟨b, off, none⟩ = some (.int .i64 x.v)
  c1 : w.cell? ⟨b, off + 1, none⟩ = some (.int .i64 x.d.op)
  c2 : w.cell? ⟨b, off + 2, none⟩ = some (.int .i64 x.d.n)
  c3 : w.cell? ⟨b, off + 3, none⟩ = some (.slice x.d.a x.d.l x.d.c)
theorem Cells4.below {n₀ : Nat} {A B : World} (h : Below n₀ A B) {b off : Nat} (hb : b < n₀) {x : PB} (c : Cells4 A b off x) : Cells4 B b off x :=
  ⟨(h.cell (p := ⟨b, _, none⟩) hb).trans c.c0, (h.cell (p := ⟨b, _, none⟩) hb).trans c.c1, (h.cell (p := ⟨b, _, none⟩) hb).trans c.c2, (h.cell (p := ⟨b, _, none⟩) hb).trans c.c3⟩

def LiesB (n₀ : Nat) (w : World) (bs : List PB) (a : Option Addr) (l c : Nat) : Prop :=
  l = bs.length ∧ l ≤ c ∧ c ≤ 9223372036854775807 ∧ (bs = [] ∨ ∃ b off, a = some ⟨b, off, none⟩ ∧ b < n₀ ∧ ∀ k (h : k < bs.length), Cells4 w b (off + k * 4) bs[k] ∧ Lies n₀ w bs[k].d)
theorem LiesB.below {n₀ : Nat} {A B : World} (h : Below n₀ A B) {bs : List PB} {a : Option Addr} {l c : Nat} (x : LiesB n₀ A bs a l c) : LiesB n₀ B bs a l c := by
  obtain ⟨h1, h2, h3, h4⟩ := x
  refine ⟨h1, h2, h3, ?_⟩
  rcases h4 with h4 | ⟨b, off, ha, hb, hk⟩
  · exact .inl h4
  · exact .inr ⟨b, off, ha, hb, fun k hk' => ⟨(hk k hk').1.below h hb, (hk k hk').2.below h⟩⟩
theorem LiesB.wider {n₀ n₁ : Nat} {A : World} (h : n₀ ≤ n₁) {bs : List PB} {a : Option Addr} {l c : Nat} (x : LiesB n₀ A bs a l c) : LiesB n₁ A bs a l c := by
  obtain ⟨h1, h2, h3, h4⟩ := x
  refine ⟨h1, h2, h3, ?_⟩
  rcases h4 with h4 | ⟨b, off, ha, hb, hk⟩
  · exact .inl h4
  · exact .inr ⟨b, off, ha, by omega, fun k hk' => ⟨(hk k hk').1, (hk k hk').2.wider h⟩⟩
def pbs (bs : List PB) : List (Int × Tm) := bs.map fun x => (x.v, x.d.tm)
theorem IsBinds.placed {n : Nat} {w : World} {L : List (Int × Tm)} {a : Option Addr} {l c : Nat} (h : IsBinds n w L a l c) : ∃ bs, LiesB n w bs a l c ∧ pbs bs = L := by
  obtain ⟨h1, h2, h3, h4⟩ := h
  rcases h4 with rfl | ⟨b, off, ha, hb, hk⟩
  · exact ⟨[], ⟨h1, h2, h3, .inl rfl⟩, rfl⟩
  · have hex : ∀ k : Fin L.length, ∃ x : PB, (Cells4 w b (off + k.val * 4) x ∧ Lies n w x.d) ∧ (x.v, x.d.tm) = L[k.val] := fun k => by
      obtain ⟨q1, a', l', c', q2, q3⟩ := hk k.val k.isLt
      obtain ⟨D, d1, d2, d3, d4, d5, d6, d7⟩ := q3.placed
      refine ⟨⟨L[k.val].1, D⟩, ⟨⟨q1, ?_, ?_, ?_⟩, d1⟩, by simp only [d2]⟩
      · rw [d3]; exact q2.c0
      · rw [d4]; exact q2.c1
      · rw [d5, d6, d7]; exact q2.c2
    refine ⟨List.ofFn fun k => Classical.choose (hex k), ⟨by simp [h1], h2, h3, .inr ⟨b, off, ha, hb, fun k hk' => ?_⟩⟩, ?_⟩
    · rw [List.getElem_ofFn]
      exact (Classical.choose_spec (hex ⟨k, by simpa using hk'⟩)).1
    · apply List.ext_getElem
      · simp [pbs]
      · intro i hi1 hi2
        simp only [pbs, List.getElem_map, List.getElem_ofFn]
        exact (Classical.choose_spec (hex ⟨i, hi2⟩)).2

set_option maxRecDepth 100000 in
set_option maxHeartbeats 1000000 in
theorem allB_any (g : Nat) (cap : Array Value) (eg : ∀ args w, (callFunc g args).run Tryz.prog w = .ok (.enter g args) w)
    (ds : List PB) (a : Option Addr) (c : Nat) (hc1 : ds.length ≤ c) (hc2 : c ≤ 9223372036854775807)
    (Inv : Nat → World → Prop) (Stop : World → Prop) (hal : ∀ k W o, Inv k W → Inv k (W.alloc o))
    (hcell : ∀ k W (h : k < ds.length), Inv k W → ∃ b off, a = some ⟨b, off, none⟩ ∧ Cells4 W b (off + k * 4) ds[k])
    (hf : ∀ k (h : k < ds.length) W, Inv k W → Calls Tryz.prog g (#[.agg #[.int .i64 ds[k].v, .int .i64 ds[k].d.op, .int .i64 ds[k].d.n, .slice ds[k].d.a ds[k].d.l ds[k].d.c]] ++ cap) W fun e W' => (e = .returned (.bool true) ∧ Inv (k + 1) W') ∨ (e = .returned (.bool false) ∧ Stop W'))
    (W : World) (h0 : Inv 0 W) :
    Calls Tryz.prog 92 #[.slice a ds.length c, .func (.func g) #[] cap] W fun e W' => (e = .returned (.bool true) ∧ Inv ds.length W') ∨ (e = .returned (.bool false) ∧ Stop W') := by
  replace hf := Lib.hid hf
  replace hcell := Lib.hid hcell
  replace h0 := Lib.hid h0
  replace hal := Lib.hid hal
  go_enter Tryz.func92, Tryz.ntmps92
  go_wp2_with fail
  go_loopw [6, 9] (fun _ i wr => ∃ k : Nat, k ≤ ds.length ∧ i = .int .i64 k ∧ Hid (Inv k wr)) (fun _ i _ => ds.length - (intOf i).toNat)
  case atStart => exact ⟨0, by omega, rfl, h0⟩
  case round =>
    obtain ⟨k, hk1, rfl, hI⟩ := hrel
    by_cases hlt : k < ds.length
    · obtain ⟨b, off, rfl, d0, d1, d2, d3⟩ := hcell.out k wr hlt hI.out
      have hC := Lib.hid (hf.out k hlt _ (hal.out k wr (.cells #[.int .i64 ds[k].v, .int .i64 ds[k].d.op, .int .i64 ds[k].d.n, .slice ds[k].d.a ds[k].d.l ds[k].d.c] 70) hI.out))
      go_wp2_with fail
      refine (hC.out).mono ?_
      rintro e W' (⟨rfl, hI'⟩ | ⟨rfl, hS'⟩)
      · replace hI' := Lib.hid hI'
        go_wp2_with fail
        go_roundw
        case rel => exact ⟨k + 1, by omega, by go_num, hI'⟩
        case measure => simp [intOf]; omega
      · replace hS' := Lib.hid hS'
        go_wp2_with fail
        go_ret
        exact .inr ⟨rfl, hS'.out⟩
    · have : k = ds.length := by omega
      subst this
      go_wp2_with fail
      go_ret
      exact .inl ⟨rfl, hI.out⟩

/-- Whether bindings, behind one of the variable 'before', are as a binding list's. -/
noncomputable def lfB (s : Sg) : Int → List (Int × Tm) → Bool
  | _, [] => true
  | before, x :: xs => (decide (before < x.1) && inB x.1 0 19) && formedB s x.2 && lfB s x.1 xs

end Go.Proofs.YthlegfegkopdkaaGreat

namespace Go.Proofs.YthlegfegkopdkaaGreat
open Go.RowKit Go.Shelf

abbrev one3 (v : Int) : Obj := .cells #[.int .i64 v] 3
theorem one3_cell {w : World} {B : Nat} {v : Int} (h : w.heap[B]? = some (one3 v)) : w.cell? ⟨B, 0, none⟩ = some (.int .i64 v) ∧ w.frozen? ⟨B, 0, none⟩ = false :=
  ⟨by rw [cell_of_row w B 0 _ 3 (0, 0) h]; rfl, frozen_of_row w B 0 _ 3 h⟩

set_option maxRecDepth 100000 in
set_option maxHeartbeats 1000000 in
theorem lf1_any (s : Sg) (x : PB) (n₀ : Nat) (W : World) (Bb Bs : Nat) (before : Int) (ac : Option Addr) (lc cc : Nat) (af : Option Addr) (lf cf : Nat) (hs : 1 + x.d.size ≤ 1000000) (hn : n₀ ≤ W.heap.size) (hb0 : n₀ ≤ Bb) (hb : W.heap[Bb]? = some (one3 before)) (hsb : W.heap[Bs]? = some (bs 24 ac lc cc af lf cf)) (hS : IsSg n₀ W s ac lc cc af lf cf) (hL : Lies n₀ W x.d) :
    Calls Tryz.prog 93 #[.agg #[.int .i64 x.v, .int .i64 x.d.op, .int .i64 x.d.n, .slice x.d.a x.d.l x.d.c], .pointer (some ⟨Bb, 0, none⟩), .pointer (some ⟨Bs, 0, none⟩)] W fun e W' =>
      e = .returned (.bool ((decide (before < x.v) && inB x.v 0 19) && formedB s x.d.tm)) ∧ Turns (fun b => b = Bb) W W' ∧ W'.heap[Bb]? = some (one3 x.v) := by
  obtain ⟨c0, c1⟩ := one3_cell hb
  obtain ⟨⟨s0, s1⟩, -⟩ := c2_cells hsb
  have hne : Bs ≠ Bb := fun e => by subst e; rw [hb] at hsb; cases hsb
  have hlt := (Array.getElem?_eq_some_iff.1 hb).1
  have hlts := (Array.getElem?_eq_some_iff.1 hsb).1
  obtain ⟨w1, hw1⟩ : ∃ w1, w1 = (W.setCell ⟨Bb, 0, none⟩ (.int .i64 x.v)).alloc (.cells #[.int .i64 x.v, .int .i64 x.d.op, .int .i64 x.d.n, .slice x.d.a x.d.l x.d.c] 70) := ⟨_, rfl⟩
  have hT1 : Turns (fun b => b = Bb) W w1 := by rw [hw1]; exact ((Turns.refl (fun b => b = Bb) W).setCell (p := ⟨Bb, 0, none⟩) (fun _ => rfl) _).alloc _
  have hb1 : w1.heap[Bb]? = some (one3 x.v) := by rw [hw1]; exact heap_old ((heap_setCell_same W Bb 0 _ 3 (.int .i64 x.v) hb).trans rfl)
  have hBl : Below n₀ W w1 := hT1.below hn (fun k hk e => by omega)
  have hF := formed_any s x.d n₀ w1 ac lc cc af lf cf hs (by have := hT1.size; omega) (hS.below hBl) (hL.below hBl)
  have hV := fun w => isVar_any x.v w
  have d0 : ∀ o v, ((W.setCell ⟨Bb, 0, none⟩ v).alloc o).cell? ⟨Bs, 0, none⟩ = some (.slice ac lc cc) := fun o v => alloc_cell (by rw [World.cell?_of_block (heap_setCell_other W ⟨Bb, 0, none⟩ Bs v hne)]; exact s0)
  have d1 : ∀ o v, ((W.setCell ⟨Bb, 0, none⟩ v).alloc o).cell? ⟨Bs, 1, none⟩ = some (.slice af lf cf) := fun o v => alloc_cell (by rw [World.cell?_of_block (heap_setCell_other W ⟨Bb, 0, none⟩ Bs v hne)]; exact s1)
  have d2 : ∀ o, (W.alloc o).cell? ⟨Bb, 0, none⟩ = some (.int .i64 before) := fun o => alloc_cell c0
  have d3 : ∀ o, (W.alloc o).frozen? ⟨Bb, 0, none⟩ = false := fun o => (one3_cell (heap_old (o := o) hb)).2
  obtain ⟨i, hi⟩ : ∃ i, i = decide (before < x.v) := ⟨_, rfl⟩
  obtain ⟨v, hv⟩ : ∃ v, v = inB x.v 0 19 := ⟨_, rfl⟩
  obtain ⟨f, hf⟩ : ∃ f, f = formedB s x.d.tm := ⟨_, rfl⟩
  rw [← hv] at hV
  rw [← hf] at hF
  rw [← hi, ← hv, ← hf]
  have q0 : ¬ W.heap.size = Bb := by omega
  replace hv := Lib.hid hv
  replace hf := Lib.hid hf
  rw [hw1] at hF
  replace hF := Lib.hid hF
  replace hV := Lib.hid hV
  replace hw1 := Lib.hid hw1
  replace hT1 := Lib.hid hT1
  replace hb1 := Lib.hid hb1
  clear hS hL hb hsb s0 s1 hBl
  cases i
  · have o1 : ¬ before < x.v := by simpa using hi.symm
    clear hi
    go_enter Tryz.func93, Tryz.ntmps93
    go_wp2_with fail
    go_ret
    rw [← hw1.out]
    exact ⟨rfl, hT1.out, hb1.out⟩
  · have o1 : before < x.v := by simpa using hi.symm
    clear hi
    cases v
    · go_enter Tryz.func93, Tryz.ntmps93
      go_wp2_with fail
      refine (hV.out _).mono ?_
      rintro e w2 ⟨rfl, rfl⟩
      go_wp2_with fail
      go_ret
      rw [← hw1.out]
      exact ⟨rfl, hT1.out, hb1.out⟩
    · go_enter Tryz.func93, Tryz.ntmps93
      go_wp2_with fail
      refine (hV.out _).mono ?_
      rintro e w2 ⟨rfl, rfl⟩
      go_wp2_with fail
      refine (hF.out).mono ?_
      rintro e w2 ⟨rfl, hB2⟩
      rw [← hw1.out] at hB2
      replace hB2 := Lib.hid hB2
      go_wp2_with fail
      go_ret
      have hlt1 := (Array.getElem?_eq_some_iff.1 hb1.out).1
      refine ⟨rfl, hT1.out.then (hB2.out.mono hT1.out.size), (hB2.out.block _ hlt1).trans hb1.out⟩

theorem lfB_cons (s : Sg) (b : Int) (x : Int × Tm) (xs : List (Int × Tm)) : lfB s b (x :: xs) = ((decide (b < x.1) && inB x.1 0 19) && formedB s x.2 && lfB s x.1 xs) := rfl

set_option maxRecDepth 100000 in
set_option maxHeartbeats 1000000 in
/-- 'listFormed'. -/
theorem listFormed_any (s : Sg) (ds : List PB) (n₀ : Nat) (w : World) (ac : Option Addr) (lc cc : Nat) (af : Option Addr) (lf cf : Nat) (a : Option Addr) (l c : Nat) (hs : ∀ x ∈ ds, 1 + x.d.size ≤ 1000000) (hn : n₀ ≤ w.heap.size) (hS : IsSg n₀ w s ac lc cc af lf cf) (hL : LiesB n₀ w ds a l c) :
    Calls Tryz.prog 63 #[.agg #[.slice ac lc cc, .slice af lf cf], .slice a l c] w fun e w' => e = .returned (.bool (lfB s (-1) (pbs ds))) ∧ Below w.heap.size w w' := by
  obtain ⟨rfl, h1, h2, h3⟩ := hL
  obtain ⟨w0, hw0⟩ : ∃ w0, w0 = (w.alloc (bs 24 ac lc cc af lf cf)).alloc (one3 (-1)) := ⟨_, rfl⟩
  have hB0 : Below w.heap.size w w0 := by rw [hw0]; go_grown
  have hz0 : w0.heap.size = w.heap.size + 1 + 1 := by rw [hw0]; simp
  have f1 : w0.heap[w.heap.size]? = some (bs 24 ac lc cc af lf cf) := by rw [hw0]; exact heap_old (heap_new' _ rfl)
  have f2 : w0.heap[w.heap.size + 1]? = some (one3 (-1)) := by rw [hw0]; exact heap_new' _ (by simp)
  have hC : Calls Tryz.prog 92 #[.slice a ds.length c, .func (.func 93) #[] #[.pointer (some ⟨w.heap.size + 1, 0, none⟩), .pointer (some ⟨w.heap.size, 0, none⟩)]] w0 fun e w' => e = .returned (.bool (lfB s (-1) (pbs ds))) ∧ Below w.heap.size w w' := by
    refine (allB_any 93 #[.pointer (some ⟨w.heap.size + 1, 0, none⟩), .pointer (some ⟨w.heap.size, 0, none⟩)] (enters_of Tryz.func93 (by kernel_rfl) rfl) ds a c h1 h2
      (fun k W => Below w.heap.size w W ∧ W.heap[w.heap.size]? = some (bs 24 ac lc cc af lf cf) ∧ w.heap.size + 2 ≤ W.heap.size ∧ ∃ b, W.heap[w.heap.size + 1]? = some (one3 b) ∧ lfB s (-1) (pbs ds) = lfB s b (pbs (ds.drop k)))
      (fun W => Below w.heap.size w W ∧ lfB s (-1) (pbs ds) = false)
      (fun k W o hI => by
        obtain ⟨g1, g2, g3, b, g4, g5⟩ := hI
        exact ⟨g1.alloc g1.size o, heap_old g2, by simp; omega, b, heap_old g4, g5⟩)
      (fun k W h hI => by
        rcases h3 with h3 | ⟨b, off, ha, hb, hk⟩
        · rw [h3] at h; simp at h
        · exact ⟨b, off, ha, (hk k h).1.below (hI.1.mono hn) hb⟩)
      (fun k h W hI => by
        obtain ⟨g1, g2, g3, b, g4, g5⟩ := hI
        have hLk : Lies n₀ W ds[k].d := by
          rcases h3 with h3 | ⟨b, off, ha, hb, hk⟩
          · rw [h3] at h; simp at h
          · exact (hk k h).2.below (g1.mono hn)
        refine (lf1_any s ds[k] n₀ W (w.heap.size + 1) w.heap.size b ac lc cc af lf cf (hs _ (List.getElem_mem h)) (by omega) (by omega) g4 g2 (hS.below (g1.mono hn)) hLk).mono ?_
        rintro e W' ⟨rfl, hT, hb'⟩
        have hB' : Below w.heap.size w W' := g1.trans (hT.below (by omega) (fun j hj e => by omega))
        have hd : pbs (ds.drop k) = (ds[k].v, ds[k].d.tm) :: pbs (ds.drop (k + 1)) := by rw [List.drop_eq_getElem_cons h]; rfl
        rw [hd, lfB_cons] at g5
        cases hr : ((decide (b < ds[k].v) && inB ds[k].v 0 19) && formedB s ds[k].d.tm)
        · refine .inr ⟨rfl, hB', ?_⟩
          rw [g5]; simp only [hr, Bool.false_and]
        · refine .inl ⟨rfl, hB', (hT.block _ (by omega) (by omega)).trans g2, by have := hT.size; omega, ds[k].v, hb', ?_⟩
          rw [g5]; simp only [hr, Bool.true_and])
      w0 ⟨hB0, f1, by omega, -1, f2, by simp⟩).mono ?_
    rintro e W' (⟨rfl, g1, g2, g3, b, g4, g5⟩ | ⟨rfl, g1, g5⟩)
    · rw [List.drop_eq_nil_of_le (Nat.le_refl _)] at g5
      exact ⟨by rw [g5]; rfl, g1⟩
    · exact ⟨by rw [g5], g1⟩
  obtain ⟨r, hr⟩ : ∃ r, r = lfB s (-1) (pbs ds) := ⟨_, rfl⟩
  rw [← hr] at hC ⊢
  rw [hw0] at hC
  replace hC := Lib.hid hC
  have hmf : ∀ (fn : Fn) (first cap : Array Value) (w : World), (Instr.makeFunc fn first cap).run Tryz.prog w = .ok (.func fn first cap) w := fun _ _ _ _ => rfl
  clear hr hS h3 f1 f2 hs
  go_enter Tryz.func63, Tryz.ntmps63
  go_wp2_with fail
  refine (hC.out).mono ?_
  rintro e w1 ⟨rfl, hb⟩
  replace hb := Lib.hid hb
  go_wp2_with fail
  go_ret
  exact ⟨rfl, hb.out⟩

end Go.Proofs.YthlegfegkopdkaaGreat
