/- Own text, joined of: Y2. Models of variants: an expression in order is formed; the list that turns the variables. -/
import Derived.Test.YthlegfegkopdkaaGreatGe30

namespace Go.Proofs.YthlegfegkopdkaaGreat
open Go.RowKit Go.Shelf Go.Sort

/-! An expression in order is formed -/
theorem ordTs_len : ∀ (ks : List Tm) (fb : Int → Option Int) (s : OS), (ordTs fb s ks).1.length = ks.length
  | [], _, _ => by rw [ordTs]
  | t :: ts, fb, s => by rw [ordTs]; simp [ordTs_len ts]
theorem ordL_len : ∀ (ks : List Tm) (fb fi : Int → Option Int) (s : OS), (ordL fb fi s ks).1.length = ks.length
  | [], _, _, _ => by rw [ordL]
  | t :: ts, fb, fi, s => by rw [ordL]; simp [ordTs_len ts]
/-- All numbers that were given are below the count. -/
structure InR (fb : Int → Option Int) (s : OS) : Prop where
  bound : ∀ v m, fb v = some m → 0 ≤ m ∧ m < s.count
  free : ∀ v m, s.free v = some m → 0 ≤ m ∧ m < s.count
theorem num_in {fb : Int → Option Int} {s : OS} (h : InR fb s) (v : Int) : (0 ≤ (numO fb s v).1 ∧ (numO fb s v).1 < (numO fb s v).2.count) ∧ InR fb (numO fb s v).2 := by
  cases h1 : fb v with
  | some m =>
    have e : numO fb s v = (m, s) := by unfold numO; rw [h1]
    rw [e]; exact ⟨h.bound v m h1, h⟩
  | none =>
    cases h2 : s.free v with
    | some m =>
      have e : numO fb s v = (m, s) := by unfold numO; rw [h1]; simp only; rw [h2]
      rw [e]; exact ⟨h.free v m h2, h⟩
    | none =>
      have e : numO fb s v = ((s.count : Int), ⟨updI s.free v s.count, s.count + 1⟩) := by unfold numO; rw [h1]; simp only; rw [h2]
      rw [e]
      refine ⟨⟨by simp, by simp only; omega⟩, fun u m hm => ?_, fun u m hm => ?_⟩
      · have := h.bound u m hm; simp only; omega
      · simp only [updI] at hm
        split at hm
        · simp only [Option.some.injEq] at hm; simp only; omega
        · have := h.free u m hm; simp only; omega
theorem InR.next {fb : Int → Option Int} {s : OS} (h : InR fb s) : InR fb s.next := ⟨fun v m hm => by have := h.bound v m hm; simp only [OS.next]; omega, fun v m hm => by have := h.free v m hm; simp only [OS.next]; omega⟩
theorem InR.more {fb fi : Int → Option Int} {s s' : OS} (h : InR fi s') (hb : InR fb s) (hc : s.count ≤ s'.count) : InR fb s' := ⟨fun v m hm => by have := hb.bound v m hm; omega, h.free⟩
mutual
theorem ord_nodes (sg : Sg) : ∀ (t : Tm) (fb : Int → Option Int) (s : OS), nodesOk sg t = true → InR fb s → (ordT fb s t).2.count ≤ 20 → nodesOk sg (ordT fb s t).1 = true ∧ InR fb (ordT fb s t).2
  | .mk op n ks, fb, s, hk, hi, hc => by
    have hO := okV_of _ hk
    obtain ⟨o1, o2, o3, o4⟩ := hO.open
    simp only [Tm.op, Tm.n, Tm.kids] at o1 o2 o3 o4
    rw [nodesOk, Bool.and_eq_true] at hk
    by_cases h1 : op = 1
    · have e : ordT fb s (.mk op n ks) = (.mk 1 (numO fb s n).1 [], (numO fb s n).2) := by rw [ordT, if_pos h1]
      rw [e] at hc ⊢
      obtain ⟨⟨e1, e2⟩, e3⟩ := num_in hi n
      refine ⟨?_, e3⟩
      simp only at hc
      rw [nodesOk, nodeOk_1]
      simp only [List.length_nil, decide_true, Bool.and_true, nodesOks, inB, Bool.and_eq_true, decide_eq_true_eq]
      exact ⟨e1, by omega⟩
    · by_cases h8 : op = 8
      · obtain rfl := h8
        match ks, o3 rfl, hk with
        | [a, b], _, hk =>
          rw [ordT_let] at hc ⊢
          simp only [nodesOks, Bool.and_eq_true] at hk
          obtain ⟨k1, k2, k3, -⟩ := hk
          simp only at hc
          have z1 : s.count + 1 ≤ (ordT fb s.next a).2.count := ordT_le a fb s.next
          have z2 := ordT_le b (updI fb n s.count) (ordT fb s.next a).2
          obtain ⟨e1, e2⟩ := ord_nodes sg a fb s.next k2 hi.next (by omega)
          have hb : InR (updI fb n s.count) (ordT fb s.next a).2 := ⟨fun v m hm => by
            simp only [updI] at hm
            split at hm
            · simp only [Option.some.injEq] at hm; omega
            · exact e2.bound v m hm, e2.free⟩
          obtain ⟨e3, e4⟩ := ord_nodes sg b _ _ k3 hb hc
          refine ⟨?_, e4.more hi (by omega)⟩
          rw [nodesOk, nodeOk_8]
          simp only [List.length_cons, List.length_nil, decide_true, Bool.and_true, nodesOks, inB, e1, e3, Bool.and_eq_true, decide_eq_true_eq]
          exact ⟨by omega, by omega⟩
      · have e : ordT fb s (.mk op n ks) = (.mk op n (ordTs fb s ks).1, (ordTs fb s ks).2) := by rw [ordT, if_neg h1, if_neg h8]
        rw [e] at hc ⊢
        obtain ⟨e1, e2⟩ := ord_nodess sg ks fb s hk.2 hi hc
        refine ⟨?_, e2⟩
        rw [nodesOk, e1, Bool.and_true, ordTs_len]
        exact hk.1
theorem ord_nodess (sg : Sg) : ∀ (ks : List Tm) (fb : Int → Option Int) (s : OS), nodesOks sg ks = true → InR fb s → (ordTs fb s ks).2.count ≤ 20 → nodesOks sg (ordTs fb s ks).1 = true ∧ InR fb (ordTs fb s ks).2
  | [], fb, s, _, hi, _ => by simp only [ordTs]; exact ⟨rfl, hi⟩
  | t :: ts, fb, s, hk, hi, hc => by
    rw [nodesOks, Bool.and_eq_true] at hk
    simp only [ordTs] at hc ⊢
    have z := ordTs_le ts fb (ordT fb s t).2
    obtain ⟨e1, e2⟩ := ord_nodes sg t fb s hk.1 hi (by omega)
    obtain ⟨e3, e4⟩ := ord_nodess sg ts fb _ hk.2 e2 hc
    exact ⟨by rw [nodesOks, e1, e3]; rfl, e4⟩
end
theorem ord_formed {s : Sg} {t : Tm} (h : formedB s t = true) (hc : (ordE t).2.count ≤ 20) : formedB s (ordE t).1 = true := by
  have hO := OkV.formed h
  unfold formedB at h ⊢
  rw [Bool.and_eq_true] at h ⊢
  refine ⟨?_, (ord_nodes s t _ _ h.2 ⟨fun _ _ h => by simp at h, fun _ _ h => by simp at h⟩ hc).1⟩
  have := weigh_ord t (fun _ => none) ⟨fun _ => none, 0⟩ 40 12 hO
  unfold ordE
  rw [this]
  exact h.1

/-! The list that turns the variables -/
def turnV (m i : Nat) : Int × Tm := ((i : Int), .mk 1 (((i + m) % 20 : Nat) : Int) [])
def turnL (m k : Nat) : List (Int × Tm) := (List.range k).map (turnV m)
theorem turnL_len (m k : Nat) : (turnL m k).length = k := by simp [turnL]
theorem turnL_succ (m k : Nat) : turnL m (k + 1) = turnL m k ++ [((k : Int), .mk 1 (((k + m) % 20 : Nat) : Int) [])] := by
  unfold turnL; rw [List.range_succ, List.map_append]; rfl
theorem turnL_get (m k i : Nat) (h : i < (turnL m k).length) : (turnL m k)[i] = turnV m i := by simp [turnL]
theorem var_formed (s : Sg) (v : Nat) (hv : v < 20) : formedB s (.mk 1 (v : Int) []) = true := by
  unfold formedB
  rw [nodesOk, nodeOk_1]
  simp [weigh, weighs, nodesOks, inB]
  omega
theorem turn_list (s : Sg) (m : Nat) : ∀ (n k : Nat), k + n ≤ 20 → lfB s ((k : Int) - 1) ((List.range' k n).map (turnV m)) = true
  | 0, _, _ => by simp [lfB]
  | n + 1, k, h => by
    rw [List.range'_succ, List.map_cons, lfB_cons]
    have ih := turn_list s m n (k + 1) (by omega)
    have e : ((k + 1 : Nat) : Int) - 1 = (k : Int) := by omega
    rw [e] at ih
    have hf : formedB s (turnV m k).2 = true := var_formed s ((k + m) % 20) (Nat.mod_lt _ (by omega))
    have e2 : (turnV m k).1 = (k : Int) := rfl
    rw [e2, hf, ih]
    simp [inB]
    omega
theorem turn_lf (s : Sg) (m : Nat) : lfB s (-1) (turnL m 20) = true := by
  have := turn_list s m 20 0 (by omega)
  rw [← List.range_eq_range'] at this
  exact this
theorem bindK_at {bs : List PB} (hv : ∀ i (h : i < bs.length), bs[i].v = (i : Int)) : ∀ k, k ≤ bs.length → ∀ v : Nat, bindK bs k (v : Int) = if v < k then (bs[v]?).map (·.d) else none
  | 0, _, v => by simp [bindK]
  | k + 1, hk, v => by
    rw [bindK_succ bs k (by omega)]
    unfold updI
    rw [hv k (by omega)]
    by_cases e : v = k
    · subst e
      rw [if_pos rfl, if_pos (by omega), List.getElem?_eq_getElem (by omega)]; rfl
    · rw [if_neg (by omega), bindK_at hv k (by omega) v]
      by_cases h2 : v < k
      · rw [if_pos h2, if_pos (by omega)]
      · rw [if_neg h2, if_neg (by omega)]
theorem stK_at {bs : List PB} (hv : ∀ i (h : i < bs.length), bs[i].v = (i : Int)) : ∀ k, k ≤ bs.length → ∀ v : Nat, v < k → stK bs k v = true
  | 0, _, v, h => by omega
  | k + 1, hk, v, h => by
    rw [stK_succ bs k (by omega), hv k (by omega)]
    unfold setB orSet
    by_cases e : v = k
    · subst e; simp
    · rw [if_neg (by simpa using e), stK_at hv k (by omega) v (by omega)]; rfl
/-- What is put in for the variables leaves the order as it is. -/
theorem turn_ord {bs : List PB} {m : Nat} (hp : pbs bs = turnL m 20) {N : Nat} {t z : Tm} (hO : OkV t) (h : putF (bindK bs bs.length) (stK bs bs.length) N (fun _ => false) t = some z) : (ordE z).1 = (ordE t).1 := by
  have hl : bs.length = 20 := by have := congrArg List.length hp; simpa [pbs, turnL] using this
  have hb : ∀ i (h : i < bs.length), bs[i].v = (i : Int) ∧ bs[i].d.tm = .mk 1 (((i + m) % 20 : Nat) : Int) [] := fun i h => by
    have e : (pbs bs)[i]'(by simpa [pbs] using h) = turnV m i := by
      have : (pbs bs)[i]? = (turnL m 20)[i]? := by rw [hp]
      rw [List.getElem?_eq_getElem (by simpa [pbs] using h), List.getElem?_eq_getElem (by simp [turnL]; omega), Option.some.injEq] at this
      rw [this, turnL_get]
    simp only [pbs, List.getElem_map, turnV, Prod.mk.injEq] at e
    exact e
  have hv := fun i h => (hb i h).1
  refine ren_ordE (ρ := fun v => (v + m) % 20) (fun v hv20 => ?_) (fun a b ha hb h => by have h2 : (a + m) % 20 = (b + m) % 20 := h; omega) (fun v hv20 => stK_at hv _ (Nat.le_refl _) v (by omega)) hO h
  refine ⟨bs[v].d, ?_, (hb v (by omega)).2⟩
  rw [bindK_at hv _ (Nat.le_refl _), if_pos (by omega), List.getElem?_eq_getElem (by omega)]
  rfl
theorem sameB_symm (t u : Tm) : sameB t u = sameB u t := by
  by_cases h : t = u
  · subst h; rfl
  · rw [Bool.eq_false_iff.2 (fun e => h (sameB_of _ _ e)), Bool.eq_false_iff.2 (fun e => h (sameB_of _ _ e).symm)]

end Go.Proofs.YthlegfegkopdkaaGreat
