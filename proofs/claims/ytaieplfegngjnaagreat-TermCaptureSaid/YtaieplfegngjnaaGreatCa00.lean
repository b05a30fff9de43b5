/- Own text, joined of: Y3 Y4. Models of what is put in: the free variables; the variables' own terms. · Models of what is put in: which variables are wanted. -/
import Derived.Test.YtaieplfegngjnaaGreatVa01

namespace Go.Proofs.YtaieplfegngjnaaGreat
open Go.RowKit Go.Shelf Go.Sort

/-! Free variables of a node, of a let -/
theorem fvKs_iff {op n : Int} (h8 : op ≠ 8) : ∀ (ks : List Tm) (k : Nat) (acc : Nat → Bool) (v : Nat), fvKs op n ks k acc v = true ↔ acc v = true ∨ ∃ t ∈ ks, fvT t v = true
  | [], _, acc, v => by rw [fvKs]; simp
  | x :: ts, k, acc, v => by
    rw [fvKs, fvKs_iff h8 ts, if_neg (fun e => h8 e.1)]
    unfold orSet
    simp only [Bool.or_eq_true, List.mem_cons, exists_eq_or_imp]
    exact or_assoc
theorem fv_node {op n : Int} {ks : List Tm} {v : Nat} (h1 : op ≠ 1) (h8 : op ≠ 8) : fvT (.mk op n ks) v = true ↔ ∃ t ∈ ks, fvT t v = true := by
  rw [fvT, fvKs_iff h8]
  simp [h1]
theorem fv_let {n : Int} {a b : Tm} {v : Nat} : fvT (.mk 8 n [a, b]) v = true ↔ fvT a v = true ∨ (fvT b v = true ∧ v ≠ n.toNat) := by
  rw [fvT, fvKs, fvKs, fvKs]
  by_cases h : v = n.toNat
  · simp [orSet, setB, h]
  · simp [orSet, setB, h]
theorem fv_of_var {n : Int} {v : Nat} : fvT (.mk 1 n []) v = true ↔ (v : Int) = n := by
  rw [fvT, fvKs]; simp

/-! What is free stands there -/
mutual
theorem stT_met : ∀ (t : Tm) (met : Nat → Bool) (v : Nat), met v = true → stT t met v = true
  | .mk op n ks, met, v, h => by
    rw [stT]
    refine stKs_met ks _ v ?_
    unfold standN
    split
    · unfold setB; split
      · rfl
      · exact h
    · exact h
theorem stKs_met : ∀ (ks : List Tm) (met : Nat → Bool) (v : Nat), met v = true → stKs ks met v = true
  | [], _, _, h => by rw [stKs]; exact h
  | t :: ts, met, v, h => by rw [stKs]; exact stKs_met ts _ v (stT_met t met v h)
end
theorem stKs_mem : ∀ (ks : List Tm) (met : Nat → Bool) (t : Tm) (v : Nat), t ∈ ks → (∀ met, stT t met v = true) → stKs ks met v = true
  | [], _, _, _, h, _ => by cases h
  | x :: ts, met, t, v, h, hs => by
    rw [stKs]
    rcases List.mem_cons.1 h with rfl | h
    · exact stKs_met ts _ v (hs met)
    · exact stKs_mem ts _ t v h hs
mutual
theorem fv_stands : ∀ (t : Tm) (v : Nat), OkV t → fvT t v = true → ∀ met, stT t met v = true
  | .mk op n ks, v, hO, h, met => by
    obtain ⟨o1, o2, o3, o4⟩ := hO.open
    simp only [Tm.op, Tm.n, Tm.kids] at o1 o2 o3 o4
    rw [stT]
    by_cases h1 : op = 1
    · obtain rfl := h1
      obtain rfl := o2 rfl
      rw [fv_of_var] at h
      rw [stKs]
      unfold standN
      rw [if_pos (.inl rfl)]
      unfold setB
      rw [if_pos (by omega)]
    · by_cases h8 : op = 8
      · obtain rfl := h8
        match ks, o3 rfl, o4, h with
        | [a, b], _, o4, h =>
          simp only [OkVs] at o4
          rcases fv_let.1 h with h | h
          · exact stKs_mem _ _ a v (by simp) (fv_stands a v o4.1 h)
          · exact stKs_mem _ _ b v (by simp) (fv_stands b v o4.2.1 h.1)
      · obtain ⟨t, ht, hf⟩ := (fv_node h1 h8).1 h
        obtain ⟨x, hx, hs⟩ := fvs_stands ks v o4 ⟨t, ht, hf⟩
        exact stKs_mem _ _ x v hx hs
theorem fvs_stands : ∀ (ks : List Tm) (v : Nat), OkVs ks → (∃ t ∈ ks, fvT t v = true) → ∃ t ∈ ks, ∀ met, stT t met v = true
  | [], _, _, h => by obtain ⟨t, h, -⟩ := h; cases h
  | x :: ts, v, hO, h => by
    rw [OkVs] at hO
    obtain ⟨t, ht, hf⟩ := h
    rcases List.mem_cons.1 ht with e | ht
    · rw [e] at hf; exact ⟨x, by simp, fv_stands x v hO.1 hf⟩
    · obtain ⟨y, hy, hs⟩ := fvs_stands ts v hO.2 ⟨t, ht, hf⟩
      exact ⟨y, by simp [hy], hs⟩
end
/-- What stands in a kid stands in the node. -/
theorem st_kid {op n : Int} {ks : List Tm} {t : Tm} {m : Nat} (h : stT (.mk op n ks) (fun _ => false) m = false) (ht : t ∈ ks) : ∃ met, stT t met m = false := by
  refine Classical.byContradiction fun hc => ?_
  have : ∀ met, stT t met m = true := fun met => by
    cases e : stT t met m with
    | true => rfl
    | false => exact absurd ⟨met, e⟩ hc
  rw [stT, stKs_mem ks _ t m ht this] at h
  cases h
theorem st_none {t : Tm} {m : Nat} {met : Nat → Bool} (h : stT t met m = false) : met m = false := by
  cases e : met m with
  | false => rfl
  | true => rw [stT_met t met m e] at h; cases h

/-! A variable in place of a free one -/
/-- m stands nowhere in the term. -/
def NoSt (m : Nat) (t : Tm) : Prop := ∃ met, stT t met m = false
theorem NoSt.kid {m : Nat} {op n : Int} {ks : List Tm} (h : NoSt m (.mk op n ks)) : ∀ t ∈ ks, NoSt m t := fun t ht => by
  obtain ⟨met, h⟩ := h
  refine Classical.byContradiction fun hc => ?_
  have : ∀ met, stT t met m = true := fun met => by
    cases e : stT t met m with
    | true => rfl
    | false => exact absurd ⟨met, e⟩ hc
  rw [stT, stKs_mem ks _ t m ht this] at h
  cases h
theorem NoSt.own {m : Nat} {op n : Int} {ks : List Tm} (h : NoSt m (.mk op n ks)) (ho : op = 1 ∨ op = 8) : m ≠ n.toNat := fun e => by
  obtain ⟨met, h⟩ := h
  rw [stT] at h
  have : standN met op n m = true := by unfold standN; rw [if_pos ho]; unfold setB; rw [if_pos e]
  rw [stKs_met ks _ m this] at h
  cases h
theorem NoSt.free {m : Nat} {t : Tm} (h : NoSt m t) (hO : OkV t) : fvT t m = false := by
  cases e : fvT t m with
  | false => rfl
  | true => obtain ⟨met, h⟩ := h; rw [fv_stands t m hO e met] at h; cases h
mutual
theorem fv_ren (u m : Nat) (hu : u < 20) : ∀ (t : Tm) (v : Nat), OkV t → NoSt m t → (fvT (renT u m t) v = true ↔ (v = m ∧ fvT t u = true) ∨ (v ≠ u ∧ fvT t v = true))
  | .mk op n ks, v, hO, hm => by
    have hfm := hm.free hO
    obtain ⟨o1, o2, o3, o4⟩ := hO.open
    simp only [Tm.op, Tm.n, Tm.kids] at o1 o2 o3 o4
    by_cases h1 : op = 1
    · obtain rfl := h1
      obtain rfl := o2 rfl
      by_cases hn : n = u
      · rw [renT, if_pos ⟨rfl, hn⟩, fv_of_var, fv_of_var, fv_of_var, hn]
        constructor
        · intro h; exact .inl ⟨by omega, rfl⟩
        · rintro (⟨h, -⟩ | ⟨h, h'⟩) <;> omega
      · rw [renT, if_neg (fun e => hn e.2), if_neg (fun e => by omega), renTs, fv_of_var, fv_of_var]
        constructor
        · intro h; exact .inr ⟨by omega, h⟩
        · rintro (⟨h, h'⟩ | ⟨h, h'⟩) <;> omega
    · by_cases h8 : op = 8
      · obtain rfl := h8
        match ks, o3 rfl, o4, hm with
        | [a, b], _, o4, hm =>
          simp only [OkVs] at o4
          have hma := hm.kid a (by simp)
          have hmb := hm.kid b (by simp)
          have hmn := hm.own (.inr rfl)
          have ia := fv_ren u m hu a v o4.1 hma
          have ib := fv_ren u m hu b v o4.2.1 hmb
          have hn := o1 (.inr rfl)
          by_cases hnu : n = u
          · rw [renT, if_neg (fun e => by omega), if_pos ⟨rfl, hnu⟩, renH, fv_let, fv_let, fv_let, ia]
            constructor
            · rintro ((⟨h, h'⟩ | ⟨h, h'⟩) | ⟨h, h'⟩)
              · exact .inl ⟨h, .inl h'⟩
              · exact .inr ⟨h, .inl h'⟩
              · exact .inr ⟨by omega, .inr ⟨h, h'⟩⟩
            · rintro (⟨h, h' | ⟨h', h''⟩⟩ | ⟨h, h' | ⟨h', h''⟩⟩)
              · exact .inl (.inl ⟨h, h'⟩)
              · exact absurd (by omega : u = n.toNat) h''
              · exact .inl (.inr ⟨h, h'⟩)
              · exact .inr ⟨h', h''⟩
          · rw [renT, if_neg (fun e => by omega), if_neg (fun e => hnu e.2), renTs, renTs, renTs, fv_let, fv_let, fv_let, ia, ib]
            constructor
            · rintro ((⟨h, h'⟩ | ⟨h, h'⟩) | ⟨⟨h, h'⟩ | ⟨h, h'⟩, h''⟩)
              · exact .inl ⟨h, .inl h'⟩
              · exact .inr ⟨h, .inl h'⟩
              · exact .inl ⟨h, .inr ⟨h', by omega⟩⟩
              · exact .inr ⟨h, .inr ⟨h', h''⟩⟩
            · rintro (⟨h, h' | ⟨h', h''⟩⟩ | ⟨h, h' | ⟨h', h''⟩⟩)
              · exact .inl (.inl ⟨h, h'⟩)
              · exact .inr ⟨.inl ⟨h, h'⟩, by omega⟩
              · exact .inl (.inr ⟨h, h'⟩)
              · exact .inr ⟨.inr ⟨h, h'⟩, h''⟩
      · rw [renT, if_neg (fun e => h1 e.1), if_neg (fun e => h8 e.1), fv_node h1 h8, fv_node h1 h8, fv_node h1 h8, fvs_ren u m hu ks v o4 hm.kid]
theorem fvs_ren (u m : Nat) (hu : u < 20) : ∀ (ks : List Tm) (v : Nat), OkVs ks → (∀ t ∈ ks, NoSt m t) → ((∃ t ∈ renTs u m ks, fvT t v = true) ↔ (v = m ∧ ∃ t ∈ ks, fvT t u = true) ∨ (v ≠ u ∧ ∃ t ∈ ks, fvT t v = true))
  | [], v, _, _ => by simp [renTs]
  | x :: ts, v, hO, hm => by
    rw [OkVs] at hO
    rw [renTs]
    simp only [List.mem_cons, exists_eq_or_imp]
    rw [fv_ren u m hu x v hO.1 (hm x (by simp)), fvs_ren u m hu ts v hO.2 (fun t ht => hm t (by simp [ht]))]
    constructor
    · rintro ((⟨h, h'⟩ | ⟨h, h'⟩) | ⟨h, h'⟩ | ⟨h, h'⟩)
      · exact .inl ⟨h, .inl h'⟩
      · exact .inr ⟨h, .inl h'⟩
      · exact .inl ⟨h, .inr h'⟩
      · exact .inr ⟨h, .inr h'⟩
    · rintro (⟨h, h' | h'⟩ | ⟨h, h' | h'⟩)
      · exact .inl (.inl ⟨h, h'⟩)
      · exact .inr (.inl ⟨h, h'⟩)
      · exact .inl (.inr ⟨h, h'⟩)
      · exact .inr (.inr ⟨h, h'⟩)
end

/-! The free variables of what was put in -/
/-- The variables that stand for v behind the list. -/
def Img (F : Int → Option DT) (g : Nat → Bool) (v u : Nat) : Prop := if (findD F g v).2 = true then fvT (findD F g v).1.tm u = true else u = v
theorem findD_set {F : Int → Option DT} {g : Nat → Bool} {k v : Nat} (h : v ≠ k) : findD F (setB g k true) v = findD F g v := by
  unfold findD setB; rw [if_neg h]
theorem findD_own {F : Int → Option DT} {g : Nat → Bool} {k : Nat} : (findD F (setB g k true) k).2 = false := by
  unfold findD setB
  cases F (k : Int) with
  | some d => simp
  | none => rfl
def FvSpec (F : Int → Option DT) (st : Nat → Bool) (N : Nat) : Prop := ∀ (g : Nat → Bool) (t z : Tm), OkV t → putF F st N g t = some z → ∀ u, u < 20 → (fvT z u = true ↔ ∃ v, v < 20 ∧ fvT t v = true ∧ Img F g v u)
theorem fv_puts {F : Int → Option DT} {st : Nat → Bool} {N : Nat} (ih : FvSpec F st N) (g : Nat → Bool) : ∀ (ks zs : List Tm), OkVs ks → zs.length = ks.length → (∀ k (h : k < ks.length) (h' : k < zs.length), putF F st N g ks[k] = some zs[k]) → ∀ u, u < 20 → ((∃ z ∈ zs, fvT z u = true) ↔ ∃ v, v < 20 ∧ (∃ t ∈ ks, fvT t v = true) ∧ Img F g v u)
  | [], [], _, _, _, u, _ => by simp
  | [], _ :: _, _, h, _, _, _ => by simp at h
  | _ :: _, [], _, h, _, _, _ => by simp at h
  | x :: ks, z :: zs, hO, hl, hp, u, hu => by
    rw [OkVs] at hO
    have h1 := ih g x z hO.1 (hp 0 (by simp) (by simp)) u hu
    have h2 := fv_puts ih g ks zs hO.2 (by simpa using hl) (fun k h h' => hp (k + 1) (by simpa using h) (by simpa using h')) u hu
    simp only [List.mem_cons, exists_eq_or_imp]
    rw [h1, h2]
    constructor
    · rintro (⟨v, a, b, c⟩ | ⟨v, a, b, c⟩)
      · exact ⟨v, a, .inl b, c⟩
      · exact ⟨v, a, .inr b, c⟩
    · rintro ⟨v, a, b | b, c⟩
      · exact .inl ⟨v, a, b, c⟩
      · exact .inr ⟨v, a, b, c⟩
theorem fv_put {F : Int → Option DT} {st : Nat → Bool} (hF : ∀ (v : Nat) (d : DT), F (v : Int) = some d → OkV d.tm ∧ ∀ u, fvT d.tm u = true → st u = true) : ∀ N, FvSpec F st N
  | 0 => fun _ _ _ _ h => by cases h
  | N + 1 => fun g t z hO h u hu => by
    have ih := fv_put hF N
    obtain ⟨op, n, ks⟩ := t
    have hO' := hO
    obtain ⟨o1, o2, o3, o4⟩ := hO.open
    simp only [Tm.op, Tm.n, Tm.kids] at o1 o2 o3 o4
    by_cases h1 : op = 1
    · obtain rfl := h1
      obtain rfl := o2 rfl
      obtain ⟨v, rfl⟩ : ∃ v : Nat, n = v := ⟨n.toNat, by have := o1 (.inl rfl); omega⟩
      have hv : v < 20 := by have := o1 (.inl rfl); omega
      rw [putF_var _ _ _ _ _ _ _ rfl, Option.some.injEq] at h
      simp only [Int.toNat_natCast] at h
      subst h
      have hI : (∃ v', v' < 20 ∧ fvT (.mk 1 (v : Int) []) v' = true ∧ Img F g v' u) ↔ Img F g v u := by
        constructor
        · rintro ⟨v', -, a, b⟩
          rw [fv_of_var] at a
          obtain rfl : v' = v := by omega
          exact b
        · intro b; exact ⟨v, hv, fv_of_var.2 rfl, b⟩
      rw [hI]
      unfold Img
      split
      · rfl
      · rw [fv_of_var]; omega
    · by_cases h8 : op = 8
      · obtain rfl := h8
        match ks, o3 rfl, o4, h, hO' with
        | [a, b], _, o4, h, hO' =>
          simp only [OkVs] at o4
          obtain ⟨w, rfl⟩ : ∃ v : Nat, n = v := ⟨n.toNat, by have := o1 (.inr rfl); omega⟩
          have hw : w < 20 := by have := o1 (.inr rfl); omega
          rw [putF_let] at h
          simp only [Int.toNat_natCast] at h
          have hlet : (∃ v, v < 20 ∧ fvT (.mk 8 (w : Int) [a, b]) v = true ∧ Img F g v u) ↔ (∃ v, v < 20 ∧ fvT a v = true ∧ Img F g v u) ∨ ∃ v, v < 20 ∧ fvT b v = true ∧ v ≠ w ∧ Img F g v u := by
            constructor
            · rintro ⟨v, p, q, r⟩
              rcases fv_let.1 q with q | ⟨q, q'⟩
              · exact .inl ⟨v, p, q, r⟩
              · exact .inr ⟨v, p, q, by simpa using q', r⟩
            · rintro (⟨v, p, q, r⟩ | ⟨v, p, q, q', r⟩)
              · exact ⟨v, p, fv_let.2 (.inl q), r⟩
              · exact ⟨v, p, fv_let.2 (.inr ⟨q, by simpa using q'⟩), r⟩
          rw [hlet]
          cases hc : catchB F (setB g w true) w b with
          | false =>
            rw [hc] at h
            simp only [Bool.false_eq_true, if_false] at h
            cases hA : putF F st N g a with
            | none => rw [hA] at h; cases h
            | some A =>
              cases hB : putF F st N (setB g w true) b with
              | none => rw [hA, hB] at h; cases h
              | some B =>
                rw [hA, hB] at h
                simp only [Option.bind_some, Option.map_some, Option.some.injEq] at h
                subst h
                rw [fv_let, ih g a A o4.1 hA u hu, ih (setB g w true) b B o4.2.1 hB u hu]
                simp only [Int.toNat_natCast]
                have hne : ∀ v, v < 20 → fvT b v = true → v ≠ w → Img F g v u → u ≠ w := fun v p q r i e => by
                  subst e
                  unfold Img at i
                  split at i
                  · rename_i hf
                    unfold catchB at hc
                    rw [List.any_eq_false] at hc
                    have := hc v (List.mem_filter.2 ⟨List.mem_range.2 p, q⟩)
                    rw [findD_set r, hf, i] at this
                    simp at this
                  · exact r i.symm
                constructor
                · rintro (l | ⟨⟨v, p, q, i⟩, e⟩)
                  · exact .inl l
                  · by_cases r : v = w
                    · subst r
                      unfold Img at i
                      rw [findD_own] at i
                      simp only [Bool.false_eq_true, if_false] at i
                      exact absurd i e
                    · refine .inr ⟨v, p, q, r, ?_⟩
                      unfold Img at i ⊢
                      rw [findD_set r] at i
                      exact i
                · rintro (l | ⟨v, p, q, r, i⟩)
                  · exact .inl l
                  · refine .inr ⟨⟨v, p, q, ?_⟩, hne v p q r i⟩
                    unfold Img at i ⊢
                    rw [findD_set r]
                    exact i
          | true =>
            rw [hc] at h
            simp only [if_true] at h
            cases hl : leastN (orSet (stT (.mk 8 (w : Int) [a, b]) (fun _ => false)) st) with
            | none => rw [hl] at h; cases h
            | some m =>
              rw [hl] at h
              simp only at h
              have hm20 := leastN_lt hl
              have hmf : orSet (stT (.mk 8 (w : Int) [a, b]) (fun _ => false)) st m = false := by
                unfold leastN at hl
                have := List.find?_some hl
                simpa using this
              have hm1 : stT (.mk 8 (w : Int) [a, b]) (fun _ => false) m = false ∧ st m = false := by
                unfold orSet at hmf; simpa using hmf
              have hNo : NoSt m (.mk 8 (w : Int) [a, b]) := ⟨_, hm1.1⟩
              have hmb := hNo.kid b (by simp)
              have hmw : m ≠ w := by simpa using hNo.own (.inr rfl)
              have hob := renT_ok (w : Int) (m : Int) ⟨by omega, by omega⟩ b o4.2.1
              cases hA : putF F st N g a with
              | none => rw [hA] at h; cases h
              | some A =>
                cases hB : putF F st N (setB g m true) (renT w m b) with
                | none => rw [hA, hB] at h; cases h
                | some B =>
                  rw [hA, hB] at h
                  simp only [Option.bind_some, Option.map_some, Option.some.injEq] at h
                  subst h
                  rw [fv_let, ih g a A o4.1 hA u hu, ih (setB g m true) _ B hob hB u hu]
                  simp only [Int.toNat_natCast]
                  have hr := fun v => fv_ren w m hw b v o4.2.1 hmb
                  have hfm := hmb.free o4.2.1
                  have hne : ∀ v, fvT b v = true → Img F g v u → u ≠ m := fun v q i e => by
                    subst e
                    unfold Img at i
                    split at i
                    · rename_i hf
                      have := (hF v _ (findD_some hf)).2 u i
                      rw [hm1.2] at this; cases this
                    · subst i; rw [hfm] at q; cases q
                  constructor
                  · rintro (l | ⟨⟨v, p, q, i⟩, e⟩)
                    · exact .inl l
                    · by_cases r : v = m
                      · subst r
                        unfold Img at i
                        rw [findD_own] at i
                        simp only [Bool.false_eq_true, if_false] at i
                        exact absurd i e
                      · rcases (hr v).1 q with ⟨q1, -⟩ | ⟨q1, q2⟩
                        · exact absurd q1 r
                        · refine .inr ⟨v, p, q2, q1, ?_⟩
                          unfold Img at i ⊢
                          rw [findD_set r] at i
                          exact i
                  · rintro (l | ⟨v, p, q, r, i⟩)
                    · exact .inl l
                    · have hvm : v ≠ m := fun e => by subst e; rw [hfm] at q; cases q
                      refine .inr ⟨⟨v, p, (hr v).2 (.inr ⟨r, q⟩), ?_⟩, hne v q i⟩
                      unfold Img at i ⊢
                      rw [findD_set hvm]
                      exact i
      · rw [putF_node _ _ _ _ _ _ _ h1 h8] at h
        cases hm : ks.mapM (putF F st N g) with
        | none => rw [hm] at h; cases h
        | some zs =>
          rw [hm] at h
          simp only [Option.map_some, Option.some.injEq] at h
          subst h
          obtain ⟨hl, hk⟩ := mapM_some hm
          rw [fv_node h1 h8, fv_puts ih g ks zs o4 hl hk u hu]
          constructor
          · rintro ⟨v, p, q, i⟩; exact ⟨v, p, (fv_node h1 h8).2 q, i⟩
          · rintro ⟨v, p, q, i⟩; exact ⟨v, p, (fv_node h1 h8).1 q, i⟩

/-! The variables' own terms -/
theorem own_put {F : Int → Option DT} {st : Nat → Bool} : ∀ (N : Nat) (g : Nat → Bool) (t : Tm), OkV t → t.size ≤ N → (∀ v : Nat, v < 20 → (findD F g v).2 = true → (findD F g v).1.tm = .mk 1 (v : Int) []) → putF F st N g t = some t
  | 0, _, t, _, h, _ => by have := size_pos t; omega
  | N + 1, g, .mk op n ks, hO, hs, hf => by
    obtain ⟨o1, o2, o3, o4⟩ := hO.open
    simp only [Tm.op, Tm.n, Tm.kids] at o1 o2 o3 o4
    rw [Tm.size] at hs
    by_cases h1 : op = 1
    · obtain rfl := h1
      obtain rfl := o2 rfl
      obtain ⟨v, rfl⟩ : ∃ v : Nat, n = v := ⟨n.toNat, by have := o1 (.inl rfl); omega⟩
      have hv : v < 20 := by have := o1 (.inl rfl); omega
      rw [putF_var _ _ _ _ _ _ _ rfl]
      simp only [Int.toNat_natCast]
      split
      · rename_i hq; rw [hf v hv hq]
      · rfl
    · by_cases h8 : op = 8
      · obtain rfl := h8
        match ks, o3 rfl, o4, hs with
        | [a, b], _, o4, hs =>
          simp only [OkVs] at o4
          obtain ⟨w, rfl⟩ : ∃ v : Nat, n = v := ⟨n.toNat, by have := o1 (.inr rfl); omega⟩
          simp only [sizes] at hs
          have hf' : ∀ v : Nat, v < 20 → (findD F (setB g w true) v).2 = true → (findD F (setB g w true) v).1.tm = .mk 1 (v : Int) [] := fun v hv hq => by
            by_cases e : v = w
            · subst e; rw [findD_own] at hq; cases hq
            · rw [findD_set e] at hq ⊢; exact hf v hv hq
          have hc : catchB F (setB g w true) w b = false := by
            unfold catchB
            rw [List.any_eq_false]
            intro v hv
            have hv20 := List.mem_range.1 (List.mem_filter.1 hv).1
            cases hq : (findD F (setB g w true) v).2 with
            | false => simp
            | true =>
              have e : v ≠ w := fun e => by subst e; rw [findD_own] at hq; cases hq
              rw [hf' v hv20 hq]
              have : fvT (.mk 1 (v : Int) []) w = false := by
                cases h : fvT (.mk 1 (v : Int) []) w with
                | false => rfl
                | true => rw [fv_of_var] at h; omega
              rw [this]; simp
          have ia := own_put (F := F) (st := st) N g a o4.1 (by omega) hf
          have ib := own_put (F := F) (st := st) N (setB g w true) b o4.2.1 (by omega) hf'
          rw [putF_let]
          simp only [Int.toNat_natCast]
          rw [hc, ia, ib]
          rfl
      · rw [putF_node _ _ _ _ _ _ _ h1 h8, own_puts N g ks o4 (by omega) hf]
        rfl
where
  own_puts {F : Int → Option DT} {st : Nat → Bool} (N : Nat) (g : Nat → Bool) : ∀ (ks : List Tm), OkVs ks → sizes ks ≤ N → (∀ v : Nat, v < 20 → (findD F g v).2 = true → (findD F g v).1.tm = .mk 1 (v : Int) []) → ks.mapM (putF F st N g) = some ks
  | [], _, _, _ => rfl
  | t :: ts, hO, hs, hf => by
    rw [OkVs] at hO
    rw [sizes] at hs
    rw [List.mapM_cons, own_put N g t hO.1 (by omega) hf, own_puts N g ts hO.2 (by omega) hf]
    rfl

end Go.Proofs.YtaieplfegngjnaaGreat

namespace Go.Proofs.YtaieplfegngjnaaGreat
open Go.RowKit Go.Shelf Go.Sort

theorem lf_incr {s : Sg} : ∀ (L : List (Int × Tm)) (b : Int), lfB s b L = true → (∀ j (h : j < L.length), b < L[j].1) ∧ ∀ i j (h : i < j) (h' : j < L.length), (L[i]'(by omega)).1 < L[j].1
  | [], _, _ => ⟨fun j h => by simp at h, fun i j h h' => by simp at h'⟩
  | x :: xs, b, h => by
    rw [lfB_cons, Bool.and_eq_true, Bool.and_eq_true, Bool.and_eq_true] at h
    obtain ⟨⟨⟨h3, h4⟩, h5⟩, h6⟩ := h
    have hb : b < x.1 := by simpa using h3
    obtain ⟨g1, g2⟩ := lf_incr xs x.1 h6
    refine ⟨fun j hj => ?_, fun i j hij hj => ?_⟩
    · cases j with
      | zero => exact hb
      | succ j => have := g1 j (by simpa using hj); simp only [List.getElem_cons_succ]; omega
    · obtain ⟨j, rfl⟩ : ∃ k, j = k + 1 := ⟨j - 1, by omega⟩
      cases i with
      | zero => exact g1 j (by simpa using hj)
      | succ i => exact g2 i j (by omega) (by simpa using hj)

theorem bind_none {bs : List PB} {v : Int} : ∀ k, k ≤ bs.length → (∀ j (h : j < bs.length), j < k → bs[j].v ≠ v) → bindK bs k v = none
  | 0, _, _ => by simp [bindK]
  | k + 1, hk, h => by
    rw [bindK_succ bs k (by omega)]
    unfold updI
    rw [if_neg (fun e => h k (by omega) (by omega) e.symm)]
    exact bind_none k (by omega) (fun j hj hjk => h j hj (by omega))
theorem bind_some {bs : List PB} {v : Int} : ∀ k, k ≤ bs.length → ∀ j (h : j < bs.length), j < k → bs[j].v = v → (∀ i (h : i < bs.length), i < k → bs[i].v = v → i = j) → bindK bs k v = some bs[j].d
  | 0, _, j, _, h, _, _ => by omega
  | k + 1, hk, j, hj, hjk, hv, hu => by
    rw [bindK_succ bs k (by omega)]
    unfold updI
    by_cases e : bs[k].v = v
    · obtain rfl := hu k (by omega) (by omega) e
      rw [if_pos e.symm]
    · rw [if_neg (fun e' => e e'.symm)]
      have : j ≠ k := fun e' => by subst e'; exact e hv
      exact bind_some k (by omega) j hj (by omega) hv (fun i hi hik => hu i hi (by omega))
theorem stK_mono {bs : List PB} {u : Nat} : ∀ k m, k ≤ m → m ≤ bs.length → stK bs k u = true → stK bs m u = true
  | k, m, h, hm, hs => by
    induction m with
    | zero => obtain rfl : k = 0 := by omega
              exact hs
    | succ m ih =>
      by_cases e : k = m + 1
      · subst e; exact hs
      · rw [stK_succ bs m (by omega)]
        unfold setB orSet
        split
        · rfl
        · rw [ih (by omega) (by omega)]; rfl
theorem stK_free {bs : List PB} (hO : ∀ x ∈ bs, OkV x.d.tm) : ∀ x ∈ bs, ∀ u, fvT x.d.tm u = true → stK bs bs.length u = true := by
  intro x hx u hu
  obtain ⟨j, hj, rfl⟩ := List.getElem_of_mem hx
  refine stK_mono (j + 1) bs.length (by omega) (Nat.le_refl _) ?_
  rw [stK_succ bs j hj]
  unfold setB orSet
  split
  · rfl
  · rw [fv_stands _ u (hO _ hx) hu]; simp

/-- The place of the first binding of v; the list's length, if there is none. -/
def findL (L : List (Int × Tm)) (v : Nat) : Nat := L.findIdx fun x => x.1 == (v : Int)
/-- Whether u is wanted for v. -/
def imgB (L : List (Int × Tm)) (v u : Nat) : Bool := match L[findL L v]? with | some x => fvT x.2 u | none => u == v
def wantF (L : List (Int × Tm)) (G : List Nat) (u : Nat) : Bool := G.any fun v => imgB L v u
theorem wantF_snoc (L : List (Int × Tm)) (G : List Nat) (v : Nat) : wantF L (G ++ [v]) = orSet (wantF L G) (imgB L v) := by
  funext u; unfold wantF orSet; simp
theorem findL_le (L : List (Int × Tm)) (v : Nat) : findL L v ≤ L.length := List.findIdx_le_length
theorem findL_ne (L : List (Int × Tm)) (v k : Nat) (h : k < findL L v) : (L[k]'(by have := findL_le L v; omega)).1 ≠ (v : Int) := by
  have := List.not_of_lt_findIdx (p := fun x : Int × Tm => x.1 == (v : Int)) (xs := L) h
  simpa using this
theorem findL_at (L : List (Int × Tm)) (v : Nat) (h : findL L v < L.length) : L[findL L v].1 = (v : Int) := by
  have := List.findIdx_getElem (p := fun x : Int × Tm => x.1 == (v : Int)) (xs := L) (w := h)
  simp only [beq_iff_eq] at this
  exact this
theorem findL_of (L : List (Int × Tm)) (v k : Nat) (hk : k < L.length) (h1 : L[k].1 = (v : Int)) (h2 : ∀ j (h : j < k), (L[j]'(by omega)).1 ≠ (v : Int)) : findL L v = k := by
  rcases Nat.lt_trichotomy (findL L v) k with h | h | h
  · exact absurd (findL_at L v (by omega)) (h2 _ h)
  · exact h
  · exact absurd h1 (findL_ne L v k h)

/-- The free variables behind a list that is put in are just those that are wanted. -/
theorem capture {s : Sg} {bs : List PB} {L : List (Int × Tm)} (hp : pbs bs = L) (hlf : lfB s (-1) L = true) {N : Nat} {t Z : Tm} (hO : OkV t) (h : putF (bindK bs bs.length) (stK bs bs.length) N (fun _ => false) t = some Z) :
    ∀ u, u < 20 → fvT Z u = wantF L (listTo (fvT t) 20) u := by
  obtain ⟨-, hall⟩ := lfB_all hlf (by omega) (by omega)
  obtain ⟨-, hinc⟩ := lf_incr L (-1) hlf
  have hl : bs.length = L.length := by rw [← hp]; simp [pbs]
  have hget : ∀ j (h : j < bs.length) (h' : j < L.length), L[j] = (bs[j].v, bs[j].d.tm) := fun j h h' => by
    have : (pbs bs)[j]? = L[j]? := by rw [hp]
    rw [List.getElem?_eq_getElem (by simpa [pbs] using h), List.getElem?_eq_getElem h', Option.some.injEq] at this
    rw [← this]; simp [pbs]
  have hOb : ∀ x ∈ bs, OkV x.d.tm := fun x hx => by
    obtain ⟨j, hj, rfl⟩ := List.getElem_of_mem hx
    have := (hall L[j] (List.getElem_mem (by omega))).2
    rw [hget j hj (by omega)] at this
    exact OkV.formed this
  have hF : ∀ (v : Nat) (d : DT), bindK bs bs.length (v : Int) = some d → OkV d.tm ∧ ∀ u, fvT d.tm u = true → stK bs bs.length u = true := fun v d hd =>
    bindK_els (P := fun d => OkV d.tm ∧ ∀ u, fvT d.tm u = true → stK bs bs.length u = true) (fun x hx => ⟨hOb x hx, stK_free hOb x hx⟩) _ _ _ hd
  have himg : ∀ v u : Nat, Img (bindK bs bs.length) (fun _ => false) v u ↔ imgB L v u = true := fun v u => by
    unfold Img imgB findD
    by_cases hk : findL L v < L.length
    · have hv := findL_at L v hk
      rw [hget _ (by omega) hk] at hv
      have hb : bindK bs bs.length (v : Int) = some (bs[findL L v]'(by omega)).d := bind_some _ (Nat.le_refl _) _ (by omega) (by omega) hv (fun i hi _ he => by
        rcases Nat.lt_trichotomy i (findL L v) with h | h | h
        · have := hinc i _ h hk
          rw [hget i hi (by omega), hget _ (by omega) hk] at this
          simp only at this hv; omega
        · exact h
        · have := hinc _ i h (by omega)
          rw [hget i hi (by omega), hget _ (by omega) hk] at this
          simp only at this hv; omega)
      rw [hb, List.getElem?_eq_getElem hk, hget _ (by omega) hk]
      simp
    · have hb : bindK bs bs.length (v : Int) = none := bind_none _ (Nat.le_refl _) (fun j hj _ he => by
        have hne := findL_ne L v j (by omega)
        rw [hget j hj (by omega)] at hne
        exact hne he)
      rw [hb, List.getElem?_eq_none (by omega)]
      simp
  intro u hu
  have hf := fv_put hF N (fun _ => false) t Z hO h u hu
  rw [Bool.eq_iff_iff, hf]
  unfold wantF listTo
  rw [List.any_eq_true]
  constructor
  · rintro ⟨v, a, b, c⟩
    exact ⟨v, List.mem_filter.2 ⟨List.mem_range.2 a, b⟩, (himg v u).1 c⟩
  · rintro ⟨v, a, c⟩
    obtain ⟨a, b⟩ := List.mem_filter.1 a
    exact ⟨v, List.mem_range.1 a, b, (himg v u).2 c⟩

/-! The variables' own terms, as a list -/
def ownV (v : Nat) : Int × Tm := ((v : Int), .mk 1 (v : Int) [])
theorem ownV_formed (s : Sg) (v : Nat) (hv : v < 20) : formedB s (ownV v).2 = true := by
  unfold formedB ownV
  rw [nodesOk, nodeOk_1]
  simp [weigh, weighs, nodesOks, inB]
  omega
theorem own_lf (s : Sg) : ∀ (G : List Nat) (b : Int), (∀ v ∈ G, b < (v : Int)) → G.Pairwise (· < ·) → (∀ v ∈ G, v < 20) → lfB s b (G.map ownV) = true
  | [], _, _, _, _ => by rw [List.map_nil, lfB]
  | v :: G, b, hb, hp, h20 => by
    rw [List.map_cons, lfB_cons]
    rw [List.pairwise_cons] at hp
    have hf := ownV_formed s v (h20 v (by simp))
    have e : (ownV v).1 = (v : Int) := rfl
    rw [hf, e, own_lf s G v (fun u hu => by have := hp.1 u hu; omega) hp.2 (fun u hu => h20 u (by simp [hu]))]
    have h1 := hb v (by simp)
    have h2 := h20 v (by simp)
    simp [inB, h1]
    omega
theorem listTo_pair (f : Nat → Bool) (k : Nat) : (listTo f k).Pairwise (· < ·) := List.Pairwise.filter _ (List.pairwise_lt_range)
theorem listTo_mem {f : Nat → Bool} {k v : Nat} (h : v ∈ listTo f k) : v < k ∧ f v = true := by
  obtain ⟨a, b⟩ := List.mem_filter.1 h; exact ⟨List.mem_range.1 a, b⟩
theorem own_all {bs : List PB} {G : List Nat} (hp : pbs bs = G.map ownV) {t : Tm} {N : Nat} (hO : OkV t) (hN : t.size ≤ N) : putF (bindK bs bs.length) (stK bs bs.length) N (fun _ => false) t = some t := by
  refine own_put N _ t hO hN (fun v hv hq => ?_)
  have hd := findD_some hq
  have : Els (fun d => ∀ x ∈ bs, x.d = d → d.tm = .mk 1 x.v []) (bindK bs bs.length) := bindK_els (fun x hx y hy e => by
    have hy' : (y.v, y.d.tm) ∈ pbs bs := List.mem_map.2 ⟨y, hy, rfl⟩
    rw [hp] at hy'
    obtain ⟨u, -, hu⟩ := List.mem_map.1 hy'
    simp only [ownV, Prod.mk.injEq] at hu
    rw [← e, ← hu.2, ← hu.1]) _
  -- the binding of v is one of the list, of the variable v
  have hex : ∀ k, k ≤ bs.length → ∀ d, bindK bs k (v : Int) = some d → ∃ x ∈ bs, x.v = (v : Int) ∧ x.d = d := by
    intro k
    induction k with
    | zero => intro _ d h; simp [bindK] at h
    | succ k ih =>
      intro hk d h
      rw [bindK_succ bs k (by omega)] at h
      unfold updI at h
      split at h
      · rename_i e; rw [Option.some.injEq] at h; exact ⟨bs[k], List.getElem_mem _, e.symm, h⟩
      · exact ih (by omega) d h
  obtain ⟨x, hx, hxv, hxd⟩ := hex _ (Nat.le_refl _) _ hd
  have := this _ _ hd x hx hxd
  rw [this, hxv]

/-! Counting through a list of numbers -/
theorem listTo_take (f : Nat → Bool) : ∀ (k n : Nat), k ≤ n → (listTo f n).take (listTo f k).length = listTo f k
  | k, n, h => by
    induction n with
    | zero => obtain rfl : k = 0 := by omega
              simp [listTo]
    | succ n ih =>
      by_cases e : k = n + 1
      · subst e; rw [List.take_length]
      · have hi := ih (by omega)
        have hle : (listTo f k).length ≤ (listTo f n).length := by rw [← hi, List.length_take]; omega
        cases hf : f n with
        | true => rw [listTo_yes hf, List.take_append_of_le_length hle]; exact hi
        | false => rw [listTo_no hf]; exact hi
theorem listTo_at {f : Nat → Bool} {k n : Nat} (h : k < n) (hf : f k = true) : (listTo f n)[(listTo f k).length]? = some k := by
  have h1 := listTo_take f (k + 1) n (by omega)
  rw [listTo_yes hf] at h1
  have h2 := congrArg (fun l => l[(listTo f k).length]?) h1
  simp only [List.length_append, List.length_cons, List.length_nil] at h2
  rw [List.getElem?_take_of_lt (by omega)] at h2
  rw [h2]; simp
theorem listTo_congr {f g : Nat → Bool} {k : Nat} (h : ∀ u, u < k → f u = g u) : listTo f k = listTo g k := by
  unfold listTo
  exact List.filter_congr (fun u hu => h u (List.mem_range.1 hu))

end Go.Proofs.YtaieplfegngjnaaGreat
