/- Own text, joined of: Y1 Y2. Models of variants: an expression in order stays as it is; with variables put in for variables, one for one, an expression is a variant of what it was; an expression in order is formed. · Models of variants: an expression in order is formed; the list that turns the variables. -/
import Derived.Test.YtaieplfegngjnaaGreatOr26
import Derived.Test.YtaieplfegngjnaaGreatVa00

namespace Go.Proofs.YtaieplfegngjnaaGreat
open Go.RowKit Go.Shelf Go.Sort

/-! Free variables -/
theorem fvKs_acc (op n : Int) : ∀ (ks : List Tm) (k : Nat) (acc : Nat → Bool) (v : Nat), acc v = true → fvKs op n ks k acc v = true
  | [], _, _, _, h => by rw [fvKs]; exact h
  | t :: ts, k, acc, v, h => by rw [fvKs]; exact fvKs_acc op n ts (k + 1) _ v (by unfold orSet; rw [h]; rfl)
theorem fvKs_mem {op n : Int} (h8 : op ≠ 8) : ∀ (ks : List Tm) (k : Nat) (acc : Nat → Bool) (t : Tm) (v : Nat), t ∈ ks → fvT t v = true → fvKs op n ks k acc v = true
  | [], _, _, _, _, hm, _ => by cases hm
  | x :: ts, k, acc, t, v, hm, h => by
    rw [fvKs]
    rcases List.mem_cons.1 hm with rfl | hm
    · refine fvKs_acc op n ts (k + 1) _ v ?_
      rw [if_neg (fun e => h8 e.1)]; unfold orSet; rw [h]; simp
    · exact fvKs_mem h8 ts (k + 1) _ t v hm h
theorem fv_kid {op n : Int} {ks : List Tm} {t : Tm} {v : Nat} (h8 : op ≠ 8) (hm : t ∈ ks) (h : fvT t v = true) : fvT (.mk op n ks) v = true := by
  rw [fvT]; exact fvKs_mem h8 ks 0 _ t v hm h
theorem fv_let1 {n : Int} {a b : Tm} {v : Nat} (h : fvT a v = true) : fvT (.mk 8 n [a, b]) v = true := by
  rw [fvT, fvKs]
  refine fvKs_acc _ _ _ _ _ _ ?_
  simp [orSet, h]
theorem fv_let2 {n : Int} {a b : Tm} {v : Nat} (h : fvT b v = true) (hn : v ≠ n.toNat) : fvT (.mk 8 n [a, b]) v = true := by
  rw [fvT, fvKs, fvKs, fvKs]
  simp [orSet, setB, h, hn]
theorem fv_var {v : Nat} : fvT (.mk 1 v []) v = true := by rw [fvT, fvKs]; simp

theorem ordT_let (fb : Int → Option Int) (s : OS) (n : Int) (a b : Tm) : ordT fb s (.mk 8 n [a, b]) = (.mk 8 s.count [(ordT fb s.next a).1, (ordT (updI fb n s.count) (ordT fb s.next a).2 b).1], (ordT (updI fb n s.count) (ordT fb s.next a).2 b).2) := by
  rw [ordT, if_neg (by decide), if_pos rfl]; simp only [ordL, ordTs]
theorem ordT_var (fb : Int → Option Int) (s : OS) (n : Int) (ks : List Tm) : ordT fb s (.mk 1 n ks) = (.mk 1 (numO fb s n).1 [], (numO fb s n).2) := by
  rw [ordT, if_pos rfl]

/-! Variables for variables -/
structure RenAt (ρ : Nat → Nat) (g : Nat → Bool) (fb fb' : Int → Option Int) (v : Nat) : Prop where
  yes : g v = true → fb' (v : Int) = fb (v : Int) ∧ ∃ m, fb (v : Int) = some m
  no : g v = false → fb (v : Int) = none ∧ fb' ((ρ v : Nat) : Int) = none
structure RenS (ρ : Nat → Nat) (s s' : OS) : Prop where
  free : ∀ v : Nat, v < 20 → s'.free ((ρ v : Nat) : Int) = s.free (v : Int)
  count : s'.count = s.count

theorem ren_num {ρ : Nat → Nat} (hρ : ∀ a b, a < 20 → b < 20 → ρ a = ρ b → a = b) {fb fb' : Int → Option Int} {s s' : OS} {v : Nat} (hv : v < 20) (h1 : fb (v : Int) = none) (h2 : fb' ((ρ v : Nat) : Int) = none) (hs : RenS ρ s s') :
    (numO fb' s' ((ρ v : Nat) : Int)).1 = (numO fb s (v : Int)).1 ∧ RenS ρ (numO fb s (v : Int)).2 (numO fb' s' ((ρ v : Nat) : Int)).2 := by
  unfold numO
  rw [h1, h2]
  simp only
  rw [hs.free v hv]
  cases h : s.free (v : Int) with
  | some m => exact ⟨rfl, hs⟩
  | none =>
    refine ⟨by simp [hs.count], fun u hu => ?_, by simp [hs.count]⟩
    simp only [updI]
    by_cases e : u = v
    · subst e; simp [hs.count]
    · rw [if_neg (fun e' => e (hρ u v hu hv (by omega))), if_neg (fun e' => e (by omega))]
      exact hs.free u hu

def RnSpec (F : Int → Option DT) (st : Nat → Bool) (ρ : Nat → Nat) (N : Nat) : Prop := ∀ (g : Nat → Bool) (t z : Tm) (fb fb' : Int → Option Int) (s s' : OS), OkV t → putF F st N g t = some z →
  (∀ v, v < 20 → fvT t v = true → RenAt ρ g fb fb' v) → RenS ρ s s' → (ordT fb' s' z).1 = (ordT fb s t).1 ∧ RenS ρ (ordT fb s t).2 (ordT fb' s' z).2

theorem ren_list {F : Int → Option DT} {st : Nat → Bool} {ρ : Nat → Nat} {N : Nat} (ih : RnSpec F st ρ N) (g : Nat → Bool) (fb fb' : Int → Option Int) : ∀ (ks zs : List Tm) (s s' : OS), OkVs ks → zs.length = ks.length →
    (∀ k (h : k < ks.length) (h' : k < zs.length), putF F st N g ks[k] = some zs[k]) → (∀ t ∈ ks, ∀ v, v < 20 → fvT t v = true → RenAt ρ g fb fb' v) → RenS ρ s s' → (ordTs fb' s' zs).1 = (ordTs fb s ks).1 ∧ RenS ρ (ordTs fb s ks).2 (ordTs fb' s' zs).2
  | [], [], s, s', _, _, _, _, hs => by rw [ordTs, ordTs]; exact ⟨rfl, hs⟩
  | [], _ :: _, _, _, _, h, _, _, _ => by simp at h
  | _ :: _, [], _, _, _, h, _, _, _ => by simp at h
  | x :: ks, z :: zs, s, s', hO, hl, hp, hf, hs => by
    rw [OkVs] at hO
    rw [ordTs, ordTs]
    obtain ⟨e1, e2⟩ := ih g x z fb fb' s s' hO.1 (hp 0 (by simp) (by simp)) (hf x (by simp)) hs
    obtain ⟨e3, e4⟩ := ren_list ih g fb fb' ks zs _ _ hO.2 (by simpa using hl) (fun k h h' => hp (k + 1) (by simpa using h) (by simpa using h')) (fun t ht => hf t (by simp [ht])) e2
    exact ⟨by simp only [e1, e3], e4⟩

theorem ren_ord {F : Int → Option DT} {st : Nat → Bool} {ρ : Nat → Nat} (hF : ∀ v : Nat, v < 20 → ∃ d : DT, F (v : Int) = some d ∧ d.tm = .mk 1 ((ρ v : Nat) : Int) []) (hρ : ∀ a b, a < 20 → b < 20 → ρ a = ρ b → a = b) (hst : ∀ v : Nat, v < 20 → st v = true) : ∀ N, RnSpec F st ρ N
  | 0 => fun _ _ _ _ _ _ _ _ h => by cases h
  | N + 1 => fun g t z fb fb' s s' hO h hp hs => by
    have ih := ren_ord hF hρ hst N
    obtain ⟨op, n, ks⟩ := t
    obtain ⟨o1, o2, o3, o4⟩ := hO.open
    simp only [Tm.op, Tm.n, Tm.kids] at o1 o2 o3 o4
    by_cases h1 : op = 1
    · obtain rfl := h1
      obtain rfl := o2 rfl
      obtain ⟨v, rfl⟩ : ∃ v : Nat, n = v := ⟨n.toNat, by have := o1 (.inl rfl); omega⟩
      have hv : v < 20 := by have := o1 (.inl rfl); omega
      obtain ⟨d, hd, hdt⟩ := hF v hv
      have hr := hp v hv fv_var
      rw [putF_var _ _ _ _ _ _ _ rfl, Option.some.injEq] at h
      simp only [Int.toNat_natCast, findD, hd] at h
      cases hg : g v with
      | true =>
        rw [hg] at h
        simp only [Bool.not_true, Bool.false_eq_true, if_false] at h
        subst h
        obtain ⟨e1, m, e2⟩ := hr.yes hg
        rw [ordT_var, ordT_var]
        unfold numO
        rw [e1, e2]
        exact ⟨rfl, hs⟩
      | false =>
        rw [hg] at h
        simp only [Bool.not_false, if_true] at h
        rw [hdt] at h
        subst h
        obtain ⟨e1, e2⟩ := hr.no hg
        rw [ordT_var, ordT_var]
        obtain ⟨e3, e4⟩ := ren_num hρ hv e1 e2 hs
        exact ⟨by simp only [e3], e4⟩
    · by_cases h8 : op = 8
      · obtain rfl := h8
        match ks, o3 rfl, o4, h with
        | [a, b], _, o4, h =>
          simp only [OkVs] at o4
          obtain ⟨v, rfl⟩ : ∃ v : Nat, n = v := ⟨n.toNat, by have := o1 (.inr rfl); omega⟩
          have hv : v < 20 := by have := o1 (.inr rfl); omega
          rw [putF_let] at h
          rw [leastN_none (fun j hj => by unfold orSet; rw [hst j hj]; simp)] at h
          simp only [Int.toNat_natCast] at h
          cases hc : catchB F (setB g v true) v b with
          | true => rw [hc] at h; cases h
          | false =>
            rw [hc] at h
            simp only [Bool.false_eq_true, if_false] at h
            cases hA : putF F st N g a with
            | none => rw [hA] at h; cases h
            | some A =>
              cases hB : putF F st N (setB g v true) b with
              | none => rw [hA, hB] at h; cases h
              | some B =>
                rw [hA, hB] at h
                simp only [Option.bind_some, Option.map_some, Option.some.injEq] at h
                subst h
                rw [ordT_let, ordT_let]
                have hsn : RenS ρ s.next s'.next := ⟨hs.free, by simp [OS.next, hs.count]⟩
                obtain ⟨e1, e2⟩ := ih g a A fb fb' s.next s'.next o4.1 hA (fun u hu hf => hp u hu (fv_let1 hf)) hsn
                have hb : ∀ u, u < 20 → fvT b u = true → RenAt ρ (setB g v true) (updI fb v s.count) (updI fb' v s'.count) u := fun u hu hf => by
                  by_cases e : u = v
                  · subst e
                    refine ⟨fun _ => ⟨by simp [updI, hs.count], ⟨s.count, by simp [updI]⟩⟩, fun h => by simp [setB] at h⟩
                  · have hr := hp u hu (fv_let2 (a := a) hf (by simpa using e))
                    have e' : ¬ ((u : Nat) : Int) = (v : Int) := fun h => e (by omega)
                    refine ⟨fun hg => ?_, fun hg => ?_⟩
                    · obtain ⟨x1, m, x2⟩ := hr.yes (by simpa [setB, e] using hg)
                      simp only [updI]
                      rw [if_neg e', if_neg e']
                      exact ⟨x1, m, x2⟩
                    · have hg' : g u = false := by simpa [setB, e] using hg
                      obtain ⟨x1, x2⟩ := hr.no hg'
                      obtain ⟨d, hd, hdt⟩ := hF u hu
                      have hne : ρ u ≠ v := fun e2 => by
                        unfold catchB at hc
                        rw [List.any_eq_false] at hc
                        have := hc u (List.mem_filter.2 ⟨List.mem_range.2 hu, hf⟩)
                        simp only [findD, hd] at this
                        rw [hg, hdt, ← e2, fv_var] at this
                        simp at this
                      simp only [updI]
                      rw [if_neg e', if_neg (fun h => hne (by omega))]
                      exact ⟨x1, x2⟩
                obtain ⟨e3, e4⟩ := ih (setB g v true) b B (updI fb v s.count) (updI fb' v s'.count) _ _ o4.2.1 hB hb e2
                refine ⟨?_, e4⟩
                simp only [e1, e3]
                rw [hs.count]
      · rw [putF_node _ _ _ _ _ _ _ h1 h8] at h
        cases hm : ks.mapM (putF F st N g) with
        | none => rw [hm] at h; cases h
        | some zs =>
          rw [hm] at h
          simp only [Option.map_some, Option.some.injEq] at h
          subst h
          obtain ⟨hl, hk⟩ := mapM_some hm
          rw [ordT, ordT, if_neg h1, if_neg h1, if_neg h8, if_neg h8]
          obtain ⟨e1, e2⟩ := ren_list ih g fb fb' ks zs s s' o4 hl hk (fun t ht v hv hf => hp v hv (fv_kid h8 ht hf)) hs
          exact ⟨by simp only [e1], e2⟩

/-- With variables put in for variables, one for one, an expression is in order what it was. -/
theorem ren_ordE {F : Int → Option DT} {st : Nat → Bool} {ρ : Nat → Nat} (hF : ∀ v : Nat, v < 20 → ∃ d : DT, F (v : Int) = some d ∧ d.tm = .mk 1 ((ρ v : Nat) : Int) []) (hρ : ∀ a b, a < 20 → b < 20 → ρ a = ρ b → a = b) (hst : ∀ v : Nat, v < 20 → st v = true)
    {N : Nat} {t z : Tm} (hO : OkV t) (h : putF F st N (fun _ => false) t = some z) : (ordE z).1 = (ordE t).1 :=
  (ren_ord hF hρ hst N _ t z _ _ _ _ hO h (fun _ _ _ => ⟨fun h => (by cases h), fun _ => ⟨rfl, rfl⟩⟩) ⟨fun _ _ => rfl, rfl⟩).1

/-! An expression in order stays as it is -/
theorem numO_new {fb : Int → Option Int} {s : OS} {v u m : Int} (h : (numO fb s v).2.free u = some m) : s.free u = some m ∨ (s.count : Int) ≤ m := by
  unfold numO at h
  split at h
  · exact .inl h
  · split at h
    · exact .inl h
    · simp only [updI] at h
      split at h
      · simp only [Option.some.injEq] at h; exact .inr (by omega)
      · exact .inl h
mutual
theorem ordT_new : ∀ (t : Tm) (fb : Int → Option Int) (s : OS) (u m : Int), (ordT fb s t).2.free u = some m → s.free u = some m ∨ (s.count : Int) ≤ m
  | .mk op n ks, fb, s, u, m, h => by
    rw [ordT] at h
    split at h
    · exact numO_new h
    · split at h
      · rcases ordL_new ks _ _ _ u m h with h | h
        · exact .inl h
        · exact .inr (by simp only [OS.next] at h; omega)
      · exact ordTs_new ks _ _ u m h
theorem ordTs_new : ∀ (ks : List Tm) (fb : Int → Option Int) (s : OS) (u m : Int), (ordTs fb s ks).2.free u = some m → s.free u = some m ∨ (s.count : Int) ≤ m
  | [], _, _, _, _, h => by rw [ordTs] at h; exact .inl h
  | t :: ts, fb, s, u, m, h => by
    rw [ordTs] at h
    rcases ordTs_new ts fb _ u m h with h | h
    · exact ordT_new t fb s u m h
    · exact .inr (by have := ordT_le t fb s; omega)
theorem ordL_new : ∀ (ks : List Tm) (fb fi : Int → Option Int) (s : OS) (u m : Int), (ordL fb fi s ks).2.free u = some m → s.free u = some m ∨ (s.count : Int) ≤ m
  | [], _, _, _, _, _, h => by rw [ordL] at h; exact .inl h
  | t :: ts, fb, fi, s, u, m, h => by
    rw [ordL] at h
    rcases ordTs_new ts fi _ u m h with h | h
    · exact ordT_new t fb s u m h
    · exact .inr (by have := ordT_le t fb s; omega)
end

/-- How the numbers stand when an expression in order is put in order again. -/
structure Again (fb fb' : Int → Option Int) (s s' : OS) : Prop where
  count : s'.count = s.count
  bound : ∀ v m, fb v = some m → fb' m = some m ∧ m < s.count
  free : ∀ v m, s.free v = some m → s'.free m = some m ∧ fb' m = none ∧ m < s.count
  fresh : ∀ m, (s.count : Int) ≤ m → fb' m = none ∧ s'.free m = none
theorem again_num {fb fb' : Int → Option Int} {s s' : OS} (h : Again fb fb' s s') (v : Int) : (numO fb' s' (numO fb s v).1).1 = (numO fb s v).1 ∧ Again fb fb' (numO fb s v).2 (numO fb' s' (numO fb s v).1).2 := by
  cases h1 : fb v with
  | some m =>
    have e : numO fb s v = (m, s) := by unfold numO; rw [h1]
    have e' : numO fb' s' m = (m, s') := by unfold numO; rw [(h.bound v m h1).1]
    rw [e]; simp only; rw [e']
    exact ⟨rfl, h⟩
  | none =>
    cases h2 : s.free v with
    | some m =>
      have e : numO fb s v = (m, s) := by unfold numO; rw [h1]; simp only; rw [h2]
      obtain ⟨x1, x2, x3⟩ := h.free v m h2
      have e' : numO fb' s' m = (m, s') := by unfold numO; rw [x2]; simp only; rw [x1]
      rw [e]; simp only; rw [e']
      exact ⟨rfl, h⟩
    | none =>
      have e : numO fb s v = ((s.count : Int), ⟨updI s.free v s.count, s.count + 1⟩) := by unfold numO; rw [h1]; simp only; rw [h2]
      obtain ⟨x1, x2⟩ := h.fresh s.count (Int.le_refl _)
      have e' : numO fb' s' s.count = ((s.count : Int), ⟨updI s'.free s.count s.count, s.count + 1⟩) := by unfold numO; rw [x1]; simp only; rw [x2, h.count]
      rw [e]; simp only; rw [e']
      refine ⟨rfl, rfl, fun u m hm => ⟨(h.bound u m hm).1, by have := (h.bound u m hm).2; simp only; omega⟩, fun u m hm => ?_, fun m hm => ?_⟩
      · simp only [updI] at hm ⊢
        split at hm
        · simp only [Option.some.injEq] at hm; subst hm; exact ⟨if_pos rfl, x1, by omega⟩
        · obtain ⟨y1, y2, y3⟩ := h.free u m hm
          exact ⟨by rw [if_neg (by omega)]; exact y1, y2, by omega⟩
      · simp only at hm
        obtain ⟨y1, y2⟩ := h.fresh m (by omega)
        exact ⟨y1, by simp only [updI]; rw [if_neg (by omega)]; exact y2⟩
mutual
theorem again_ord : ∀ (t : Tm) (fb fb' : Int → Option Int) (s s' : OS), OkV t → Again fb fb' s s' → (ordT fb' s' (ordT fb s t).1).1 = (ordT fb s t).1 ∧ Again fb fb' (ordT fb s t).2 (ordT fb' s' (ordT fb s t).1).2
  | .mk op n ks, fb, fb', s, s', hO, h => by
    obtain ⟨o1, o2, o3, o4⟩ := hO.open
    simp only [Tm.op, Tm.n, Tm.kids] at o1 o2 o3 o4
    by_cases h1 : op = 1
    · have e : ordT fb s (.mk op n ks) = (.mk 1 (numO fb s n).1 [], (numO fb s n).2) := by rw [ordT, if_pos h1]
      rw [e]; simp only
      rw [ordT, if_pos rfl]
      obtain ⟨e1, e2⟩ := again_num h n
      exact ⟨by simp only [e1], e2⟩
    · by_cases h8 : op = 8
      · obtain rfl := h8
        match ks, o3 rfl, o4 with
        | [a, b], _, o4 =>
          simp only [OkVs] at o4
          have hn : Again fb fb' s.next s'.next := ⟨by simp [OS.next, h.count], fun v m hm => ⟨(h.bound v m hm).1, by have := (h.bound v m hm).2; simp only [OS.next]; omega⟩, fun v m hm => by
            obtain ⟨y1, y2, y3⟩ := h.free v m hm
            exact ⟨y1, y2, by simp only [OS.next]; omega⟩, fun m hm => h.fresh m (by simp only [OS.next] at hm; omega)⟩
          obtain ⟨e1, e2⟩ := again_ord a fb fb' s.next s'.next o4.1 hn
          have hb : Again (updI fb n s.count) (updI fb' s.count s.count) (ordT fb s.next a).2 (ordT fb' s'.next (ordT fb s.next a).1).2 := by
            have hm0 : s.count + 1 ≤ (ordT fb s.next a).2.count := ordT_le a fb s.next
            refine ⟨e2.count, fun v m hm => ?_, fun v m hm => ?_, fun m hm => ?_⟩
            · simp only [updI] at hm ⊢
              split at hm
              · simp only [Option.some.injEq] at hm; subst hm; exact ⟨if_pos rfl, by omega⟩
              · obtain ⟨y1, y2⟩ := e2.bound v m hm
                refine ⟨?_, y2⟩
                split
                · rename_i e; rw [e]
                · exact y1
            · obtain ⟨y1, y2, y3⟩ := e2.free v m hm
              have hne : m ≠ s.count := fun e => by
                rcases ordT_new a fb s.next v m hm with hx | hx
                · have := (h.free v m hx).2.2; omega
                · simp only [OS.next] at hx; omega
              exact ⟨y1, by simp only [updI]; rw [if_neg hne]; exact y2, y3⟩
            · obtain ⟨y1, y2⟩ := e2.fresh m hm
              exact ⟨by simp only [updI]; rw [if_neg (by omega)]; exact y1, y2⟩
          obtain ⟨e3, e4⟩ := again_ord b _ _ _ _ o4.2.1 hb
          rw [ordT_let]; simp only
          rw [ordT_let]
          rw [h.count, e1, e3]
          refine ⟨rfl, e4.count, fun v m hm => ?_, fun v m hm => ?_, fun m hm => ?_⟩
          · obtain ⟨y1, y2⟩ := h.bound v m hm
            refine ⟨y1, ?_⟩
            have z1 : s.count + 1 ≤ (ordT fb s.next a).2.count := ordT_le a fb s.next
            have z2 := ordT_le b (updI fb n s.count) (ordT fb s.next a).2
            omega
          · obtain ⟨y1, y2, y3⟩ := e4.free v m hm
            refine ⟨y1, ?_, y3⟩
            simp only [updI] at y2
            split at y2
            · cases y2
            · exact y2
          · obtain ⟨y1, y2⟩ := e4.fresh m hm
            refine ⟨?_, y2⟩
            simp only [updI] at y1
            split at y1
            · cases y1
            · exact y1
      · have e : ordT fb s (.mk op n ks) = (.mk op n (ordTs fb s ks).1, (ordTs fb s ks).2) := by rw [ordT, if_neg h1, if_neg h8]
        rw [e]; simp only
        rw [ordT, if_neg h1, if_neg h8]
        obtain ⟨e1, e2⟩ := again_ords ks fb fb' s s' o4 h
        exact ⟨by simp only [e1], e2⟩
theorem again_ords : ∀ (ks : List Tm) (fb fb' : Int → Option Int) (s s' : OS), OkVs ks → Again fb fb' s s' → (ordTs fb' s' (ordTs fb s ks).1).1 = (ordTs fb s ks).1 ∧ Again fb fb' (ordTs fb s ks).2 (ordTs fb' s' (ordTs fb s ks).1).2
  | [], fb, fb', s, s', _, h => by simp only [ordTs]; exact ⟨trivial, h⟩
  | t :: ts, fb, fb', s, s', hO, h => by
    rw [OkVs] at hO
    obtain ⟨e1, e2⟩ := again_ord t fb fb' s s' hO.1 h
    obtain ⟨e3, e4⟩ := again_ords ts fb fb' _ _ hO.2 e2
    simp only [ordTs]
    exact ⟨by rw [e1, e3], e4⟩
end
/-- An expression in order, put in order, stays as it is. -/
theorem ord_again {t : Tm} (hO : OkV t) : (ordE (ordE t).1).1 = (ordE t).1 :=
  (again_ord t _ _ _ _ hO ⟨rfl, fun _ _ h => by simp at h, fun _ _ h => by simp at h, fun _ _ => ⟨rfl, rfl⟩⟩).1

end Go.Proofs.YtaieplfegngjnaaGreat

namespace Go.Proofs.YtaieplfegngjnaaGreat
open Go.RowKit Go.Shelf Go.Sort

/-! An expression in order is formed -/
theorem ordTs_len : ∀ (ks : List Tm) (fb : Int → Option Int) (s : OS), (ordTs fb s ks).1.length = ks.length
  | [], _, _ => by rw [ordTs]
  | t :: ts, fb, s => by rw [ordTs]; simp [ordTs_len ts]
theorem ordL_len : ∀ (ks : List Tm) (fb fi : Int → Option Int) (s : OS), (ordL fb fi s ks).1.length = ks.length
  | [], _, _, _ => by rw [ordL]
  | t :: ts, fb, fi, s => by rw [ordL]; simp [ordTs_len ts]
/-- All numbers that were given are below the count. -/
structure InR (fb : Int → Option Int) (s : OS) : Prop where
  bound : ∀ v m, fb v = some m → 0 ≤ m ∧ m < s.count
  free : ∀ v m, s.free v = some m → 0 ≤ m ∧ m < s.count
theorem num_in {fb : Int → Option Int} {s : OS} (h : InR fb s) (v : Int) : (0 ≤ (numO fb s v).1 ∧ (numO fb s v).1 < (numO fb s v).2.count) ∧ InR fb (numO fb s v).2 := by
  cases h1 : fb v with
  | some m =>
    have e : numO fb s v = (m, s) := by unfold numO; rw [h1]
    rw [e]; exact ⟨h.bound v m h1, h⟩
  | none =>
    cases h2 : s.free v with
    | some m =>
      have e : numO fb s v = (m, s) := by unfold numO; rw [h1]; simp only; rw [h2]
      rw [e]; exact ⟨h.free v m h2, h⟩
    | none =>
      have e : numO fb s v = ((s.count : Int), ⟨updI s.free v s.count, s.count + 1⟩) := by unfold numO; rw [h1]; simp only; rw [h2]
      rw [e]
      refine ⟨⟨by simp, by simp only; omega⟩, fun u m hm => ?_, fun u m hm => ?_⟩
      · have := h.bound u m hm; simp only; omega
      · simp only [updI] at hm
        split at hm
        · simp only [Option.some.injEq] at hm; simp only; omega
        · have := h.free u m hm; simp only; omega
theorem InR.next {fb : Int → Option Int} {s : OS} (h : InR fb s) : InR fb s.next := ⟨fun v m hm => by have := h.bound v m hm; simp only [OS.next]; omega, fun v m hm => by have := h.free v m hm; simp only [OS.next]; omega⟩
theorem InR.more {fb fi : Int → Option Int} {s s' : OS} (h : InR fi s') (hb : InR fb s) (hc : s.count ≤ s'.count) : InR fb s' := ⟨fun v m hm => by have := hb.bound v m hm; omega, h.free⟩
mutual
theorem ord_nodes (sg : Sg) : ∀ (t : Tm) (fb : Int → Option Int) (s : OS), nodesOk sg t = true → InR fb s → (ordT fb s t).2.count ≤ 20 → nodesOk sg (ordT fb s t).1 = true ∧ InR fb (ordT fb s t).2
  | .mk op n ks, fb, s, hk, hi, hc => by
    have hO := okV_of _ hk
    obtain ⟨o1, o2, o3, o4⟩ := hO.open
    simp only [Tm.op, Tm.n, Tm.kids] at o1 o2 o3 o4
    rw [nodesOk, Bool.and_eq_true] at hk
    by_cases h1 : op = 1
    · have e : ordT fb s (.mk op n ks) = (.mk 1 (numO fb s n).1 [], (numO fb s n).2) := by rw [ordT, if_pos h1]
      rw [e] at hc ⊢
      obtain ⟨⟨e1, e2⟩, e3⟩ := num_in hi n
      refine ⟨?_, e3⟩
      simp only at hc
      rw [nodesOk, nodeOk_1]
      simp only [List.length_nil, decide_true, Bool.and_true, nodesOks, inB, Bool.and_eq_true, decide_eq_true_eq]
      exact ⟨e1, by omega⟩
    · by_cases h8 : op = 8
      · obtain rfl := h8
        match ks, o3 rfl, hk with
        | [a, b], _, hk =>
          rw [ordT_let] at hc ⊢
          simp only [nodesOks, Bool.and_eq_true] at hk
          obtain ⟨k1, k2, k3, -⟩ := hk
          simp only at hc
          have z1 : s.count + 1 ≤ (ordT fb s.next a).2.count := ordT_le a fb s.next
          have z2 := ordT_le b (updI fb n s.count) (ordT fb s.next a).2
          obtain ⟨e1, e2⟩ := ord_nodes sg a fb s.next k2 hi.next (by omega)
          have hb : InR (updI fb n s.count) (ordT fb s.next a).2 := ⟨fun v m hm => by
            simp only [updI] at hm
            split at hm
            · simp only [Option.some.injEq] at hm; omega
            · exact e2.bound v m hm, e2.free⟩
          obtain ⟨e3, e4⟩ := ord_nodes sg b _ _ k3 hb hc
          refine ⟨?_, e4.more hi (by omega)⟩
          rw [nodesOk, nodeOk_8]
          simp only [List.length_cons, List.length_nil, decide_true, Bool.and_true, nodesOks, inB, e1, e3, Bool.and_eq_true, decide_eq_true_eq]
          exact ⟨by omega, by omega⟩
      · have e : ordT fb s (.mk op n ks) = (.mk op n (ordTs fb s ks).1, (ordTs fb s ks).2) := by rw [ordT, if_neg h1, if_neg h8]
        rw [e] at hc ⊢
        obtain ⟨e1, e2⟩ := ord_nodess sg ks fb s hk.2 hi hc
        refine ⟨?_, e2⟩
        rw [nodesOk, e1, Bool.and_true, ordTs_len]
        exact hk.1
theorem ord_nodess (sg : Sg) : ∀ (ks : List Tm) (fb : Int → Option Int) (s : OS), nodesOks sg ks = true → InR fb s → (ordTs fb s ks).2.count ≤ 20 → nodesOks sg (ordTs fb s ks).1 = true ∧ InR fb (ordTs fb s ks).2
  | [], fb, s, _, hi, _ => by simp only [ordTs]; exact ⟨rfl, hi⟩
  | t :: ts, fb, s, hk, hi, hc => by
    rw [nodesOks, Bool.and_eq_true] at hk
    simp only [ordTs] at hc ⊢
    have z := ordTs_le ts fb (ordT fb s t).2
    obtain ⟨e1, e2⟩ := ord_nodes sg t fb s hk.1 hi (by omega)
    obtain ⟨e3, e4⟩ := ord_nodess sg ts fb _ hk.2 e2 hc
    exact ⟨by rw [nodesOks, e1, e3]; rfl, e4⟩
end
theorem ord_formed {s : Sg} {t : Tm} (h : formedB s t = true) (hc : (ordE t).2.count ≤ 20) : formedB s (ordE t).1 = true := by
  have hO := OkV.formed h
  unfold formedB at h ⊢
  rw [Bool.and_eq_true] at h ⊢
  refine ⟨?_, (ord_nodes s t _ _ h.2 ⟨fun _ _ h => by simp at h, fun _ _ h => by simp at h⟩ hc).1⟩
  have := weigh_ord t (fun _ => none) ⟨fun _ => none, 0⟩ 40 12 hO
  unfold ordE
  rw [this]
  exact h.1

/-! The list that turns the variables -/
def turnV (m i : Nat) : Int × Tm := ((i : Int), .mk 1 (((i + m) % 20 : Nat) : Int) [])
def turnL (m k : Nat) : List (Int × Tm) := (List.range k).map (turnV m)
theorem turnL_len (m k : Nat) : (turnL m k).length = k := by simp [turnL]
theorem turnL_succ (m k : Nat) : turnL m (k + 1) = turnL m k ++ [((k : Int), .mk 1 (((k + m) % 20 : Nat) : Int) [])] := by
  unfold turnL; rw [List.range_succ, List.map_append]; rfl
theorem turnL_get (m k i : Nat) (h : i < (turnL m k).length) : (turnL m k)[i] = turnV m i := by simp [turnL]
theorem var_formed (s : Sg) (v : Nat) (hv : v < 20) : formedB s (.mk 1 (v : Int) []) = true := by
  unfold formedB
  rw [nodesOk, nodeOk_1]
  simp [weigh, weighs, nodesOks, inB]
  omega
theorem turn_list (s : Sg) (m : Nat) : ∀ (n k : Nat), k + n ≤ 20 → lfB s ((k : Int) - 1) ((List.range' k n).map (turnV m)) = true
  | 0, _, _ => by simp [lfB]
  | n + 1, k, h => by
    rw [List.range'_succ, List.map_cons, lfB_cons]
    have ih := turn_list s m n (k + 1) (by omega)
    have e : ((k + 1 : Nat) : Int) - 1 = (k : Int) := by omega
    rw [e] at ih
    have hf : formedB s (turnV m k).2 = true := var_formed s ((k + m) % 20) (Nat.mod_lt _ (by omega))
    have e2 : (turnV m k).1 = (k : Int) := rfl
    rw [e2, hf, ih]
    simp [inB]
    omega
theorem turn_lf (s : Sg) (m : Nat) : lfB s (-1) (turnL m 20) = true := by
  have := turn_list s m 20 0 (by omega)
  rw [← List.range_eq_range'] at this
  exact this
theorem bindK_at {bs : List PB} (hv : ∀ i (h : i < bs.length), bs[i].v = (i : Int)) : ∀ k, k ≤ bs.length → ∀ v : Nat, bindK bs k (v : Int) = if v < k then (bs[v]?).map (·.d) else none
  | 0, _, v => by simp [bindK]
  | k + 1, hk, v => by
    rw [bindK_succ bs k (by omega)]
    unfold updI
    rw [hv k (by omega)]
    by_cases e : v = k
    · subst e
      rw [if_pos rfl, if_pos (by omega), List.getElem?_eq_getElem (by omega)]; rfl
    · rw [if_neg (by omega), bindK_at hv k (by omega) v]
      by_cases h2 : v < k
      · rw [if_pos h2, if_pos (by omega)]
      · rw [if_neg h2, if_neg (by omega)]
theorem stK_at {bs : List PB} (hv : ∀ i (h : i < bs.length), bs[i].v = (i : Int)) : ∀ k, k ≤ bs.length → ∀ v : Nat, v < k → stK bs k v = true
  | 0, _, v, h => by omega
  | k + 1, hk, v, h => by
    rw [stK_succ bs k (by omega), hv k (by omega)]
    unfold setB orSet
    by_cases e : v = k
    · subst e; simp
    · rw [if_neg (by simpa using e), stK_at hv k (by omega) v (by omega)]; rfl
/-- What is put in for the variables leaves the order as it is. -/
theorem turn_ord {bs : List PB} {m : Nat} (hp : pbs bs = turnL m 20) {N : Nat} {t z : Tm} (hO : OkV t) (h : putF (bindK bs bs.length) (stK bs bs.length) N (fun _ => false) t = some z) : (ordE z).1 = (ordE t).1 := by
  have hl : bs.length = 20 := by have := congrArg List.length hp; simpa [pbs, turnL] using this
  have hb : ∀ i (h : i < bs.length), bs[i].v = (i : Int) ∧ bs[i].d.tm = .mk 1 (((i + m) % 20 : Nat) : Int) [] := fun i h => by
    have e : (pbs bs)[i]'(by simpa [pbs] using h) = turnV m i := by
      have : (pbs bs)[i]? = (turnL m 20)[i]? := by rw [hp]
      rw [List.getElem?_eq_getElem (by simpa [pbs] using h), List.getElem?_eq_getElem (by simp [turnL]; omega), Option.some.injEq] at this
      rw [this, turnL_get]
    simp only [pbs, List.getElem_map, turnV, Prod.mk.injEq] at e
    exact e
  have hv := fun i h => (hb i h).1
  refine ren_ordE (ρ := fun v => (v + m) % 20) (fun v hv20 => ?_) (fun a b ha hb h => by have h2 : (a + m) % 20 = (b + m) % 20 := h; omega) (fun v hv20 => stK_at hv _ (Nat.le_refl _) v (by omega)) hO h
  refine ⟨bs[v].d, ?_, (hb v (by omega)).2⟩
  rw [bindK_at hv _ (Nat.le_refl _), if_pos (by omega), List.getElem?_eq_getElem (by omega)]
  rfl
theorem sameB_symm (t u : Tm) : sameB t u = sameB u t := by
  by_cases h : t = u
  · subst h; rfl
  · rw [Bool.eq_false_iff.2 (fun e => h (sameB_of _ _ e)), Bool.eq_false_iff.2 (fun e => h (sameB_of _ _ e).symm)]

end Go.Proofs.YtaieplfegngjnaaGreat
