/- Own text, joined of: Z5 Z6 Z7 W6 W7 N2 N3 N4. The values' side of unifying: what 'full' makes is formed; what a list of bindings puts into a value. · What 'Unify' answers of values, in whole. · What 'Match' answers of values: put into the first it gives the second. · The reference's 'Binds'. · The reference's 'Binds', both ways. · 'put' gives up: a node, a let's wrapper. · 'putLet' gives up. · 'putList' gives up. -/
import Derived.Test.YthlegfegkopdkaaGreatMm33
import Derived.Test.YthlegfegkopdkaaGreatMm34

namespace Go.Proofs.YthlegfegkopdkaaGreat
open Go.RowKit Go.Shelf Go.Sort

mutual
theorem vr_ok : ∀ (d : DT), OkV d.tm → VR d
  | .mk op n _ _ _ ks, h => by
    rw [DT.tm, OkV] at h
    rw [VR]
    refine ⟨fun e => ⟨?_, h.1 (.inl e)⟩, vrs_ok ks h.2.2.2⟩
    have := h.2.1 e
    cases ks with
    | nil => rfl
    | cons x xs => rw [tms] at this; cases this
theorem vrs_ok : ∀ (ds : List DT), OkVs (tms ds) → VRs ds
  | [], _ => by rw [VRs]; trivial
  | d :: ds, h => by rw [tms, OkVs] at h; rw [VRs]; exact ⟨vr_ok d h.1, vrs_ok ds h.2⟩
end

/-! What 'full' makes is formed -/
theorem growK_size {f : Nat → DT → Option (Tm × Nat)} {r : Int} (hf : ∀ c d T c', f c d = some (T, c') → c + T.size = c' ∧ deepOk T r = true) : ∀ {l : List DT} {c c' : Nat} {ts : List Tm}, growK f c l = some (ts, c') → c + sizes ts = c' ∧ deepOks ts r = true ∧ ts.length = l.length
  | [], c, c', ts, h => by simp [growK] at h; obtain ⟨rfl, rfl⟩ := h; simp [sizes, deepOks]
  | x :: xs, c, c', ts, h => by
    rw [growK] at h
    cases h1 : f c x with
    | none => rw [h1] at h; cases h
    | some q =>
      obtain ⟨t, c1⟩ := q
      rw [h1] at h
      simp only at h
      cases h2 : growK f c1 xs with
      | none => rw [h2] at h; cases h
      | some q =>
        obtain ⟨us, c2⟩ := q
        rw [h2] at h
        simp only [Option.some.injEq, Prod.mk.injEq] at h
        obtain ⟨rfl, rfl⟩ := h
        obtain ⟨g1, g2⟩ := hf _ _ _ _ h1
        obtain ⟨g3, g4, g5⟩ := growK_size hf h2
        refine ⟨by rw [sizes]; omega, by rw [deepOks, g2, g4]; rfl, by simp [g5]⟩
theorem growF_size {F : Int → Option DT} : ∀ (N dep c : Nat) (d : DT) (T : Tm) (c' : Nat), growF F N dep c d = some (T, c') → c + T.size = c' ∧ deepOk T (13 - dep) = true
  | 0, _, _, _, _, _, h => by cases h
  | N + 1, dep, c, d, T, c', h => by
    rw [growF] at h
    split at h
    · cases h
    · rename_i hg
      cases hr : opF F N d with
      | none => rw [hr] at h; cases h
      | some r =>
        rw [hr] at h
        simp only at h
        cases hk : growK (growF F N (dep + 1)) (c + 1) r.kids with
        | none => rw [hk] at h; cases h
        | some q =>
          obtain ⟨ts, c2⟩ := q
          rw [hk] at h
          simp only [Option.some.injEq, Prod.mk.injEq] at h
          obtain ⟨rfl, rfl⟩ := h
          obtain ⟨g1, g2, -⟩ := growK_size (fun c d T c' h => growF_size N (dep + 1) c d T c' h) hk
          have e : (13 : Int) - dep - 1 = 13 - ((dep + 1 : Nat) : Int) := by omega
          refine ⟨by rw [Tm.size]; omega, ?_⟩
          rw [deepOk, e, g2, Bool.and_true, decide_eq_true_eq]
          omega

/-- What goes from node to node. -/
structure Nodal (Q : Tm → Bool) (q : Int → Int → Nat → Bool) : Prop where
  eq : ∀ op n ks, Q (.mk op n ks) = true ↔ q op n ks.length = true ∧ ∀ k ∈ ks, Q k = true
theorem nodal_ok (s : Sg) : Nodal (nodesOk s) (nodeOk s) := ⟨fun op n ks => by
  rw [nodesOk, Bool.and_eq_true]
  refine and_congr Iff.rfl ?_
  induction ks with
  | nil => simp [nodesOks]
  | cons k ks ih => rw [nodesOks, Bool.and_eq_true, ih]; simp⟩
theorem Nodal.kids {Q : Tm → Bool} {q : Int → Int → Nat → Bool} (hQ : Nodal Q q) (d : DT) (h : Q d.tm = true) : q d.op d.n d.kids.length = true ∧ ∀ k ∈ d.kids, Q k.tm = true := by
  cases d with
  | mk op n a l c ks =>
    rw [DT.tm, tms_map] at h
    obtain ⟨h1, h2⟩ := (hQ.eq _ _ _).1 h
    rw [List.length_map] at h1
    exact ⟨h1, fun k hk => h2 _ (List.mem_map.2 ⟨k, hk, rfl⟩)⟩
theorem growF_nodal {Q : Tm → Bool} {q : Int → Int → Nat → Bool} (hQ : Nodal Q q) {F : Int → Option DT} (hF : Els (fun d => Q d.tm = true) F) : ∀ (N dep c : Nat) (d : DT) (T : Tm) (c' : Nat), Q d.tm = true → growF F N dep c d = some (T, c') → Q T = true
  | 0, _, _, _, _, _, _, h => by cases h
  | N + 1, dep, c, d, T, c', hd, h => by
    rw [growF] at h
    split at h
    · cases h
    · cases hr : opF F N d with
      | none => rw [hr] at h; cases h
      | some r =>
        rw [hr] at h
        simp only at h
        have hv := opF_good hF N d r hr hd
        obtain ⟨q1, q2⟩ := hQ.kids r hv
        cases hk : growK (growF F N (dep + 1)) (c + 1) r.kids with
        | none => rw [hk] at h; cases h
        | some q' =>
          obtain ⟨ts, c2⟩ := q'
          rw [hk] at h
          simp only [Option.some.injEq, Prod.mk.injEq] at h
          obtain ⟨cs, g1, g2, g3, g4⟩ := growK_get hk
          rw [← h.1, hQ.eq, g3]
          refine ⟨q1, fun t ht => ?_⟩
          obtain ⟨k, hk', rfl⟩ := List.getElem_of_mem ht
          have := g4 k (by omega)
          have e : ts.getD k (.mk 0 0 []) = ts[k] := by simp [List.getD_eq_getElem?_getD, List.getElem?_eq_getElem hk']
          rw [e] at this
          exact growF_nodal hQ hF N (dep + 1) _ _ _ _ (q2 _ (List.getElem_mem (by omega))) this

/-- The bindings of unifying keep what goes from node to node, and holds of variables. -/
theorem uni_nodal {Q : Tm → Bool} {q : Int → Int → Nat → Bool} (hQ : Nodal Q q) (hV : ∀ n : Int, 0 ≤ n ∧ n < 20 → Q (.mk 1 n []) = true) {N : Nat} {F : Int → Option DT} {a b : DT} (h : uniF N noB a b = some (some F)) (ha : OkV a.tm ∧ Q a.tm = true) (hb : OkV b.tm ∧ Q b.tm = true) : Els (fun d => OkV d.tm ∧ Q d.tm = true) F := by
  refine uniF_els (P := fun d => OkV d.tm ∧ Q d.tm = true) ⟨fun d hd k hk => ⟨?_, (hQ.kids d hd.2).2 k hk⟩, fun n hn => ⟨?_, ?_⟩, fun d hd h1 => ?_⟩ N noB F a b ha hb (fun i d h => by cases h) h
  · have := hd.1.open.2.2.2
    rw [DT.tm_kids] at this
    obtain ⟨i, hi, rfl⟩ := List.getElem_of_mem hk
    have := OkVs_get _ i (by simpa using hi) this
    simpa using this
  · rw [vD_tm, OkV]; exact ⟨fun _ => by omega, fun _ => rfl, fun e => by omega, by simp [OkVs]⟩
  · rw [vD_tm]; exact hV _ (by omega)
  · have h5 := hd.1.open.1 (.inl (by rw [DT.tm_op]; exact h1))
    rw [DT.tm_n] at h5
    exact h5
/-- What 'full' makes of a variable is a formed value. -/
theorem full_formed (s : Sg) {N : Nat} {F : Int → Option DT} (hF : Els (fun d => nodesOk s d.tm = true) F) {v : Nat} (hv : v < 20) {T : Tm} {c : Nat} (h : growF F N 1 0 (vD v) = some (T, c)) : formedB s T = true := by
  obtain ⟨h1, h2⟩ := growF_size N 1 0 _ _ _ h
  have h3 := growF_count h
  rw [formedB_eq, Bool.and_eq_true, decide_eq_true_eq]
  refine ⟨(weigh_iff T 40 12 (by omega)).1.2 ⟨by omega, h2⟩, growF_nodal (nodal_ok s) hF N 1 0 _ _ _ ?_ h⟩
  rw [vD_tm, nodesOk, nodeOk_1]
  simp [nodesOks, inB]; omega
/-! What is put into a value -/
def subF (F : Int → Option DT) : Int → Tm := fun v => match F v with | some d => d.tm | none => .mk 1 v []
/-! The bindings that a list says -/
theorem fold_none (v : Int) : ∀ (l : List PB) (f : Int → Option DT), (∀ x ∈ l, x.v ≠ v) → (l.foldl (fun f x => updI f x.v x.d) f) v = f v
  | [], f, _ => rfl
  | x :: l, f, h => by
    rw [List.foldl_cons, fold_none v l _ (fun y hy => h y (by simp [hy]))]
    unfold updI
    rw [if_neg (fun e => h x (by simp) e.symm)]
theorem fold_some : ∀ (l : List PB) (f : Int → Option DT) (x : PB), x ∈ l → l.Pairwise (fun a b => a.v ≠ b.v) → (l.foldl (fun f x => updI f x.v x.d) f) x.v = some x.d
  | y :: l, f, x, hx, hp => by
    rw [List.pairwise_cons] at hp
    rw [List.foldl_cons]
    rcases List.mem_cons.1 hx with rfl | hx
    · rw [fold_none x.v l _ (fun z hz e => hp.1 z hz e.symm)]
      unfold updI
      rw [if_pos rfl]
    · exact fold_some l _ x hx hp.2
theorem lfB_above {s : Sg} : ∀ {l : List (Int × Tm)} {b : Int}, lfB s b l = true → ∀ x ∈ l, b < x.1
  | [], _, _, x, hx => by cases hx
  | y :: l, b, h, x, hx => by
    rw [lfB] at h
    simp only [Bool.and_eq_true, decide_eq_true_eq] at h
    rcases List.mem_cons.1 hx with rfl | hx
    · exact h.1.1.1
    · have := lfB_above h.2 x hx
      omega
theorem lfB_pairs {s : Sg} : ∀ {bs : List PB} {b : Int}, lfB s b (pbs bs) = true → bs.Pairwise (fun a b => a.v ≠ b.v)
  | [], _, _ => List.Pairwise.nil
  | y :: l, b, h => by
    simp only [pbs, List.map_cons] at h
    rw [lfB] at h
    simp only [Bool.and_eq_true, decide_eq_true_eq] at h
    refine List.pairwise_cons.2 ⟨fun z hz e => ?_, lfB_pairs h.2⟩
    have := lfB_above h.2 (z.v, z.d.tm) (List.mem_map.2 ⟨z, hz, rfl⟩)
    omega
/-- What a list of bindings that is formed puts in for a variable. -/
theorem subF_some {s : Sg} {bs : List PB} {b : Int} (h : lfB s b (pbs bs) = true) {v : Int} {t : Tm} (hx : (v, t) ∈ pbs bs) : subF (bindK bs bs.length) v = t := by
  obtain ⟨x, hxm, e⟩ := List.mem_map.1 hx
  rw [Prod.mk.injEq] at e
  obtain ⟨e1, e2⟩ := e
  unfold subF bindK
  rw [List.take_length, ← e1, fold_some bs _ x hxm (lfB_pairs h)]
  exact e2
theorem subF_none {bs : List PB} {v : Int} (h : ∀ x ∈ pbs bs, x.1 ≠ v) : subF (bindK bs bs.length) v = .mk 1 v [] := by
  unfold subF bindK
  rw [List.take_length, fold_none v bs _ (fun x hx => h (x.v, x.d.tm) (List.mem_map.2 ⟨x, hx, rfl⟩))]
theorem listG_mem {F : Int → Option DT} {G : Nat → Tm} {k : Nat} {v : Int} {t : Tm} : (v, t) ∈ listG F G k ↔ ∃ u : Nat, u < k ∧ F u ≠ none ∧ v = u ∧ t = G u := by
  unfold listG
  rw [List.mem_filterMap]
  constructor
  · rintro ⟨u, hu, e⟩
    cases hF : F (u : Int) with
    | none => rw [hF] at e; cases e
    | some d =>
      rw [hF] at e
      simp only [Option.map_some, Option.some.injEq, Prod.mk.injEq] at e
      exact ⟨u, by simpa using hu, by rw [hF]; simp, e.1.symm, e.2.symm⟩
  · rintro ⟨u, hu, hF, rfl, rfl⟩
    obtain ⟨d, hd⟩ := Option.ne_none_iff_exists'.1 hF
    exact ⟨u, by simpa using hu, by rw [hd]; rfl⟩
theorem lfB_filter {s : Sg} {f : Nat → Option (Int × Tm)} (hf : ∀ u x, u < 20 → f u = some x → x.1 = (u : Int) ∧ formedB s x.2 = true) : ∀ (n m : Nat) (b : Int), b < m → m + n ≤ 20 → lfB s b ((List.range' m n).filterMap f) = true
  | 0, m, b, _, _ => rfl
  | n + 1, m, b, hb, hm => by
    rw [List.range'_succ, List.filterMap_cons]
    cases h : f m with
    | none => exact lfB_filter hf n (m + 1) b (by omega) (by omega)
    | some x =>
      obtain ⟨h1, h2⟩ := hf m x (by omega) h
      simp only
      rw [lfB, lfB_filter hf n (m + 1) x.1 (by omega) (by omega), h2, h1]
      simp [inB]; omega
end Go.Proofs.YthlegfegkopdkaaGreat

namespace Go.Proofs.YthlegfegkopdkaaGreat
open Go.RowKit Go.Shelf Go.Sort

theorem bound_moves {F : Int → Option DT} {θ : Int → Tm} (hg : Good F θ) : ∀ (m : Nat) (v w : Int), v.toNat ≤ m → 0 ≤ v → θ v = .mk 1 w [] → w ≤ v ∧ (w = v → F v = none) := by
  intro m
  induction m with
  | zero =>
    intro v w hv h0 h
    cases hF : F v with
    | none => rw [hg.free v hF] at h; simp at h; exact ⟨by omega, fun _ => rfl⟩
    | some b =>
      by_cases h1 : b.op = 1
      · have := hg.chain v b hF h1
        have := ((hg.vr v b hF).1.open.1 h1).2
        omega
      · rw [hg.sol v b hF, sb_node h1] at h
        simp at h
        exact absurd h.1 h1
  | succ m ih =>
    intro v w hv h0 h
    cases hF : F v with
    | none => rw [hg.free v hF] at h; simp at h; exact ⟨by omega, fun _ => rfl⟩
    | some b =>
      by_cases h1 : b.op = 1
      · have := hg.chain v b hF h1
        have := ((hg.vr v b hF).1.open.1 h1).2
        rw [hg.sol v b hF, sb_var h1] at h
        have := (ih b.n w (by omega) (by omega) h).1
        exact ⟨by omega, fun e => by omega⟩
      · rw [hg.sol v b hF, sb_node h1] at h
        simp at h
        exact absurd h.1 h1

/-- The answer of unifying that succeeds. -/
def UniOk (s : Sg) (a b : Tm) (L : List (Int × Tm)) : Prop :=
  lfB s (-1) L = true ∧ (∀ x ∈ L, isVal x.2 = true) ∧ ∃ θ : Int → Tm,
    (∀ bs : List PB, pbs bs = L → ∀ v : Int, 0 ≤ v ∧ v < 20 → subF (bindK bs bs.length) v = θ v) ∧ sb θ a = sb θ b ∧
    (∀ σ : Int → Tm, sb σ a = sb σ b → ∀ x ∈ L, σ x.1 = sb σ x.2) ∧ ∀ x ∈ L, ∀ y ∈ L, ∀ i : Nat, fvT x.2 i = true → y.1 ≠ (i : Int)

def gOf (F : Int → Option DT) (N : Nat) (v : Nat) : Tm := match growF F N 1 0 (vD (v : Int)) with | some q => q.1 | none => .mk 0 0 []
end Go.Proofs.YthlegfegkopdkaaGreat

namespace Go.Proofs.YthlegfegkopdkaaGreat
open Go.RowKit Go.Shelf Go.Sort

/-- The bindings grow, and whatever says what they say makes the pattern the value. -/
def MatchOk (f f' : Int → Option DT) (P : (Int → Tm) → Prop) : Prop := (∀ v d, f v = some d → f' v = some d) ∧ ∀ σ : Int → Tm, (∀ v d, f' v = some d → σ v = d.tm) → P σ
mutual
theorem match_sound : ∀ (a b : DT) (f : Int → Option DT), VR a → (matchD f a b).1 = true → MatchOk f (matchD f a b).2 (fun σ => sb σ a.tm = b.tm)
  | .mk op n x l c ks, b, f, hv, h => by
    rw [VR] at hv
    rw [matchD] at h ⊢
    by_cases h1 : op = 1
    · rw [if_pos h1] at h ⊢
      have hk := (hv.1 h1).1
      subst h1 hk
      cases hf : f n with
      | some old =>
        rw [hf] at h
        refine ⟨fun v d hd => hd, fun σ hσ => ?_⟩
        show sb σ (DT.tm _) = b.tm
        rw [DT.tm, sb, if_pos rfl, hσ n old hf]
        exact sameB_of _ _ h
      | none =>
        refine ⟨fun v d hd => ?_, fun σ hσ => ?_⟩
        · simp only [updI]
          rw [if_neg (fun e => by rw [e, hf] at hd; cases hd)]
          exact hd
        · show sb σ (DT.tm _) = b.tm
          rw [DT.tm, sb, if_pos rfl]
          exact hσ n b (by simp [updI])
    · rw [if_neg h1] at h ⊢
      by_cases h2 : op = b.op ∧ n = b.n
      · rw [if_pos h2] at h ⊢
        obtain ⟨g1, g2⟩ := matchs_sound ks b.kids f hv.2 h
        refine ⟨g1, fun σ hσ => ?_⟩
        have := g2 σ hσ
        simp only at this
        show sb σ (DT.tm _) = b.tm
        rw [DT.tm, sb, if_neg h1, this, h2.1, h2.2]
        cases b
        rw [DT.tm]
        rfl
      · rw [if_neg h2] at h; cases h
theorem matchs_sound : ∀ (ps bs : List DT) (f : Int → Option DT), VRs ps → (matchDs f ps bs).1 = true → MatchOk f (matchDs f ps bs).2 (fun σ => sbs σ (tms ps) = tms bs)
  | [], [], f, _, _ => by rw [matchDs]; exact ⟨fun _ _ h => h, fun σ _ => by simp only [tms, sbs]⟩
  | [], b :: bs, f, _, h => by simp [matchDs] at h
  | a :: ps, [], f, _, h => by simp [matchDs] at h
  | a :: ps, b :: bs, f, hv, h => by
    rw [VRs] at hv
    rw [matchDs] at h ⊢
    by_cases h1 : (matchD f a b).1 = true
    · rw [if_pos h1] at h ⊢
      obtain ⟨g1, g2⟩ := match_sound a b f hv.1 h1
      obtain ⟨g3, g4⟩ := matchs_sound ps bs _ hv.2 h
      refine ⟨fun v d hd => g3 v d (g1 v d hd), fun σ hσ => ?_⟩
      have e1 := g2 σ (fun v d hd => hσ v d (g3 v d hd))
      have e2 := g4 σ hσ
      simp only [tms, sbs]
      simp only at e1 e2
      rw [e1, e2]
    · rw [if_neg h1] at h; cases h
end

mutual
theorem deep_up : ∀ (t : Tm) (r r' : Int), r ≤ r' → deepOk t r = true → deepOk t r' = true
  | .mk _ _ ks, r, r', h, hd => by
    rw [deepOk, Bool.and_eq_true, decide_eq_true_eq] at hd ⊢
    exact ⟨by omega, deeps_up ks _ _ (by omega) hd.2⟩
theorem deeps_up : ∀ (ks : List Tm) (r r' : Int), r ≤ r' → deepOks ks r = true → deepOks ks r' = true
  | [], _, _, _, _ => rfl
  | t :: ts, r, r', h, hd => by
    rw [deepOks, Bool.and_eq_true] at hd ⊢
    exact ⟨deep_up t r r' h hd.1, deeps_up ts r r' h hd.2⟩
end
theorem deeps_mem {r : Int} {t : Tm} : ∀ {ks : List Tm}, t ∈ ks → deepOks ks r = true → deepOk t r = true
  | k :: ks, ht, h => by
    rw [deepOks, Bool.and_eq_true] at h
    rcases List.mem_cons.1 ht with rfl | ht
    · exact h.1
    · exact deeps_mem ht h.2
theorem formed_kid {s : Sg} {op n : Int} {ks : List Tm} (h : formedB s (.mk op n ks) = true) {k : Tm} (hk : k ∈ ks) : formedB s k = true := by
  rw [formedB_eq, Bool.and_eq_true, decide_eq_true_eq] at h ⊢
  obtain ⟨h1, h2⟩ := (weigh_iff _ 40 12 (by omega)).1.1 h.1
  rw [deepOk, Bool.and_eq_true] at h2
  rw [Tm.size] at h1
  have := sizes_mem hk
  exact ⟨(weigh_iff _ 40 12 (by omega)).1.2 ⟨by omega, deep_up _ _ _ (by omega) (deeps_mem hk h2.2)⟩, ((nodal_ok s).eq _ _ _).1 h.2 |>.2 k hk⟩
theorem formed_kid' {s : Sg} {d : DT} (h : formedB s d.tm = true) : ∀ k ∈ d.kids, formedB s k.tm = true := fun k hk => by
  cases d
  rw [DT.tm, tms_map] at h
  exact formed_kid h (List.mem_map.2 ⟨k, hk, rfl⟩)

theorem listB_mem {F : Int → Option DT} {k : Nat} {v : Int} {t : Tm} : (v, t) ∈ listB F k ↔ ∃ (u : Nat) (d : DT), u < k ∧ F u = some d ∧ v = u ∧ t = d.tm := by
  unfold listB
  rw [List.mem_filterMap]
  constructor
  · rintro ⟨u, hu, e⟩
    cases hF : F (u : Int) with
    | none => rw [hF] at e; cases e
    | some d =>
      rw [hF] at e
      simp only [Option.map_some, Option.some.injEq, Prod.mk.injEq] at e
      exact ⟨u, d, by simpa using hu, hF, e.1.symm, e.2.symm⟩
  · rintro ⟨u, d, hu, hF, rfl, rfl⟩
    exact ⟨u, by simpa using hu, by rw [hF]; rfl⟩
theorem listB_formed {s : Sg} {F : Int → Option DT} (hF : Els (fun d => formedB s d.tm = true) F) : lfB s (-1) (listB F 20) = true := by
  unfold listB
  rw [List.range_eq_range']
  refine lfB_filter (fun u x hu h => ?_) 20 0 (-1) (by omega) (by omega)
  cases hf : F (u : Int) with
  | none => rw [hf] at h; cases h
  | some d =>
    rw [hf] at h
    simp only [Option.map_some, Option.some.injEq] at h
    subst h
    exact ⟨rfl, hF _ d hf⟩
/-- The variables that a match binds are variables of the pattern. -/
theorem match_range : ∀ (N : Nat) (a b : DT) (f : Int → Option DT), a.size ≤ N → VR a → (∀ v d, f v = some d → 0 ≤ v ∧ v < 20) → ∀ v d, (matchD f a b).2 v = some d → 0 ≤ v ∧ v < 20
  | 0, a, _, _, h, _, _ => by have := dsize_eq a; omega
  | N + 1, .mk op n x l c ks, b, f, h, hv, hf => by
    rw [VR] at hv
    rw [matchD]
    by_cases h1 : op = 1
    · rw [if_pos h1]
      cases hn : f n with
      | some old => simpa using hf
      | none =>
        intro v d hd
        simp only [updI] at hd
        split at hd
        · rename_i e; rw [e]; exact (hv.1 h1).2
        · exact hf v d hd
    · rw [if_neg h1]
      by_cases h2 : op = b.op ∧ n = b.n
      · rw [if_pos h2]
        have key : ∀ (ps bs : List DT) (g : Int → Option DT), (∀ k ∈ ps, k ∈ ks) → (∀ v d, g v = some d → 0 ≤ v ∧ v < 20) → ∀ v d, (matchDs g ps bs).2 v = some d → 0 ≤ v ∧ v < 20 := by
          intro ps
          induction ps with
          | nil => intro bs g _ hg; cases bs <;> (rw [matchDs]; exact hg) <;> simp
          | cons k ps ih =>
            intro bs g hks hg
            cases bs with
            | nil => rw [matchDs]; exact hg; all_goals simp
            | cons y bs =>
              rw [matchDs]
              split
              · refine ih bs _ (fun k hk => hks k (by simp [hk])) (match_range N k y g ?_ (hv.2.mem k (hks k (by simp))) hg)
                obtain ⟨i, hi, e⟩ := List.getElem_of_mem (hks k (by simp))
                have := dsize_kid ks i hi
                rw [e] at this
                rw [DT.size] at h
                omega
              · exact hg
        exact key ks b.kids f (fun k hk => hk) hf
      · rw [if_neg h2]; exact hf

/-- A match that succeeds: its list is formed, and put into the pattern gives the value. -/
theorem match_total (s : Sg) (a b : DT) (ha : OkV a.tm) (hb : formedB s b.tm = true) (h : (matchD noB a b).1 = true) :
    lfB s (-1) (listB (matchD noB a b).2 20) = true ∧ ∀ bs : List PB, pbs bs = listB (matchD noB a b).2 20 → sb (subF (bindK bs bs.length)) a.tm = b.tm := by
  have hE : Els (fun d => formedB s d.tm = true) (matchD noB a b).2 := matchD_els (P := fun d => formedB s d.tm = true) (fun d hd k hk => formed_kid' hd k hk) a b noB hb (fun i d h => by cases h)
  have hl := listB_formed hE
  refine ⟨hl, fun bs e => ?_⟩
  obtain ⟨-, g⟩ := match_sound a b noB (vr_ok a ha) h
  refine g _ (fun v d hd => ?_)
  obtain ⟨r1, r2⟩ := match_range _ a b noB (Nat.le_refl _) (vr_ok a ha) (fun v d h => by cases h) v d hd
  obtain ⟨u, rfl⟩ := Int.eq_ofNat_of_zero_le r1
  exact subF_some (s := s) (b := -1) (by rw [e]; exact hl) (by rw [e]; exact listB_mem.2 ⟨u, d, by omega, hd, rfl, rfl⟩)

end Go.Proofs.YthlegfegkopdkaaGreat

namespace Go.Proofs.YthlegfegkopdkaaGreat
open Go.RowKit Go.Shelf Go.Sort

/-- What is asked of the binding j. -/
def BindAt (s : Sg) (L : List (Int × Tm)) (j : Nat) : Prop := ∃ h : j < L.length, inB L[j].1 0 19 = true ∧ formedB s L[j].2 = true ∧ (0 < j → (L[j - 1]'(by omega)).1 < L[j].1)
end Go.Proofs.YthlegfegkopdkaaGreat

namespace Go.Proofs.YthlegfegkopdkaaGreat
open Go.RowKit Go.Shelf Go.Sort

end Go.Proofs.YthlegfegkopdkaaGreat

namespace Go.Proofs.YthlegfegkopdkaaGreat
open Go.RowKit Go.Shelf Go.Sort

def PutGone (F : Int → Option DT) (st : Nat → Bool) (bm nb : Nat) (N : Nat) : Prop := ∀ (d : DT) (n₀ : Nat) (w : World) (g : Nat → Bool), putF F st N g d.tm = none → d.size ≤ N → Lies n₀ w d → n₀ ≤ w.heap.size → 1 + d.size ≤ 1000000 → OkV d.tm → TMap w bm nb F → PutOk n₀ w F →
  Calls Tryz.prog 97 #[.agg (psA bm st g), dv d] w (Gone w)
def PutLetGone (F : Int → Option DT) (st : Nat → Bool) (bm nb : Nat) (N : Nat) : Prop := ∀ (d : DT) (n₀ : Nat) (w : World) (g : Nat → Bool), putF F st N g d.tm = none → d.size ≤ N → d.op = 8 → Lies n₀ w d → n₀ ≤ w.heap.size → 1 + d.size ≤ 1000000 → OkV d.tm → TMap w bm nb F → PutOk n₀ w F →
  Calls Tryz.prog 120 #[.agg (psA bm st g), dv d] w (Gone w)

end Go.Proofs.YthlegfegkopdkaaGreat

namespace Go.Proofs.YthlegfegkopdkaaGreat
open Go.RowKit Go.Shelf Go.Sort

def LetGone (F : Int → Option DT) (st g : Nat → Bool) (N : Nat) (x : DT) (w w0 : World) (s5 : Value) (W : World) : Prop :=
  ∃ (m : Nat) (Y : DT), m < 20 ∧ s5 = .int .i64 m ∧ W.heap[w.heap.size + 1 + 1 + 1]? = some (bx Y) ∧ Lies W.heap.size W Y ∧ 1 + Y.size ≤ 1000000 ∧ OkV Y.tm ∧ Below w0.heap.size w0 W ∧
    Y.size ≤ N ∧ (putF F st N g x.tm = none ∨ putF F st N (setB g m true) Y.tm = none)

end Go.Proofs.YthlegfegkopdkaaGreat

namespace Go.Proofs.YthlegfegkopdkaaGreat
open Go.RowKit Go.Shelf Go.Sort

end Go.Proofs.YthlegfegkopdkaaGreat
