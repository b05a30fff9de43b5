/- Own text, joined of: Z1 Z2 Z3 Z4. Models of unifying: what solves the bindings. · Models of unifying: it ends. · Models of unifying: it ends. · The most general solution: what 'full' makes; every solution is a special case of it. -/
import Derived.Test.YthlegfegkopdkaaGreatMm28

namespace Go.Proofs.YthlegfegkopdkaaGreat
open Go.RowKit Go.Shelf Go.Sort

/-! Terms in place of variables -/
mutual
def sb (θ : Int → Tm) : Tm → Tm
  | .mk op n ks => if op = 1 then θ n else .mk op n (sbs θ ks)
def sbs (θ : Int → Tm) : List Tm → List Tm
  | [] => []
  | t :: ts => sb θ t :: sbs θ ts
end
theorem sb_eq (θ : Int → Tm) (t : Tm) : sb θ t = if t.op = 1 then θ t.n else .mk t.op t.n (sbs θ t.kids) := by cases t; rw [sb]; rfl
theorem sbs_map (θ : Int → Tm) (ks : List Tm) : sbs θ ks = ks.map (sb θ) := by
  induction ks with
  | nil => rfl
  | cons t ts ih => simp [sbs, ih]
theorem sb_var {θ : Int → Tm} {d : DT} (h : d.op = 1) : sb θ d.tm = θ d.n := by rw [sb_eq, DT.tm_op, DT.tm_n, if_pos h]
theorem sb_node {θ : Int → Tm} {d : DT} (h : d.op ≠ 1) : sb θ d.tm = .mk d.op d.n (d.kids.map fun k => sb θ k.tm) := by
  rw [sb_eq, DT.tm_op, DT.tm_n, if_neg h, DT.tm_kids, sbs_map, List.map_map]; rfl

/-- Each bound variable is what it is bound to. -/
def Solves (θ : Int → Tm) (F : Int → Option DT) : Prop := ∀ v d, F v = some d → θ v = sb θ d.tm
theorem solves_none (θ : Int → Tm) : Solves θ (fun _ => none) := fun _ _ h => by cases h
theorem solves_upd {θ : Int → Tm} {F : Int → Option DT} {n : Int} {d : DT} (hn : F n = none) : Solves θ (updI F n d) ↔ Solves θ F ∧ θ n = sb θ d.tm := by
  constructor
  · intro h
    refine ⟨fun v x hx => ?_, h n d (by unfold updI; rw [if_pos rfl])⟩
    have hv : v ≠ n := fun e => by subst e; rw [hn] at hx; cases hx
    exact h v x (by unfold updI; rw [if_neg hv]; exact hx)
  · rintro ⟨h1, h2⟩ v x hx
    unfold updI at hx
    split at hx
    · rename_i e; cases hx; rw [e]; exact h2
    · exact h1 v x hx
theorem opF_solves {θ : Int → Tm} {F : Int → Option DT} (hs : Solves θ F) : ∀ (N : Nat) (d r : DT), opF F N d = some r → sb θ d.tm = sb θ r.tm
  | 0, _, _, h => by cases h
  | N + 1, d, r, h => by
    rw [opF] at h
    split at h
    · rename_i h1
      cases hq : F d.n with
      | none => rw [hq] at h; cases h; rfl
      | some b =>
        rw [hq] at h
        rw [sb_var h1, hs _ _ hq]
        exact opF_solves hs N b r h
    · cases h; rfl

/-! A variable that stands in what it is bound to -/
theorem sizes_mem {t : Tm} : ∀ {ks : List Tm}, t ∈ ks → t.size ≤ sizes ks
  | x :: ks, h => by
    rw [sizes]
    rcases List.mem_cons.1 h with rfl | h
    · omega
    · have := sizes_mem h; omega
theorem sb_kid {θ : Int → Tm} {d k : DT} (h1 : d.op ≠ 1) (hk : k ∈ d.kids) : (sb θ k.tm).size < (sb θ d.tm).size := by
  rw [sb_node h1, Tm.size]
  have := sizes_mem (t := sb θ k.tm) (ks := d.kids.map fun k => sb θ k.tm) (List.mem_map.2 ⟨k, hk, rfl⟩)
  omega
mutual
/-- Variables have no kids. -/
def Val : DT → Prop
  | .mk op _ _ _ _ ks => (op = 1 → ks = []) ∧ Vals ks
def Vals : List DT → Prop
  | [] => True
  | d :: ds => Val d ∧ Vals ds
end
theorem Vals.mem : ∀ {ds : List DT}, Vals ds → ∀ d ∈ ds, Val d
  | x :: ds, h, d, hd => by
    rw [Vals] at h
    rcases List.mem_cons.1 hd with rfl | hd
    · exact h.1
    · exact h.2.mem d hd
theorem Val.open {d : DT} (h : Val d) : (d.op = 1 → d.kids = []) ∧ Vals d.kids := by cases d; rw [Val] at h; exact h
theorem Val.kid {d : DT} (h : Val d) : ∀ k ∈ d.kids, Val k := fun k hk => h.open.2.mem k hk
mutual
theorem pre_le (θ : Int → Tm) : ∀ (d : DT) (dep : Nat), Val d → ∀ x ∈ d.pre dep, (sb θ x.2.tm).size ≤ (sb θ d.tm).size
  | .mk op n a l c ks, dep, h, x, hx => by
    rw [DT.pre] at hx
    rcases List.mem_cons.1 hx with rfl | hx
    · exact Nat.le_refl _
    · rw [Val] at h
      by_cases h1 : op = 1
      · rw [h.1 h1, pres] at hx; cases hx
      · obtain ⟨k, hk, hle⟩ := pres_le θ ks (dep + 1) h.2 x hx
        have := sb_kid (θ := θ) (d := .mk op n a l c ks) (k := k) h1 hk
        omega
theorem pres_le (θ : Int → Tm) : ∀ (ds : List DT) (dep : Nat), Vals ds → ∀ x ∈ pres ds dep, ∃ k ∈ ds, (sb θ x.2.tm).size ≤ (sb θ k.tm).size
  | [], dep, _, x, hx => by rw [pres] at hx; cases hx
  | d :: ds, dep, h, x, hx => by
    rw [pres] at hx
    rw [Vals] at h
    rcases List.mem_append.1 hx with hx | hx
    · exact ⟨d, by simp, pre_le θ d dep h.1 x hx⟩
    · obtain ⟨k, hk, hle⟩ := pres_le θ ds dep h.2 x hx
      exact ⟨k, by simp [hk], hle⟩
end
theorem lookL_le {θ : Int → Tm} {F : Int → Option DT} {v : Int} {B : Nat} (hs : Solves θ F) {rec : (Nat → Bool) → DT → Bool × (Nat → Bool)} (hF : ∀ u b, F u = some b → Val b) (hr : ∀ met d, Val d → (rec met d).1 = true → (θ v).size ≤ (sb θ d.tm).size) :
    ∀ (l : List Nd) (met : Nat → Bool), (∀ x ∈ l, (sb θ x.2.tm).size ≤ B) → (lookL v F rec met l).1 = true → (θ v).size ≤ B
  | [], met, _, h => by rw [lookL] at h; cases h
  | x :: xs, met, hB, h => by
    have hx := hB x (by simp)
    have ih := fun met h => lookL_le hs hF hr xs met (fun y hy => hB y (by simp [hy])) h
    rw [lookL] at h
    split at h
    · exact ih _ h
    · rename_i hc
      have h1 : x.2.op = 1 := Classical.byContradiction fun e => hc (.inl e)
      rw [sb_var h1] at hx
      split at h
      · rename_i e; rw [← e]; exact hx
      · cases hq : F x.2.n with
        | none => rw [hq] at h; exact ih _ h
        | some b =>
          rw [hq] at h
          simp only at h
          split at h
          · rename_i hb
            have := hr _ b (hF _ _ hq) hb
            rw [hs _ _ hq] at hx
            omega
          · exact ih _ h
theorem lookF_le {θ : Int → Tm} {F : Int → Option DT} {v : Int} (hs : Solves θ F) (hF : ∀ u b, F u = some b → Val b) : ∀ (N : Nat) (met : Nat → Bool) (d : DT), Val d → (lookF v F N met d).1 = true → (θ v).size ≤ (sb θ d.tm).size
  | 0, _, _, _, h => by cases h
  | N + 1, met, d, hd, h => by
    rw [lookF] at h
    exact lookL_le hs hF (fun met d hd h => lookF_le hs hF N met d hd h) _ met (fun x hx => pre_le θ d 1 hd x hx) h
/-- What stands in a value that is no variable is less than it. -/
theorem stands_less {θ : Int → Tm} {F : Int → Option DT} {v : Int} {d : DT} (hs : Solves θ F) (hF : ∀ u b, F u = some b → Val b) (hd : Val d) (h1 : d.op ≠ 1) (h : standsB v F d = true) : (θ v).size < (sb θ d.tm).size := by
  unfold standsB at h
  rw [show (21 : Nat) = 20 + 1 from rfl, lookF, pre_eq, lookL, if_pos (.inl h1)] at h
  have hle := lookL_le (B := (sb θ d.tm).size - 1) hs hF (fun met d hd h => lookF_le hs hF 20 met d hd h) _ _ (fun x hx => by
    obtain ⟨k, hk, hle⟩ := pres_le θ d.kids 2 hd.open.2 x hx
    have := sb_kid (θ := θ) h1 hk
    omega) h
  have := size_pos (sb θ d.tm)
  omega

/-! One binding more -/
theorem vD_tm (n : Int) : (vD n).tm = .mk 1 n [] := by unfold vD; rw [DT.tm]; rfl
theorem sb_vD (θ : Int → Tm) (n : Int) : sb θ (vD n).tm = θ n := by rw [vD_tm, sb, if_pos rfl]
/-- What the answer of a step means. -/
def Res (θ : Int → Tm) (F : Int → Option DT) (P : Prop) : Option (Int → Option DT) → Prop
  | some F' => Solves θ F' ↔ Solves θ F ∧ P
  | none => ¬ (Solves θ F ∧ P)
theorem Res.congr {θ : Int → Tm} {F : Int → Option DT} {P Q : Prop} {R : Option (Int → Option DT)} (h : Res θ F P R) (e : Solves θ F → (P ↔ Q)) : Res θ F Q R := by
  cases R with
  | some F' => exact h.trans ⟨fun ⟨a, b⟩ => ⟨a, (e a).1 b⟩, fun ⟨a, b⟩ => ⟨a, (e a).2 b⟩⟩
  | none => exact fun ⟨a, b⟩ => h ⟨a, (e a).2 b⟩
theorem bind_res {θ : Int → Tm} {F : Int → Option DT} {n : Int} {y : DT} (hn : F n = none) (hy : y.op = 1 → F y.n = none) (hF : ∀ u b, F u = some b → Val b) (hv : Val y) : Res θ F (θ n = sb θ y.tm) (bindF F n y) := by
  unfold bindF
  split
  · rename_i h1
    rw [sb_var h1]
    split
    · rename_i e
      rw [e]; exact ⟨fun h => ⟨h, rfl⟩, fun h => h.1⟩
    · rename_i e
      have hm : F (max n y.n) = none := by
        rcases Int.le_total n y.n with h | h
        · rw [Int.max_eq_right h]; exact hy h1
        · rw [Int.max_eq_left h]; exact hn
      show Solves θ (updI F (max n y.n) (vD (min n y.n))) ↔ _
      rw [solves_upd hm, sb_vD]
      rcases Int.le_total n y.n with h | h
      · rw [Int.max_eq_right h, Int.min_eq_left h]
        exact ⟨fun ⟨a, b⟩ => ⟨a, b.symm⟩, fun ⟨a, b⟩ => ⟨a, b.symm⟩⟩
      · rw [Int.max_eq_left h, Int.min_eq_right h]
  · rename_i h1
    split
    · rename_i hs
      rintro ⟨a, b⟩
      have := stands_less a hF hv h1 hs
      rw [b] at this
      omega
    · exact solves_upd hn

/-! Unifying -/
theorem uniFs_res {θ : Int → Tm} {f : (Int → Option DT) → DT → DT → Option (Option (Int → Option DT))} (hf : ∀ F a b R, f F a b = some R → (∀ u b, F u = some b → Val b) → Val a → Val b → Res θ F (sb θ a.tm = sb θ b.tm) R ∧ ∀ F', R = some F' → ∀ u b, F' u = some b → Val b) :
    ∀ (xs ys : List DT) (F : Int → Option DT) (R : Option (Int → Option DT)), xs.length = ys.length → uniFs f F xs ys = some R → (∀ u b, F u = some b → Val b) → (∀ x ∈ xs, Val x) → (∀ y ∈ ys, Val y) →
      Res θ F ((xs.map fun k => sb θ k.tm) = ys.map fun k => sb θ k.tm) R ∧ ∀ F', R = some F' → ∀ u b, F' u = some b → Val b
  | [], [], F, R, _, h, hF, _, _ => by
    simp only [uniFs, Option.some.injEq] at h
    subst h
    exact ⟨by simp [Res], fun F' e => by cases e; exact hF⟩
  | [], _ :: _, _, _, h, _, _, _, _ => by simp at h
  | _ :: _, [], _, _, h, _, _, _, _ => by simp at h
  | x :: xs, y :: ys, F, R, hl, h, hF, hx, hy => by
    rw [uniFs] at h
    cases hq : f F x y with
    | none => rw [hq] at h; cases h
    | some R1 =>
      obtain ⟨g1, g2⟩ := hf F x y R1 hq hF (hx x (by simp)) (hy y (by simp))
      cases R1 with
      | none =>
        rw [hq] at h
        simp only [Option.some.injEq] at h
        subst h
        refine ⟨fun ⟨a, b⟩ => g1 ⟨a, ?_⟩, fun F' e => by cases e⟩
        simp only [List.map_cons, List.cons.injEq] at b
        exact b.1
      | some F1 =>
        rw [hq] at h
        simp only at h
        obtain ⟨g3, g4⟩ := uniFs_res hf xs ys F1 R (by simpa using hl) h (g2 F1 rfl) (fun z hz => hx z (by simp [hz])) (fun z hz => hy z (by simp [hz]))
        refine ⟨?_, g4⟩
        have g1' : Solves θ F1 ↔ Solves θ F ∧ sb θ x.tm = sb θ y.tm := g1
        cases R with
        | some F' =>
          have g3' : Solves θ F' ↔ Solves θ F1 ∧ _ := g3
          show Solves θ F' ↔ _
          rw [g3', g1', List.map_cons, List.map_cons, List.cons.injEq, and_assoc]
        | none =>
          intro ⟨a, b⟩
          simp only [List.map_cons, List.cons.injEq] at b
          exact g3 ⟨g1'.2 ⟨a, b.1⟩, b.2⟩
theorem uni_res {θ : Int → Tm} : ∀ (N : Nat) (F : Int → Option DT) (a b : DT) (R : Option (Int → Option DT)), uniF N F a b = some R → (∀ u b, F u = some b → Val b) → Val a → Val b →
    Res θ F (sb θ a.tm = sb θ b.tm) R ∧ ∀ F', R = some F' → ∀ u b, F' u = some b → Val b
  | 0, _, _, _, _, h, _, _, _ => by cases h
  | N + 1, F, a, b, R, h, hF, ha, hb => by
    have hop : ∀ (M : Nat) (d r : DT), Val d → opF F M d = some r → Val r := fun M => by
      induction M with
      | zero => intro d r _ h; cases h
      | succ M ih =>
        intro d r hd h
        rw [opF] at h
        split at h
        · cases hq : F d.n with
          | none => rw [hq] at h; cases h; exact hd
          | some c => rw [hq] at h; exact ih c r (hF _ _ hq) h
        · cases h; exact hd
    rw [uniF] at h
    cases hy : opF F N b with
    | none => rw [hy] at h; cases h
    | some y =>
      cases hx : opF F N a with
      | none => rw [hy, hx] at h; cases h
      | some x =>
        rw [hy, hx] at h
        simp only at h
        have ex := fun hs : Solves θ F => opF_solves hs N a x hx
        have ey := fun hs : Solves θ F => opF_solves hs N b y hy
        have vx := hop N a x ha hx
        have vy := hop N b y hb hy
        have fx := opF_free N a x hx
        have fy := opF_free N b y hy
        have key : Res θ F (sb θ x.tm = sb θ y.tm) R ∧ ∀ F', R = some F' → ∀ u b, F' u = some b → Val b := by
          have hbind : ∀ (n : Int) (z : DT) (F' : Int → Option DT), Val z → bindF F n z = some F' → ∀ u b, F' u = some b → Val b := fun n z F' hz hq u c hu => by
            unfold bindF at hq
            split at hq
            · split at hq
              · cases hq; exact hF u c hu
              · cases hq
                unfold updI at hu
                split at hu
                · cases hu; unfold vD; rw [Val, Vals]; exact ⟨fun _ => rfl, trivial⟩
                · exact hF u c hu
            · split at hq
              · cases hq
              · cases hq
                unfold updI at hu
                split at hu
                · cases hu; exact hz
                · exact hF u c hu
          split at h
          · rename_i h1
            simp only [Option.some.injEq] at h
            subst h
            refine ⟨?_, fun F' e => hbind x.n y F' vy e⟩
            rw [sb_var h1]
            exact bind_res (fx h1) fy hF vy
          · rename_i h1
            split at h
            · rename_i h2
              simp only [Option.some.injEq] at h
              subst h
              refine ⟨?_, fun F' e => hbind y.n x F' vx e⟩
              have := bind_res (θ := θ) (fy h2) fx hF vx
              refine this.congr (fun _ => ?_)
              rw [sb_var h2]
              exact ⟨fun e => e.symm, fun e => e.symm⟩
            · rename_i h2
              rw [sb_node h1, sb_node h2]
              split at h
              · rename_i hc
                obtain ⟨g1, g2⟩ := uniFs_res (θ := θ) (f := uniF N) (fun F a b R h hF ha hb => uni_res N F a b R h hF ha hb) x.kids y.kids F R hc.2.2 h hF vx.kid vy.kid
                refine ⟨g1.congr (fun _ => ?_), g2⟩
                rw [hc.1, hc.2.1]
                simp
              · rename_i hc
                simp only [Option.some.injEq] at h
                subst h
                refine ⟨fun ⟨a, b⟩ => hc ?_, fun F' e => by cases e⟩
                simp only [Tm.mk.injEq] at b
                refine ⟨b.1, b.2.1, ?_⟩
                have := congrArg List.length b.2.2
                simpa using this
        refine ⟨key.1.congr (fun hs => ?_), key.2⟩
        rw [ex hs, ey hs]

end Go.Proofs.YthlegfegkopdkaaGreat

namespace Go.Proofs.YthlegfegkopdkaaGreat
open Go.RowKit Go.Shelf Go.Sort

mutual
/-- Variables have no kids, and numbers below 20. -/
def VR : DT → Prop
  | .mk op n _ _ _ ks => (op = 1 → ks = [] ∧ 0 ≤ n ∧ n < 20) ∧ VRs ks
def VRs : List DT → Prop
  | [] => True
  | d :: ds => VR d ∧ VRs ds
end
theorem VRs.mem : ∀ {ds : List DT}, VRs ds → ∀ d ∈ ds, VR d
  | x :: ds, h, d, hd => by
    rw [VRs] at h
    rcases List.mem_cons.1 hd with rfl | hd
    · exact h.1
    · exact h.2.mem d hd
theorem VR.open {d : DT} (h : VR d) : (d.op = 1 → d.kids = [] ∧ 0 ≤ d.n ∧ d.n < 20) ∧ VRs d.kids := by cases d; rw [VR] at h; exact h
theorem VR.kid {d : DT} (h : VR d) : ∀ k ∈ d.kids, VR k := fun k hk => h.open.2.mem k hk
mutual
theorem VR.val : ∀ {d : DT}, VR d → Val d
  | .mk _ _ _ _ _ ks, h => by rw [VR] at h; rw [Val]; exact ⟨fun e => (h.1 e).1, VRs.vals h.2⟩
theorem VRs.vals : ∀ {ds : List DT}, VRs ds → Vals ds
  | [], _ => by rw [Vals]; trivial
  | d :: ds, h => by rw [VRs] at h; rw [Vals]; exact ⟨h.1.val, VRs.vals h.2⟩
end
mutual
theorem VR.pre : ∀ (d : DT) (dep : Nat), VR d → ∀ x ∈ d.pre dep, VR x.2
  | .mk op n a l c ks, dep, h, x, hx => by
    rw [DT.pre] at hx
    rcases List.mem_cons.1 hx with e | hx
    · rw [e]; exact h
    · rw [VR] at h; exact VRs.pres ks (dep + 1) h.2 x hx
theorem VRs.pres : ∀ (ds : List DT) (dep : Nat), VRs ds → ∀ x ∈ pres ds dep, VR x.2
  | [], dep, _, x, hx => by rw [Go.Proofs.YthlegfegkopdkaaGreat.pres] at hx; cases hx
  | d :: ds, dep, h, x, hx => by
    rw [Go.Proofs.YthlegfegkopdkaaGreat.pres] at hx
    rw [VRs] at h
    rcases List.mem_append.1 hx with hx | hx
    · exact VR.pre d dep h.1 x hx
    · exact VRs.pres ds dep h.2 x hx
end
theorem vr_vD {n : Int} (h : 0 ≤ n ∧ n < 20) : VR (vD n) := by unfold vD; rw [VR, VRs]; exact ⟨fun _ => ⟨rfl, h⟩, trivial⟩

/-! Looking through what variables are bound to finds all of them -/
def Cl (F : Int → Option DT) (v : Int) (met met' : Nat → Bool) : Prop := ∀ u : Nat, met' u = true → met u = false → (u : Int) ≠ v ∧ ∀ b, F (u : Int) = some b → ∀ x ∈ b.pre 1, x.2.op = 1 → met' x.2.n.toNat = true
def Finds (F : Int → Option DT) (v : Int) (M : Nat) (rec : (Nat → Bool) → DT → Bool × (Nat → Bool)) : Prop := ∀ met d, unm met < M → VR d → (rec met d).1 = false → (∀ x ∈ d.pre 1, x.2.op = 1 → (rec met d).2 x.2.n.toNat = true) ∧ Cl F v met (rec met d).2
theorem lookL_finds {F : Int → Option DT} {v : Int} {M : Nat} {rec : (Nat → Bool) → DT → Bool × (Nat → Bool)} (hF : ∀ u b, F u = some b → VR b) (hm : ∀ met d k, met k = true → (rec met d).2 k = true) (hr : Finds F v M rec) :
    ∀ (l : List Nd) (met : Nat → Bool), unm met < M + 1 → (∀ x ∈ l, VR x.2) → (lookL v F rec met l).1 = false → (∀ x ∈ l, x.2.op = 1 → (lookL v F rec met l).2 x.2.n.toNat = true) ∧ Cl F v met (lookL v F rec met l).2
  | [], met, _, _, _ => by
    rw [lookL]
    exact ⟨fun x h => (by cases h), fun u h1 h2 => (by simp only at h1; rw [h1] at h2; cases h2)⟩
  | x :: xs, met, hM, hv, h => by
    have hx := hv x (by simp)
    have hxs : ∀ y ∈ xs, VR y.2 := fun y hy => hv y (by simp [hy])
    rw [lookL] at h ⊢
    by_cases hc : x.2.op ≠ 1 ∨ met x.2.n.toNat = true
    · rw [if_pos hc] at h ⊢
      obtain ⟨g1, g2⟩ := lookL_finds hF hm hr xs met hM hxs h
      refine ⟨fun y hy hop => ?_, g2⟩
      rcases List.mem_cons.1 hy with rfl | hy
      · rcases hc with hc | hc
        · exact absurd hop hc
        · exact lookL_mono v F rec hm xs met _ hc
      · exact g1 y hy hop
    · rw [if_neg hc] at h ⊢
      have h1 : x.2.op = 1 := Classical.byContradiction fun e => hc (.inl e)
      have h2 : met x.2.n.toNat = false := by cases e : met x.2.n.toNat with | false => rfl | true => exact absurd (.inr e) hc
      obtain ⟨-, hn0, hn20⟩ := hx.open.1 h1
      have hum := unm_set (met := met) (k := x.2.n.toNat) (by omega) h2
      have hcast : ((x.2.n.toNat : Nat) : Int) = x.2.n := by omega
      by_cases hv' : x.2.n = v
      · rw [if_pos hv'] at h; cases h
      · rw [if_neg hv'] at h ⊢
        have hs : setB met x.2.n.toNat true x.2.n.toNat = true := by unfold setB; rw [if_pos rfl]
        have hne : ∀ u, setB met x.2.n.toNat true u = false ∨ u = x.2.n.toNat ∨ met u = true := fun u => by
          unfold setB
          by_cases e : u = x.2.n.toNat
          · exact .inr (.inl e)
          · rw [if_neg e]; cases met u with | false => exact .inl rfl | true => exact .inr (.inr rfl)
        cases hq : F x.2.n with
        | none =>
          rw [hq] at h
          simp only at h ⊢
          obtain ⟨g1, g2⟩ := lookL_finds hF hm hr xs (setB met x.2.n.toNat true) (by omega) hxs h
          refine ⟨fun y hy hop => ?_, fun u hu1 hu2 => ?_⟩
          · rcases List.mem_cons.1 hy with rfl | hy
            · exact lookL_mono v F rec hm xs _ _ hs
            · exact g1 y hy hop
          · rcases hne u with e | e | e
            · exact g2 u hu1 e
            · subst e
              rw [hcast]
              exact ⟨hv', fun b hb => by rw [hq] at hb; cases hb⟩
            · rw [e] at hu2; cases hu2
        | some b =>
          rw [hq] at h
          simp only at h ⊢
          by_cases hb1 : (rec (setB met x.2.n.toNat true) b).1 = true
          · rw [if_pos hb1] at h; rw [hb1] at h; cases h
          · rw [if_neg hb1] at h ⊢
            have hb1' : (rec (setB met x.2.n.toNat true) b).1 = false := by simpa using hb1
            obtain ⟨k1, k2⟩ := hr (setB met x.2.n.toNat true) b (by omega) (hF _ _ hq) hb1'
            obtain ⟨g1, g2⟩ := lookL_finds hF hm hr xs (rec (setB met x.2.n.toNat true) b).2 (by
              have := unm_mono (m := setB met x.2.n.toNat true) (m' := (rec (setB met x.2.n.toNat true) b).2) (fun k hk => hm _ _ k hk)
              omega) hxs h
            have up := fun k hk => lookL_mono v F rec hm xs (rec (setB met x.2.n.toNat true) b).2 k hk
            refine ⟨fun y hy hop => ?_, fun u hu1 hu2 => ?_⟩
            · rcases List.mem_cons.1 hy with rfl | hy
              · exact up _ (hm _ _ _ hs)
              · exact g1 y hy hop
            · cases hr2 : (rec (setB met x.2.n.toNat true) b).2 u with
              | false => exact g2 u hu1 hr2
              | true =>
                rcases hne u with e | e | e
                · obtain ⟨q1, q2⟩ := k2 u hr2 e
                  exact ⟨q1, fun c hc y hy hop => up _ (q2 c hc y hy hop)⟩
                · subst e
                  rw [hcast]
                  refine ⟨hv', fun c hc y hy hop => ?_⟩
                  rw [hq] at hc; cases hc
                  exact up _ (k1 y hy hop)
                · rw [e] at hu2; cases hu2
theorem lookF_finds {F : Int → Option DT} {v : Int} (hF : ∀ u b, F u = some b → VR b) : ∀ N, Finds F v N (lookF v F N)
  | 0 => fun met d h => by omega
  | N + 1 => fun met d h hd hf => by
    rw [lookF] at hf ⊢
    exact lookL_finds hF (fun met d k hk => lookF_mono v F N met d k hk) (lookF_finds hF N) (d.pre 1) met h (fun x hx => VR.pre d 1 hd x hx) hf

/-! Bindings that have a solution, in which a variable that is not bound is itself -/
structure Good (F : Int → Option DT) (θ : Int → Tm) : Prop where
  vr : ∀ u b, F u = some b → VR b ∧ 0 ≤ u ∧ u < 20
  chain : ∀ u b, F u = some b → b.op = 1 → b.n < u
  sol : Solves θ F
  free : ∀ u, F u = none → θ u = .mk 1 u []
theorem good_none : Good noB (fun u => .mk 1 u []) := ⟨fun _ _ h => (by cases h), fun _ _ h => (by cases h), fun _ _ h => (by cases h), fun _ _ => rfl⟩
mutual
theorem sb_comp (ρ θ : Int → Tm) : ∀ t : Tm, sb ρ (sb θ t) = sb (fun v => sb ρ (θ v)) t
  | .mk op n ks => by
    rw [sb, sb]
    split
    · rfl
    · rename_i h; rw [sb, if_neg h, sbs_comp ρ θ ks]
theorem sbs_comp (ρ θ : Int → Tm) : ∀ ks : List Tm, sbs ρ (sbs θ ks) = sbs (fun v => sb ρ (θ v)) ks
  | [] => by simp only [sbs]
  | t :: ts => by simp only [sbs]; rw [sb_comp ρ θ t, sbs_comp ρ θ ts]
end
mutual
theorem pre_dep : ∀ (d : DT) (p q : Nat) (x : Nd), x ∈ d.pre p → ∃ y ∈ d.pre q, y.2 = x.2
  | .mk op n a l c ks, p, q, x, hx => by
    rw [DT.pre] at hx ⊢
    rcases List.mem_cons.1 hx with e | hx
    · exact ⟨(q, .mk op n a l c ks), by simp, by rw [e]⟩
    · obtain ⟨y, hy, e⟩ := pres_dep ks (p + 1) (q + 1) x hx
      exact ⟨y, List.mem_cons_of_mem _ hy, e⟩
theorem pres_dep : ∀ (ds : List DT) (p q : Nat) (x : Nd), x ∈ pres ds p → ∃ y ∈ pres ds q, y.2 = x.2
  | [], p, _, x, hx => by rw [pres] at hx; cases hx
  | d :: ds, p, q, x, hx => by
    rw [pres] at hx ⊢
    rcases List.mem_append.1 hx with hx | hx
    · obtain ⟨y, hy, e⟩ := pre_dep d p q x hx
      exact ⟨y, List.mem_append_left _ hy, e⟩
    · obtain ⟨y, hy, e⟩ := pres_dep ds p q x hx
      exact ⟨y, List.mem_append_right _ hy, e⟩
end
theorem pres_mem {k : DT} {x : Nd} {p q : Nat} (hx : x ∈ k.pre p) : ∀ {ds : List DT}, k ∈ ds → ∃ y ∈ pres ds q, y.2 = x.2
  | d :: ds, h => by
    rw [pres]
    rcases List.mem_cons.1 h with rfl | h
    · obtain ⟨y, hy, e⟩ := pre_dep k p q x hx
      exact ⟨y, List.mem_append_left _ hy, e⟩
    · obtain ⟨y, hy, e⟩ := pres_mem hx h
      exact ⟨y, List.mem_append_right _ hy, e⟩
theorem pre_kid {d k : DT} {x : Nd} (hk : k ∈ d.kids) (hx : x ∈ k.pre 1) : ∃ y ∈ d.pre 1, y.2 = x.2 := by
  obtain ⟨y, hy, e⟩ := pres_mem (q := 2) hx hk
  exact ⟨y, by rw [pre_eq]; exact List.mem_cons_of_mem _ hy, e⟩
def oneS (n : Int) (T : Tm) : Int → Tm := fun v => if v = n then T else .mk 1 v []
/-- The variables of d lie in a set that is closed and does not hold n: then n does not stand in what d comes to. -/
theorem closed_same {F : Int → Option DT} {θ : Int → Tm} (hg : Good F θ) {n : Int} {S : Nat → Bool} (hS : ∀ u : Nat, S u = true → (u : Int) ≠ n ∧ ∀ b, F (u : Int) = some b → ∀ x ∈ b.pre 1, x.2.op = 1 → S x.2.n.toNat = true) (T : Tm) :
    ∀ (s m : Nat) (d : DT), VR d → (∀ x ∈ d.pre 1, x.2.op = 1 → S x.2.n.toNat = true) → (sb θ d.tm).size ≤ s → (d.op = 1 → d.n.toNat < m) → sb (oneS n T) (sb θ d.tm) = sb θ d.tm := by
  intro s
  induction s with
  | zero => intro m d _ _ h; have := size_pos (sb θ d.tm); omega
  | succ s ihs =>
    have hnode : ∀ d : DT, VR d → (∀ x ∈ d.pre 1, x.2.op = 1 → S x.2.n.toNat = true) → (sb θ d.tm).size ≤ s + 1 → d.op ≠ 1 → sb (oneS n T) (sb θ d.tm) = sb θ d.tm := fun d hd hv hs h1 => by
      rw [sb_node h1, sb, if_neg h1, sbs_map, List.map_map]
      congr 1
      apply List.map_congr_left
      intro k hk
      have hlt := sb_kid (θ := θ) h1 hk
      refine ihs 20 k (hd.kid k hk) (fun x hx hop => ?_) (by omega) (fun e => by have := (hd.kid k hk).open.1 e; omega)
      obtain ⟨y, hy, e⟩ := pre_kid hk hx
      have := hv y hy (by rw [e]; exact hop)
      rw [e] at this
      exact this
    intro m
    induction m with
    | zero =>
      intro d hd hv hs hm
      by_cases h1 : d.op = 1
      · have := hm h1; omega
      · exact hnode d hd hv hs h1
    | succ m ihm =>
      intro d hd hv hs hm
      by_cases h1 : d.op = 1
      · obtain ⟨-, hn0, hn20⟩ := hd.open.1 h1
        have hSu := hv (1, d) (by rw [pre_eq]; simp) h1
        obtain ⟨q1, q2⟩ := hS _ hSu
        have hcast : ((d.n.toNat : Nat) : Int) = d.n := by omega
        rw [hcast] at q1 q2
        rw [sb_var h1] at hs ⊢
        cases hq : F d.n with
        | none => rw [hg.free _ hq, sb, if_pos rfl]; unfold oneS; rw [if_neg q1]
        | some b =>
          rw [hg.sol _ _ hq] at hs ⊢
          by_cases hb : b.op = 1
          · have hc := hg.chain _ _ hq hb
            have hbn := (hg.vr _ _ hq).1.open.1 hb
            exact ihm b (hg.vr _ _ hq).1 (q2 b hq) hs (fun _ => by have := hm h1; omega)
          · exact hnode b (hg.vr _ _ hq).1 (q2 b hq) hs hb
      · exact hnode d hd hv hs h1

end Go.Proofs.YthlegfegkopdkaaGreat

namespace Go.Proofs.YthlegfegkopdkaaGreat
open Go.RowKit Go.Shelf Go.Sort

/-- One binding more: the solution goes on. -/
theorem good_upd {F : Int → Option DT} {θ : Int → Tm} (hg : Good F θ) {n : Int} {d : DT} (hn : F n = none) (hr : 0 ≤ n ∧ n < 20) (hd : VR d) (hc : d.op = 1 → d.n < n) (ho : sb (oneS n (sb θ d.tm)) (sb θ d.tm) = sb θ d.tm) :
    Good (updI F n d) (fun v => sb (oneS n (sb θ d.tm)) (θ v)) := by
  have hn' := hg.free n hn
  refine ⟨fun u b hu => ?_, fun u b hu hb => ?_, ?_, fun u hu => ?_⟩
  · unfold updI at hu
    split at hu
    · rename_i e; cases hu; rw [e]; exact ⟨hd, hr⟩
    · exact hg.vr u b hu
  · unfold updI at hu
    split at hu
    · rename_i e; cases hu; rw [e]; exact hc hb
    · exact hg.chain u b hu hb
  · rw [solves_upd hn]
    refine ⟨fun v b hv => ?_, ?_⟩
    · show sb _ (θ v) = _
      rw [hg.sol v b hv, sb_comp]
    · show sb _ (θ n) = _
      rw [hn', sb, if_pos rfl, ← sb_comp, ho]
      unfold oneS
      rw [if_pos rfl]
  · unfold updI at hu
    split at hu
    · cases hu
    · rename_i e
      show sb _ (θ u) = _
      rw [hg.free u hu, sb, if_pos rfl]
      unfold oneS
      rw [if_neg e]

theorem bind_good {F F' : Int → Option DT} {θ : Int → Tm} (hg : Good F θ) {n : Int} {y : DT} (hn : F n = none) (hr : 0 ≤ n ∧ n < 20) (hy : VR y) (hyf : y.op = 1 → F y.n = none) (h : bindF F n y = some F') :
    (F' = F ∨ unb F' < unb F) ∧ ∃ θ', Good F' θ' := by
  have hdec : ∀ (k : Int) (z : DT), F k = none → 0 ≤ k ∧ k < 20 → unb (updI F k z) < unb F := fun k z hk hk' => by
    obtain ⟨m, rfl⟩ : ∃ m : Nat, k = m := ⟨k.toNat, by omega⟩
    have := unb_upd z (by omega) hk
    omega
  unfold bindF at h
  split at h
  · rename_i h1
    split at h
    · cases h; exact ⟨.inl rfl, θ, hg⟩
    · rename_i hne
      cases h
      obtain ⟨-, y0, y20⟩ := hy.open.1 h1
      have hm : F (max n y.n) = none := by
        rcases Int.le_total n y.n with h | h
        · rw [Int.max_eq_right h]; exact hyf h1
        · rw [Int.max_eq_left h]; exact hn
      have hmin : F (min n y.n) = none := by
        rcases Int.le_total n y.n with h | h
        · rw [Int.min_eq_left h]; exact hn
        · rw [Int.min_eq_right h]; exact hyf h1
      refine ⟨.inr (hdec _ _ hm (by omega)), _, good_upd hg hm (by omega) (vr_vD (by omega)) (fun _ => ?_) ?_⟩
      · show min n y.n < max n y.n
        omega
      · rw [sb_vD, hg.free _ hmin, sb, if_pos rfl]
        unfold oneS
        rw [if_neg (by omega)]
  · rename_i h1
    split at h
    · cases h
    · rename_i hs
      cases h
      refine ⟨.inr (hdec _ _ hn hr), _, good_upd hg hn hr hy (fun e => absurd e h1) ?_⟩
      have hs' : (lookF n F 21 (fun _ => false) y).1 = false := by
        cases e : (lookF n F 21 (fun _ => false) y).1 with
        | false => rfl
        | true => exact absurd e hs
      obtain ⟨g1, g2⟩ := lookF_finds (fun u b hb => (hg.vr u b hb).1) 21 (fun _ => false) y (by have := unm_le (fun _ => false); omega) hy hs'
      exact closed_same hg (S := (lookF n F 21 (fun _ => false) y).2) (fun u hu => g2 u hu rfl) _ _ 0 y hy g1 (Nat.le_refl _) (fun e => absurd e h1)

/-! Steps -/
theorem opF_mono {F : Int → Option DT} : ∀ (N : Nat) (d r : DT), opF F N d = some r → ∀ M, N ≤ M → opF F M d = some r
  | 0, _, _, h, _, _ => by cases h
  | N + 1, d, r, h, M, hM => by
    obtain ⟨M, rfl⟩ : ∃ k, M = k + 1 := ⟨M - 1, by omega⟩
    rw [opF] at h ⊢
    split at h
    · rename_i h1
      rw [if_pos h1]
      cases hq : F d.n with
      | none => rw [hq] at h; exact h
      | some b => rw [hq] at h; exact opF_mono N b r h M (by omega)
    · rename_i h1
      rw [if_neg h1]; exact h
theorem opF_ends {F : Int → Option DT} {θ : Int → Tm} (hg : Good F θ) : ∀ (k : Nat) (d : DT), VR d → (d.op = 1 → d.n.toNat < k) → ∃ r, opF F (k + 1) d = some r ∧ VR r
  | 0, d, hd, hk => by
    by_cases h1 : d.op = 1
    · have := hk h1; omega
    · exact ⟨d, by rw [opF, if_neg h1], hd⟩
  | k + 1, d, hd, hk => by
    by_cases h1 : d.op = 1
    · rw [opF, if_pos h1]
      cases hq : F d.n with
      | none => exact ⟨d, rfl, hd⟩
      | some b =>
        obtain ⟨v1, v2, v3⟩ := hg.vr _ _ hq
        refine opF_ends hg k b v1 (fun hb => ?_)
        have h2 := hg.chain _ _ hq hb
        have h3 := v1.open.1 hb
        have h4 := hk h1
        have h5 := hd.open.1 h1
        omega
    · exact ⟨d, by rw [opF, if_neg h1], hd⟩
theorem opF_any {F : Int → Option DT} {θ : Int → Tm} (hg : Good F θ) (d : DT) (hd : VR d) (N : Nat) (hN : 21 ≤ N) : ∃ r, opF F N d = some r ∧ VR r := by
  obtain ⟨r, h, hr⟩ := opF_ends hg 20 d hd (fun e => by have := hd.open.1 e; omega)
  exact ⟨r, opF_mono _ _ _ h N hN, hr⟩
theorem uniFs_mono {f g : (Int → Option DT) → DT → DT → Option (Option (Int → Option DT))} (hfg : ∀ F a b R, f F a b = some R → g F a b = some R) : ∀ (xs ys : List DT) (F : Int → Option DT) (R : Option (Int → Option DT)), uniFs f F xs ys = some R → uniFs g F xs ys = some R
  | [], [], _, _, h => by simpa only [uniFs] using h
  | [], _ :: _, _, _, h => by simpa only [uniFs] using h
  | _ :: _, [], _, _, h => by simpa only [uniFs] using h
  | x :: xs, y :: ys, F, R, h => by
    rw [uniFs] at h ⊢
    cases hq : f F x y with
    | none => rw [hq] at h; cases h
    | some R1 =>
      rw [hq] at h
      rw [hfg _ _ _ _ hq]
      cases R1 with
      | none => exact h
      | some F1 => exact uniFs_mono hfg xs ys F1 R h
theorem uniF_mono : ∀ (N : Nat) (F : Int → Option DT) (a b : DT) (R : Option (Int → Option DT)), uniF N F a b = some R → ∀ M, N ≤ M → uniF M F a b = some R
  | 0, _, _, _, _, h, _, _ => by cases h
  | N + 1, F, a, b, R, h, M, hM => by
    obtain ⟨M, rfl⟩ : ∃ k, M = k + 1 := ⟨M - 1, by omega⟩
    rw [uniF] at h ⊢
    cases hy : opF F N b with
    | none => rw [hy] at h; cases h
    | some y =>
      cases hx : opF F N a with
      | none => rw [hy, hx] at h; cases h
      | some x =>
        rw [hy, hx] at h
        rw [opF_mono N b y hy M (by omega), opF_mono N a x hx M (by omega)]
        simp only at h ⊢
        split at h
        · rename_i h1; rw [if_pos h1]; exact h
        · rename_i h1
          rw [if_neg h1]
          split at h
          · rename_i h2; rw [if_pos h2]; exact h
          · rename_i h2
            rw [if_neg h2]
            split at h
            · rename_i h3
              rw [if_pos h3]
              exact uniFs_mono (fun F a b R h => uniF_mono N F a b R h M (by omega)) _ _ _ _ h
            · rename_i h3
              rw [if_neg h3]; exact h
/-- What a call leaves. -/
theorem uni_good : ∀ (N : Nat) (F F' : Int → Option DT) (a b : DT) (θ : Int → Tm), Good F θ → VR a → VR b → uniF N F a b = some (some F') → (F' = F ∨ unb F' < unb F) ∧ ∃ θ', Good F' θ'
  | 0, _, _, _, _, _, _, _, _, h => by cases h
  | N + 1, F, F', a, b, θ, hg, ha, hb, h => by
    have hop : ∀ (M : Nat) (d r : DT), VR d → opF F M d = some r → VR r := fun M => by
      induction M with
      | zero => intro d r _ h; cases h
      | succ M ih =>
        intro d r hd h
        rw [opF] at h
        split at h
        · cases hq : F d.n with
          | none => rw [hq] at h; cases h; exact hd
          | some c => rw [hq] at h; exact ih c r (hg.vr _ _ hq).1 h
        · cases h; exact hd
    rw [uniF] at h
    cases hy : opF F N b with
    | none => rw [hy] at h; cases h
    | some y =>
      cases hx : opF F N a with
      | none => rw [hy, hx] at h; cases h
      | some x =>
        rw [hy, hx] at h
        simp only at h
        have vx := hop N a x ha hx
        have vy := hop N b y hb hy
        split at h
        · rename_i h1
          simp only [Option.some.injEq] at h
          exact bind_good hg (opF_free N a x hx h1) (vx.open.1 h1).2 vy (opF_free N b y hy) h
        · split at h
          · rename_i h2
            simp only [Option.some.injEq] at h
            exact bind_good hg (opF_free N b y hy h2) (vy.open.1 h2).2 vx (opF_free N a x hx) h
          · split at h
            · exact unis_good N x.kids y.kids F F' θ hg vx.kid vy.kid h
            · cases h
where
  unis_good (N : Nat) : ∀ (xs ys : List DT) (F F' : Int → Option DT) (θ : Int → Tm), Good F θ → (∀ x ∈ xs, VR x) → (∀ y ∈ ys, VR y) → uniFs (uniF N) F xs ys = some (some F') → (F' = F ∨ unb F' < unb F) ∧ ∃ θ', Good F' θ'
  | [], [], F, F', θ, hg, _, _, h => by simp only [uniFs, Option.some.injEq] at h; rw [← h]; exact ⟨.inl rfl, θ, hg⟩
  | [], _ :: _, F, F', θ, hg, _, _, h => by simp only [uniFs, Option.some.injEq] at h; rw [← h]; exact ⟨.inl rfl, θ, hg⟩
  | _ :: _, [], F, F', θ, hg, _, _, h => by simp only [uniFs, Option.some.injEq] at h; rw [← h]; exact ⟨.inl rfl, θ, hg⟩
  | x :: xs, y :: ys, F, F', θ, hg, hx, hy, h => by
    rw [uniFs] at h
    cases hq : uniF N F x y with
    | none => rw [hq] at h; cases h
    | some R1 =>
      rw [hq] at h
      cases R1 with
      | none => simp only [Option.some.injEq] at h; cases h
      | some F1 =>
        simp only at h
        obtain ⟨d1, θ1, g1⟩ := uni_good N F F1 x y θ hg (hx x (by simp)) (hy y (by simp)) hq
        obtain ⟨d2, g2⟩ := unis_good N xs ys F1 F' θ1 g1 (fun z hz => hx z (by simp [hz])) (fun z hz => hy z (by simp [hz])) h
        refine ⟨?_, g2⟩
        rcases d1 with rfl | d1
        · exact d2
        · rcases d2 with rfl | d2
          · exact .inr d1
          · exact .inr (by omega)

/-! Unifying ends -/
theorem uni_ends : ∀ (m s : Nat) (F : Int → Option DT) (θ : Int → Tm) (a b : DT), Good F θ → VR a → VR b → unb F ≤ m → (sb θ a.tm).size ≤ s → ∃ N R, uniF N F a b = some R := by
  intro m
  induction m with
  | zero =>
    intro s
    induction s with
    | zero => intro F θ a b _ _ _ _ h; have := size_pos (sb θ a.tm); omega
    | succ s ih =>
      intro F θ a b hg ha hb hm hs
      exact uni_step hg ha hb hs (fun F1 θ1 a1 b1 g1 v1 v2 he hs1 => ih F1 θ1 a1 b1 g1 v1 v2 (by rw [he]; exact hm) hs1) (fun F1 θ1 a1 b1 _ _ _ hlt => by omega)
  | succ m ihm =>
    intro s
    induction s with
    | zero => intro F θ a b _ _ _ _ h; have := size_pos (sb θ a.tm); omega
    | succ s ih =>
      intro F θ a b hg ha hb hm hs
      exact uni_step hg ha hb hs (fun F1 θ1 a1 b1 g1 v1 v2 he hs1 => ih F1 θ1 a1 b1 g1 v1 v2 (by rw [he]; exact hm) hs1) (fun F1 θ1 a1 b1 g1 v1 v2 hlt => ihm _ F1 θ1 a1 b1 g1 v1 v2 (by omega) (Nat.le_refl _))
where
  uni_step {F : Int → Option DT} {θ : Int → Tm} {a b : DT} {s : Nat} (hg : Good F θ) (ha : VR a) (hb : VR b) (hs : (sb θ a.tm).size ≤ s + 1)
      (ih : ∀ (F1 : Int → Option DT) (θ1 : Int → Tm) (a1 b1 : DT), Good F1 θ1 → VR a1 → VR b1 → F1 = F → (sb θ1 a1.tm).size ≤ s → ∃ N R, uniF N F1 a1 b1 = some R)
      (ih2 : ∀ (F1 : Int → Option DT) (θ1 : Int → Tm) (a1 b1 : DT), Good F1 θ1 → VR a1 → VR b1 → unb F1 < unb F → ∃ N R, uniF N F1 a1 b1 = some R) : ∃ N R, uniF N F a b = some R := by
    obtain ⟨x, hx, vx⟩ := opF_any hg a ha 21 (Nat.le_refl _)
    obtain ⟨y, hy, vy⟩ := opF_any hg b hb 21 (Nat.le_refl _)
    have hfin : ∀ K, 21 ≤ K → ∀ R, uniFs (uniF K) F x.kids y.kids = some R → ∃ N R, uniF N F a b = some R := fun K hK R hR => by
      by_cases h1 : x.op = 1
      · exact ⟨22, _, by rw [uniF, hx, hy]; simp only; rw [if_pos h1]⟩
      · by_cases h2 : y.op = 1
        · exact ⟨22, _, by rw [uniF, hx, hy]; simp only; rw [if_neg h1, if_pos h2]⟩
        · by_cases h3 : x.op = y.op ∧ x.n = y.n ∧ x.kids.length = y.kids.length
          · exact ⟨K + 1, R, by rw [uniF, opF_mono 21 a x hx K hK, opF_mono 21 b y hy K hK]; simp only; rw [if_neg h1, if_neg h2, if_pos h3]; exact hR⟩
          · exact ⟨22, _, by rw [uniF, hx, hy]; simp only; rw [if_neg h1, if_neg h2, if_neg h3]⟩
    by_cases h1 : x.op = 1
    · exact ⟨22, _, by rw [uniF, hx, hy]; simp only; rw [if_pos h1]⟩
    have hsx : (sb θ x.tm).size ≤ s + 1 := by rw [← opF_solves hg.sol 21 a x hx]; exact hs
    have hkids : ∀ (xs ys : List DT) (F1 : Int → Option DT) (θ1 : Int → Tm), Good F1 θ1 → (F1 = F ∨ unb F1 < unb F) → (∀ k ∈ xs, k ∈ x.kids) → (∀ k ∈ ys, k ∈ y.kids) → ∃ K R, 21 ≤ K ∧ uniFs (uniF K) F1 xs ys = some R := by
      intro xs
      induction xs with
      | nil => intro ys F1 _ _ _ _ _; exact ⟨21, some F1, Nat.le_refl _, by cases ys <;> simp only [uniFs]⟩
      | cons k xs ihx =>
        intro ys F1 θ1 g1 hF hxs hys
        cases ys with
        | nil => exact ⟨21, some F1, Nat.le_refl _, by simp only [uniFs]⟩
        | cons l ys =>
          have vk := vx.kid k (hxs k (by simp))
          have vl := vy.kid l (hys l (by simp))
          obtain ⟨N1, R1, h1'⟩ : ∃ N R, uniF N F1 k l = some R := by
            rcases hF with e | e
            · subst e
              have hlt := sb_kid (θ := θ) h1 (hxs k (by simp))
              exact ih F1 θ k l hg vk vl rfl (by omega)
            · exact ih2 F1 θ1 k l g1 vk vl e
          cases R1 with
          | none => exact ⟨max N1 21, none, by omega, by rw [uniFs, uniF_mono N1 _ _ _ _ h1' _ (by omega)]⟩
          | some F2 =>
            obtain ⟨d2, θ2, g2⟩ := uni_good N1 F1 F2 k l θ1 g1 vk vl h1'
            have hF2 : F2 = F ∨ unb F2 < unb F := by
              rcases d2 with rfl | d2
              · exact hF
              · rcases hF with rfl | hF
                · exact .inr d2
                · exact .inr (by omega)
            obtain ⟨K, R, hK, hR⟩ := ihx ys F2 θ2 g2 hF2 (fun z hz => hxs z (by simp [hz])) (fun z hz => hys z (by simp [hz]))
            refine ⟨max N1 K, R, by omega, ?_⟩
            rw [uniFs, uniF_mono N1 _ _ _ _ h1' _ (by omega)]
            exact uniFs_mono (fun F a b R h => uniF_mono K F a b R h _ (by omega)) _ _ _ _ hR
    obtain ⟨K, R, hK, hR⟩ := hkids x.kids y.kids F θ hg (.inl rfl) (fun _ h => h) (fun _ h => h)
    exact hfin K hK R hR

end Go.Proofs.YthlegfegkopdkaaGreat

namespace Go.Proofs.YthlegfegkopdkaaGreat
open Go.RowKit Go.Shelf Go.Sort

theorem opF_vr {F : Int → Option DT} {θ : Int → Tm} (hg : Good F θ) (N : Nat) (d r : DT) (h : opF F N d = some r) (hd : VR d) : VR r :=
  opF_good (P := VR) (fun i x hx => (hg.vr i x hx).1) N d r h hd

theorem growK_sb {f : Nat → DT → Option (Tm × Nat)} {θ : Int → Tm} : ∀ {l : List DT} {c c' : Nat} {ts : List Tm}, (∀ c d T c', d ∈ l → f c d = some (T, c') → T = sb θ d.tm) → growK f c l = some (ts, c') → ts = l.map fun k => sb θ k.tm
  | [], c, c', ts, _, h => by simp [growK] at h; simp [h.1]
  | x :: xs, c, c', ts, hf, h => by
    rw [growK] at h
    cases h1 : f c x with
    | none => rw [h1] at h; cases h
    | some q =>
      obtain ⟨t, c1⟩ := q
      rw [h1] at h
      simp only at h
      cases h2 : growK f c1 xs with
      | none => rw [h2] at h; cases h
      | some q =>
        obtain ⟨us, c2⟩ := q
        rw [h2] at h
        simp only [Option.some.injEq, Prod.mk.injEq] at h
        rw [← h.1, hf c x t c1 (by simp) h1, growK_sb (fun c d T c' hd => hf c d T c' (by simp [hd])) h2]
        rfl

/-- What 'full' makes of a value is the value with the solution put in. -/
theorem growF_sb {F : Int → Option DT} {θ : Int → Tm} (hg : Good F θ) : ∀ (N dep c : Nat) (d : DT) (T : Tm) (c' : Nat), VR d → growF F N dep c d = some (T, c') → T = sb θ d.tm
  | 0, _, _, _, _, _, _, h => by cases h
  | N + 1, dep, c, d, T, c', hd, h => by
    rw [growF] at h
    split at h
    · cases h
    · cases hr : opF F N d with
      | none => rw [hr] at h; cases h
      | some r =>
        rw [hr] at h
        simp only at h
        have hv := opF_vr hg N d r hr hd
        cases hk : growK (growF F N (dep + 1)) (c + 1) r.kids with
        | none => rw [hk] at h; cases h
        | some q =>
          obtain ⟨ts, c2⟩ := q
          rw [hk] at h
          simp only [Option.some.injEq, Prod.mk.injEq] at h
          have hts := growK_sb (θ := θ) (fun c d T c' hd' he => growF_sb hg N (dep + 1) c d T c' (hv.kid d hd') he) hk
          rw [opF_solves hg.sol N d r hr, ← h.1]
          by_cases h1 : r.op = 1
          · have hkn := (hv.open.1 h1).1
            rw [sb_var h1, hg.free _ (opF_free N d r hr h1), hts, hkn, h1]
            rfl
          · rw [sb_node h1, hts]
theorem listG_sb {F : Int → Option DT} {θ : Int → Tm} (hg : Good F θ) {G : Nat → Tm} {N : Nat} (h : ∀ v : Nat, v < 20 → F v ≠ none → ∃ c, growF F N 1 0 (vD v) = some (G v, c)) : ∀ v : Nat, v < 20 → F v ≠ none → G v = θ v := fun v hv hn => by
  obtain ⟨c, hc⟩ := h v hv hn
  rw [growF_sb hg N 1 0 _ _ _ (vr_vD (by omega)) hc, sb_vD]

/-- Every solution is a special case: what is put in first changes nothing. -/
theorem most_general {F : Int → Option DT} {θ σ : Int → Tm} (hg : Good F θ) (hs : Solves σ F) : ∀ (s : Nat) (t : Tm), (sb θ t).size ≤ s → sb σ (sb θ t) = sb σ t := by
  intro s
  induction s with
  | zero => intro t h; have := size_pos (sb θ t); omega
  | succ s ih =>
    have node : ∀ t : Tm, t.op ≠ 1 → (sb θ t).size ≤ s + 1 → sb σ (sb θ t) = sb σ t := by
      intro t h1 h
      rw [sb_eq θ t, if_neg h1] at h ⊢
      rw [sb_eq σ t, if_neg h1, sb, if_neg h1]
      congr 1
      rw [sbs_map, sbs_map, sbs_map, List.map_map]
      refine List.map_congr_left fun k hk => ?_
      refine ih k ?_
      have := sizes_mem (List.mem_map.2 ⟨k, hk, rfl⟩ : sb θ k ∈ t.kids.map (sb θ))
      rw [← sbs_map] at this
      rw [Tm.size] at h
      omega
    have var : ∀ (m : Nat) (v : Int), v.toNat ≤ m → (θ v).size ≤ s + 1 → sb σ (θ v) = σ v := by
      intro m
      induction m with
      | zero =>
        intro v hv h
        cases hF : F v with
        | none => rw [hg.free v hF, sb, if_pos rfl]
        | some b =>
          have hb := hg.sol v b hF
          by_cases h1 : b.op = 1
          · have := hg.chain v b hF h1
            have := ((hg.vr v b hF).1.open.1 h1).2
            omega
          · rw [hb] at h ⊢
            rw [node b.tm (by rw [DT.tm_op]; exact h1) h, ← hs v b hF]
      | succ m ihm =>
        intro v hv h
        cases hF : F v with
        | none => rw [hg.free v hF, sb, if_pos rfl]
        | some b =>
          have hb := hg.sol v b hF
          by_cases h1 : b.op = 1
          · have := hg.chain v b hF h1
            have := ((hg.vr v b hF).1.open.1 h1).2
            rw [hb, sb_var h1] at h ⊢
            rw [ihm b.n (by omega) h, hs v b hF, sb_var h1]
          · rw [hb] at h ⊢
            rw [node b.tm (by rw [DT.tm_op]; exact h1) h, ← hs v b hF]
    intro t h
    by_cases h1 : t.op = 1
    · rw [sb_eq θ t, if_pos h1] at h ⊢
      rw [var _ t.n (Nat.le_refl _) h, sb_eq σ t, if_pos h1]
    · exact node t h1 h
theorem special {F : Int → Option DT} {θ σ : Int → Tm} (hg : Good F θ) (hs : Solves σ F) (t : Tm) : sb σ (sb θ t) = sb σ t := most_general hg hs _ t (Nat.le_refl _)
/-- A variable that is bound stands in nothing that the solution was put into. -/
theorem uni_meets {N : Nat} {F : Int → Option DT} {a b : DT} (h : uniF N noB a b = some (some F)) (ha : VR a) (hb : VR b) : (∀ σ : Int → Tm, sb σ a.tm = sb σ b.tm ↔ Solves σ F) ∧ ∃ θ, Good F θ ∧ sb θ a.tm = sb θ b.tm := by
  have h1 : ∀ σ : Int → Tm, sb σ a.tm = sb σ b.tm ↔ Solves σ F := fun σ => by
    have := (uni_res (θ := σ) N noB a b _ h (fun _ _ h => by cases h) ha.val hb.val).1
    simp only [Res] at this
    exact ⟨fun e => this.2 ⟨solves_none σ, e⟩, fun e => (this.1 e).2⟩
  obtain ⟨-, θ, hθ⟩ := uni_good N noB F a b _ good_none ha hb h
  exact ⟨h1, θ, hθ, (h1 θ).2 hθ.sol⟩
theorem uni_never {N : Nat} {a b : DT} (h : uniF N noB a b = some none) (ha : VR a) (hb : VR b) (σ : Int → Tm) : sb σ a.tm ≠ sb σ b.tm := fun e => by
  have := (uni_res (θ := σ) N noB a b _ h (fun _ _ h => by cases h) ha.val hb.val).1
  exact this ⟨solves_none σ, e⟩

end Go.Proofs.YthlegfegkopdkaaGreat
