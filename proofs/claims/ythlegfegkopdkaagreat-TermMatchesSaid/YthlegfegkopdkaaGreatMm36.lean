/- Own text, joined of: N5 Z8 Mt1 Mt2. 'Subst' where 'put' gives up. · What 'Subst', 'Match' and 'Unify' answer of values and formed lists: the facts of the law's calls. · The reference's 'find'; rows of kids whose terms may share memory with what stood before; 'Subst' of values. · The reference's 'Subst', of values. -/
import Derived.Test.YthlegfegkopdkaaGreatMm26
import Derived.Test.YthlegfegkopdkaaGreatMm35

namespace Go.Proofs.YthlegfegkopdkaaGreat
open Go.RowKit Go.Shelf Go.Sort

end Go.Proofs.YthlegfegkopdkaaGreat

namespace Go.Proofs.YthlegfegkopdkaaGreat
open Go.RowKit Go.Shelf Go.Sort

mutual
/-- A value, laid nowhere. -/
def toD : Tm → DT | .mk op n ks => .mk op n none 0 0 (toDs ks)
def toDs : List Tm → List DT | [] => [] | t :: ts => toD t :: toDs ts
end

/-- What a list of bindings puts in for a variable. -/
def subL (L : List (Int × Tm)) (v : Int) : Tm := match L.find? (fun x => decide (x.1 = v)) with | some x => x.2 | none => .mk 1 v []
theorem subL_mem {L : List (Int × Tm)} {v : Int} : (∃ x ∈ L, x.1 = v ∧ subL L v = x.2) ∨ ((∀ x ∈ L, x.1 ≠ v) ∧ subL L v = .mk 1 v []) := by
  unfold subL
  cases h : L.find? (fun x => decide (x.1 = v)) with
  | some x => exact .inl ⟨x, List.mem_of_find?_eq_some h, by have := List.find?_some h; simpa using this, rfl⟩
  | none => exact .inr ⟨fun x hx e => by have := List.find?_eq_none.1 h x hx; simp [e] at this, rfl⟩
theorem subL_eq {s : Sg} {bs : List PB} {b : Int} (h : lfB s b (pbs bs) = true) : subF (bindK bs bs.length) = subL (pbs bs) := by
  funext v
  rcases subL_mem (L := pbs bs) (v := v) with ⟨x, hx, e, h2⟩ | ⟨h1, h2⟩
  · rw [h2]
    exact subF_some h (by rw [← e]; exact hx)
  · rw [h2]
    exact subF_none h1
/-- What 'Subst' answers of a value. -/
noncomputable def subV (s : Sg) (L : List (Int × Tm)) (t : Tm) : Tm × Int := if formedB s (sb (subL L) t) = true then (sb (subL L) t, 0) else (.mk 0 0 [], 3)
/-- 'Match' of values: none, or a formed list that puts the second for the first. -/
theorem match_ans (s : Sg) (d x : DT) (hv : checkV s [d, x] = true) : ((matchA s d x).2 = 5) ∨ ((matchA s d x).2 = 0 ∧ lfB s (-1) (matchA s d x).1 = true ∧ subV s (matchA s d x).1 d.tm = (x.tm, 0)) := by
  have hc : checkB s [d, x] = true := by unfold checkV at hv; rw [Bool.and_eq_true] at hv; exact hv.1
  have hO := OkV.checked hc (by simp : d ∈ [d, x])
  have hx : formedB s x.tm = true := by unfold checkB at hc; simp at hc; exact hc.2.2
  unfold matchA
  rw [if_pos hv]
  by_cases hm : (matchD noB d x).1 = true
  · rw [if_pos hm]
    obtain ⟨h1, h2⟩ := match_total s d x hO hx hm
    refine .inr ⟨rfl, h1, ?_⟩
    obtain ⟨bs, hbs⟩ : ∃ bs : List PB, pbs bs = listB (matchD noB d x).2 20 := by
      refine ⟨(List.range 20).filterMap fun v : Nat => ((matchD noB d x).2 v).map fun d => ⟨(v : Int), d⟩, ?_⟩
      unfold pbs listB
      rw [List.map_filterMap]
      congr 1
      funext v
      cases (matchD noB d x).2 (v : Int) <;> rfl
    have h3 := h2 bs hbs
    rw [← hbs] at h1 ⊢
    rw [subL_eq h1] at h3
    unfold subV
    simp only
    rw [h3, if_pos hx]
  · rw [if_neg hm]; exact .inl rfl

end Go.Proofs.YthlegfegkopdkaaGreat

namespace Go.Proofs.YthlegfegkopdkaaGreat
open Go.RowKit Go.Shelf Go.Sort

mutual
theorem IsTm.tmp {n₀ : Nat} {w : World} : ∀ (t : Tm) {a : Option Addr} {l c : Nat}, IsTm n₀ w t a l c → TmP (fun b => b < n₀) w t a l c
  | .mk _ _ ks, a, l, c, h => by
    simp only [IsTm] at h
    simp only [TmP]
    obtain ⟨h1, h2, h3, h4⟩ := h
    refine ⟨h1, h2, h3, ?_⟩
    rcases h4 with h4 | ⟨b, off, ha, hb, hk⟩
    · exact .inl h4
    · exact .inr ⟨b, off, ha, hb, IsKids.tmp ks hk⟩
theorem IsKids.tmp {n₀ : Nat} {w : World} : ∀ (ks : List Tm) {b off : Nat}, IsKids n₀ w ks b off → KidsP (fun b => b < n₀) w ks b off
  | [], _, _, _ => by simp [KidsP]
  | t :: ts, b, off, h => by
    simp only [IsKids] at h
    simp only [KidsP]
    obtain ⟨⟨a, l, c, h3, ht⟩, hr⟩ := h
    exact ⟨⟨a, l, c, h3, IsTm.tmp t ht⟩, IsKids.tmp ts hr⟩
end

/-- Where a list binds a variable. -/
def fnd (L : List (Int × Tm)) (n : Int) : Nat := L.findIdx (fun x => x.1 == n)
theorem fnd_le (L : List (Int × Tm)) (n : Int) : fnd L n ≤ L.length := List.findIdx_le_length
theorem fnd_ne {L : List (Int × Tm)} {n : Int} {k : Nat} (h : k < fnd L n) (hl : k < L.length) : L[k].1 ≠ n := by
  have := List.not_of_lt_findIdx h
  simpa using this
theorem fnd_at {L : List (Int × Tm)} {n : Int} (h : fnd L n < L.length) : L[fnd L n].1 = n := by
  have h2 : (L[fnd L n].1 == n) = true := List.findIdx_getElem (p := fun x : Int × Tm => x.1 == n) (w := h)
  exact eq_of_beq h2
theorem subL_fnd (L : List (Int × Tm)) (n : Int) : (∃ h : fnd L n < L.length, subL L n = L[fnd L n].2) ∨ (fnd L n = L.length ∧ subL L n = .mk 1 n []) := by
  unfold subL
  by_cases h : fnd L n < L.length
  · refine .inl ⟨h, ?_⟩
    have e : L.find? (fun x => decide (x.1 = n)) = some L[fnd L n] := by
      rw [List.find?_eq_some_iff_getElem]
      refine ⟨by simpa using fnd_at h, fnd L n, h, rfl, fun j hj => ?_⟩
      have := fnd_ne hj (by omega)
      simpa using this
    rw [e]
  · have hl : fnd L n = L.length := by have := fnd_le L n; omega
    refine .inr ⟨hl, ?_⟩
    have e : L.find? (fun x => decide (x.1 = n)) = none := by
      rw [List.find?_eq_none]
      intro x hx
      obtain ⟨k, hk, rfl⟩ := List.getElem_of_mem hx
      have := fnd_ne (n := n) (k := k) (by omega) hk
      simpa using this
    rw [e]

set_option maxRecDepth 100000 in
set_option maxHeartbeats 1000000 in
theorem rfind_any (L : List (Int × Tm)) (n : Int) (n₀ : Nat) (w : World) (a : Option Addr) (l c : Nat) (hL : IsBinds n₀ w L a l c) :
    Calls Tryz.prog 66 #[.slice a l c, .int .i64 n] w fun e w' => e = .returned (.int .i64 (if fnd L n < L.length then (fnd L n : Nat) else (-1 : Int))) ∧ w = w' := by
  obtain ⟨rfl, h1, h2, hk⟩ := hL
  have hfl := fnd_le L n
  obtain ⟨q, hq⟩ : ∃ q, q = fnd L n := ⟨_, rfl⟩
  have hne : Hid (∀ k, k < q → ∀ (hl : k < L.length), L[k].1 ≠ n) := Lib.hid (fun k h hl => fnd_ne (n := n) (by rw [← hq]; exact h) hl)
  have hat : Hid (∀ (h : q < L.length), L[q].1 = n) := Lib.hid (fun h => by subst hq; exact fnd_at h)
  rw [← hq] at hfl ⊢
  clear hq
  go_enter Tryz.func66, Tryz.ntmps66
  go_wp2_with fail
  go_loopw [5] (fun i wi => ∃ k : Nat, k ≤ q ∧ i = .int .i64 (k : Nat) ∧ wi = w) (fun i _ => L.length - (intOf i).toNat)
  case atStart => exact ⟨0, by omega, rfl, rfl⟩
  case round =>
    obtain ⟨k, hkq, rfl, rfl⟩ := hrel
    by_cases hlt : k < L.length
    · have o1 : (k : Int) < (L.length : Int) := by omega
      rcases hk with hk | ⟨b, off, rfl, hb, hk⟩
      · rw [hk] at hlt; simp at hlt
      obtain ⟨c0, -⟩ := hk k hlt
      by_cases hf : k < q
      · have h3 := hne.out k hf hlt
        have o2 : (L[k].1 == n) = false := by simpa using h3
        obtain ⟨y, hy⟩ : ∃ y, y = L[k].1 := ⟨_, rfl⟩
        rw [← hy] at c0 o2
        clear h3 hy hk hne hat
        go_wp2_with fail
        go_roundw
        case rel => exact ⟨k + 1, by omega, by go_num, by trivial⟩
        case measure => simp [intOf]; omega
      · obtain rfl : k = q := by omega
        have h3 := hat.out hlt
        have o2 : (L[k].1 == n) = true := by simpa using h3
        obtain ⟨y, hy⟩ : ∃ y, y = L[k].1 := ⟨_, rfl⟩
        rw [← hy] at c0 o2
        clear h3 hy hk hne hat
        go_wp2_with fail
        go_ret
        exact ⟨by first | rfl | (rw [if_pos hlt]; rfl) | rw [if_pos hlt], rfl⟩
    · have o1 : ¬ (k : Int) < (L.length : Int) := by omega
      have o2 : ¬ q < L.length := by omega
      clear hk hne hat
      go_wp2_with fail
      go_ret
      exact ⟨by first | rfl | (rw [if_neg o2]; rfl), rfl⟩

/-! Values: no lets; variables have no kids -/
mutual
def vtB : Tm → Bool
  | .mk op n ks => (op != 8) && (op != 1 || (ks.isEmpty && decide (0 ≤ n) && decide (n < 20))) && decide (ks.length ≤ 1000) && vtBs ks
def vtBs : List Tm → Bool
  | [] => true
  | t :: ts => vtB t && vtBs ts
end
theorem vtBs_iff {ks : List Tm} : vtBs ks = true ↔ ∀ t ∈ ks, vtB t = true := by
  induction ks with
  | nil => simp [vtBs]
  | cons t ts ih => simp [vtBs, ih]
theorem vt_open {t : Tm} (h : vtB t = true) : t.op ≠ 8 ∧ (t.op = 1 → t.kids = [] ∧ 0 ≤ t.n ∧ t.n < 20) ∧ t.kids.length ≤ 1000 ∧ ∀ k ∈ t.kids, vtB k = true := by
  cases t with
  | mk op n ks =>
    simp only [vtB, Bool.and_eq_true, Bool.or_eq_true, bne_iff_ne, decide_eq_true_eq, List.isEmpty_iff, vtBs_iff] at h
    obtain ⟨⟨⟨h1, h2⟩, h3⟩, h4⟩ := h
    refine ⟨h1, fun e => ?_, h3, h4⟩
    rcases h2 with h2 | ⟨⟨h2, h5⟩, h6⟩
    · exact absurd e h2
    · exact ⟨h2, h5, h6⟩
theorem vt_mk {op n : Int} {ks : List Tm} (h1 : op ≠ 8) (h2 : op = 1 → ks = [] ∧ 0 ≤ n ∧ n < 20) (h3 : ks.length ≤ 1000) (h4 : ∀ k ∈ ks, vtB k = true) : vtB (.mk op n ks) = true := by
  simp only [vtB, Bool.and_eq_true, Bool.or_eq_true, bne_iff_ne, decide_eq_true_eq, List.isEmpty_iff, vtBs_iff]
  refine ⟨⟨⟨h1, ?_⟩, h3⟩, h4⟩
  by_cases e : op = 1
  · exact .inr ⟨⟨(h2 e).1, (h2 e).2.1⟩, (h2 e).2.2⟩
  · exact .inl e
theorem tm_eta (t : Tm) : t = .mk t.op t.n t.kids := by cases t; rfl

/-- A term whose memory stood below n₀, or was made from the world w on. -/
def Mix (n₀ : Nat) (w w' : World) (t : Tm) (a : Option Addr) (l c : Nat) : Prop := TmP (fun b => b < n₀ ∨ w.heap.size ≤ b) w' t a l c
theorem TmP.lt {P : Nat → Prop} {w : World} {t : Tm} {a : Option Addr} {l c : Nat} (h : TmP P w t a l c) : TmP (fun b => P b ∧ b < w.heap.size) w t a l c :=
  TmP.move (fun _ hb hlt => ⟨⟨hb, hlt⟩, rfl⟩) _ h
theorem Mix.is {n₀ : Nat} {w w' : World} {t : Tm} {a : Option Addr} {l c : Nat} (h : Mix n₀ w w' t a l c) : IsTm w'.heap.size w' t a l c := TmP.is (fun _ hb => hb.2) _ h.lt

/-- The row of kids that a loop has made. -/
def KRow (n₀ base : Nat) (w : World) (ts : List Tm) (va : Option Addr) (vl vc : Nat) : Prop :=
  ∃ K : List Kd, K.map (·.t) = ts ∧ w.ownsRow base 28 3 (.slice va vl vc) ts.length (flat K) ∧ ∀ x ∈ K, TmP (fun b => (b < n₀ ∨ base ≤ b) ∧ (Value.slice va vl vc).ownBlock ≠ some b) w x.t x.a x.l x.c
theorem KRow.nil (n₀ base : Nat) (w : World) : KRow n₀ base w [] none 0 0 := ⟨[], rfl, World.ownsRow_nil _ _ _ _, by simp⟩
theorem KRow.step {n₀ base : Nat} {wr W1 w2 : World} {ts : List Tm} {va : Option Addr} {vl vc g cap : Nat} {t : Tm} {a' : Option Addr} {l' c' : Nat} {K : List Kd}
    (h1 : K.map (·.t) = ts) (h2 : wr.ownsRow base 28 3 (.slice va vl vc) ts.length (flat K)) (h3 : ∀ x ∈ K, TmP (fun b => (b < n₀ ∨ base ≤ b) ∧ (Value.slice va vl vc).ownBlock ≠ some b) wr x.t x.a x.l x.c)
    (hA : ∀ j, j < wr.heap.size → W1.heap[j]? = wr.heap[j]?) (hz : wr.heap.size ≤ W1.heap.size) (hn : n₀ ≤ base) (hb : base ≤ wr.heap.size)
    (hk : TmP (fun b => (b < n₀ ∨ wr.heap.size ≤ b) ∧ b < W1.heap.size) W1 t a' l' c')
    (hgrow : W1.grownBy w2 (Value.slice va vl vc).ownBlock)
    (hown : w2.ownsRow base 28 3 (.slice (some ⟨g, 0, none⟩) (ts.length + 1) cap) (ts.length + 1) (flat K ++ [.int .i64 t.op, .int .i64 t.n, .slice a' l' c']))
    (hat : (Value.slice va vl vc).ownBlock = some g ∨ g = W1.heap.size) :
    KRow n₀ base w2 (ts ++ [t]) (some ⟨g, 0, none⟩) (ts.length + 1) cap := by
  have hnb : ∀ j, (Value.slice va vl vc).ownBlock = some j → base ≤ j ∧ j < wr.heap.size := fun j h => own_base h2 h
  have hne : ∀ j, j < W1.heap.size → (Value.slice va vl vc).ownBlock ≠ some j → (Value.slice (some ⟨g, 0, none⟩) (ts.length + 1) cap).ownBlock ≠ some j := fun j hj hn e => by
    have : g = j := by simpa [Value.ownBlock] using e
    subst this
    rcases hat with h | h
    · exact hn h
    · omega
  refine ⟨K ++ [⟨t, a', l', c'⟩], by simp [h1], ?_, ?_⟩
  · rw [flat_snoc, List.length_append]
    exact hown
  · intro x hx
    rcases List.mem_append.1 hx with hx | hx
    · exact TmP.move (fun b hb' hlt => ⟨⟨hb'.1, hne b (by omega) hb'.2⟩, (hgrow.block b (by omega) (fun e => hb'.2 e.symm)).trans (hA b hlt)⟩) _ (h3 x hx)
    · obtain rfl := List.mem_singleton.1 hx
      refine TmP.move (fun b hb' hlt => ?_) _ hk
      have hnb' : (Value.slice va vl vc).ownBlock ≠ some b := fun e => by have h9 := hnb b e; rcases hb'.1 with h | h <;> omega
      exact ⟨⟨hb'.1.elim .inl (fun h => .inr (by omega)), hne b hb'.2 hnb'⟩, hgrow.block b hlt (fun e => hnb' e.symm)⟩
theorem KRow.made {n₀ base : Nat} {w wr W : World} {ts : List Tm} {va : Option Addr} {vl vc : Nat} (h : KRow n₀ base wr ts va vl vc) (op n : Int) (hb : w.heap.size ≤ base) (_hn : n₀ ≤ base) (hW : ∀ j, j < n₀ ∨ base ≤ j → j < wr.heap.size → W.heap[j]? = wr.heap[j]?) :
    Mix n₀ w W (.mk op n ts) va vl vc := by
  obtain ⟨K, h1, h2, h3⟩ := h
  simp only [Mix, TmP]
  rcases h2.2 with ⟨hv, h0⟩ | ⟨g, cap, cur, hv, hg, hcur, hn', hcap, hs, ht⟩
  · cases hv
    exact ⟨h0.symm, by omega, by omega, .inl (List.length_eq_zero_iff.1 h0)⟩
  · cases hv
    obtain ⟨hc, h1', h2', h3', h4⟩ := own_cells h2
    refine ⟨rfl, h1', h2', .inr ⟨g, 0, rfl, .inr (by omega), ?_⟩⟩
    rw [← h1]
    refine kids_of_flat K 0 (fun j u hu => ?_) (fun x hx => ?_)
    · rw [Nat.zero_add]
      exact (World.cell?_of_block (hW g (.inr h4) h3')).trans (hc j u hu)
    · exact TmP.move (fun b hb' hlt => ⟨hb'.1.elim .inl (fun h => .inr (by omega)), hW b hb'.1 hlt⟩) _ (h3 x hx)

theorem sb_var1 (θ : Int → Tm) {t : Tm} (h : t.op = 1) : sb θ t = θ t.n := by rw [sb_eq, if_pos h]
theorem sb_node1 (θ : Int → Tm) {t : Tm} (h : t.op ≠ 1) : sb θ t = .mk t.op t.n (t.kids.map (sb θ)) := by rw [sb_eq, if_neg h, sbs_map]

end Go.Proofs.YthlegfegkopdkaaGreat

namespace Go.Proofs.YthlegfegkopdkaaGreat
open Go.RowKit Go.Shelf Go.Sort

/-- A binding list whose row lies below n₁, and whose terms lie below n₀. -/
def IsBinds2 (n₁ n₀ : Nat) (w : World) (l : List (Int × Tm)) (a : Option Addr) (len c : Nat) : Prop :=
  len = l.length ∧ len ≤ c ∧ c ≤ 9223372036854775807 ∧ (l = [] ∨ ∃ b off, a = some ⟨b, off, none⟩ ∧ b < n₁ ∧
    ∀ k (h : k < l.length), w.cell? ⟨b, off + k * 4, none⟩ = some (.int .i64 l[k].1) ∧ ∃ a' l' c', Cells3 w b (off + k * 4 + 1) l[k].2.op l[k].2.n a' l' c' ∧ IsTm n₀ w l[k].2 a' l' c')
theorem IsBinds2.of {n₀ : Nat} {w : World} {L : List (Int × Tm)} {a : Option Addr} {l c : Nat} (h : IsBinds n₀ w L a l c) : IsBinds2 n₀ n₀ w L a l c := h
theorem IsBinds2.one {n₁ n₀ : Nat} {w : World} {L : List (Int × Tm)} {a : Option Addr} {l c : Nat} (h : IsBinds2 n₁ n₀ w L a l c) (hn : n₀ ≤ n₁) : IsBinds n₁ w L a l c := by
  obtain ⟨h1, h2, h3, h4⟩ := h
  refine ⟨h1, h2, h3, ?_⟩
  rcases h4 with h4 | ⟨b, off, ha, hb, hk⟩
  · exact .inl h4
  · refine .inr ⟨b, off, ha, hb, fun k h => ?_⟩
    obtain ⟨c0, a', l', c', h3, ht⟩ := hk k h
    exact ⟨c0, a', l', c', h3, ht.wider hn⟩
theorem IsBinds2.below {n₁ n₀ : Nat} {A B : World} (h : Below n₁ A B) (hn : n₀ ≤ n₁) {L : List (Int × Tm)} {a : Option Addr} {l c : Nat} (x : IsBinds2 n₁ n₀ A L a l c) : IsBinds2 n₁ n₀ B L a l c := by
  obtain ⟨h1, h2, h3, h4⟩ := x
  refine ⟨h1, h2, h3, ?_⟩
  rcases h4 with h4 | ⟨b, off, ha, hb, hk⟩
  · exact .inl h4
  · refine .inr ⟨b, off, ha, hb, fun k hl => ?_⟩
    obtain ⟨c0, a', l', c', g3, ht⟩ := hk k hl
    exact ⟨(h.cell (p := ⟨b, off + k * 4, none⟩) hb).trans c0, a', l', c', g3.below h hb, IsTm.below (h.mono hn) _ ht⟩

/-- What 'Subst' comes to. -/
def SubEnd (n₀ : Nat) (w : World) (T : Tm) (e : Ending) (w' : World) : Prop :=
  ∃ a l c, e = .returned (.agg #[.int .i64 T.op, .int .i64 T.n, .slice a l c]) ∧ Mix n₀ w w' T a l c ∧ Below w.heap.size w w'

abbrev sw0 (w : World) (t : Tm) (a : Option Addr) (l c : Nat) : World := (w.alloc (.cells #[.int .i64 t.op, .int .i64 t.n, .slice a l c] 28)).alloc zer3
theorem sw0_facts {w w0 : World} {t : Tm} {a : Option Addr} {l c : Nat} (h : w0 = sw0 w t a l c) :
    w0.heap.size = w.heap.size + 1 + 1 ∧ Below w.heap.size w w0 ∧ w0.heap[w.heap.size]? = some (.cells #[.int .i64 t.op, .int .i64 t.n, .slice a l c] 28 (0, 0)) ∧ w0.heap[w.heap.size + 1]? = some zer3 := by
  subst h
  exact ⟨by simp, by go_grown, heap_old (heap_new' _ rfl), heap_new' _ (by simp)⟩

theorem boxed3 (w : World) (t : Tm) (a : Option Addr) (l c : Nat) (x y z : Value) :
    ∃ W, W = (w.alloc (.cells #[.int .i64 t.op, .int .i64 t.n, .slice a l c] 28)).alloc (.cells #[x, y, z] 28) ∧ (W.cell? ⟨w.heap.size + 1, 0, none⟩ = some x ∧ W.cell? ⟨w.heap.size + 1, 1, none⟩ = some y ∧ W.cell? ⟨w.heap.size + 1, 2, none⟩ = some z) ∧ Below w.heap.size w W :=
  ⟨_, rfl, (c3_cells (heap_new' _ (by simp))).1, by go_grown⟩

set_option maxRecDepth 100000 in
set_option maxHeartbeats 2000000 in
theorem rSubst_any (N : Nat) : ∀ (t : Tm) (L : List (Int × Tm)) (n₁ n₀ : Nat) (w : World) (a : Option Addr) (l c : Nat) (al : Option Addr) (ll cl : Nat), t.size ≤ N → vtB t = true → IsTm n₀ w t a l c → IsBinds2 n₁ n₀ w L al ll cl → n₀ ≤ n₁ → n₁ ≤ w.heap.size →
    Calls Tryz.prog 29 #[.agg #[.int .i64 t.op, .int .i64 t.n, .slice a l c], .slice al ll cl] w (SubEnd n₀ w (sb (subL L) t)) := by
  induction N with
  | zero => intro t _ _ _ _ _ _ _ _ _ _ h; have := size_pos t; omega
  | succ N ih =>
    intro t L n₁ n₀ w a l c al ll cl hs hv ht hL hn01 hn1
    have hn : n₀ ≤ w.heap.size := by omega
    replace ih := Lib.hid ih
    obtain ⟨v1, v2, v3, v4⟩ := vt_open hv
    obtain ⟨rfl, hlc, hc, hk⟩ := ht.open
    have hLl : ll = L.length := hL.1
    subst hLl
    obtain ⟨w0, hw0⟩ : ∃ W, W = sw0 w t a t.kids.length c := ⟨_, rfl⟩
    obtain ⟨hz0, hB0, r1, r2⟩ := sw0_facts hw0
    by_cases h1 : t.op = 1
    · have o1 : (t.op == 1) = true := by simpa using h1
      obtain ⟨v2, -⟩ := v2 h1
      have hF := rfind_any L t.n n₁ w0 al L.length cl ((hL.below (hB0.mono hn1) hn01).one hn01)
      rw [sb_var1 _ h1]
      rcases subL_fnd L t.n with ⟨hlt, hsu⟩ | ⟨he, hsu⟩
      · rw [if_pos hlt] at hF
        obtain ⟨q, hq⟩ : ∃ q, fnd L t.n = q := ⟨_, rfl⟩
        have hlq : q < L.length := by omega
        have hsq : subL L t.n = L[q].2 := by subst hq; exact hsu
        rw [hsq]
        rw [hq] at hF
        clear hsu hsq hlt hq
        obtain ⟨-, b1, b2, b3⟩ := hL
        rcases b3 with b3 | ⟨b, off, rfl, hb, b3⟩
        · rw [b3] at hlq; simp at hlq
        obtain ⟨-, a', l', c', hc3, hTm⟩ := b3 q hlq
        obtain ⟨c0, c1, c2⟩ := hc3.below (hB0.mono hn1) hb
        obtain ⟨T, hT⟩ : ∃ T, T = L[q].2 := ⟨_, rfl⟩
        rw [← hT] at c0 c1 hTm ⊢
        have o2 : (q : Int) < (L.length : Int) := by omega
        have o3 : (0 : Int) ≤ (q : Int) := by omega
        have hmix := Lib.hid hTm.tmp
        rw [hw0] at hF
        replace hF := Lib.hid hF
        rw [hw0] at r2 hB0 c0 c1 c2
        obtain ⟨W3, e3, ⟨g0, g1, g2⟩, hB3⟩ := boxed3 w t a t.kids.length c (.int .i64 T.op) (.int .i64 T.n) (.slice a' l' c')
        replace e3 := Lib.hid e3
        replace g0 := Lib.hid g0
        replace g1 := Lib.hid g1
        replace g2 := Lib.hid g2
        replace hB3 := Lib.hid hB3
        clear hT b3 hTm hc3 r1 r2 hB0 hz0 hw0 hk v4 hv ht hs ih
        replace h1 := Lib.hid h1
        replace v2 := Lib.hid v2
        go_enter Tryz.func29, Tryz.ntmps29
        go_upto_region 99 with fail
        refine (hF.out).mono ?_
        rintro e w' ⟨rfl, rfl⟩
        go_wp2_with fail
        rw [← e3.out]
        have h0 := g0.out
        have h1 := g1.out
        have h2 := g2.out
        exact bodyPost_ret (v := .agg #[.int .i64 T.op, .int .i64 T.n, .slice a' l' c']) (by simp [results, Tryz.f29, go_sem, h0, h1, h2]) rfl ⟨a', l', c', rfl, TmP.move (fun b hb' hlt => ⟨.inl hb', hB3.out.block b (by omega)⟩) _ hmix.out, hB3.out⟩
      · have hnl : ¬ fnd L t.n < L.length := by omega
        rw [if_neg hnl] at hF
        rw [hsu]
        rw [hw0] at hF
        replace hF := Lib.hid hF
        rw [hw0] at r2 hB0
        obtain ⟨W3, e3, ⟨g0, g1, g2⟩, hB3⟩ := boxed3 w t a t.kids.length c (.int .i64 t.op) (.int .i64 t.n) (.slice a t.kids.length c)
        replace e3 := Lib.hid e3
        replace g0 := Lib.hid g0
        replace g1 := Lib.hid g1
        replace g2 := Lib.hid g2
        replace hB3 := Lib.hid hB3
        clear hsu he hnl r1 r2 hB0 hz0 hw0 hk v4 hv hs ht hL ih
        replace h1 := Lib.hid h1
        replace v2 := Lib.hid v2
        go_enter Tryz.func29, Tryz.ntmps29
        go_upto_region 99 with fail
        refine (hF.out).mono ?_
        rintro e w' ⟨rfl, rfl⟩
        go_wp2_with fail
        rw [← e3.out]
        have h0 := g0.out
        have h3 := g1.out
        have h4 := g2.out
        refine bodyPost_ret (v := .agg #[.int .i64 t.op, .int .i64 t.n, .slice a t.kids.length c]) (by simp [results, Tryz.f29, go_sem, h0, h3, h4]) rfl ⟨a, t.kids.length, c, by rw [h1.out]; rfl, ?_, hB3.out⟩
        simp only [Mix, TmP]
        exact ⟨by rw [v2.out], hlc, hc, .inl trivial⟩
    · have o1 : (t.op == 1) = false := by simpa using h1
      have o8 : (t.op == 8) = false := by simpa using v1
      rw [sb_node1 _ h1]
      obtain ⟨σ, hσ⟩ : ∃ σ, σ = subL L := ⟨_, rfl⟩
      rw [← hσ]
      have hIH : Hid (∀ k (h : k < t.kids.length) W, Below w0.heap.size w0 W → ∃ b off a' l' c', a = some ⟨b, off, none⟩ ∧ Cells3 W b (off + k * 3) t.kids[k].op t.kids[k].n a' l' c' ∧
          Calls Tryz.prog 29 #[.agg #[.int .i64 t.kids[k].op, .int .i64 t.kids[k].n, .slice a' l' c'], .slice al L.length cl] W (SubEnd n₀ W (sb σ t.kids[k]))) := Lib.hid (fun k h W hW => by
        have hb2 : Below n₀ w W := (hB0.mono hn).trans (hW.mono (by omega))
        rcases hk with hk | ⟨b, off, ha, hb, hk⟩
        · rw [hk] at h; simp at h
        obtain ⟨a', l', c', g1, g2⟩ := IsKids.get _ hk k h
        have hsz := sizes_mem (List.getElem_mem h)
        have hse := size_eq t
        rw [hσ]
        exact ⟨b, off, a', l', c', ha, g1.below hb2 hb, ih.out t.kids[k] L n₁ n₀ W a' l' c' al L.length cl (by omega) (v4 _ (List.getElem_mem h)) (IsTm.below hb2 _ g2) (hL.below ((hB0.mono hn1).trans (hW.mono (by omega))) hn01) hn01 (by have := hW.size; omega)⟩)
      have hr1 := Lib.hid r1
      have hr2 := Lib.hid r2
      obtain ⟨i0, hi, hi0, hi1, hi2⟩ := info_parts inf28
      have hst : Hid (Below w0.heap.size w0 w0) := Lib.hid (Below.refl _ _)
      replace hB0 := Lib.hid hB0
      obtain ⟨ts, hts⟩ : ∃ ts, ts = t.kids := ⟨_, rfl⟩
      rw [← hts] at hIH v3 hr1 hlc hw0 ⊢
      clear hk v4 hv hs ht hL ih v2 r1 r2 hts
      replace h1 := Lib.hid h1
      replace v1 := Lib.hid v1
      replace hσ := Lib.hid hσ
      replace hw0 := Lib.hid hw0
      have hz0' := Lib.hid hz0
      clear hz0
      go_enter Tryz.func29, Tryz.ntmps29
      go_wp2_with fail
      go_loopw [6, 7] (fun v i W => ∃ k va vl vc, k ≤ ts.length ∧ i = .int .i64 (k : Nat) ∧ v = .slice va vl vc ∧ Hid (KRow n₀ w0.heap.size W ((ts.take k).map (sb σ)) va vl vc) ∧ Hid (Below w0.heap.size w0 W)) (fun _ i _ => ts.length - (intOf i).toNat)
      case atStart => exact ⟨0, none, 0, 0, by omega, rfl, rfl, Lib.hid (KRow.nil _ _ _), Lib.hid (by rw [hw0.out]; exact Below.refl _ _)⟩
      case round =>
        obtain ⟨k, va, vl, vc, hkl, rfl, rfl, hK, hb⟩ := hrel
        have hzb := hb.out.size
        have hzz := hz0'.out
        obtain ⟨⟨p0, p1, p2⟩, p3, p4, p5⟩ := c3_cells ((hb.out.block w.heap.size (by omega)).trans hr1.out)
        by_cases hlt : k < ts.length
        · have o9 : (k : Int) < (ts.length : Int) := by omega
          obtain ⟨b, off, a', l', c', rfl, ⟨d0, d1, d2⟩, hC⟩ := hIH.out k hlt wr hb.out
          obtain ⟨K, h1', h2', h3'⟩ := hK.out
          have hlen : ((ts.take k).map (sb σ)).length = k := by simp; omega
          obtain ⟨x, hx⟩ : ∃ x, x = ts[k] := ⟨_, rfl⟩
          have hT1 : Hid ((ts.take (k + 1)).map (sb σ) = (ts.take k).map (sb σ) ++ [sb σ x]) := Lib.hid (by rw [hx, List.take_succ_eq_append_getElem hlt, List.map_append]; rfl)
          rw [← hx] at d0 d1 hC
          obtain ⟨T, hT⟩ : ∃ T, T = sb σ x := ⟨_, rfl⟩
          rw [← hT] at hC hT1
          replace hC := Lib.hid hC
          replace h1' := Lib.hid h1'
          replace h2' := Lib.hid h2'
          replace h3' := Lib.hid h3'
          clear hx hT hK p3 p4 p5
          go_upto_region 99 with fail
          refine (hC.out).mono ?_
          rintro e w1 ⟨a1, l1, c1, rfl, hM, hb1⟩
          have hz1 := hb1.size
          have h2'' : Hid (w1.ownsRow w0.heap.size 28 3 (.slice va vl vc) k (flat K)) := Lib.hid (by have h9 := h2'.out; rw [hlen] at h9; exact own_stays h9 (fun g _ hg => hb1.block g hg))
          have hA : Hid (∀ j, j < wr.heap.size → w1.heap[j]? = wr.heap[j]?) := Lib.hid (fun j hj => hb1.block j hj)
          have hbw1 := Lib.hid (Below.up hb.out hb1)
          replace hM := Lib.hid hM
          replace hlen := Lib.hid hlen
          clear hC hb1 p0 p1 p2 d0 d1 d2
          go_wp2_with (first
            | (at_builtin; refine wpList_append_lies _ rfl _ _ 26 rfl w0.heap.size 28 i0 _ 3 40 und26 hi hi0 hi1 hi2 rfl (by omega) (.slice va vl vc) k (flat K) rfl (h2''.out.alloc _)
                ⟨w1.heap.size, 0, none⟩ 1 1 [.int .i64 T.op, .int .i64 T.n, .slice a1 l1 c1] rfl rfl (World.news_of_block (cs := #[.int .i64 T.op, .int .i64 T.n, .slice a1 l1 c1]) (t := 28) (fr := (0, 0)) (heap_new' _ rfl)) (by simp [Value.oneCell'])
                (by omega) (by unfold maxLen; omega) (by omega) (by simp; omega) (w1.heap.size + 1) (by simp) ?_; intro gg cap2 w2 hown1 hgrow hat hlt2))
          have hst := KRow.step (W1 := w1.alloc (.cells #[.int .i64 T.op, .int .i64 T.n, .slice a1 l1 c1] 28)) h1'.out h2'.out h3'.out (fun j hj => (Below.heap_alloc _ _ j (by omega)).trans (hA.out j hj)) (by simp; omega) (by omega) hzb
            (TmP.move (fun b hb' hlt => ⟨⟨hb'.1, by have := hb'.2; simp; omega⟩, Below.heap_alloc _ _ b hlt⟩) _ (TmP.lt hM.out)) hgrow (by rw [hlen.out]; exact hown1) (by simpa using hat)
          rw [hlen.out, ← hT1.out] at hst
          go_roundw
          case rel => exact ⟨k + 1, _, _, _, by omega, by go_num, rfl, Lib.hid hst, Lib.hid ((Below.up hbw1.out (bal _ _)).grown hgrow (by simp; omega) (fun q hq => (own_base h2''.out hq).1))⟩
          case measure => simp [intOf]; omega
        · obtain rfl : k = ts.length := by omega
          have o9 : ¬ (ts.length : Int) < (ts.length : Int) := by omega
          obtain ⟨⟨q0, q1, q2⟩, q3, q4, q5⟩ := c3_cells ((hb.out.block (w.heap.size + 1) (by omega)).trans hr2.out)
          have hKf := hK.out
          rw [List.take_length] at hKf
          replace hKf := Lib.hid hKf
          clear hK
          have rX : (wr.setCell ⟨w.heap.size, 2, none⟩ (.slice va vl vc)).heap[w.heap.size + 1]? = some zer3 := (heap_setCell_other _ _ _ _ (by simp)).trans ((hb.out.block (w.heap.size + 1) (by omega)).trans hr2.out)
          obtain ⟨W3, e3, -, ⟨g0, g1, g2⟩, s2, s3⟩ := stored3 (.int .i64 t.op) (.int .i64 t.n) (.slice va vl vc) rX
          replace e3 := Lib.hid e3
          replace g0 := Lib.hid g0
          replace g1 := Lib.hid g1
          replace g2 := Lib.hid g2
          have hs2 : Hid (∀ j, j ≠ w.heap.size → j ≠ w.heap.size + 1 → W3.heap[j]? = wr.heap[j]?) := Lib.hid (fun j h1 h2 => (s2 j h2).trans (heap_setCell_other _ _ _ _ h1))
          have hB3 : Hid (Below w.heap.size w W3) := Lib.hid ((hB0.out.trans (hb.out.mono (by omega))).trans ((((Below.refl _ _).setCell (p := ⟨w.heap.size, 2, none⟩) (by simp) _)).trans (s3.mono (by omega))))
          clear rX s2 s3
          go_wp2_with fail
          rw [← e3.out]
          have h0 := g0.out
          have h3 := g1.out
          have h4 := g2.out
          refine bodyPost_ret (v := .agg #[.int .i64 t.op, .int .i64 t.n, .slice va vl vc]) (by simp [results, Tryz.f29, go_sem, h0, h3, h4]) rfl ⟨va, vl, vc, rfl, ?_, hB3.out⟩
          exact KRow.made hKf.out _ _ (by omega) (by omega) (fun j hj hlt => hs2.out j (by rcases hj with h | h <;> omega) (by rcases hj with h | h <;> omega))

end Go.Proofs.YthlegfegkopdkaaGreat
