/- Own text, joined of: Tm Dt. Terms as data, and how a value reads as one in a world. · Terms with the places of their kids' slices. -/
import Derived.WalkKit
import Derived.Below
import Derived.Lib.Hide

namespace Go.Proofs.Ythlegfegkopdkaa
open Go.RowKit

inductive Tm where
  | mk (op n : Int) (kids : List Tm)
def Tm.op : Tm → Int | .mk o _ _ => o
def Tm.n : Tm → Int | .mk _ n _ => n
def Tm.kids : Tm → List Tm | .mk _ _ k => k

mutual
def Tm.size : Tm → Nat | .mk _ _ ks => sizes ks + 1
def sizes : List Tm → Nat | [] => 0 | t :: ts => t.size + sizes ts
end

theorem size_eq (t : Tm) : t.size = sizes t.kids + 1 := by cases t; simp [Tm.size, Tm.kids]
theorem size_pos (t : Tm) : 1 ≤ t.size := by rw [size_eq]; omega
theorem sizes_append (a b : List Tm) : sizes (a ++ b) = sizes a + sizes b := by
  induction a with
  | nil => simp [sizes]
  | cons t a ih => simp [sizes, ih]; omega
theorem sizes_take_succ (ks : List Tm) (k : Nat) (h : k < ks.length) : sizes (ks.take (k + 1)) = sizes (ks.take k) + ks[k].size := by
  rw [List.take_succ_eq_append_getElem h, sizes_append]; simp [sizes]
theorem sizes_take_le (ks : List Tm) (k : Nat) : sizes (ks.take k) ≤ sizes ks := by
  have := sizes_append (ks.take k) (ks.drop k); rw [List.take_append_drop] at this; omega
theorem length_le_sizes (ks : List Tm) : ks.length ≤ sizes ks := by
  induction ks with
  | nil => simp
  | cons t a ih => have := size_pos t; simp [sizes]; omega
theorem size_kid (ks : List Tm) (k : Nat) (h : k < ks.length) : ks[k].size ≤ sizes ks := by
  have := sizes_take_succ ks k h; have := sizes_take_le ks (k + 1); omega

/-- The three cells of a term at (b, off). -/
structure Cells3 (w : World) (b off : Nat) (op n : Int) (a : Option Addr) (l c : Nat) : Prop where
  c0 : w.cell? ⟨b, off, none⟩ = some (.int .i64 op)
  c1 : w.cell? ⟨b, off + 1, none⟩ = some (.int .i64 n)
  c2 : w.cell? ⟨b, off + 2, none⟩ = some (.slice a l c)

theorem Cells3.below {n₀ : Nat} {A B : World} (h : Below n₀ A B) {b off : Nat} (hb : b < n₀) {op n : Int} {a : Option Addr} {l c : Nat} (x : Cells3 A b off op n a l c) : Cells3 B b off op n a l c :=
  ⟨(h.cell (p := ⟨b, off, none⟩) hb).trans x.c0, (h.cell (p := ⟨b, off + 1, none⟩) hb).trans x.c1, (h.cell (p := ⟨b, off + 2, none⟩) hb).trans x.c2⟩

mutual
/-- The kids of t lie in w, in blocks below n₀, at the slice (a, l, c). -/
def IsTm (n₀ : Nat) (w : World) : Tm → Option Addr → Nat → Nat → Prop
  | .mk _ _ ks, a, l, c => l = ks.length ∧ l ≤ c ∧ c ≤ 9223372036854775807 ∧ (ks = [] ∨ ∃ b off, a = some ⟨b, off, none⟩ ∧ b < n₀ ∧ IsKids n₀ w ks b off)
def IsKids (n₀ : Nat) (w : World) : List Tm → Nat → Nat → Prop
  | [], _, _ => True
  | t :: ts, b, off => (∃ a l c, Cells3 w b off t.op t.n a l c ∧ IsTm n₀ w t a l c) ∧ IsKids n₀ w ts b (off + 3)
end

mutual
theorem IsTm.below {n₀ : Nat} {A B : World} (h : Below n₀ A B) : ∀ (t : Tm) {a : Option Addr} {l c : Nat}, IsTm n₀ A t a l c → IsTm n₀ B t a l c
  | .mk _ _ ks, a, l, c, ht => by
    simp only [IsTm] at ht ⊢
    obtain ⟨h1, h2, h3, h4⟩ := ht
    refine ⟨h1, h2, h3, ?_⟩
    rcases h4 with h4 | ⟨b, off, ha, hb, hk⟩
    · exact .inl h4
    · exact .inr ⟨b, off, ha, hb, IsKids.below h ks hb hk⟩
theorem IsKids.below {n₀ : Nat} {A B : World} (h : Below n₀ A B) : ∀ (ks : List Tm) {b off : Nat}, b < n₀ → IsKids n₀ A ks b off → IsKids n₀ B ks b off
  | [], _, _, _, _ => by simp [IsKids]
  | t :: ts, b, off, hb, hk => by
    simp only [IsKids] at hk ⊢
    obtain ⟨⟨a, l, c, h3, ht⟩, hr⟩ := hk
    exact ⟨⟨a, l, c, h3.below h hb, IsTm.below h t ht⟩, IsKids.below h ts hb hr⟩
end

mutual
theorem IsTm.wider {n₀ n₁ : Nat} {A : World} (h : n₀ ≤ n₁) : ∀ (t : Tm) {a : Option Addr} {l c : Nat}, IsTm n₀ A t a l c → IsTm n₁ A t a l c
  | .mk _ _ ks, a, l, c, ht => by
    simp only [IsTm] at ht ⊢
    obtain ⟨h1, h2, h3, h4⟩ := ht
    refine ⟨h1, h2, h3, ?_⟩
    rcases h4 with h4 | ⟨b, off, ha, hb, hk⟩
    · exact .inl h4
    · exact .inr ⟨b, off, ha, by omega, IsKids.wider h ks hk⟩
theorem IsKids.wider {n₀ n₁ : Nat} {A : World} (h : n₀ ≤ n₁) : ∀ (ks : List Tm) {b off : Nat}, IsKids n₀ A ks b off → IsKids n₁ A ks b off
  | [], _, _, _ => by simp [IsKids]
  | t :: ts, b, off, hk => by
    simp only [IsKids] at hk ⊢
    obtain ⟨⟨a, l, c, h3, ht⟩, hr⟩ := hk
    exact ⟨⟨a, l, c, h3, IsTm.wider h t ht⟩, IsKids.wider h ts hr⟩
end

theorem IsKids.get {n₀ : Nat} {w : World} : ∀ (ks : List Tm) {b off : Nat}, IsKids n₀ w ks b off → ∀ k (h : k < ks.length), ∃ a l c, Cells3 w b (off + k * 3) ks[k].op ks[k].n a l c ∧ IsTm n₀ w ks[k] a l c
  | [], _, _, _, k, h => by simp at h
  | t :: ts, b, off, hk, 0, _ => by simp only [IsKids] at hk; simpa using hk.1
  | t :: ts, b, off, hk, k + 1, h => by
    simp only [IsKids] at hk
    have := IsKids.get ts hk.2 k (by simpa using h)
    simpa [show off + (k + 1) * 3 = off + 3 + k * 3 by omega] using this

/-- What a walk wants of a term's kids. -/
theorem IsTm.open {n₀ : Nat} {w : World} {t : Tm} {a : Option Addr} {l c : Nat} (h : IsTm n₀ w t a l c) :
    l = t.kids.length ∧ l ≤ c ∧ c ≤ 9223372036854775807 ∧ (t.kids = [] ∨ ∃ b off, a = some ⟨b, off, none⟩ ∧ b < n₀ ∧ IsKids n₀ w t.kids b off) := by
  cases t; simpa only [IsTm, Tm.kids] using h

/-- A term as a value: what stands in slots. -/
def Tm.val (t : Tm) (a : Option Addr) (l c : Nat) : Value := .agg #[.int .i64 t.op, .int .i64 t.n, .slice a l c]

/-! Signatures -/
abbrev Nm := ByteArray × Int
structure Sg where
  cons : List Nm
  funs : List Nm

/-- A slice of names (two cells each) in w, in a block below n₀. -/
def IsNames (n₀ : Nat) (w : World) (l : List Nm) (a : Option Addr) (len c : Nat) : Prop :=
  len = l.length ∧ len ≤ c ∧ c ≤ 9223372036854775807 ∧ (l = [] ∨ ∃ b off, a = some ⟨b, off, none⟩ ∧ b < n₀ ∧
    ∀ k (h : k < l.length), w.cell? ⟨b, off + k * 2, none⟩ = some (.string l[k].1) ∧ w.cell? ⟨b, off + k * 2 + 1, none⟩ = some (.int .i64 l[k].2) ∧ l[k].1.size ≤ 140737488351232)

theorem IsNames.below {n₀ : Nat} {A B : World} (h : Below n₀ A B) {l : List Nm} {a : Option Addr} {len c : Nat} (x : IsNames n₀ A l a len c) : IsNames n₀ B l a len c := by
  obtain ⟨h1, h2, h3, h4⟩ := x
  refine ⟨h1, h2, h3, ?_⟩
  rcases h4 with h4 | ⟨b, off, ha, hb, hk⟩
  · exact .inl h4
  · exact .inr ⟨b, off, ha, hb, fun k hk' => ⟨(h.cell (p := ⟨b, _, none⟩) hb).trans (hk k hk').1, (h.cell (p := ⟨b, _, none⟩) hb).trans (hk k hk').2.1, (hk k hk').2.2⟩⟩

theorem IsNames.wider {n₀ n₁ : Nat} {A : World} (h : n₀ ≤ n₁) {l : List Nm} {a : Option Addr} {len c : Nat} (x : IsNames n₀ A l a len c) : IsNames n₁ A l a len c := by
  obtain ⟨h1, h2, h3, h4⟩ := x
  refine ⟨h1, h2, h3, ?_⟩
  rcases h4 with h4 | ⟨b, off, ha, hb, hk⟩
  · exact .inl h4
  · exact .inr ⟨b, off, ha, by omega, hk⟩

/-- A signature's two slices. -/
structure IsSg (n₀ : Nat) (w : World) (s : Sg) (ac : Option Addr) (lc cc : Nat) (af : Option Addr) (lf cf : Nat) : Prop where
  cons : IsNames n₀ w s.cons ac lc cc
  funs : IsNames n₀ w s.funs af lf cf
theorem IsSg.below {n₀ : Nat} {A B : World} (h : Below n₀ A B) {s : Sg} {ac : Option Addr} {lc cc : Nat} {af : Option Addr} {lf cf : Nat} (x : IsSg n₀ A s ac lc cc af lf cf) : IsSg n₀ B s ac lc cc af lf cf := ⟨x.cons.below h, x.funs.below h⟩
theorem IsSg.wider {n₀ n₁ : Nat} {A : World} (h : n₀ ≤ n₁) {s : Sg} {ac : Option Addr} {lc cc : Nat} {af : Option Addr} {lf cf : Nat} (x : IsSg n₀ A s ac lc cc af lf cf) : IsSg n₁ A s ac lc cc af lf cf := ⟨x.cons.wider h, x.funs.wider h⟩

/-! What the specification asks of a node. -/
def inB (n lo hi : Int) : Bool := decide (lo ≤ n) && decide (n ≤ hi)
def argsOf (l : List Nm) (n : Int) : Int := match l[n.toNat]? with | some x => x.2 | none => 0
def nodeOk (s : Sg) (op n : Int) (k : Nat) : Bool :=
  if op = 1 then decide (k = 0) && inB n 0 19
  else if op = 2 then decide (k = 0) && inB n (-1000000) 1000000
  else if op = 3 then inB n 0 (s.cons.length - 1) && decide ((k : Int) = argsOf s.cons n)
  else if op = 4 then inB n 0 (s.funs.length - 1) && decide ((k : Int) = argsOf s.funs n)
  else if op = 5 then inB n 0 (s.funs.length - 1) && decide ((k : Int) < argsOf s.funs n)
  else if op = 8 then decide (k = 2) && inB n 0 19
  else if 6 ≤ op ∧ op ≤ 15 then decide (k = 2) && decide (n = 0)
  else false
mutual
def nodesOk (s : Sg) : Tm → Bool | .mk op n ks => nodeOk s op n ks.length && nodesOks s ks
def nodesOks (s : Sg) : List Tm → Bool | [] => true | t :: ts => nodesOk s t && nodesOks s ts
end
end Go.Proofs.Ythlegfegkopdkaa

namespace Go.Proofs.Ythlegfegkopdkaa
open Go.RowKit

inductive DT where
  | mk (op n : Int) (a : Option Addr) (l c : Nat) (kids : List DT)
def DT.op : DT → Int | .mk o _ _ _ _ _ => o
def DT.n : DT → Int | .mk _ n _ _ _ _ => n
def DT.a : DT → Option Addr | .mk _ _ a _ _ _ => a
def DT.l : DT → Nat | .mk _ _ _ l _ _ => l
def DT.c : DT → Nat | .mk _ _ _ _ c _ => c
def DT.kids : DT → List DT | .mk _ _ _ _ _ k => k

mutual
def DT.tm : DT → Tm | .mk o n _ _ _ ks => .mk o n (tms ks)
def tms : List DT → List Tm | [] => [] | d :: ds => d.tm :: tms ds
end
theorem tms_map (l : List DT) : tms l = l.map DT.tm := by
  induction l with
  | nil => rfl
  | cons d l ih => simp [tms, ih]
theorem DT.tm_op (d : DT) : d.tm.op = d.op := by cases d; rfl
theorem DT.tm_n (d : DT) : d.tm.n = d.n := by cases d; rfl
theorem DT.tm_kids (d : DT) : d.tm.kids = d.kids.map DT.tm := by cases d; simp [DT.tm, Tm.kids, DT.kids, tms_map]

mutual
def Lies (n₀ : Nat) (w : World) : DT → Prop
  | .mk _ _ a l c ks => l = ks.length ∧ l ≤ c ∧ c ≤ 9223372036854775807 ∧ (ks = [] ∨ ∃ b off, a = some ⟨b, off, none⟩ ∧ b < n₀ ∧ LiesAll n₀ w ks b off)
def LiesAll (n₀ : Nat) (w : World) : List DT → Nat → Nat → Prop
  | [], _, _ => True
  | d :: ds, b, off => (Cells3 w b off d.op d.n d.a d.l d.c ∧ Lies n₀ w d) ∧ LiesAll n₀ w ds b (off + 3)
end
theorem Lies.open {n₀ : Nat} {w : World} {d : DT} (h : Lies n₀ w d) :
    d.l = d.kids.length ∧ d.l ≤ d.c ∧ d.c ≤ 9223372036854775807 ∧ (d.kids = [] ∨ ∃ b off, d.a = some ⟨b, off, none⟩ ∧ b < n₀ ∧ LiesAll n₀ w d.kids b off) := by
  cases d; simpa only [Lies, DT.kids, DT.a, DT.l, DT.c] using h

mutual
theorem Lies.below' {n₀ : Nat} {A B : World} (h : Below n₀ A B) : ∀ (d : DT), Lies n₀ A d → Lies n₀ B d
  | .mk _ _ _ _ _ ks, ht => by
    simp only [Lies] at ht ⊢
    obtain ⟨h1, h2, h3, h4⟩ := ht
    refine ⟨h1, h2, h3, ?_⟩
    rcases h4 with h4 | ⟨b, off, ha, hb, hk⟩
    · exact .inl h4
    · exact .inr ⟨b, off, ha, hb, LiesAll.below h ks hb hk⟩
theorem LiesAll.below {n₀ : Nat} {A B : World} (h : Below n₀ A B) : ∀ (ks : List DT) {b off : Nat}, b < n₀ → LiesAll n₀ A ks b off → LiesAll n₀ B ks b off
  | [], _, _, _, _ => by simp [LiesAll]
  | t :: ts, b, off, hb, hk => by
    simp only [LiesAll] at hk ⊢
    exact ⟨⟨hk.1.1.below h hb, Lies.below' h t hk.1.2⟩, LiesAll.below h ts hb hk.2⟩
end
theorem Lies.below {n₀ : Nat} {d : DT} {A B : World} (hl : Lies n₀ A d) (h : Below n₀ A B) : Lies n₀ B d := Lies.below' h d hl

mutual
theorem Lies.wider {n₀ n₁ : Nat} {A : World} (h : n₀ ≤ n₁) : ∀ {d : DT}, Lies n₀ A d → Lies n₁ A d
  | .mk _ _ _ _ _ ks, ht => by
    simp only [Lies] at ht ⊢
    obtain ⟨h1, h2, h3, h4⟩ := ht
    refine ⟨h1, h2, h3, ?_⟩
    rcases h4 with h4 | ⟨b, off, ha, hb, hk⟩
    · exact .inl h4
    · exact .inr ⟨b, off, ha, by omega, LiesAll.wider h ks hk⟩
theorem LiesAll.wider {n₀ n₁ : Nat} {A : World} (h : n₀ ≤ n₁) : ∀ (ks : List DT) {b off : Nat}, LiesAll n₀ A ks b off → LiesAll n₁ A ks b off
  | [], _, _, _ => by simp [LiesAll]
  | t :: ts, b, off, hk => by
    simp only [LiesAll] at hk ⊢
    exact ⟨⟨hk.1.1, Lies.wider h hk.1.2⟩, LiesAll.wider h ts hk.2⟩
end
theorem LiesAll.get {n₀ : Nat} {w : World} : ∀ (ks : List DT) {b off : Nat}, LiesAll n₀ w ks b off → ∀ k (h : k < ks.length), Cells3 w b (off + k * 3) ks[k].op ks[k].n ks[k].a ks[k].l ks[k].c ∧ Lies n₀ w ks[k]
  | [], _, _, _, k, h => by simp at h
  | t :: ts, b, off, hk, 0, _ => by simp only [LiesAll] at hk; simpa using hk.1
  | t :: ts, b, off, hk, k + 1, h => by
    simp only [LiesAll] at hk
    have := LiesAll.get ts hk.2 k (by simpa using h)
    simpa [show off + (k + 1) * 3 = off + 3 + k * 3 by omega] using this

mutual
theorem IsTm.dec {n₀ : Nat} {w : World} : ∀ (t : Tm) {a : Option Addr} {l c : Nat}, IsTm n₀ w t a l c → ∃ ds : List DT, Lies n₀ w (.mk t.op t.n a l c ds) ∧ tms ds = t.kids
  | .mk op n ks, a, l, c, h => by
    simp only [IsTm] at h
    obtain ⟨h1, h2, h3, h4⟩ := h
    rcases h4 with h4 | ⟨b, off, ha, hb, hk⟩
    · subst h4
      exact ⟨[], by simp only [Lies]; exact ⟨h1, h2, h3, .inl trivial⟩, rfl⟩
    · obtain ⟨ds, e1, e2, e3⟩ := IsKids.dec ks hk
      refine ⟨ds, ?_, e2⟩
      simp only [Lies]
      exact ⟨by rw [h1, e3], h2, h3, .inr ⟨b, off, ha, hb, e1⟩⟩
theorem IsKids.dec {n₀ : Nat} {w : World} : ∀ (ks : List Tm) {b off : Nat}, IsKids n₀ w ks b off → ∃ ds, LiesAll n₀ w ds b off ∧ tms ds = ks ∧ ks.length = ds.length
  | [], _, _, _ => ⟨[], by simp [LiesAll], rfl, rfl⟩
  | t :: ts, b, off, h => by
    simp only [IsKids] at h
    obtain ⟨⟨a, l, c, h3, ht⟩, hr⟩ := h
    obtain ⟨ks, e1, e2⟩ := IsTm.dec t ht
    obtain ⟨ds, f1, f2, f3⟩ := IsKids.dec ts hr
    refine ⟨.mk t.op t.n a l c ks :: ds, ?_, ?_, by simp [f3]⟩
    · simp only [LiesAll]; exact ⟨⟨h3, e1⟩, f1⟩
    · simp only [tms, DT.tm, e2, f2]; cases t; rfl
end

end Go.Proofs.Ythlegfegkopdkaa
