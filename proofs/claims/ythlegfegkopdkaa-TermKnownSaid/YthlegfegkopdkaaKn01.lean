/- Own text, joined of: P1. Terms in memory whose blocks all have a property; frames that name the blocks that may turn. -/
import Derived.Laws.AppendOwn
import Derived.Laws.Rows
import Derived.Maps.AppendAt
import Derived.Test.YthlegfegkopdkaaKn00

namespace Go.Proofs.Ythlegfegkopdkaa
open Go.RowKit

mutual
def TmP (P : Nat → Prop) (w : World) : Tm → Option Addr → Nat → Nat → Prop
  | .mk _ _ ks, a, l, c => l = ks.length ∧ l ≤ c ∧ c ≤ 9223372036854775807 ∧ (ks = [] ∨ ∃ b off, a = some ⟨b, off, none⟩ ∧ P b ∧ KidsP P w ks b off)
def KidsP (P : Nat → Prop) (w : World) : List Tm → Nat → Nat → Prop
  | [], _, _ => True
  | t :: ts, b, off => (∃ a l c, Cells3 w b off t.op t.n a l c ∧ TmP P w t a l c) ∧ KidsP P w ts b (off + 3)
end

/-- Blocks that have P have Q, and hold what they held. -/
def Stays (P Q : Nat → Prop) (A B : World) : Prop := ∀ b, P b → b < A.heap.size → Q b ∧ B.heap[b]? = A.heap[b]?
theorem Stays.cell {P Q : Nat → Prop} {A B : World} (h : Stays P Q A B) {b o : Nat} {v : Value} (hb : P b) (hc : A.cell? ⟨b, o, none⟩ = some v) : Q b ∧ B.cell? ⟨b, o, none⟩ = some v := by
  have hlt : b < A.heap.size := by
    rcases Nat.lt_or_ge b A.heap.size with hlt | hge
    · exact hlt
    · simp [World.cell?, Array.getElem?_eq_none hge] at hc
  obtain ⟨h1, h2⟩ := h b hb hlt
  exact ⟨h1, (World.cell?_of_block h2).trans hc⟩

mutual
theorem TmP.move {P Q : Nat → Prop} {A B : World} (h : Stays P Q A B) : ∀ (t : Tm) {a : Option Addr} {l c : Nat}, TmP P A t a l c → TmP Q B t a l c
  | .mk _ _ ks, a, l, c, ht => by
    simp only [TmP] at ht ⊢
    obtain ⟨h1, h2, h3, h4⟩ := ht
    refine ⟨h1, h2, h3, ?_⟩
    cases ks with
    | nil => exact .inl rfl
    | cons k ks =>
      rcases h4 with h4 | ⟨b, off, ha, hb, hk⟩
      · cases h4
      · refine .inr ⟨b, off, ha, ?_, KidsP.move h _ hb hk⟩
        simp only [KidsP] at hk
        obtain ⟨⟨_, _, _, h5, _⟩, _⟩ := hk
        exact (h.cell hb h5.c0).1
theorem KidsP.move {P Q : Nat → Prop} {A B : World} (h : Stays P Q A B) : ∀ (ks : List Tm) {b off : Nat}, P b → KidsP P A ks b off → KidsP Q B ks b off
  | [], _, _, _, _ => by simp [KidsP]
  | t :: ts, b, off, hb, hk => by
    simp only [KidsP] at hk ⊢
    obtain ⟨⟨a, l, c, h3, ht⟩, hr⟩ := hk
    exact ⟨⟨a, l, c, ⟨(h.cell hb h3.c0).2, (h.cell hb h3.c1).2, (h.cell hb h3.c2).2⟩, TmP.move h t ht⟩, KidsP.move h ts hb hr⟩
end

mutual
theorem TmP.is {P : Nat → Prop} {w : World} {n : Nat} (hP : ∀ b, P b → b < n) : ∀ (t : Tm) {a : Option Addr} {l c : Nat}, TmP P w t a l c → IsTm n w t a l c
  | .mk _ _ ks, a, l, c, ht => by
    simp only [TmP] at ht
    simp only [IsTm]
    obtain ⟨h1, h2, h3, h4⟩ := ht
    refine ⟨h1, h2, h3, ?_⟩
    rcases h4 with h4 | ⟨b, off, ha, hb, hk⟩
    · exact .inl h4
    · exact .inr ⟨b, off, ha, hP b hb, KidsP.is hP ks hk⟩
theorem KidsP.is {P : Nat → Prop} {w : World} {n : Nat} (hP : ∀ b, P b → b < n) : ∀ (ks : List Tm) {b off : Nat}, KidsP P w ks b off → IsKids n w ks b off
  | [], _, _, _ => by simp [IsKids]
  | t :: ts, b, off, hk => by
    simp only [KidsP] at hk
    simp only [IsKids]
    obtain ⟨⟨a, l, c, h3, ht⟩, hr⟩ := hk
    exact ⟨⟨a, l, c, h3, TmP.is hP t ht⟩, KidsP.is hP ts hr⟩
end

/-- From w to w' no old block turns but those that have R. -/
structure Turns (R : Nat → Prop) (w w' : World) : Prop where
  os : w'.os = w.os
  tape : w'.tape = w.tape
  output : w'.output = w.output
  size : w.heap.size ≤ w'.heap.size
  block : ∀ k, k < w.heap.size → ¬ R k → w'.heap[k]? = w.heap[k]?
theorem Turns.refl (R : Nat → Prop) (w : World) : Turns R w w := ⟨rfl, rfl, rfl, Nat.le_refl _, fun _ _ _ => rfl⟩
theorem Turns.trans {R : Nat → Prop} {a b c : World} (h : Turns R a b) (k : Turns R b c) : Turns R a c :=
  ⟨k.os.trans h.os, k.tape.trans h.tape, k.output.trans h.output, Nat.le_trans h.size k.size, fun i hi hr => (k.block i (Nat.lt_of_lt_of_le hi h.size) hr).trans (h.block i hi hr)⟩
theorem Turns.mono {R S : Nat → Prop} {a b : World} (h : Turns R a b) (hs : ∀ k, k < a.heap.size → R k → S k) : Turns S a b :=
  ⟨h.os, h.tape, h.output, h.size, fun k hk hn => h.block k hk fun hr => hn (hs k hk hr)⟩
theorem Turns.alloc {R : Nat → Prop} {a b : World} (h : Turns R a b) (o : Obj) : Turns R a (b.alloc o) :=
  h.trans ⟨rfl, rfl, rfl, by simp, fun k hk _ => Below.heap_alloc b o k hk⟩
theorem Turns.of_below {R : Nat → Prop} {n : Nat} {a b : World} (h : Below n a b) (hn : ∀ k, k < a.heap.size → ¬ R k → k < n) : Turns R a b :=
  ⟨h.os, h.tape, h.output, h.size, fun k hk hr => h.block k (hn k hk hr)⟩
theorem Turns.below {R : Nat → Prop} {n : Nat} {a b : World} (h : Turns R a b) (hn : n ≤ a.heap.size) (hR : ∀ k, k < n → ¬ R k) : Below n a b :=
  ⟨h.os, h.tape, h.output, h.size, fun k hk => h.block k (by omega) (hR k hk)⟩
theorem Turns.setCell {R : Nat → Prop} {a b : World} (h : Turns R a b) {p : Addr} (hp : p.block < a.heap.size → R p.block) (v : Value) : Turns R a (b.setCell p v) := by
  obtain ⟨h1, h2, h3, h4, h5⟩ := (Below.refl p.block b).setCell (Nat.le_refl _) v
  refine ⟨h1.trans h.os, h2.trans h.tape, h3.trans h.output, Nat.le_trans h.size h4, fun k hk hr => ?_⟩
  by_cases e : k = p.block
  · subst e; exact absurd (hp hk) hr
  · rw [← h.block k hk hr]; exact heap_setCell_other b p k v e
theorem Turns.grown {R : Nat → Prop} {a b c : World} {row : Option Nat} (h : Turns R a b) (hg : b.grownBy c row) (hr : ∀ k, row = some k → k < a.heap.size → R k) : Turns R a c :=
  ⟨hg.os.trans h.os, hg.tape.trans h.tape, hg.output.trans h.output, Nat.le_trans h.size hg.size, fun k hk hn => (hg.block k (Nat.lt_of_lt_of_le hk h.size) (fun e => hn (hr k e.symm hk))).trans (h.block k hk hn)⟩

theorem Turns.then {R : Nat → Prop} {a b c : World} (h : Turns R a b) (k : Below a.heap.size b c) : Turns R a c :=
  ⟨k.os.trans h.os, k.tape.trans h.tape, k.output.trans h.output, Nat.le_trans h.size k.size, fun i hi hr => (k.block i hi).trans (h.block i hi hr)⟩

/-- A kid as it lies: the term and its own kids' slice. -/
structure Kd where
  t : Tm
  a : Option Addr
  l : Nat
  c : Nat
def Kd.cells (k : Kd) : List Value := [.int .i64 k.t.op, .int .i64 k.t.n, .slice k.a k.l k.c]
def flat : List Kd → List Value
  | [] => []
  | k :: ks => k.cells ++ flat ks
theorem flat_snoc (ks : List Kd) (k : Kd) : flat (ks ++ [k]) = flat ks ++ k.cells := by
  induction ks with
  | nil => simp [flat]
  | cons x ks ih => simp [flat, ih]
theorem kids_of_flat {P : Nat → Prop} {w : World} {g : Nat} : ∀ (ks : List Kd) (off : Nat), (∀ j u, (flat ks)[j]? = some u → w.cell? ⟨g, off + j, none⟩ = some u) → (∀ x ∈ ks, TmP P w x.t x.a x.l x.c) → KidsP P w (ks.map (·.t)) g off
  | [], _, _, _ => by simp [KidsP]
  | k :: ks, off, hf, hk => by
    simp only [List.map_cons, KidsP]
    refine ⟨⟨k.a, k.l, k.c, ⟨hf 0 _ (by simp [flat, Kd.cells]), hf 1 _ (by simp [flat, Kd.cells]), hf 2 _ (by simp [flat, Kd.cells])⟩, hk k (by simp)⟩, ?_⟩
    refine kids_of_flat ks (off + 3) (fun j u hu => ?_) (fun x hx => hk x (by simp [hx]))
    have := hf (3 + j) u (by simp only [flat, Kd.cells, List.cons_append, List.nil_append]; rw [show 3 + j = j + 1 + 1 + 1 by omega]; simpa using hu)
    rwa [show off + (3 + j) = off + 3 + j by omega] at this

theorem own_cells {w : World} {base g cap n : Nat} {e : TypeId} {xs : List Value} {size : Nat} (h : w.ownsRow base e size (.slice (some ⟨g, 0, none⟩) n cap) n xs) : (∀ j u, xs[j]? = some u → w.cell? ⟨g, j, none⟩ = some u) ∧ n ≤ cap ∧ cap ≤ maxLen ∧ g < w.heap.size ∧ base ≤ g := by
  rcases h.2 with ⟨h0, _⟩ | ⟨g', cap', cur, hv, hb, hg, hn, hc, hs, ht⟩
  · cases h0
  · cases hv
    refine ⟨fun j u hu => ?_, hn, hc, (Array.getElem?_eq_some_iff.1 hg).1, hb⟩
    rw [cell_of_row w g j cur e (0, 0) hg]
    rw [← ht, List.getElem?_take] at hu
    split at hu
    · simpa using hu
    · cases hu

end Go.Proofs.Ythlegfegkopdkaa
