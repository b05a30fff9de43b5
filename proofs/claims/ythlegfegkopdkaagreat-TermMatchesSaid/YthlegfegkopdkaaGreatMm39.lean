/- Own text, joined of: Mt3 Mt4 Mt5 Mt6 Y1 Y3 Mt7. Rows of bindings whose terms may share memory with what stood before; the reference's 'bind'. · The reference's 'bind'. · The reference's 'solved'. · Lists in solved form: what is put in, what solves them, one binding more. · Models of variants: an expression in order stays as it is; with variables put in for variables, one for one, an expression is a variant of what it was; an expression in order is formed. · Models of what is put in: the free variables; the variables' own terms. · A step of unifying, in solved forms. -/
import Derived.Test.YthlegfegkopdkaaGreatMm36
import Derived.Test.YthlegfegkopdkaaGreatMm38

namespace Go.Proofs.YthlegfegkopdkaaGreat
open Go.RowKit Go.Shelf Go.Sort

theorem oneBinds (K : List Bd) : ∀ u ∈ flatB K, u.oneCell' = true := by
  induction K with
  | nil => intro u hu; simp [flatB] at hu
  | cons b K ih =>
    intro u hu
    simp only [flatB, Bd.cells, Kd.cells, List.cons_append, List.nil_append, List.mem_cons] at hu
    rcases hu with rfl | rfl | rfl | rfl | hu <;> first | rfl | exact ih u hu
theorem flatB_len (K : List Bd) : (flatB K).length = K.length * 4 := by
  induction K with
  | nil => rfl
  | cons b K ih => simp [flatB, Bd.cells, Kd.cells, ih]; omega
theorem flatB_append (A B : List Bd) : flatB (A ++ B) = flatB A ++ flatB B := by
  induction A with
  | nil => rfl
  | cons x A ih => simp [flatB, ih]

/-- A slice of bindings that lies in memory. -/
def SrcB (W : World) (y : Value) (K : List Bd) : Prop :=
  (∃ ad c, y = .slice ad 0 c ∧ K = []) ∨ ∃ ad c, y = .slice (some ad) K.length c ∧ ∀ j u, (flatB K)[j]? = some u → W.cell? (ad.add j) = some u

theorem appB_run (W : World) (base : Nat) (v y : Value) (n : Nat) (xs : List Value) (K : List Bd) (hl : n + K.length ≤ 1000) (h : W.ownsRow base 70 4 v n xs) (hb : base ≤ W.heap.size) (hy : SrcB W y K) :
    ∃ v1 W1, (Builtin.append_ #[46, 46] 46 #[v, y]).run Tryz.prog W = .ok v1 W1 ∧ W1.ownsRow base 70 4 v1 (n + K.length) (xs ++ flatB K) ∧ W.grownBy W1 v.ownBlock := by
  obtain ⟨i0, hi, hz0, hz1, hz2⟩ := info_parts inf70
  have nilcase : ∀ ad c, ∃ v1 W1, (Builtin.append_ #[46, 46] 46 #[v, .slice ad 0 c]).run Tryz.prog W = .ok v1 W1 ∧ W1.ownsRow base 70 4 v1 n xs ∧ W.grownBy W1 v.ownBlock := fun ad c => by
    cases ad with
    | some ad =>
      obtain ⟨v1, W1, h4, h5, h6, h7⟩ := run_append_own (P := Tryz.prog) W base 46 46 70 i0 _ 4 48 und46 hi hz0 hz1 hz2 rfl (by decide) v n xs h ad 0 c [] (by simp) (by simp) (by simp) (by unfold maxLen; omega) (by omega) hb
      exact ⟨v1, W1, h4, by simpa using h5, h6⟩
    | none =>
      rcases h.2 with ⟨rfl, h2⟩ | ⟨g, cap, cs, rfl, h3, h4, h5, h6, h7, h8⟩
      · exact ⟨.slice none 0 0, W, by simp [Builtin.append_, run_underlying und46, sizeOf, typeInfo, hi, Builtin.lenOf, Builtin.firstCells], h, World.grownBy.refl _ _⟩
      · refine ⟨.slice (some ⟨g, 0, none⟩) n cap, W, ?_, h, World.grownBy.refl _ _⟩
        have := run_append_room_src (P := Tryz.prog) W 46 46 46 70 i0 und46 hi g 0 n cap (.slice none 0 c) 0 [] (Src.ofNil W und46 c) (by omega) (by simp) (by simp)
        simpa [World.setCells] using this
  rcases hy with ⟨ad, c, rfl, rfl⟩ | ⟨ad, c, rfl, h2⟩
  · obtain ⟨v1, W1, h4, h5, h6⟩ := nilcase ad c
    exact ⟨v1, W1, h4, by simpa [flatB] using h5, h6⟩
  · obtain ⟨v1, W1, h4, h5, h6, h7⟩ := run_append_own (P := Tryz.prog) W base 46 46 70 i0 _ 4 48 und46 hi hz0 hz1 hz2 rfl (by decide) v n xs h ad K.length c (flatB K) (flatB_len K) h2 (oneBinds K) (by unfold maxLen; omega) (by omega) hb
    exact ⟨v1, W1, h4, h5, h6⟩

/-! 'bind' -/
/-- Where a binding of n has its place. -/
def bdx (L : List (Int × Tm)) (n : Int) : Nat := L.findIdx (fun x => decide (n ≤ x.1))
def bindL (L : List (Int × Tm)) (n : Int) (t : Tm) : List (Int × Tm) := L.take (bdx L n) ++ (n, t) :: L.drop (bdx L n)
theorem bdx_le (L : List (Int × Tm)) (n : Int) : bdx L n ≤ L.length := List.findIdx_le_length
theorem bdx_lt {L : List (Int × Tm)} {n : Int} {k : Nat} (h : k < bdx L n) (hl : k < L.length) : L[k].1 < n := by
  have := List.not_of_lt_findIdx h
  simpa using this
theorem bdx_ge {L : List (Int × Tm)} {n : Int} (h : bdx L n < L.length) : n ≤ L[bdx L n].1 := by
  have h2 : decide (n ≤ L[bdx L n].1) = true := List.findIdx_getElem (p := fun x : Int × Tm => decide (n ≤ x.1)) (w := h)
  exact of_decide_eq_true h2

theorem sl46_hi (W : World) (av : Option Addr) (l cv k : Nat) (hk : k ≤ cv) :
    (Instr.sliceAt 46 (.slice av l cv) none (some (.int .i64 k)) none).run Tryz.prog W = .ok (.slice (if cv = 0 then av else av.map (·.add 0)) k cv) W := by
  obtain ⟨i0, hi, hz0, hz1, hz2⟩ := info_parts inf70
  have h0 : (0 : Int) ≤ (k : Int) := by omega
  have h1 : (k : Int) ≤ (cv : Int) := by omega
  simp [Instr.sliceAt, Instr.slice, Instr.sliceBounds, run_underlying und46, run_sliceBound, sizeOf, typeInfo, hi, h0, h1]
theorem sl46_lo (W : World) (av : Option Addr) (l cv k : Nat) (hk : k ≤ l) :
    (Instr.sliceAt 46 (.slice av l cv) (some (.int .i64 k)) none none).run Tryz.prog W = .ok (.slice (if cv = k then av else av.map (·.add (k * 4))) (l - k) (cv - k)) W := by
  obtain ⟨i0, hi, hz0, hz1, hz2⟩ := info_parts inf70
  have h0 : (0 : Int) ≤ (k : Int) := by omega
  have h1 : (k : Int) ≤ (l : Int) := by omega
  simp [Instr.sliceAt, Instr.slice, Instr.sliceBounds, run_underlying und46, run_sliceBound, sizeOf, typeInfo, hi, hz1, h0, h1]

/-- The bindings of a list as they lie. -/
theorem binds_row {n₀ : Nat} {w : World} {L : List (Int × Tm)} {b off : Nat} (h : ∀ k (h : k < L.length), w.cell? ⟨b, off + k * 4, none⟩ = some (.int .i64 L[k].1) ∧ ∃ a' l' c', Cells3 w b (off + k * 4 + 1) L[k].2.op L[k].2.n a' l' c' ∧ IsTm n₀ w L[k].2 a' l' c') :
    ∃ K : List Bd, K.map (fun x => (x.v, x.k.t)) = L ∧ (∀ j u, (flatB K)[j]? = some u → w.cell? ⟨b, off + j, none⟩ = some u) ∧ ∀ x ∈ K, IsTm n₀ w x.k.t x.k.a x.k.l x.k.c := by
  induction L generalizing off with
  | nil => exact ⟨[], rfl, by simp [flatB], by simp⟩
  | cons y L ih =>
    obtain ⟨c0, a', l', c', ⟨c1, c2, c3⟩, ht⟩ := h 0 (by simp)
    simp only [List.getElem_cons_zero, Nat.zero_mul, Nat.add_zero] at c0 c1 c2 c3 ht
    obtain ⟨K, g1, g2, g3⟩ := ih (off := off + 4) (fun k hk => by
      have := h (k + 1) (by simp; omega)
      simp only [List.getElem_cons_succ] at this
      rw [show off + (k + 1) * 4 = off + 4 + k * 4 by omega] at this
      exact this)
    refine ⟨⟨y.1, ⟨y.2, a', l', c'⟩⟩ :: K, by simp [g1], fun j u hu => ?_, fun x hx => ?_⟩
    · simp only [flatB, Bd.cells, Kd.cells, List.cons_append, List.nil_append] at hu
      match j, hu with
      | 0, hu => simp at hu; subst hu; exact c0
      | 1, hu => simp at hu; subst hu; exact c1
      | 2, hu => simp at hu; subst hu; exact c2
      | 3, hu => simp at hu; subst hu; exact c3
      | j + 4, hu =>
        have := g2 j u (by simpa using hu)
        rw [show off + (j + 4) = off + 4 + j by omega]; exact this
    · rcases List.mem_cons.1 hx with rfl | hx
      · exact ht
      · exact g3 x hx

theorem split_src {n₀ : Nat} {w : World} {L : List (Int × Tm)} {al : Option Addr} {cl : Nat} (k : Nat) (hk : k ≤ L.length) (hL : IsBinds n₀ w L al L.length cl) :
    ∃ A C : List Bd, A.length = k ∧ C.length = L.length - k ∧ A.map (fun x => (x.v, x.k.t)) = L.take k ∧ C.map (fun x => (x.v, x.k.t)) = L.drop k ∧ (∀ x ∈ A ++ C, IsTm n₀ w x.k.t x.k.a x.k.l x.k.c) ∧
      ∃ y1 y2, (∀ W, (Instr.sliceAt 46 (.slice al L.length cl) none (some (.int .i64 k)) none).run Tryz.prog W = .ok y1 W) ∧ (∀ W, (Instr.sliceAt 46 (.slice al L.length cl) (some (.int .i64 k)) none none).run Tryz.prog W = .ok y2 W) ∧
        ∀ W, Below n₀ w W → SrcB W y1 A ∧ SrcB W y2 C := by
  obtain ⟨-, h1, h2, h3⟩ := hL
  rcases h3 with rfl | ⟨b, off, rfl, hb, h3⟩
  · obtain rfl : k = 0 := by simpa using hk
    exact ⟨[], [], rfl, rfl, rfl, rfl, by simp, _, _, fun W => sl46_hi W _ _ _ _ (by omega), fun W => sl46_lo W _ _ _ _ hk, fun W _ => ⟨.inl ⟨_, _, rfl, rfl⟩, .inl ⟨_, _, rfl, rfl⟩⟩⟩
  · obtain ⟨K, g1, g2, g3⟩ := binds_row h3
    have hlen : K.length = L.length := by rw [← g1, List.length_map]
    refine ⟨K.take k, K.drop k, by simp; omega, by simp; omega, by rw [← g1, List.map_take], by rw [← g1, List.map_drop], by rw [List.take_append_drop]; exact g3, _, _, fun W => sl46_hi W _ _ _ _ (by omega), fun W => sl46_lo W _ _ _ _ hk, fun W hW => ?_⟩
    have hc : ∀ j u, (flatB K)[j]? = some u → W.cell? ⟨b, off + j, none⟩ = some u := fun j u hu => (hW.cell (p := ⟨b, off + j, none⟩) hb).trans (g2 j u hu)
    have hsp : flatB K = flatB (K.take k) ++ flatB (K.drop k) := by rw [← flatB_append, List.take_append_drop]
    have hl1 : (flatB (K.take k)).length = k * 4 := by rw [flatB_len]; simp; omega
    constructor
    · refine .inr ⟨⟨b, off, none⟩, cl, ?_, fun j u hu => ?_⟩
      · have e : (K.take k).length = k := by simp; omega
        rw [e]; split <;> simp [addp]
      · rw [addp]
        refine hc j u ?_
        rw [hsp, List.getElem?_append_left (by obtain ⟨h, -⟩ := List.getElem?_eq_some_iff.1 hu; exact h)]
        exact hu
    · have e : (K.drop k).length = L.length - k := by simp; omega
      by_cases h0 : L.length = k
      · refine .inl ⟨_, _, by rw [h0, Nat.sub_self], List.length_eq_zero_iff.1 (by omega)⟩
      · refine .inr ⟨⟨b, off + k * 4, none⟩, cl - k, ?_, fun j u hu => ?_⟩
        · rw [e, if_neg (by omega)]; simp [addp]
        · rw [addp, show off + k * 4 + j = off + (k * 4 + j) by omega]
          refine hc _ u ?_
          rw [hsp, List.getElem?_append_right (by omega), hl1, show k * 4 + j - k * 4 = j by omega]
          exact hu

end Go.Proofs.YthlegfegkopdkaaGreat

namespace Go.Proofs.YthlegfegkopdkaaGreat
open Go.RowKit Go.Shelf Go.Sort

theorem own_is {base : Nat} {w : World} {K : List Bd} {v : Value} (h : w.ownsRow base 70 4 v K.length (flatB K)) (ht : ∀ x ∈ K, IsTm w.heap.size w x.k.t x.k.a x.k.l x.k.c) :
    ∃ va vl vc, v = .slice va vl vc ∧ IsBinds w.heap.size w (K.map (fun x => (x.v, x.k.t))) va vl vc := by
  rcases h.2 with ⟨hv, h0⟩ | ⟨g, cap, cur, hv, hg, hcur, hn, hcap, hs, _⟩
  · subst hv
    obtain rfl := List.length_eq_zero_iff.1 h0
    exact ⟨none, 0, 0, rfl, rfl, by omega, by omega, .inl rfl⟩
  · subst hv
    obtain ⟨hc, h1', h2', h3', h4⟩ := own_cells h
    refine ⟨_, _, _, rfl, by simp, h1', h2', .inr ⟨g, 0, rfl, h3', fun k hk => ?_⟩⟩
    have hk' : k < K.length := by simpa using hk
    obtain ⟨g1, g2, g3, g4⟩ := flatB_get K k hk'
    simp only [List.getElem_map, Nat.zero_add]
    exact ⟨hc _ _ g1, K[k].k.a, K[k].k.l, K[k].k.c, ⟨hc _ _ g2, hc _ _ g3, hc _ _ g4⟩, ht _ (List.getElem_mem hk')⟩

/-- A binding as it lies. -/
def mkB (n : Int) (t : Tm) (a : Option Addr) (l c : Nat) : Bd := ⟨n, ⟨t, a, l, c⟩⟩

theorem cell_four_new (W : World) (x y z u : Value) (ty j : Nat) (v : Value) (h : [x, y, z, u][j]? = some v) : (W.alloc (.cells #[x, y, z, u] ty)).cell? ((⟨W.heap.size, 0, none⟩ : Addr).add j) = some v := by
  rw [addp, Nat.zero_add]
  match j, h with
  | 0, h => simp at h; subst h; go_cell
  | 1, h => simp at h; subst h; go_cell
  | 2, h => simp at h; subst h; go_cell
  | 3, h => simp at h; subst h; go_cell
  | j + 4, h => simp at h

set_option maxRecDepth 100000 in
set_option maxHeartbeats 4000000 in
theorem rbind_any (L : List (Int × Tm)) (n : Int) (t : Tm) (n₀ : Nat) (w : World) (al : Option Addr) (ll cl : Nat) (a : Option Addr) (l c : Nat) (hL : IsBinds n₀ w L al ll cl) (hlen : L.length ≤ 500) (ht : IsTm n₀ w t a l c) (hn : n₀ ≤ w.heap.size) :
    Calls Tryz.prog 115 #[.slice al ll cl, .int .i64 n, .agg #[.int .i64 t.op, .int .i64 t.n, .slice a l c]] w fun e w' => ∃ va vl vc, e = .returned (.slice va vl vc) ∧ IsBinds w'.heap.size w' (bindL L n t) va vl vc ∧ Below w.heap.size w w' := by
  obtain ⟨i0, hi, hz0, hz1, hz2⟩ := info_parts inf70
  have hll : ll = L.length := hL.1
  subst hll
  obtain ⟨q, hq⟩ : ∃ q, q = bdx L n := ⟨_, rfl⟩
  have hql : q ≤ L.length := by rw [hq]; exact bdx_le L n
  obtain ⟨A, C, hA, hC, hA2, hC2, hAC, y1, y2, hr1, hr2, hsrc⟩ := split_src q hql hL
  obtain ⟨w0, hw0⟩ : ∃ W, W = w.alloc (.cells #[.int .i64 t.op, .int .i64 t.n, .slice a l c] 28) := ⟨_, rfl⟩
  have hB0 : Below w.heap.size w w0 := by rw [hw0]; exact bal _ _
  have hz0' : w0.heap.size = w.heap.size + 1 := by rw [hw0]; simp
  have hbox : w0.heap[w.heap.size]? = some (.cells #[.int .i64 t.op, .int .i64 t.n, .slice a l c] 28 (0, 0)) := by rw [hw0]; exact heap_new'' _ _
  have hres : Hid (bindL L n t = (A ++ [mkB n t a l c] ++ C).map (fun x => (x.v, x.k.t))) := Lib.hid (by
    unfold bindL
    rw [← hq, ← hA2, ← hC2]
    simp [mkB])
  have hts : Hid (∀ x ∈ A ++ [mkB n t a l c] ++ C, IsTm n₀ w x.k.t x.k.a x.k.l x.k.c) := Lib.hid (fun x hx => by
    simp only [List.mem_append, List.mem_singleton] at hx
    rcases hx with (hx | rfl) | hx
    · exact hAC x (List.mem_append.2 (.inl hx))
    · exact ht
    · exact hAC x (List.mem_append.2 (.inr hx)))
  have hlow : Hid (∀ k (hk : k < L.length), k < q → ∃ b off y, al = some ⟨b, off, none⟩ ∧ w0.cell? ⟨b, off + k * 4, none⟩ = some (.int .i64 y) ∧ y < n) := Lib.hid (fun k hk h => by
    obtain ⟨-, -, -, h3⟩ := hL.below (hB0.mono hn)
    rcases h3 with h3 | ⟨b, off, ha, hb, h3⟩
    · rw [h3] at hk; simp at hk
    · exact ⟨b, off, _, ha, (h3 k hk).1, bdx_lt (by omega) hk⟩)
  have hcase : (∃ b off y, al = some ⟨b, off, none⟩ ∧ (q : Int) < (L.length : Int) ∧ w0.cell? ⟨b, off + q * 4, none⟩ = some (.int .i64 y) ∧ ¬ y < n) ∨ ¬ (q : Int) < (L.length : Int) := by
    by_cases h : q < L.length
    · obtain ⟨-, -, -, h3⟩ := hL.below (hB0.mono hn)
      rcases h3 with h3 | ⟨b, off, ha, hb, h3⟩
      · rw [h3] at h; simp at h
      · exact .inl ⟨b, off, _, ha, by omega, (h3 q h).1, by subst hq; have := bdx_ge h; omega⟩
    · exact .inr (by omega)
  have hs1 : Hid (∀ W, Below w0.heap.size w0 W → SrcB W y1 A) := Lib.hid (fun W h => (hsrc W ((hB0.mono hn).trans (h.mono (by omega)))).1)
  have hs2 : Hid (∀ W, Below w0.heap.size w0 W → SrcB W y2 C) := Lib.hid (fun W h => (hsrc W ((hB0.mono hn).trans (h.mono (by omega)))).2)
  have hwb : Hid (∀ W, Below w0.heap.size w0 W → Below n₀ w W) := Lib.hid (fun W h => (hB0.mono hn).trans (h.mono (by omega)))
  have hfin : Hid (∀ W v, W.ownsRow w0.heap.size 70 4 v (A.length + 1 + C.length) (flatB A ++ [.int .i64 n, .int .i64 t.op, .int .i64 t.n, .slice a l c] ++ flatB C) → Below w0.heap.size w0 W → ∃ va vl vc, v = .slice va vl vc ∧ IsBinds W.heap.size W (bindL L n t) va vl vc ∧ Below w.heap.size w W) := Lib.hid (fun W v hW hb => by
    have e1 : flatB (A ++ [mkB n t a l c] ++ C) = flatB A ++ [.int .i64 n, .int .i64 t.op, .int .i64 t.n, .slice a l c] ++ flatB C := by
      rw [flatB_append, flatB_append]; simp [flatB, Bd.cells, Kd.cells, mkB]
    have e2 : (A ++ [mkB n t a l c] ++ C).length = A.length + 1 + C.length := by simp; omega
    rw [← e1, ← e2] at hW
    have hbw := hwb.out W hb
    obtain ⟨va, vl, vc, h1, h2⟩ := own_is hW (fun x hx => (IsTm.below hbw _ (hts.out x hx)).wider (by have := hB0.size; have := hb.size; omega))
    rw [← hres.out] at h2
    exact ⟨va, vl, vc, h1, h2, Below.up hB0 hb⟩)
  have hr1' := Lib.hid hr1
  have hr2' := Lib.hid hr2
  replace hbox := Lib.hid hbox
  have hAl : A.length ≤ 500 := by omega
  have hCl : A.length + C.length ≤ 500 := by omega
  clear hr1 hr2 hsrc hAC hA hC hA2 hC2 hL ht hq
  go_enter Tryz.func115, Tryz.ntmps115
  go_upto_region 2 with fail
  rw [← hw0]
  replace hw0 := Lib.hid hw0
  replace hB0 := Lib.hid hB0
  go_loopw [7] (fun j W => ∃ k : Nat, k ≤ q ∧ j = .int .i64 (k : Nat) ∧ W = w0) (fun j _ => L.length - (intOf j).toNat)
  case atStart => exact ⟨0, by omega, rfl, rfl⟩
  case round =>
    obtain ⟨k, hk, rfl, rfl⟩ := hrel
    by_cases hlt : k < q
    · have o1 : (k : Int) < (L.length : Int) := by omega
      obtain ⟨b, off, y, rfl, c2, o3⟩ := hlow.out k (by omega) hlt
      clear hcase
      go_wp2_with fail
      go_roundw
      case rel => exact ⟨k + 1, by omega, by go_num, by trivial⟩
      case measure => simp [intOf]; omega
    · obtain rfl : k = q := by omega
      have hst : Hid (Below wr.heap.size wr wr) := Lib.hid (Below.refl _ _)
      rcases hcase with ⟨b, off, y, rfl, o1, c2, o3⟩ | o1
      · go_upto_region 4 with fail
        refine region_named (S := fun W' => Below wr.heap.size wr W') (by kernel_rfl) (fun W hW => ?_)
        have hq : Hid (Below wr.heap.size wr W) := Lib.hid (by rw [hW]; exact (Below.refl _ _).drew)
        have hwr : wr.heap.size ≤ W.heap.size := hq.out.size
        clear hW
        refine takeH 0 24 (.slice (some ⟨b, off, none⟩) L.length cl) rfl rfl (by kernel_rfl) (by kernel_rfl) (by kernel_rfl) (fun _ _ _ h => h) (by rfl) (by intro W hSw; clear hSw; go_simp) hq.out ?_
        try simp only [List.setIfInBounds_toArray, List.set_cons_zero, List.set_cons_succ]
        refine takeH 1 25 (.int .i64 (k : Nat)) rfl rfl (by kernel_rfl) (by kernel_rfl) (by kernel_rfl) (fun _ _ _ h => h) (by rfl) (by intro W hSw; clear hSw; go_simp) hq.out ?_
        try simp only [List.setIfInBounds_toArray, List.set_cons_zero, List.set_cons_succ]
        refine takeH 2 26 y1 rfl rfl (by kernel_rfl) (by kernel_rfl) (by kernel_rfl) (fun _ _ _ h => h) (by rfl) (fun W _ => exec_slice rfl (hr1'.out W)) hq.out ?_
        try simp only [List.setIfInBounds_toArray, List.set_cons_zero, List.set_cons_succ]
        refine takeH 4 28 (.int .i64 n) rfl rfl (by kernel_rfl) (by kernel_rfl) (by kernel_rfl) (fun _ _ _ h => h) (by rfl) (by intro W hSw; clear hSw; go_simp) hq.out ?_
        try simp only [List.setIfInBounds_toArray, List.set_cons_zero, List.set_cons_succ]
        refine takeH 5 29 (.agg #[.int .i64 t.op, .int .i64 t.n, .slice a l c]) rfl rfl (by kernel_rfl) (by kernel_rfl) (by kernel_rfl) (fun _ _ _ h => h) (by rfl) (by intro W hSw; obtain ⟨⟨j0, j1, j2⟩, -⟩ := c3_cells ((hSw.block _ (by omega)).trans hbox.out); clear hSw; go_simp) hq.out ?_
        try simp only [List.setIfInBounds_toArray, List.set_cons_zero, List.set_cons_succ]
        refine takeH 6 30 (.agg #[.int .i64 n, .int .i64 t.op, .int .i64 t.n, .slice a l c]) rfl rfl (by kernel_rfl) (by kernel_rfl) (by kernel_rfl) (fun _ _ _ h => h) (by rfl) (by intro W hSw; clear hSw; go_simp) hq.out ?_
        try simp only [List.setIfInBounds_toArray, List.set_cons_zero, List.set_cons_succ]
        refine wpAnyH_ready (rs := [3, 7]) (by kernel_rfl) (by simp) ?_
        refine AllReadyH.cons rfl (fun K hKc => ?_) (AllReadyH.cons rfl (fun K hKc => ?_) AllReadyH.nil)
        · rw [if_pos (by rfl)]
          obtain ⟨v1, W1, hr3, ho1, hg1⟩ := appB_run W W.heap.size (.slice none 0 0) y1 0 [] A (by omega) (World.ownsRow_nil _ _ _ _) (Nat.le_refl _) (hs1.out W hq.out)
          refine wp_builtin_append rfl rfl rfl hr3 ?_
          replace hq := Lib.hid (hq.out.grown hg1 hwr (fun q hq => by cases hq))
          have hWs1 : W.heap.size ≤ W1.heap.size := hg1.size
          simp only [List.nil_append, Nat.zero_add] at ho1
          refine hKc _ _ hq.out (fun _ => ?_)
          clear hKc K hr3
          try simp only [Act.put, List.setIfInBounds_toArray]
          refine wpAnyH_ready (rs := [7]) (by kernel_rfl) (by simp) ?_
          refine AllReadyH.cons rfl (fun K hKc => ?_) AllReadyH.nil
          go_simp
          replace hq := Lib.hid (hq.out.alloc (by omega) (.cells #[.int .i64 n, .int .i64 t.op, .int .i64 t.n, .slice a l c] 70))
          refine hKc _ _ hq.out (fun _ => ?_)
          clear hKc K
          try simp only [Act.put, List.setIfInBounds_toArray, List.set_cons_zero, List.set_cons_succ]
          refine wpAnyH_ready (rs := [8]) (by kernel_rfl) (by simp) ?_
          refine AllReadyH.cons rfl (fun K hKc => ?_) AllReadyH.nil
          rw [if_pos (by rfl)]
          refine wp_append_own _ _ _ 46 rfl W.heap.size 70 i0 _ 4 48 und46 hi hz0 hz1 hz2 rfl (by decide) v1 A.length (flatB A) rfl (ho1.alloc _) ⟨W1.heap.size, 0, none⟩ 1 1 [.int .i64 n, .int .i64 t.op, .int .i64 t.n, .slice a l c] rfl rfl (cell_four_new _ _ _ _ _ _) (fun x hx => by simp at hx; rcases hx with rfl | rfl | rfl | rfl <;> rfl) (by unfold maxLen; omega) (by omega) (by first | omega | (simp; omega)) ?_
          intro v2 W2 ho2 hg2 _
          have hWs2 : wr.heap.size ≤ W2.heap.size := by have := hg2.size; first | omega | (simp at this; omega)
          replace hq := Lib.hid (hq.out.grown hg2 (by first | omega | (simp; omega)) (fun q hq => by have := (ho1.lt q hq).1; first | omega | (simp at this; omega)))
          replace ho2 := ownsRow_wider (b' := wr.heap.size) (by omega) ho2
          refine hKc _ _ hq.out (fun _ => ?_)
          clear hKc K ho1 hg1 hg2
          try simp only [Act.put, List.setIfInBounds_toArray]
          refine takeH 9 8 v2 rfl rfl (by kernel_rfl) (by kernel_rfl) (by kernel_rfl) (fun _ _ _ h => h) (by rfl) (by intro W hSw; clear hSw; go_simp) hq.out ?_
          try simp only [List.setIfInBounds_toArray, List.set_cons_zero, List.set_cons_succ]
          refine wpAnyH_done (by kernel_rfl) ?_ _
          obtain ⟨v3, W3, hr3, ho3, hg3⟩ := appB_run W2 wr.heap.size v2 y2 (A.length + 1) (flatB A ++ [.int .i64 n, .int .i64 t.op, .int .i64 t.n, .slice a l c]) C (by omega) ho2 hWs2 (hs2.out W2 hq.out)
          have hq3 := Lib.hid (hq.out.grown hg3 (by omega) (fun q hq => by have := (ho2.lt q hq).1; omega))
          obtain ⟨va, vl, vc, rfl, g1, g2⟩ := hfin.out W3 v3 ho3 hq3.out
          have hend := Lib.hid (And.intro g1 g2)
          have hr2 := hr2'.out
          replace hr3 := Lib.hid hr3
          clear ho2 ho3 hg3 hq g1 g2
          go_wp2_with (first | (at_builtin; refine wpList_plain rfl fun K5 hK5 => wp_builtin_append rfl rfl rfl hr3.out (hK5 _ _ ?_)))
          go_ret
          exact ⟨va, vl, vc, rfl, hend.out.1, hend.out.2⟩
        · go_simp
          replace hq := Lib.hid (hq.out.alloc hwr (.cells #[.int .i64 n, .int .i64 t.op, .int .i64 t.n, .slice a l c] 70))
          refine hKc _ _ hq.out (fun _ => ?_)
          clear hKc K
          try simp only [Act.put, List.setIfInBounds_toArray, List.set_cons_zero, List.set_cons_succ]
          refine wpAnyH_ready (rs := [3]) (by kernel_rfl) (by simp) ?_
          refine AllReadyH.cons rfl (fun K hKc => ?_) AllReadyH.nil
          rw [if_pos (by rfl)]
          obtain ⟨v1, W1, hr3, ho1, hg1⟩ := appB_run (W.alloc (.cells #[.int .i64 n, .int .i64 t.op, .int .i64 t.n, .slice a l c] 70)) (W.heap.size + 1) (.slice none 0 0) y1 0 [] A (by omega) (World.ownsRow_nil _ _ _ _) (by simp) (hs1.out _ hq.out)
          refine wp_builtin_append rfl rfl rfl hr3 ?_
          replace hq := Lib.hid (hq.out.grown hg1 (by simp; omega) (fun q hq => by cases hq))
          have hWs1 : W.heap.size + 1 ≤ W1.heap.size := by have := hg1.size; simpa using this
          simp only [List.nil_append, Nat.zero_add] at ho1
          refine hKc _ _ hq.out (fun _ => ?_)
          clear hKc K hr3
          try simp only [Act.put, List.setIfInBounds_toArray]
          refine wpAnyH_ready (rs := [8]) (by kernel_rfl) (by simp) ?_
          refine AllReadyH.cons rfl (fun K hKc => ?_) AllReadyH.nil
          rw [if_pos (by rfl)]
          refine wp_append_own _ _ _ 46 rfl (W.heap.size + 1) 70 i0 _ 4 48 und46 hi hz0 hz1 hz2 rfl (by decide) v1 A.length (flatB A) rfl ho1 ⟨W.heap.size, 0, none⟩ 1 1 [.int .i64 n, .int .i64 t.op, .int .i64 t.n, .slice a l c] rfl rfl (fun j u hj => hg1.cell (cell_four_new W _ _ _ _ 70 j u hj) (fun h => by cases h)) (fun x hx => by simp at hx; rcases hx with rfl | rfl | rfl | rfl <;> rfl) (by unfold maxLen; omega) (by omega) (by first | omega | (simp; omega)) ?_
          intro v2 W2 ho2 hg2 _
          have hWs2 : wr.heap.size ≤ W2.heap.size := by have := hg2.size; first | omega | (simp at this; omega)
          replace hq := Lib.hid (hq.out.grown hg2 (by first | omega | (simp; omega)) (fun q hq => by have := (ho1.lt q hq).1; first | omega | (simp at this; omega)))
          replace ho2 := ownsRow_wider (b' := wr.heap.size) (by omega) ho2
          refine hKc _ _ hq.out (fun _ => ?_)
          clear hKc K ho1 hg1 hg2
          try simp only [Act.put]
          refine takeH 9 8 v2 rfl rfl (by kernel_rfl) (by kernel_rfl) (by kernel_rfl) (fun _ _ _ h => h) (by rfl) (by intro W hSw; clear hSw; go_simp) hq.out ?_
          try simp only [List.setIfInBounds_toArray, List.set_cons_zero, List.set_cons_succ]
          refine wpAnyH_done (by kernel_rfl) ?_ _
          obtain ⟨v3, W3, hr3, ho3, hg3⟩ := appB_run W2 wr.heap.size v2 y2 (A.length + 1) (flatB A ++ [.int .i64 n, .int .i64 t.op, .int .i64 t.n, .slice a l c]) C (by omega) ho2 hWs2 (hs2.out W2 hq.out)
          have hq3 := Lib.hid (hq.out.grown hg3 (by omega) (fun q hq => by have := (ho2.lt q hq).1; omega))
          obtain ⟨va, vl, vc, rfl, g1, g2⟩ := hfin.out W3 v3 ho3 hq3.out
          have hend := Lib.hid (And.intro g1 g2)
          have hr2 := hr2'.out
          replace hr3 := Lib.hid hr3
          clear ho2 ho3 hg3 hq g1 g2
          go_wp2_with (first | (at_builtin; refine wpList_plain rfl fun K5 hK5 => wp_builtin_append rfl rfl rfl hr3.out (hK5 _ _ ?_)))
          go_ret
          exact ⟨va, vl, vc, rfl, hend.out.1, hend.out.2⟩
      · go_upto_region 4 with fail
        refine region_named (S := fun W' => Below wr.heap.size wr W') (by kernel_rfl) (fun W hW => ?_)
        have hq : Hid (Below wr.heap.size wr W) := Lib.hid (by rw [hW]; exact (Below.refl _ _).drew)
        have hwr : wr.heap.size ≤ W.heap.size := hq.out.size
        clear hW
        refine takeH 0 24 (.slice (al) L.length cl) rfl rfl (by kernel_rfl) (by kernel_rfl) (by kernel_rfl) (fun _ _ _ h => h) (by rfl) (by intro W hSw; clear hSw; go_simp) hq.out ?_
        try simp only [List.setIfInBounds_toArray, List.set_cons_zero, List.set_cons_succ]
        refine takeH 1 25 (.int .i64 (k : Nat)) rfl rfl (by kernel_rfl) (by kernel_rfl) (by kernel_rfl) (fun _ _ _ h => h) (by rfl) (by intro W hSw; clear hSw; go_simp) hq.out ?_
        try simp only [List.setIfInBounds_toArray, List.set_cons_zero, List.set_cons_succ]
        refine takeH 2 26 y1 rfl rfl (by kernel_rfl) (by kernel_rfl) (by kernel_rfl) (fun _ _ _ h => h) (by rfl) (fun W _ => exec_slice rfl (hr1'.out W)) hq.out ?_
        try simp only [List.setIfInBounds_toArray, List.set_cons_zero, List.set_cons_succ]
        refine takeH 4 28 (.int .i64 n) rfl rfl (by kernel_rfl) (by kernel_rfl) (by kernel_rfl) (fun _ _ _ h => h) (by rfl) (by intro W hSw; clear hSw; go_simp) hq.out ?_
        try simp only [List.setIfInBounds_toArray, List.set_cons_zero, List.set_cons_succ]
        refine takeH 5 29 (.agg #[.int .i64 t.op, .int .i64 t.n, .slice a l c]) rfl rfl (by kernel_rfl) (by kernel_rfl) (by kernel_rfl) (fun _ _ _ h => h) (by rfl) (by intro W hSw; obtain ⟨⟨j0, j1, j2⟩, -⟩ := c3_cells ((hSw.block _ (by omega)).trans hbox.out); clear hSw; go_simp) hq.out ?_
        try simp only [List.setIfInBounds_toArray, List.set_cons_zero, List.set_cons_succ]
        refine takeH 6 30 (.agg #[.int .i64 n, .int .i64 t.op, .int .i64 t.n, .slice a l c]) rfl rfl (by kernel_rfl) (by kernel_rfl) (by kernel_rfl) (fun _ _ _ h => h) (by rfl) (by intro W hSw; clear hSw; go_simp) hq.out ?_
        try simp only [List.setIfInBounds_toArray, List.set_cons_zero, List.set_cons_succ]
        refine wpAnyH_ready (rs := [3, 7]) (by kernel_rfl) (by simp) ?_
        refine AllReadyH.cons rfl (fun K hKc => ?_) (AllReadyH.cons rfl (fun K hKc => ?_) AllReadyH.nil)
        · rw [if_pos (by rfl)]
          obtain ⟨v1, W1, hr3, ho1, hg1⟩ := appB_run W W.heap.size (.slice none 0 0) y1 0 [] A (by omega) (World.ownsRow_nil _ _ _ _) (Nat.le_refl _) (hs1.out W hq.out)
          refine wp_builtin_append rfl rfl rfl hr3 ?_
          replace hq := Lib.hid (hq.out.grown hg1 hwr (fun q hq => by cases hq))
          have hWs1 : W.heap.size ≤ W1.heap.size := hg1.size
          simp only [List.nil_append, Nat.zero_add] at ho1
          refine hKc _ _ hq.out (fun _ => ?_)
          clear hKc K hr3
          try simp only [Act.put, List.setIfInBounds_toArray]
          refine wpAnyH_ready (rs := [7]) (by kernel_rfl) (by simp) ?_
          refine AllReadyH.cons rfl (fun K hKc => ?_) AllReadyH.nil
          go_simp
          replace hq := Lib.hid (hq.out.alloc (by omega) (.cells #[.int .i64 n, .int .i64 t.op, .int .i64 t.n, .slice a l c] 70))
          refine hKc _ _ hq.out (fun _ => ?_)
          clear hKc K
          try simp only [Act.put, List.setIfInBounds_toArray, List.set_cons_zero, List.set_cons_succ]
          refine wpAnyH_ready (rs := [8]) (by kernel_rfl) (by simp) ?_
          refine AllReadyH.cons rfl (fun K hKc => ?_) AllReadyH.nil
          rw [if_pos (by rfl)]
          refine wp_append_own _ _ _ 46 rfl W.heap.size 70 i0 _ 4 48 und46 hi hz0 hz1 hz2 rfl (by decide) v1 A.length (flatB A) rfl (ho1.alloc _) ⟨W1.heap.size, 0, none⟩ 1 1 [.int .i64 n, .int .i64 t.op, .int .i64 t.n, .slice a l c] rfl rfl (cell_four_new _ _ _ _ _ _) (fun x hx => by simp at hx; rcases hx with rfl | rfl | rfl | rfl <;> rfl) (by unfold maxLen; omega) (by omega) (by first | omega | (simp; omega)) ?_
          intro v2 W2 ho2 hg2 _
          have hWs2 : wr.heap.size ≤ W2.heap.size := by have := hg2.size; first | omega | (simp at this; omega)
          replace hq := Lib.hid (hq.out.grown hg2 (by first | omega | (simp; omega)) (fun q hq => by have := (ho1.lt q hq).1; first | omega | (simp at this; omega)))
          replace ho2 := ownsRow_wider (b' := wr.heap.size) (by omega) ho2
          refine hKc _ _ hq.out (fun _ => ?_)
          clear hKc K ho1 hg1 hg2
          try simp only [Act.put, List.setIfInBounds_toArray]
          refine takeH 9 8 v2 rfl rfl (by kernel_rfl) (by kernel_rfl) (by kernel_rfl) (fun _ _ _ h => h) (by rfl) (by intro W hSw; clear hSw; go_simp) hq.out ?_
          try simp only [List.setIfInBounds_toArray, List.set_cons_zero, List.set_cons_succ]
          refine wpAnyH_done (by kernel_rfl) ?_ _
          obtain ⟨v3, W3, hr3, ho3, hg3⟩ := appB_run W2 wr.heap.size v2 y2 (A.length + 1) (flatB A ++ [.int .i64 n, .int .i64 t.op, .int .i64 t.n, .slice a l c]) C (by omega) ho2 hWs2 (hs2.out W2 hq.out)
          have hq3 := Lib.hid (hq.out.grown hg3 (by omega) (fun q hq => by have := (ho2.lt q hq).1; omega))
          obtain ⟨va, vl, vc, rfl, g1, g2⟩ := hfin.out W3 v3 ho3 hq3.out
          have hend := Lib.hid (And.intro g1 g2)
          have hr2 := hr2'.out
          replace hr3 := Lib.hid hr3
          clear ho2 ho3 hg3 hq g1 g2
          go_wp2_with (first | (at_builtin; refine wpList_plain rfl fun K5 hK5 => wp_builtin_append rfl rfl rfl hr3.out (hK5 _ _ ?_)))
          go_ret
          exact ⟨va, vl, vc, rfl, hend.out.1, hend.out.2⟩
        · go_simp
          replace hq := Lib.hid (hq.out.alloc hwr (.cells #[.int .i64 n, .int .i64 t.op, .int .i64 t.n, .slice a l c] 70))
          refine hKc _ _ hq.out (fun _ => ?_)
          clear hKc K
          try simp only [Act.put, List.setIfInBounds_toArray, List.set_cons_zero, List.set_cons_succ]
          refine wpAnyH_ready (rs := [3]) (by kernel_rfl) (by simp) ?_
          refine AllReadyH.cons rfl (fun K hKc => ?_) AllReadyH.nil
          rw [if_pos (by rfl)]
          obtain ⟨v1, W1, hr3, ho1, hg1⟩ := appB_run (W.alloc (.cells #[.int .i64 n, .int .i64 t.op, .int .i64 t.n, .slice a l c] 70)) (W.heap.size + 1) (.slice none 0 0) y1 0 [] A (by omega) (World.ownsRow_nil _ _ _ _) (by simp) (hs1.out _ hq.out)
          refine wp_builtin_append rfl rfl rfl hr3 ?_
          replace hq := Lib.hid (hq.out.grown hg1 (by simp; omega) (fun q hq => by cases hq))
          have hWs1 : W.heap.size + 1 ≤ W1.heap.size := by have := hg1.size; simpa using this
          simp only [List.nil_append, Nat.zero_add] at ho1
          refine hKc _ _ hq.out (fun _ => ?_)
          clear hKc K hr3
          try simp only [Act.put, List.setIfInBounds_toArray]
          refine wpAnyH_ready (rs := [8]) (by kernel_rfl) (by simp) ?_
          refine AllReadyH.cons rfl (fun K hKc => ?_) AllReadyH.nil
          rw [if_pos (by rfl)]
          refine wp_append_own _ _ _ 46 rfl (W.heap.size + 1) 70 i0 _ 4 48 und46 hi hz0 hz1 hz2 rfl (by decide) v1 A.length (flatB A) rfl ho1 ⟨W.heap.size, 0, none⟩ 1 1 [.int .i64 n, .int .i64 t.op, .int .i64 t.n, .slice a l c] rfl rfl (fun j u hj => hg1.cell (cell_four_new W _ _ _ _ 70 j u hj) (fun h => by cases h)) (fun x hx => by simp at hx; rcases hx with rfl | rfl | rfl | rfl <;> rfl) (by unfold maxLen; omega) (by omega) (by first | omega | (simp; omega)) ?_
          intro v2 W2 ho2 hg2 _
          have hWs2 : wr.heap.size ≤ W2.heap.size := by have := hg2.size; first | omega | (simp at this; omega)
          replace hq := Lib.hid (hq.out.grown hg2 (by first | omega | (simp; omega)) (fun q hq => by have := (ho1.lt q hq).1; first | omega | (simp at this; omega)))
          replace ho2 := ownsRow_wider (b' := wr.heap.size) (by omega) ho2
          refine hKc _ _ hq.out (fun _ => ?_)
          clear hKc K ho1 hg1 hg2
          try simp only [Act.put]
          refine takeH 9 8 v2 rfl rfl (by kernel_rfl) (by kernel_rfl) (by kernel_rfl) (fun _ _ _ h => h) (by rfl) (by intro W hSw; clear hSw; go_simp) hq.out ?_
          try simp only [List.setIfInBounds_toArray, List.set_cons_zero, List.set_cons_succ]
          refine wpAnyH_done (by kernel_rfl) ?_ _
          obtain ⟨v3, W3, hr3, ho3, hg3⟩ := appB_run W2 wr.heap.size v2 y2 (A.length + 1) (flatB A ++ [.int .i64 n, .int .i64 t.op, .int .i64 t.n, .slice a l c]) C (by omega) ho2 hWs2 (hs2.out W2 hq.out)
          have hq3 := Lib.hid (hq.out.grown hg3 (by omega) (fun q hq => by have := (ho2.lt q hq).1; omega))
          obtain ⟨va, vl, vc, rfl, g1, g2⟩ := hfin.out W3 v3 ho3 hq3.out
          have hend := Lib.hid (And.intro g1 g2)
          have hr2 := hr2'.out
          replace hr3 := Lib.hid hr3
          clear ho2 ho3 hg3 hq g1 g2
          go_wp2_with (first | (at_builtin; refine wpList_plain rfl fun K5 hK5 => wp_builtin_append rfl rfl rfl hr3.out (hK5 _ _ ?_)))
          go_ret
          exact ⟨va, vl, vc, rfl, hend.out.1, hend.out.2⟩

end Go.Proofs.YthlegfegkopdkaaGreat

namespace Go.Proofs.YthlegfegkopdkaaGreat
open Go.RowKit Go.Shelf Go.Sort

/-- The row of bindings that a loop has made. -/
def QRow (n₀ base : Nat) (w : World) (L : List (Int × Tm)) (va : Option Addr) (vl vc : Nat) : Prop :=
  ∃ K : List Bd, K.map (fun b => (b.v, b.k.t)) = L ∧ w.ownsRow base 70 4 (.slice va vl vc) L.length (flatB K) ∧ ∀ x ∈ K, TmP (fun b => (b < n₀ ∨ base ≤ b) ∧ (Value.slice va vl vc).ownBlock ≠ some b) w x.k.t x.k.a x.k.l x.k.c
theorem QRow.nil (n₀ base : Nat) (w : World) : QRow n₀ base w [] none 0 0 := ⟨[], rfl, World.ownsRow_nil _ _ _ _, by simp⟩
theorem QRow.is {n₀ base : Nat} {w : World} {L : List (Int × Tm)} {va : Option Addr} {vl vc : Nat} (h : QRow n₀ base w L va vl vc) : IsBinds w.heap.size w L va vl vc := by
  obtain ⟨K, h1, h2, h3⟩ := h
  have hlen : K.length = L.length := by rw [← h1, List.length_map]
  rw [← hlen] at h2
  obtain ⟨va', vl', vc', e, hI⟩ := own_is h2 (fun x hx => TmP.is (fun _ hb => hb.2) _ (h3 x hx).lt)
  rw [h1] at hI
  cases e
  exact hI
theorem QRow.step {n₀ base : Nat} {wr W1 w2 : World} {L : List (Int × Tm)} {va : Option Addr} {vl vc g cap : Nat} {v : Int} {t : Tm} {a' : Option Addr} {l' c' : Nat} {K : List Bd}
    (h1 : K.map (fun b => (b.v, b.k.t)) = L) (h2 : wr.ownsRow base 70 4 (.slice va vl vc) L.length (flatB K)) (h3 : ∀ x ∈ K, TmP (fun b => (b < n₀ ∨ base ≤ b) ∧ (Value.slice va vl vc).ownBlock ≠ some b) wr x.k.t x.k.a x.k.l x.k.c)
    (hA : ∀ j, j < wr.heap.size → W1.heap[j]? = wr.heap[j]?) (hz : wr.heap.size ≤ W1.heap.size) (hn : n₀ ≤ base) (hb : base ≤ wr.heap.size)
    (hk : TmP (fun b => (b < n₀ ∨ wr.heap.size ≤ b) ∧ b < W1.heap.size) W1 t a' l' c')
    (hgrow : W1.grownBy w2 (Value.slice va vl vc).ownBlock)
    (hown : w2.ownsRow base 70 4 (.slice (some ⟨g, 0, none⟩) (L.length + 1) cap) (L.length + 1) (flatB K ++ [.int .i64 v, .int .i64 t.op, .int .i64 t.n, .slice a' l' c']))
    (hat : (Value.slice va vl vc).ownBlock = some g ∨ g = W1.heap.size) :
    QRow n₀ base w2 (L ++ [(v, t)]) (some ⟨g, 0, none⟩) (L.length + 1) cap := by
  have hnb : ∀ j, (Value.slice va vl vc).ownBlock = some j → base ≤ j ∧ j < wr.heap.size := fun j h => own_base h2 h
  have hne : ∀ j, j < W1.heap.size → (Value.slice va vl vc).ownBlock ≠ some j → (Value.slice (some ⟨g, 0, none⟩) (L.length + 1) cap).ownBlock ≠ some j := fun j hj hn e => by
    have : g = j := by simpa [Value.ownBlock] using e
    subst this
    rcases hat with h | h
    · exact hn h
    · omega
  refine ⟨K ++ [⟨v, ⟨t, a', l', c'⟩⟩], by simp [h1], ?_, ?_⟩
  · rw [flatB_snoc, List.length_append]
    exact hown
  · intro x hx
    rcases List.mem_append.1 hx with hx | hx
    · exact TmP.move (fun b hb' hlt => ⟨⟨hb'.1, hne b (by omega) hb'.2⟩, (hgrow.block b (by omega) (fun e => hb'.2 e.symm)).trans (hA b hlt)⟩) _ (h3 x hx)
    · obtain rfl := List.mem_singleton.1 hx
      refine TmP.move (fun b hb' hlt => ?_) _ hk
      have hnb' : (Value.slice va vl vc).ownBlock ≠ some b := fun e => by have h9 := hnb b e; rcases hb'.1 with h | h <;> omega
      exact ⟨⟨hb'.1.elim .inl (fun h => .inr (by omega)), hne b hb'.2 hnb'⟩, hgrow.block b hlt (fun e => hnb' e.symm)⟩

/-- One variable's binding, put in. -/
def one1 (n : Int) (t : Tm) : Int → Tm := subL [(n, t)]
def solvedL (L : List (Int × Tm)) (n : Int) (t : Tm) : List (Int × Tm) := bindL (L.map fun x => (x.1, sb (one1 n t) x.2)) n t

theorem one_binds (n : Int) (t : Tm) (n₀ : Nat) (W : World) (a : Option Addr) (l c : Nat) (ht : IsTm n₀ W t a l c) (hn : n₀ ≤ W.heap.size) :
    IsBinds2 (W.heap.size + 1) n₀ (W.alloc (.cells #[.int .i64 n, .int .i64 t.op, .int .i64 t.n, .slice a l c] 70)) [(n, t)] (some ⟨W.heap.size, 0, none⟩) 1 1 := by
  refine ⟨rfl, by omega, by omega, .inr ⟨W.heap.size, 0, rfl, by omega, fun k hk => ?_⟩⟩
  have hk0 : k = 0 := by simp at hk; omega
  subst hk0
  exact ⟨by go_cell, a, l, c, ⟨by go_cell, by go_cell, by go_cell⟩, IsTm.below ((Below.refl _ _).alloc hn _) _ ht⟩

set_option maxRecDepth 100000 in
set_option maxHeartbeats 4000000 in
theorem rsolved_any (L : List (Int × Tm)) (n : Int) (t : Tm) (n₀ : Nat) (w : World) (al : Option Addr) (ll cl : Nat) (a : Option Addr) (l c : Nat) (hL : IsBinds n₀ w L al ll cl) (hlen : L.length ≤ 400) (hv : ∀ x ∈ L, vtB x.2 = true) (ht : IsTm n₀ w t a l c) (hn : n₀ ≤ w.heap.size) :
    Calls Tryz.prog 116 #[.slice al ll cl, .int .i64 n, .agg #[.int .i64 t.op, .int .i64 t.n, .slice a l c]] w fun e w' => ∃ va vl vc, e = .returned (.slice va vl vc) ∧ IsBinds w'.heap.size w' (solvedL L n t) va vl vc ∧ Below w.heap.size w w' := by
  obtain ⟨i0, hi, hz0, hz1, hz2⟩ := info_parts inf70
  have hll : ll = L.length := hL.1
  subst hll
  obtain ⟨w0, hw0⟩ : ∃ W, W = w.alloc (.cells #[.int .i64 t.op, .int .i64 t.n, .slice a l c] 28) := ⟨_, rfl⟩
  have hB0 : Below w.heap.size w w0 := by rw [hw0]; exact bal _ _
  have hz0' : w0.heap.size = w.heap.size + 1 := by rw [hw0]; simp
  have hbox : w0.heap[w.heap.size]? = some (.cells #[.int .i64 t.op, .int .i64 t.n, .slice a l c] 28 (0, 0)) := by rw [hw0]; exact heap_new'' _ _
  obtain ⟨σ, hσ⟩ : ∃ σ, σ = one1 n t := ⟨_, rfl⟩
  -- the i-th binding, and its Term with the new one put in, in every world behind
  have hAt : Hid (∀ k (hk : k < L.length) W, Below w0.heap.size w0 W → ∃ b off a' l' c', al = some ⟨b, off, none⟩ ∧ W.cell? ⟨b, off + k * 4, none⟩ = some (.int .i64 L[k].1) ∧ Cells3 W b (off + k * 4 + 1) L[k].2.op L[k].2.n a' l' c' ∧
      Calls Tryz.prog 29 #[.agg #[.int .i64 L[k].2.op, .int .i64 L[k].2.n, .slice a' l' c'], .slice (some ⟨W.heap.size, 0, none⟩) 1 1] (W.alloc (.cells #[.int .i64 n, .int .i64 t.op, .int .i64 t.n, .slice a l c] 70)) (SubEnd n₀ (W.alloc (.cells #[.int .i64 n, .int .i64 t.op, .int .i64 t.n, .slice a l c] 70)) (sb σ L[k].2))) := Lib.hid (fun k hk W hW => by
    have hbw : Below n₀ w W := (hB0.mono hn).trans (hW.mono (by omega))
    have hzw := hW.size
    obtain ⟨-, -, -, h3⟩ := hL.below hbw
    rcases h3 with h3 | ⟨b, off, ha, hb, h3⟩
    · rw [h3] at hk; simp at hk
    · obtain ⟨c0, a', l', c', c1, hT⟩ := h3 k hk
      refine ⟨b, off, a', l', c', ha, c0, c1, ?_⟩
      rw [hσ]
      exact rSubst_any L[k].2.size L[k].2 [(n, t)] (W.heap.size + 1) n₀ _ a' l' c' _ 1 1 (Nat.le_refl _) (hv _ (List.getElem_mem hk)) (IsTm.below ((Below.refl _ _).alloc (by omega) _) _ hT) (one_binds n t n₀ W a l c (IsTm.below hbw _ ht) (by omega)) (by omega) (by simp))
  have hfin : Hid (∀ W va vl vc, Below w0.heap.size w0 W → IsBinds W.heap.size W (L.map fun x => (x.1, sb σ x.2)) va vl vc → Calls Tryz.prog 115 #[.slice va vl vc, .int .i64 n, .agg #[.int .i64 t.op, .int .i64 t.n, .slice a l c]] W fun e w' => ∃ va vl vc, e = .returned (.slice va vl vc) ∧ IsBinds w'.heap.size w' (solvedL L n t) va vl vc ∧ Below W.heap.size W w') := Lib.hid (fun W va vl vc hW hI => by
    have hbw : Below n₀ w W := (hB0.mono hn).trans (hW.mono (by omega))
    have hzw := hW.size
    unfold solvedL
    rw [← hσ]
    exact rbind_any _ n t W.heap.size W va vl vc a l c hI (by simp; omega) ((IsTm.below hbw _ ht).wider (by omega)) (Nat.le_refl _))
  have hst : Hid (Below w0.heap.size w0 w0) := Lib.hid (Below.refl _ _)
  replace hbox := Lib.hid hbox
  have hz0'' := Lib.hid hz0'
  have hnz : Hid (n₀ ≤ w0.heap.size) := Lib.hid (by omega)
  clear hL ht hv hσ hz0'
  go_enter Tryz.func116, Tryz.ntmps116
  go_upto_region 3 with fail
  rw [← hw0]
  replace hw0 := Lib.hid hw0
  replace hB0 := Lib.hid hB0
  go_loopw [7, 8] (fun v i W => ∃ k va vl vc, k ≤ L.length ∧ i = .int .i64 (k : Nat) ∧ v = .slice va vl vc ∧ Hid (QRow n₀ w0.heap.size W ((L.take k).map fun x => (x.1, sb σ x.2)) va vl vc) ∧ Hid (Below w0.heap.size w0 W)) (fun _ i _ => L.length - (intOf i).toNat)
  case atStart => exact ⟨0, none, 0, 0, by omega, rfl, rfl, Lib.hid (QRow.nil _ _ _), hst⟩
  case round =>
    obtain ⟨k, va, vl, vc, hkl, rfl, rfl, hK, hb⟩ := hrel
    have hzb := hb.out.size
    have hzz := hz0''.out
    by_cases hlt : k < L.length
    · have o1 : (k : Int) < (L.length : Int) := by omega
      obtain ⟨b, off, -, -, -, rfl, -, -, -⟩ := hAt.out k hlt wr hb.out
      obtain ⟨K, h1', h2', h3'⟩ := hK.out
      have hlen2 : ((L.take k).map fun x => (x.1, sb σ x.2)).length = k := by simp; omega
      obtain ⟨x, hx⟩ : ∃ x, x = L[k] := ⟨_, rfl⟩
      have hT1 : Hid (((L.take (k + 1)).map fun x => (x.1, sb σ x.2)) = ((L.take k).map fun x => (x.1, sb σ x.2)) ++ [(x.1, sb σ x.2)]) := Lib.hid (by rw [hx, List.take_succ_eq_append_getElem hlt, List.map_append]; rfl)
      obtain ⟨T, hT⟩ : ∃ T, T = sb σ x.2 := ⟨_, rfl⟩
      obtain ⟨a', l', c', hA1⟩ : ∃ a' l' c', Hid (∀ W, Below w0.heap.size w0 W → W.cell? ⟨b, off + k * 4, none⟩ = some (.int .i64 x.1) ∧ Cells3 W b (off + k * 4 + 1) x.2.op x.2.n a' l' c' ∧
          Calls Tryz.prog 29 #[.agg #[.int .i64 x.2.op, .int .i64 x.2.n, .slice a' l' c'], .slice (some ⟨W.heap.size, 0, none⟩) 1 1] (W.alloc (.cells #[.int .i64 n, .int .i64 t.op, .int .i64 t.n, .slice a l c] 70)) (SubEnd n₀ (W.alloc (.cells #[.int .i64 n, .int .i64 t.op, .int .i64 t.n, .slice a l c] 70)) T)) := by
        obtain ⟨b2, off2, a', l', c', e, -, ⟨q0, q1, q2⟩, -⟩ := hAt.out k hlt w0 hst.out
        cases e
        refine ⟨a', l', c', Lib.hid (fun W hW => ?_)⟩
        obtain ⟨b3, off3, a3, l3, c3, e3, r0, ⟨r1, r2, r3⟩, r4⟩ := hAt.out k hlt W hW
        cases e3
        have hbl : b < w0.heap.size := World.block_lt_of_cell? w0 _ q2
        have := (hW.cell (p := ⟨b, off + k * 4 + 1 + 2, none⟩) hbl).symm.trans r3
        rw [q2] at this
        simp only [Option.some.injEq, Value.slice.injEq] at this
        obtain ⟨rfl, rfl, rfl⟩ := this
        rw [hT, hx]
        exact ⟨r0, ⟨r1, r2, r3⟩, r4⟩
      rw [← hT] at hT1
      have hbox1 : Hid (∀ W, Below w0.heap.size w0 W → W.heap[w.heap.size]? = some (.cells #[.int .i64 t.op, .int .i64 t.n, .slice a l c] 28 (0, 0))) := Lib.hid (fun W hW => (hW.block _ (by omega)).trans hbox.out)
      replace h1' := Lib.hid h1'
      replace h2' := Lib.hid h2'
      replace h3' := Lib.hid h3'
      replace hlen2 := Lib.hid hlen2
      clear hx hT hK
      go_upto_region 5 with fail
      refine region_named (S := fun W' => Below w0.heap.size w0 W') (by kernel_rfl) (fun W hW => ?_)
      have hq : Hid (Below wr.heap.size wr W) := Lib.hid (by rw [hW]; exact (Below.refl _ _).drew)
      have hqs : Hid (Below w0.heap.size w0 W) := Lib.hid (Below.up hb.out hq.out)
      have hwr : wr.heap.size ≤ W.heap.size := hq.out.size
      clear hW
      refine takeH 0 15 (.slice va vl vc) rfl rfl (by kernel_rfl) (by kernel_rfl) (by kernel_rfl) (fun _ _ _ h => h) (by rfl) (by intro W hSw; clear hSw; go_simp) hqs.out ?_
      try simp only [List.setIfInBounds_toArray, List.set_cons_zero, List.set_cons_succ]
      refine takeH 1 16 (.slice (some ⟨b, off, none⟩) L.length cl) rfl rfl (by kernel_rfl) (by kernel_rfl) (by kernel_rfl) (fun _ _ _ h => h) (by rfl) (by intro W hSw; clear hSw; go_simp) hqs.out ?_
      try simp only [List.setIfInBounds_toArray, List.set_cons_zero, List.set_cons_succ]
      refine takeH 2 17 (.int .i64 (k : Nat)) rfl rfl (by kernel_rfl) (by kernel_rfl) (by kernel_rfl) (fun _ _ _ h => h) (by rfl) (by intro W hSw; clear hSw; go_simp) hqs.out ?_
      try simp only [List.setIfInBounds_toArray, List.set_cons_zero, List.set_cons_succ]
      refine takeH 3 18 (.pointer (some ⟨b, off + k * 4, none⟩)) rfl rfl (by kernel_rfl) (by kernel_rfl) (by kernel_rfl) (fun _ _ _ h => h) (by rfl) (by intro W hSw; clear hSw; go_simp) hqs.out ?_
      try simp only [List.setIfInBounds_toArray, List.set_cons_zero, List.set_cons_succ]
      refine takeH 4 19 (.pointer (some ⟨b, off + k * 4, none⟩)) rfl rfl (by kernel_rfl) (by kernel_rfl) (by kernel_rfl) (fun _ _ _ h => h) (by rfl) (by intro W hSw; clear hSw; go_simp) hqs.out ?_
      try simp only [List.setIfInBounds_toArray, List.set_cons_zero, List.set_cons_succ]
      refine takeH 5 20 (.int .i64 x.1) rfl rfl (by kernel_rfl) (by kernel_rfl) (by kernel_rfl) (fun _ _ _ h => h) (by rfl) (by intro W hSw; obtain ⟨j0, -, -⟩ := hA1.out W hSw; clear hSw; go_simp) hqs.out ?_
      try simp only [List.setIfInBounds_toArray, List.set_cons_zero, List.set_cons_succ]
      refine takeH 6 21 (.slice (some ⟨b, off, none⟩) L.length cl) rfl rfl (by kernel_rfl) (by kernel_rfl) (by kernel_rfl) (fun _ _ _ h => h) (by rfl) (by intro W hSw; clear hSw; go_simp) hqs.out ?_
      try simp only [List.setIfInBounds_toArray, List.set_cons_zero, List.set_cons_succ]
      refine takeH 7 22 (.int .i64 (k : Nat)) rfl rfl (by kernel_rfl) (by kernel_rfl) (by kernel_rfl) (fun _ _ _ h => h) (by rfl) (by intro W hSw; clear hSw; go_simp) hqs.out ?_
      try simp only [List.setIfInBounds_toArray, List.set_cons_zero, List.set_cons_succ]
      refine takeH 8 23 (.pointer (some ⟨b, off + k * 4, none⟩)) rfl rfl (by kernel_rfl) (by kernel_rfl) (by kernel_rfl) (fun _ _ _ h => h) (by rfl) (by intro W hSw; clear hSw; go_simp) hqs.out ?_
      try simp only [List.setIfInBounds_toArray, List.set_cons_zero, List.set_cons_succ]
      refine takeH 9 24 (.pointer (some ⟨b, off + k * 4 + 1, none⟩)) rfl rfl (by kernel_rfl) (by kernel_rfl) (by kernel_rfl) (fun _ _ _ h => h) (by rfl) (by intro W hSw; clear hSw; go_simp) hqs.out ?_
      try simp only [List.setIfInBounds_toArray, List.set_cons_zero, List.set_cons_succ]
      refine takeH 10 25 (.agg #[.int .i64 x.2.op, .int .i64 x.2.n, .slice a' l' c']) rfl rfl (by kernel_rfl) (by kernel_rfl) (by kernel_rfl) (fun _ _ _ h => h) (by rfl) (by intro W hSw; obtain ⟨-, ⟨j0, j1, j2⟩, -⟩ := hA1.out W hSw; clear hSw; go_simp) hqs.out ?_
      try simp only [List.setIfInBounds_toArray, List.set_cons_zero, List.set_cons_succ]
      refine takeH 11 26 (.int .i64 n) rfl rfl (by kernel_rfl) (by kernel_rfl) (by kernel_rfl) (fun _ _ _ h => h) (by rfl) (by intro W hSw; clear hSw; go_simp) hqs.out ?_
      try simp only [List.setIfInBounds_toArray, List.set_cons_zero, List.set_cons_succ]
      refine takeH 12 27 (.agg #[.int .i64 t.op, .int .i64 t.n, .slice a l c]) rfl rfl (by kernel_rfl) (by kernel_rfl) (by kernel_rfl) (fun _ _ _ h => h) (by rfl) (by intro W hSw; obtain ⟨⟨j0, j1, j2⟩, -⟩ := c3_cells (hbox1.out W hSw); clear hSw; go_simp) hqs.out ?_
      try simp only [List.setIfInBounds_toArray, List.set_cons_zero, List.set_cons_succ]
      refine takeH 13 28 (.agg #[.int .i64 n, .int .i64 t.op, .int .i64 t.n, .slice a l c]) rfl rfl (by kernel_rfl) (by kernel_rfl) (by kernel_rfl) (fun _ _ _ h => h) (by rfl) (by intro W hSw; clear hSw; go_simp) hqs.out ?_
      try simp only [List.setIfInBounds_toArray, List.set_cons_zero, List.set_cons_succ]
      refine wpAnyH_ready (rs := [14]) (by kernel_rfl) (by simp) ?_
      refine AllReadyH.cons rfl (fun K5 hKc => ?_) AllReadyH.nil
      go_simp
      have hC := Lib.hid ((hA1.out W hqs.out).2.2)
      have hq2 : Hid (Below wr.heap.size wr (W.alloc (.cells #[.int .i64 n, .int .i64 t.op, .int .i64 t.n, .slice a l c] 70))) := Lib.hid (hq.out.alloc hwr _)
      refine hKc _ _ (Below.up hb.out hq2.out) (fun _ => ?_)
      clear hKc K5
      try simp only [Act.put, List.setIfInBounds_toArray, List.set_cons_zero, List.set_cons_succ]
      refine wpAnyH_ready (rs := [15]) (by kernel_rfl) (by simp) ?_
      refine AllReadyH.cons rfl (fun K5 hKc => ?_) AllReadyH.nil
      go_simp
      go_at_call 29
      refine (hC.out).mono ?_
      rintro e w1 ⟨a1, l1, c1, rfl, hM, hb1⟩
      have hz1 := hb1.size
      have hzw1 : W.heap.size + 1 ≤ w1.heap.size := by simpa using hz1
      have hq3 : Hid (Below wr.heap.size wr w1) := Lib.hid (Below.up hq2.out hb1)
      have hA3 : Hid (∀ j, j < wr.heap.size → w1.heap[j]? = wr.heap[j]?) := Lib.hid (fun j hj => hq3.out.block j hj)
      have h2'' : Hid (w1.ownsRow w0.heap.size 70 4 (.slice va vl vc) k (flatB K)) := Lib.hid (by have h9 := h2'.out; rw [hlen2.out] at h9; exact own_stays h9 (fun g _ hg => hA3.out g hg))
      have hM2 : Hid (TmP (fun b => (b < n₀ ∨ wr.heap.size ≤ b) ∧ b < w1.heap.size) w1 T a1 l1 c1) := Lib.hid (TmP.move (fun b hb' hlt => ⟨⟨hb'.elim .inl (fun h => .inr (by simp at h; omega)), hlt⟩, rfl⟩) _ hM)
      clear hC hM hb1 hq2 hz1
      refine hKc _ _ (Below.up hb.out hq3.out) (fun _ => ?_)
      clear hKc K5
      try simp only [Act.put, List.setIfInBounds_toArray, List.set_cons_zero, List.set_cons_succ]
      refine takeH 16 31 (.agg #[.int .i64 x.1, .int .i64 T.op, .int .i64 T.n, .slice a1 l1 c1]) rfl rfl (by kernel_rfl) (by kernel_rfl) (by kernel_rfl) (fun _ _ _ h => h) (by rfl) (by intro W hSw; clear hSw; go_simp) (Below.up hb.out hq3.out) ?_
      try simp only [List.setIfInBounds_toArray, List.set_cons_zero, List.set_cons_succ]
      refine wpAnyH_ready (rs := [17]) (by kernel_rfl) (by simp) ?_
      refine AllReadyH.cons rfl (fun K5 hKc => ?_) AllReadyH.nil
      go_simp
      have hq4 : Hid (Below wr.heap.size wr (w1.alloc (.cells #[.int .i64 x.1, .int .i64 T.op, .int .i64 T.n, .slice a1 l1 c1] 70))) := Lib.hid (hq3.out.alloc (by omega) _)
      refine hKc _ _ (Below.up hb.out hq4.out) (fun _ => ?_)
      clear hKc K5
      try simp only [Act.put, List.setIfInBounds_toArray, List.set_cons_zero, List.set_cons_succ]
      refine wpAnyH_ready (rs := [18]) (by kernel_rfl) (by simp) ?_
      refine AllReadyH.cons rfl (fun K5 hKc => ?_) AllReadyH.nil
      rw [if_pos (by rfl)]
      refine wp_append_lies _ _ _ _ rfl w0.heap.size 70 i0 _ 4 48 und46 hi hz0 hz1 hz2 rfl (by omega) (.slice va vl vc) k (flatB K) (by rfl) (h2''.out.alloc _)
        ⟨w1.heap.size, 0, none⟩ 1 1 [.int .i64 x.1, .int .i64 T.op, .int .i64 T.n, .slice a1 l1 c1] (by rfl) (by rfl) (World.news_of_block (cs := #[.int .i64 x.1, .int .i64 T.op, .int .i64 T.n, .slice a1 l1 c1]) (t := 70) (fr := (0, 0)) (heap_new' _ rfl)) (by simp [Value.oneCell'])
        (by omega) (by unfold maxLen; omega) (by omega) (by simp; omega) (w1.heap.size + 1) (by simp) ?_
      intro gg cap2 w2 hown1 hgrow hat hlt2
      have hq5 : Hid (Below w0.heap.size w0 w2) := Lib.hid ((Below.up hb.out hq4.out).grown hgrow (by simp; omega) (fun q hq => (own_base h2''.out hq).1))
      have hst := QRow.step (v := x.1) (W1 := w1.alloc (.cells #[.int .i64 x.1, .int .i64 T.op, .int .i64 T.n, .slice a1 l1 c1] 70)) h1'.out h2'.out h3'.out (fun j hj => (Below.heap_alloc _ _ j (by omega)).trans (hA3.out j hj)) (by simp; omega) hnz.out hzb
        (TmP.move (fun b hb' hlt => ⟨⟨hb'.1, by have := hb'.2; simp; omega⟩, Below.heap_alloc _ _ b hlt⟩) _ hM2.out) hgrow (by rw [hlen2.out]; exact hown1) (by simpa using hat)
      rw [hlen2.out, ← hT1.out] at hst
      replace hst := Lib.hid hst
      clear hown1 hgrow hat hM2 h2'' hA3
      refine hKc _ _ hq5.out (fun _ => ?_)
      clear hKc K5
      try simp only [Act.put, List.setIfInBounds_toArray]
      refine takeH 19 7 (.slice (some ⟨gg, 0, none⟩) (k + 1) cap2) rfl rfl (by kernel_rfl) (by kernel_rfl) (by kernel_rfl) (fun _ _ _ h => h) (by rfl) (by intro W hSw; clear hSw; go_simp) hq5.out ?_
      try simp only [List.setIfInBounds_toArray, List.set_cons_zero, List.set_cons_succ]
      refine wpAnyH_done (by kernel_rfl) ?_ _
      go_wp2_with fail
      go_roundw
      case rel => exact ⟨k + 1, _, _, _, by omega, by go_num, rfl, hst, hq5⟩
      case measure => simp [intOf]; omega
    · obtain rfl : k = L.length := by omega
      have o1 : ¬ (L.length : Int) < (L.length : Int) := by omega
      have hKf := hK.out.is
      rw [List.take_length] at hKf
      have hC := Lib.hid (hfin.out wr va vl vc hb.out hKf)
      obtain ⟨⟨p0, p1, p2⟩, -⟩ := c3_cells ((hb.out.block w.heap.size (by omega)).trans hbox.out)
      have hbw : Hid (Below w.heap.size w wr) := Lib.hid (Below.up hB0.out hb.out)
      clear hK hKf
      go_wp2_with (go_at_call 115; refine (hC.out).mono ?_; rintro e w' ⟨va', vl', vc', rfl, g1, g2⟩)
      go_ret
      exact ⟨va', vl', vc', rfl, g1, Below.up hbw.out g2⟩

end Go.Proofs.YthlegfegkopdkaaGreat

namespace Go.Proofs.YthlegfegkopdkaaGreat
open Go.RowKit Go.Shelf Go.Sort

mutual
/-- Whether a variable stands in a value. -/
def occ (v : Int) : Tm → Bool
  | .mk op n ks => (op == 1 && n == v) || occs v ks
def occs (v : Int) : List Tm → Bool
  | [] => false
  | t :: ts => occ v t || occs v ts
end
theorem occs_iff {v : Int} {ks : List Tm} : occs v ks = true ↔ ∃ t ∈ ks, occ v t = true := by
  induction ks with
  | nil => simp [occs]
  | cons t ts ih => simp [occs, ih]
theorem occ_iff {v : Int} {t : Tm} : occ v t = true ↔ (t.op = 1 ∧ t.n = v) ∨ ∃ k ∈ t.kids, occ v k = true := by
  cases t with
  | mk op n ks => simp [occ, occs_iff, Tm.op, Tm.n, Tm.kids]
theorem occ_var {v n : Int} : occ v (.mk 1 n []) = true ↔ n = v := by simp [occ, occs]

/-- An induction over the kids of a term. -/
theorem tm_ind {P : Tm → Prop} (h : ∀ t : Tm, (∀ k ∈ t.kids, P k) → P t) (t : Tm) : P t := by
  have : ∀ N (t : Tm), t.size ≤ N → P t := by
    intro N
    induction N with
    | zero => intro t ht; have := size_pos t; omega
    | succ N ih =>
      intro t ht
      refine h t fun k hk => ih k ?_
      have := sizes_mem hk
      have := size_eq t
      omega
  exact this _ t (Nat.le_refl _)

theorem sb_sb (θ σ : Int → Tm) : ∀ t : Tm, sb θ (sb σ t) = sb (fun v => sb θ (σ v)) t := tm_ind fun t ih => by
  by_cases h1 : t.op = 1
  · rw [sb_var1 σ h1, sb_var1 _ h1]
  · rw [sb_node1 σ h1, sb_node1 _ h1, sb_node1 θ (by exact h1)]
    simp only [Tm.op, Tm.n, Tm.kids, List.map_map]
    exact congrArg _ (List.map_congr_left fun k hk => ih k hk)
theorem sb_cong {θ σ : Int → Tm} : ∀ t : Tm, (∀ v, occ v t = true → θ v = σ v) → sb θ t = sb σ t := tm_ind fun t ih => by
  intro h
  by_cases h1 : t.op = 1
  · rw [sb_var1 _ h1, sb_var1 _ h1]
    exact h _ (occ_iff.2 (.inl ⟨h1, rfl⟩))
  · rw [sb_node1 _ h1, sb_node1 _ h1]
    exact congrArg _ (List.map_congr_left fun k hk => ih k hk fun v hv => h v (occ_iff.2 (.inr ⟨k, hk, hv⟩)))
theorem sb_same {σ : Int → Tm} : ∀ t : Tm, vtB t = true → (∀ v, occ v t = true → σ v = .mk 1 v []) → sb σ t = t := tm_ind fun t ih => by
  intro hv h
  obtain ⟨v1, v2, v3, v4⟩ := vt_open hv
  by_cases h1 : t.op = 1
  · rw [sb_var1 _ h1, h _ (occ_iff.2 (.inl ⟨h1, rfl⟩))]
    have := tm_eta t
    rw [h1, (v2 h1).1] at this
    exact this.symm
  · rw [sb_node1 _ h1]
    have e : t.kids.map (sb σ) = t.kids := by
      have : t.kids.map (sb σ) = t.kids.map id := List.map_congr_left fun k hk => ih k hk (v4 k hk) fun v hv => h v (occ_iff.2 (.inr ⟨k, hk, hv⟩))
      rw [this, List.map_id]
    rw [e]; exact (tm_eta t).symm
theorem vt_var {n : Int} (h : 0 ≤ n ∧ n < 20) : vtB (.mk 1 n []) = true := vt_mk (by decide) (fun _ => ⟨rfl, h.1, h.2⟩) (by simp) (by simp)
theorem vt_sb {σ : Int → Tm} (hσ : ∀ v, 0 ≤ v ∧ v < 20 → vtB (σ v) = true) : ∀ t : Tm, vtB t = true → vtB (sb σ t) = true := tm_ind fun t ih => by
  intro hv
  obtain ⟨v1, v2, v3, v4⟩ := vt_open hv
  by_cases h1 : t.op = 1
  · rw [sb_var1 _ h1]; exact hσ _ (v2 h1).2
  · rw [sb_node1 _ h1]
    refine vt_mk v1 (fun e => absurd e h1) (by simpa using v3) fun k hk => ?_
    obtain ⟨x, hx, rfl⟩ := List.mem_map.1 hk
    exact ih x hx (v4 x hx)
theorem occ_sb {u : Int} {σ : Int → Tm} : ∀ t : Tm, occ u (sb σ t) = true → ∃ v, occ v t = true ∧ occ u (σ v) = true := tm_ind fun t ih => by
  intro h
  by_cases h1 : t.op = 1
  · rw [sb_var1 _ h1] at h
    exact ⟨t.n, occ_iff.2 (.inl ⟨h1, rfl⟩), h⟩
  · rw [sb_node1 _ h1] at h
    rcases occ_iff.1 h with ⟨h2, -⟩ | ⟨k, hk, ho⟩
    · exact absurd h2 h1
    · obtain ⟨x, hx, rfl⟩ := List.mem_map.1 hk
      obtain ⟨v, hv, hu⟩ := ih x hx ho
      exact ⟨v, occ_iff.2 (.inr ⟨x, hx, hv⟩), hu⟩
theorem occ_size {v : Int} {θ : Int → Tm} : ∀ t : Tm, vtB t = true → occ v t = true → t.op ≠ 1 → (θ v).size < (sb θ t).size := tm_ind fun t ih => by
  intro hv h h1
  obtain ⟨v1, v2, v3, v4⟩ := vt_open hv
  rcases occ_iff.1 h with ⟨h2, -⟩ | ⟨k, hk, ho⟩
  · exact absurd h2 h1
  · have hs : (Tm.mk t.op t.n (t.kids.map (sb θ))).size = sizes (t.kids.map (sb θ)) + 1 := size_eq _
    rw [sb_node1 _ h1, hs]
    have hm := sizes_mem (List.mem_map.2 ⟨k, hk, rfl⟩ : sb θ k ∈ t.kids.map (sb θ))
    by_cases h2 : k.op = 1
    · have : k.n = v := by
        rcases occ_iff.1 ho with ⟨-, e⟩ | ⟨k2, hk2, -⟩
        · exact e
        · have := ((vt_open (v4 k hk)).2.1 h2).1
          rw [this] at hk2; cases hk2
      rw [sb_var1 _ h2, this] at hm
      omega
    · have := ih k hk (v4 k hk) ho h2
      omega

/-- What a list's bindings say of a valuation. -/
def Sat (θ : Int → Tm) (L : List (Int × Tm)) : Prop := ∀ x ∈ L, θ x.1 = sb θ x.2
theorem Sat.put {θ : Int → Tm} {L : List (Int × Tm)} (h : Sat θ L) (t : Tm) : sb θ (sb (subL L) t) = sb θ t := by
  rw [sb_sb]
  refine sb_cong t fun v _ => ?_
  rcases subL_mem (L := L) (v := v) with ⟨x, hx, rfl, e⟩ | ⟨-, e⟩
  · show sb θ (subL L x.1) = θ x.1
    rw [e]; exact (h x hx).symm
  · show sb θ (subL L v) = θ v
    rw [e]; exact sb_var1 θ rfl

/-- A list in solved form. -/
structure Sol (L : List (Int × Tm)) : Prop where
  inc : L.Pairwise (fun x y => x.1 < y.1)
  rng : ∀ x ∈ L, 0 ≤ x.1 ∧ x.1 < 20
  vt : ∀ x ∈ L, vtB x.2 = true
  free : ∀ x ∈ L, ∀ y ∈ L, occ y.1 x.2 = false
  ori : ∀ x ∈ L, x.2.op = 1 → x.2.n < x.1
theorem Sol.nil : Sol [] := ⟨.nil, by simp, by simp, by simp, by simp⟩
theorem Sol.sub {L : List (Int × Tm)} (h : Sol L) {v : Int} (hv : 0 ≤ v ∧ v < 20) : vtB (subL L v) = true := by
  rcases subL_mem (L := L) (v := v) with ⟨x, hx, rfl, e⟩ | ⟨-, e⟩
  · rw [e]; exact h.vt x hx
  · rw [e]; exact vt_var hv
theorem Sol.vput {L : List (Int × Tm)} (h : Sol L) {t : Tm} (ht : vtB t = true) : vtB (sb (subL L) t) = true := vt_sb (fun _ hv => h.sub hv) t ht
/-- No bound variable stands in what comes of a list. -/
theorem Sol.gone {L : List (Int × Tm)} (h : Sol L) {t : Tm} {y : Int × Tm} (hy : y ∈ L) : occ y.1 (sb (subL L) t) = false := by
  cases ho : occ y.1 (sb (subL L) t)
  · rfl
  · obtain ⟨v, -, hv⟩ := occ_sb t ho
    rcases subL_mem (L := L) (v := v) with ⟨x, hx, rfl, e⟩ | ⟨hn, e⟩
    · rw [e, h.free x hx y hy] at hv; cases hv
    · rw [e, occ_var] at hv
      exact absurd hv.symm (hn y hy)
theorem subL_off {L : List (Int × Tm)} {v : Int} (h : ∀ y ∈ L, y.1 ≠ v) : subL L v = .mk 1 v [] := by
  rcases subL_mem (L := L) (v := v) with ⟨x, hx, e, -⟩ | ⟨-, e⟩
  · exact absurd e (h x hx)
  · exact e
/-- What comes of a list, with the list put in again, is the same. -/
theorem Sol.keep {L : List (Int × Tm)} {t : Tm} (ht : vtB t = true) (h : ∀ y ∈ L, occ y.1 t = false) : sb (subL L) t = t :=
  sb_same t ht fun v hv => subL_off fun y hy e => by subst e; rw [h y hy] at hv; cases hv
theorem Sol.pair {L : List (Int × Tm)} (h : Sol L) {x y : Int × Tm} (hx : x ∈ L) (hy : y ∈ L) (e : x.1 = y.1) : x = y := by
  obtain ⟨i, hi, rfl⟩ := List.getElem_of_mem hx
  obtain ⟨j, hj, rfl⟩ := List.getElem_of_mem hy
  have hp := List.pairwise_iff_getElem.1 h.inc
  rcases Nat.lt_trichotomy i j with hlt | rfl | hlt
  · have := hp i j hi hj hlt; omega
  · rfl
  · have := hp j i hj hi hlt; omega
theorem Sol.at {L : List (Int × Tm)} (h : Sol L) {x : Int × Tm} (hx : x ∈ L) : subL L x.1 = x.2 := by
  rcases subL_mem (L := L) (v := x.1) with ⟨y, hy, e, e2⟩ | ⟨hn, -⟩
  · rw [e2, h.pair hy hx e]
  · exact absurd rfl (hn x hx)
/-- A list in solved form solves itself. -/
theorem Sol.self {L : List (Int × Tm)} (h : Sol L) : Sat (subL L) L := fun x hx => by
  rw [h.at hx]
  exact (Sol.keep (h.vt x hx) (fun y hy => h.free x hx y hy)).symm
theorem inc_len : ∀ {L : List (Int × Tm)} {a : Int}, L.Pairwise (fun x y => x.1 < y.1) → (∀ x ∈ L, a ≤ x.1 ∧ x.1 < 20) → a ≤ 20 → (L.length : Int) ≤ 20 - a
  | [], a, _, _, h => by simp; omega
  | x :: L, a, hp, hr, ha => by
    obtain ⟨h1, h2⟩ := List.pairwise_cons.1 hp
    have hx := hr x (by simp)
    have := inc_len (L := L) (a := x.1 + 1) h2 (fun y hy => ⟨by have := h1 y hy; omega, (hr y (by simp [hy])).2⟩) (by omega)
    simp only [List.length_cons]
    omega
theorem Sol.len {L : List (Int × Tm)} (h : Sol L) : L.length ≤ 20 := by
  have := inc_len h.inc h.rng (by omega); omega

/-! One binding more -/
theorem mem_bind {L : List (Int × Tm)} {n : Int} {t : Tm} {x : Int × Tm} : x ∈ bindL L n t ↔ x = (n, t) ∨ x ∈ L := by
  unfold bindL
  rw [List.mem_append, List.mem_cons]
  have : x ∈ L ↔ x ∈ L.take (bdx L n) ∨ x ∈ L.drop (bdx L n) := by rw [← List.mem_append, List.take_append_drop]
  rw [this]
  constructor
  · rintro (h | h | h)
    · exact .inr (.inl h)
    · exact .inl h
    · exact .inr (.inr h)
  · rintro (h | h | h)
    · exact .inr (.inl h)
    · exact .inl h
    · exact .inr (.inr h)
theorem bind_inc {L : List (Int × Tm)} {n : Int} {t : Tm} (h : L.Pairwise (fun x y => x.1 < y.1)) (hn : ∀ x ∈ L, x.1 ≠ n) : (bindL L n t).Pairwise (fun x y => x.1 < y.1) := by
  have hp := List.pairwise_iff_getElem.1 h
  unfold bindL
  have hlow : ∀ x ∈ L.take (bdx L n), x.1 < n := fun x hx => by
    obtain ⟨i, hi, rfl⟩ := List.getElem_of_mem hx
    rw [List.getElem_take]
    simp only [List.length_take] at hi
    exact bdx_lt (by omega) (by omega)
  have hhigh : ∀ x ∈ L.drop (bdx L n), n < x.1 := fun x hx => by
    obtain ⟨i, hi, rfl⟩ := List.getElem_of_mem hx
    rw [List.length_drop] at hi
    have hne := hn _ (List.mem_of_mem_drop hx)
    rw [List.getElem_drop] at hne ⊢
    have h0 := bdx_ge (L := L) (n := n) (by omega)
    by_cases e : i = 0
    · subst e; simp only [Nat.add_zero] at hne ⊢; omega
    · have := hp (bdx L n) (bdx L n + i) (by omega) (by omega) (by omega); omega
  rw [List.pairwise_append]
  refine ⟨h.sublist (List.take_sublist _ _), List.pairwise_cons.2 ⟨fun y hy => hhigh y hy, h.sublist (List.drop_sublist _ _)⟩, fun x hx y hy => ?_⟩
  have h1 := hlow x hx
  rcases List.mem_cons.1 hy with rfl | hy
  · exact h1
  · have := hhigh y hy; omega
theorem one1_at (n : Int) (t : Tm) : one1 n t n = t := by unfold one1 subL; simp
theorem one1_off {n v : Int} (t : Tm) (h : v ≠ n) : one1 n t v = .mk 1 v [] := subL_off fun y hy e => by simp at hy; subst hy; exact h e.symm
theorem mem_solved {L : List (Int × Tm)} {n : Int} {t : Tm} {x : Int × Tm} : x ∈ solvedL L n t ↔ x = (n, t) ∨ ∃ y ∈ L, x = (y.1, sb (one1 n t) y.2) := by
  unfold solvedL
  rw [mem_bind, List.mem_map]
  constructor
  · rintro (h | ⟨y, hy, rfl⟩)
    · exact .inl h
    · exact .inr ⟨y, hy, rfl⟩
  · rintro (h | ⟨y, hy, rfl⟩)
    · exact .inl h
    · exact .inr ⟨y, hy, rfl⟩
theorem one_put {θ : Int → Tm} {n : Int} {t : Tm} (h : θ n = sb θ t) (s : Tm) : sb θ (sb (one1 n t) s) = sb θ s := by
  rw [sb_sb]
  refine sb_cong s fun v _ => ?_
  show sb θ (one1 n t v) = θ v
  by_cases e : v = n
  · subst e; rw [one1_at, h]
  · rw [one1_off t e]; exact sb_var1 θ rfl
theorem sat_solved {L : List (Int × Tm)} {n : Int} {t : Tm} (θ : Int → Tm) : Sat θ (solvedL L n t) ↔ Sat θ L ∧ θ n = sb θ t := by
  constructor
  · intro h
    have hn : θ n = sb θ t := h (n, t) (mem_solved.2 (.inl rfl))
    refine ⟨fun y hy => ?_, hn⟩
    have := h (y.1, sb (one1 n t) y.2) (mem_solved.2 (.inr ⟨y, hy, rfl⟩))
    rw [show θ y.1 = _ from this]
    exact one_put hn y.2
  · rintro ⟨h, hn⟩ x hx
    rcases mem_solved.1 hx with rfl | ⟨y, hy, rfl⟩
    · exact hn
    · show θ y.1 = sb θ (sb (one1 n t) y.2)
      rw [one_put hn]; exact h y hy
theorem solved_len (L : List (Int × Tm)) (n : Int) (t : Tm) : (solvedL L n t).length = L.length + 1 := by
  unfold solvedL bindL
  have := bdx_le (L.map fun x => (x.1, sb (one1 n t) x.2)) n
  simp only [List.length_append, List.length_take, List.length_cons, List.length_drop, List.length_map] at this ⊢
  omega
theorem sol_solved {L : List (Int × Tm)} (h : Sol L) {n : Int} {t : Tm} (hn : 0 ≤ n ∧ n < 20) (hd : ∀ y ∈ L, y.1 ≠ n) (ht : vtB t = true) (ho : occ n t = false) (hf : ∀ y ∈ L, occ y.1 t = false) (hor : t.op = 1 → t.n < n) : Sol (solvedL L n t) := by
  have hone : ∀ v, 0 ≤ v ∧ v < 20 → vtB (one1 n t v) = true := fun v hv => by
    by_cases e : v = n
    · subst e; rw [one1_at]; exact ht
    · rw [one1_off t e]; exact vt_var hv
  have hgo : ∀ y ∈ L, ∀ u : Int, (u = n ∨ ∃ z ∈ L, z.1 = u) → occ u (sb (one1 n t) y.2) = false := fun y hy u hu => by
    cases hq : occ u (sb (one1 n t) y.2)
    · rfl
    · obtain ⟨v, hv1, hv2⟩ := occ_sb _ hq
      by_cases e : v = n
      · subst e
        rw [one1_at] at hv2
        rcases hu with rfl | ⟨z, hz, rfl⟩
        · rw [ho] at hv2; cases hv2
        · rw [hf z hz] at hv2; cases hv2
      · rw [one1_off t e, occ_var] at hv2
        subst hv2
        rcases hu with rfl | ⟨z, hz, rfl⟩
        · exact absurd rfl e
        · rw [h.free y hy z hz] at hv1; cases hv1
  refine ⟨?_, fun x hx => ?_, fun x hx => ?_, fun x hx y hy => ?_, fun x hx h1 => ?_⟩
  · refine bind_inc ?_ fun x hx => ?_
    · rw [List.pairwise_map]; exact h.inc
    · obtain ⟨y, hy, rfl⟩ := List.mem_map.1 hx; exact hd y hy
  · rcases mem_solved.1 hx with rfl | ⟨y, hy, rfl⟩
    · exact hn
    · exact h.rng y hy
  · rcases mem_solved.1 hx with rfl | ⟨y, hy, rfl⟩
    · exact ht
    · exact vt_sb hone _ (h.vt y hy)
  · have hy1 : y.1 = n ∨ ∃ z ∈ L, z.1 = y.1 := by
      rcases mem_solved.1 hy with rfl | ⟨z, hz, rfl⟩
      · exact .inl rfl
      · exact .inr ⟨z, hz, rfl⟩
    rcases mem_solved.1 hx with rfl | ⟨z, hz, rfl⟩
    · rcases hy1 with e | ⟨z, hz, e⟩
      · rw [e]; exact ho
      · rw [← e]; exact hf z hz
    · exact hgo z hz y.1 hy1
  · rcases mem_solved.1 hx with rfl | ⟨y, hy, rfl⟩
    · exact hor h1
    · show (sb (one1 n t) y.2).n < y.1
      have h1' : (sb (one1 n t) y.2).op = 1 := h1
      by_cases h2 : y.2.op = 1
      · have hlt := h.ori y hy h2
        rw [sb_var1 _ h2] at h1' ⊢
        by_cases e : y.2.n = n
        · rw [e, one1_at] at h1' ⊢
          have := hor h1'; omega
        · rw [one1_off t e]; exact hlt
      · rw [sb_node1 _ h2] at h1'
        exact absurd h1' h2

end Go.Proofs.YthlegfegkopdkaaGreat

namespace Go.Proofs.YthlegfegkopdkaaGreat
open Go.RowKit Go.Shelf Go.Sort

/-! Free variables -/
/-! Variables for variables -/
structure RenAt (ρ : Nat → Nat) (g : Nat → Bool) (fb fb' : Int → Option Int) (v : Nat) : Prop where
  yes : g v = true → fb' (v : Int) = fb (v : Int) ∧ ∃ m, fb (v : Int) = some m
  no : g v = false → fb (v : Int) = none ∧ fb' ((ρ v : Nat) : Int) = none
structure RenS (ρ : Nat → Nat) (s s' : OS) : Prop where
  free : ∀ v : Nat, v < 20 → s'.free ((ρ v : Nat) : Int) = s.free (v : Int)
  count : s'.count = s.count

def RnSpec (F : Int → Option DT) (st : Nat → Bool) (ρ : Nat → Nat) (N : Nat) : Prop := ∀ (g : Nat → Bool) (t z : Tm) (fb fb' : Int → Option Int) (s s' : OS), OkV t → putF F st N g t = some z →
  (∀ v, v < 20 → fvT t v = true → RenAt ρ g fb fb' v) → RenS ρ s s' → (ordT fb' s' z).1 = (ordT fb s t).1 ∧ RenS ρ (ordT fb s t).2 (ordT fb' s' z).2

/-! An expression in order stays as it is -/

/-- How the numbers stand when an expression in order is put in order again. -/
structure Again (fb fb' : Int → Option Int) (s s' : OS) : Prop where
  count : s'.count = s.count
  bound : ∀ v m, fb v = some m → fb' m = some m ∧ m < s.count
  free : ∀ v m, s.free v = some m → s'.free m = some m ∧ fb' m = none ∧ m < s.count
  fresh : ∀ m, (s.count : Int) ≤ m → fb' m = none ∧ s'.free m = none
end Go.Proofs.YthlegfegkopdkaaGreat

namespace Go.Proofs.YthlegfegkopdkaaGreat
open Go.RowKit Go.Shelf Go.Sort

/-! Free variables of a node, of a let -/
theorem fvKs_iff {op n : Int} (h8 : op ≠ 8) : ∀ (ks : List Tm) (k : Nat) (acc : Nat → Bool) (v : Nat), fvKs op n ks k acc v = true ↔ acc v = true ∨ ∃ t ∈ ks, fvT t v = true
  | [], _, acc, v => by rw [fvKs]; simp
  | x :: ts, k, acc, v => by
    rw [fvKs, fvKs_iff h8 ts, if_neg (fun e => h8 e.1)]
    unfold orSet
    simp only [Bool.or_eq_true, List.mem_cons, exists_eq_or_imp]
    exact or_assoc
theorem fv_node {op n : Int} {ks : List Tm} {v : Nat} (h1 : op ≠ 1) (h8 : op ≠ 8) : fvT (.mk op n ks) v = true ↔ ∃ t ∈ ks, fvT t v = true := by
  rw [fvT, fvKs_iff h8]
  simp [h1]
theorem fv_let {n : Int} {a b : Tm} {v : Nat} : fvT (.mk 8 n [a, b]) v = true ↔ fvT a v = true ∨ (fvT b v = true ∧ v ≠ n.toNat) := by
  rw [fvT, fvKs, fvKs, fvKs]
  by_cases h : v = n.toNat
  · simp [orSet, setB, h]
  · simp [orSet, setB, h]
theorem fv_of_var {n : Int} {v : Nat} : fvT (.mk 1 n []) v = true ↔ (v : Int) = n := by
  rw [fvT, fvKs]; simp

/-! What is free stands there -/
mutual
theorem stT_met : ∀ (t : Tm) (met : Nat → Bool) (v : Nat), met v = true → stT t met v = true
  | .mk op n ks, met, v, h => by
    rw [stT]
    refine stKs_met ks _ v ?_
    unfold standN
    split
    · unfold setB; split
      · rfl
      · exact h
    · exact h
theorem stKs_met : ∀ (ks : List Tm) (met : Nat → Bool) (v : Nat), met v = true → stKs ks met v = true
  | [], _, _, h => by rw [stKs]; exact h
  | t :: ts, met, v, h => by rw [stKs]; exact stKs_met ts _ v (stT_met t met v h)
end
theorem stKs_mem : ∀ (ks : List Tm) (met : Nat → Bool) (t : Tm) (v : Nat), t ∈ ks → (∀ met, stT t met v = true) → stKs ks met v = true
  | [], _, _, _, h, _ => by cases h
  | x :: ts, met, t, v, h, hs => by
    rw [stKs]
    rcases List.mem_cons.1 h with rfl | h
    · exact stKs_met ts _ v (hs met)
    · exact stKs_mem ts _ t v h hs
mutual
theorem fv_stands : ∀ (t : Tm) (v : Nat), OkV t → fvT t v = true → ∀ met, stT t met v = true
  | .mk op n ks, v, hO, h, met => by
    obtain ⟨o1, o2, o3, o4⟩ := hO.open
    simp only [Tm.op, Tm.n, Tm.kids] at o1 o2 o3 o4
    rw [stT]
    by_cases h1 : op = 1
    · obtain rfl := h1
      obtain rfl := o2 rfl
      rw [fv_of_var] at h
      rw [stKs]
      unfold standN
      rw [if_pos (.inl rfl)]
      unfold setB
      rw [if_pos (by omega)]
    · by_cases h8 : op = 8
      · obtain rfl := h8
        match ks, o3 rfl, o4, h with
        | [a, b], _, o4, h =>
          simp only [OkVs] at o4
          rcases fv_let.1 h with h | h
          · exact stKs_mem _ _ a v (by simp) (fv_stands a v o4.1 h)
          · exact stKs_mem _ _ b v (by simp) (fv_stands b v o4.2.1 h.1)
      · obtain ⟨t, ht, hf⟩ := (fv_node h1 h8).1 h
        obtain ⟨x, hx, hs⟩ := fvs_stands ks v o4 ⟨t, ht, hf⟩
        exact stKs_mem _ _ x v hx hs
theorem fvs_stands : ∀ (ks : List Tm) (v : Nat), OkVs ks → (∃ t ∈ ks, fvT t v = true) → ∃ t ∈ ks, ∀ met, stT t met v = true
  | [], _, _, h => by obtain ⟨t, h, -⟩ := h; cases h
  | x :: ts, v, hO, h => by
    rw [OkVs] at hO
    obtain ⟨t, ht, hf⟩ := h
    rcases List.mem_cons.1 ht with e | ht
    · rw [e] at hf; exact ⟨x, by simp, fv_stands x v hO.1 hf⟩
    · obtain ⟨y, hy, hs⟩ := fvs_stands ts v hO.2 ⟨t, ht, hf⟩
      exact ⟨y, by simp [hy], hs⟩
end
/-! A variable in place of a free one -/
/-- m stands nowhere in the term. -/
def NoSt (m : Nat) (t : Tm) : Prop := ∃ met, stT t met m = false
theorem NoSt.kid {m : Nat} {op n : Int} {ks : List Tm} (h : NoSt m (.mk op n ks)) : ∀ t ∈ ks, NoSt m t := fun t ht => by
  obtain ⟨met, h⟩ := h
  refine Classical.byContradiction fun hc => ?_
  have : ∀ met, stT t met m = true := fun met => by
    cases e : stT t met m with
    | true => rfl
    | false => exact absurd ⟨met, e⟩ hc
  rw [stT, stKs_mem ks _ t m ht this] at h
  cases h
theorem NoSt.own {m : Nat} {op n : Int} {ks : List Tm} (h : NoSt m (.mk op n ks)) (ho : op = 1 ∨ op = 8) : m ≠ n.toNat := fun e => by
  obtain ⟨met, h⟩ := h
  rw [stT] at h
  have : standN met op n m = true := by unfold standN; rw [if_pos ho]; unfold setB; rw [if_pos e]
  rw [stKs_met ks _ m this] at h
  cases h
theorem NoSt.free {m : Nat} {t : Tm} (h : NoSt m t) (hO : OkV t) : fvT t m = false := by
  cases e : fvT t m with
  | false => rfl
  | true => obtain ⟨met, h⟩ := h; rw [fv_stands t m hO e met] at h; cases h

/-! The free variables of what was put in -/
/-- The variables that stand for v behind the list. -/
def Img (F : Int → Option DT) (g : Nat → Bool) (v u : Nat) : Prop := if (findD F g v).2 = true then fvT (findD F g v).1.tm u = true else u = v
def FvSpec (F : Int → Option DT) (st : Nat → Bool) (N : Nat) : Prop := ∀ (g : Nat → Bool) (t z : Tm), OkV t → putF F st N g t = some z → ∀ u, u < 20 → (fvT z u = true ↔ ∃ v, v < 20 ∧ fvT t v = true ∧ Img F g v u)
/-! The variables' own terms -/
end Go.Proofs.YthlegfegkopdkaaGreat

namespace Go.Proofs.YthlegfegkopdkaaGreat
open Go.RowKit Go.Shelf Go.Sort

theorem okvs_iff {ks : List Tm} : OkVs ks ↔ ∀ t ∈ ks, OkV t := by
  induction ks with
  | nil => simp [OkVs]
  | cons t ts ih => simp [OkVs, ih]
theorem vt_ok : ∀ t : Tm, vtB t = true → OkV t := tm_ind fun t ih => by
  intro hv
  obtain ⟨v1, v2, v3, v4⟩ := vt_open hv
  rw [tm_eta t, OkV]
  refine ⟨fun h => ?_, fun h => (v2 h).1, fun h => absurd h v1, okvs_iff.2 fun k hk => ih k hk (v4 k hk)⟩
  rcases h with h | h
  · exact (v2 h).2
  · exact absurd h v1
theorem fv_occ {i : Nat} : ∀ t : Tm, vtB t = true → (fvT t i = true ↔ occ (i : Int) t = true) := tm_ind fun t ih => by
  intro hv
  obtain ⟨v1, v2, v3, v4⟩ := vt_open hv
  by_cases h1 : t.op = 1
  · have e := tm_eta t
    rw [h1, (v2 h1).1] at e
    rw [e, fv_of_var, occ_var]
    exact ⟨fun h => h.symm, fun h => h.symm⟩
  · have e := tm_eta t
    rw [e, fv_node h1 v1, occ_iff]
    simp only [Tm.op, Tm.n, Tm.kids]
    constructor
    · rintro ⟨k, hk, h⟩; exact .inr ⟨k, hk, (ih k hk (v4 k hk)).1 h⟩
    · rintro (⟨h, -⟩ | ⟨k, hk, h⟩)
      · exact absurd h h1
      · exact ⟨k, hk, (ih k hk (v4 k hk)).2 h⟩
def intsM (l : List Nat) : List Int := l.map fun (x : Nat) => (x : Int)
theorem row_intsM {w : World} {base : Nat} {v : Value} {l : List Nat} (h : w.ownsRow base 3 1 v l.length (natVals l)) : ∃ av cv, v = .slice av l.length cv ∧ IsInts w.heap.size w (intsM l) av l.length cv := by
  obtain ⟨av, cv, h1, h2, h3, h4⟩ := owns_ints h
  refine ⟨av, cv, h1, by simp [intsM], h2, by unfold maxLen at h3; omega, ?_⟩
  rcases h4.out with ⟨rfl, -, -⟩ | ⟨g, rfl, -, h6, h7⟩
  · exact .inl rfl
  · refine .inr ⟨g, 0, rfl, h6, fun k hk => ?_⟩
    have hk' : k < l.length := by simpa [intsM] using hk
    rw [Nat.zero_add, h7 k hk']
    simp [intsM]
theorem has_occ {t : Tm} (hv : vtB t = true) {n : Int} (hn : 0 ≤ n ∧ n < 20) : decide (n ∈ intsM (listTo (fvT t) 20)) = occ n t := by
  rw [Bool.eq_iff_iff, decide_eq_true_eq]
  obtain ⟨m, rfl⟩ : ∃ m : Nat, n = m := ⟨n.toNat, by omega⟩
  rw [← fv_occ t hv]
  unfold intsM
  rw [List.mem_map]
  constructor
  · rintro ⟨x, hx, e⟩
    have : x = m := by omega
    subst this
    exact (List.mem_filter.1 hx).2
  · intro h
    exact ⟨m, List.mem_filter.2 ⟨List.mem_range.2 (by omega), h⟩, rfl⟩

/-- What two values' unifier is, behind a list in solved form. -/
def UOk (L : List (Int × Tm)) (a b : Tm) (L' : List (Int × Tm)) : Prop :=
  Sol L' ∧ (∀ θ, Sat θ L' ↔ Sat θ L ∧ sb θ a = sb θ b) ∧ (L' = L ∨ L.length < L'.length)

section
variable {L : List (Int × Tm)} (hL : Sol L) {a b : Tm} (ha : vtB a = true) (hb : vtB b = true)
theorem put_eq {θ : Int → Tm} (hθ : Sat θ L) : sb θ a = sb θ b ↔ sb θ (sb (subL L) a) = sb θ (sb (subL L) b) := by rw [hθ.put, hθ.put]
theorem u_clash (h1 : (sb (subL L) a).op ≠ 1) (h2 : (sb (subL L) b).op ≠ 1) (h : (sb (subL L) a).op ≠ (sb (subL L) b).op ∨ (sb (subL L) a).n ≠ (sb (subL L) b).n ∨ (sb (subL L) a).kids.length ≠ (sb (subL L) b).kids.length) (θ : Int → Tm) (hθ : Sat θ L) : sb θ a ≠ sb θ b := fun e => by
  rw [put_eq hθ, sb_node1 θ h1, sb_node1 θ h2] at e
  injection e with e1 e2 e3
  rcases h with h | h | h
  · exact h e1
  · exact h e2
  · have := congrArg List.length e3
    rw [List.length_map, List.length_map] at this
    exact h this
theorem u_kids (h1 : (sb (subL L) a).op ≠ 1) (h2 : (sb (subL L) b).op ≠ 1) (ho : (sb (subL L) a).op = (sb (subL L) b).op) (hn : (sb (subL L) a).n = (sb (subL L) b).n) (hl : (sb (subL L) a).kids.length = (sb (subL L) b).kids.length) (θ : Int → Tm) (hθ : Sat θ L) :
    sb θ a = sb θ b ↔ ∀ j (h : j < (sb (subL L) a).kids.length) (h' : j < (sb (subL L) b).kids.length), sb θ (sb (subL L) a).kids[j] = sb θ (sb (subL L) b).kids[j] := by
  rw [put_eq hθ, sb_node1 θ h1, sb_node1 θ h2, ho, hn]
  constructor
  · intro e j h h'
    injection e with e1 e2 e3
    have := congrArg (fun l => l[j]?) e3
    simp only [List.getElem?_map, List.getElem?_eq_getElem h, List.getElem?_eq_getElem h', Option.map_some, Option.some.injEq] at this
    exact this
  · intro h
    congr 1
    refine List.ext_getElem (by rw [List.length_map, List.length_map]; exact hl) fun j g1 g2 => ?_
    rw [List.getElem_map, List.getElem_map]
    rw [List.length_map] at g1 g2
    exact h j g1 g2
include hL
theorem u_same (h : sb (subL L) a = sb (subL L) b) : UOk L a b L :=
  ⟨hL, fun _ => ⟨fun hθ => ⟨hθ, (put_eq hθ).2 (by rw [h])⟩, fun h => h.1⟩, .inl rfl⟩
include ha hb
theorem u_bind (h1 : (sb (subL L) a).op = 1) (ho : occ (sb (subL L) a).n (sb (subL L) b) = false) (hor : (sb (subL L) b).op = 1 → (sb (subL L) b).n < (sb (subL L) a).n) : UOk L a b (solvedL L (sb (subL L) a).n (sb (subL L) b)) := by
  have hA := hL.vput ha
  have hB := hL.vput hb
  obtain ⟨v1, v2, v3, v4⟩ := vt_open hA
  have hg : ∀ y ∈ L, y.1 ≠ (sb (subL L) a).n := fun y hy e => by
    have := hL.gone (t := a) hy
    rw [e] at this
    have h2 := occ_iff.2 (.inl ⟨h1, rfl⟩ : ((sb (subL L) a).op = 1 ∧ (sb (subL L) a).n = (sb (subL L) a).n) ∨ _)
    rw [h2] at this; cases this
  refine ⟨sol_solved hL (v2 h1).2 hg hB ho (fun y hy => hL.gone hy) hor, fun θ => ?_, .inr (by rw [solved_len]; omega)⟩
  rw [sat_solved]
  constructor
  · rintro ⟨hθ, e⟩
    refine ⟨hθ, (put_eq hθ).2 ?_⟩
    rw [sb_var1 θ h1]; exact e
  · rintro ⟨hθ, e⟩
    refine ⟨hθ, ?_⟩
    rw [put_eq hθ, sb_var1 θ h1] at e
    exact e
omit ha in
theorem u_occ (h1 : (sb (subL L) a).op = 1) (h2 : (sb (subL L) b).op ≠ 1) (ho : occ (sb (subL L) a).n (sb (subL L) b) = true) (θ : Int → Tm) (hθ : Sat θ L) : sb θ a ≠ sb θ b := fun e => by
  rw [put_eq hθ, sb_var1 θ h1] at e
  have := occ_size (θ := θ) _ (hL.vput hb) ho h2
  rw [e] at this; omega
end
theorem UOk.comm {L : List (Int × Tm)} {a b : Tm} {L' : List (Int × Tm)} (h : UOk L a b L') : UOk L b a L' := by
  obtain ⟨h1, h2, h3⟩ := h
  exact ⟨h1, fun θ => by rw [h2]; exact ⟨fun h => ⟨h.1, h.2.symm⟩, fun h => ⟨h.1, h.2.symm⟩⟩, h3⟩
/-- Of two variables the greater one is bound. -/
theorem u_vars {L : List (Int × Tm)} (hL : Sol L) {a b : Tm} (ha : vtB a = true) (hb : vtB b = true) (h1 : (sb (subL L) a).op = 1) (h2 : (sb (subL L) b).op = 1) (hne : sb (subL L) a ≠ sb (subL L) b) :
    UOk L a b (solvedL L (max (sb (subL L) a).n (sb (subL L) b).n) (.mk 1 (min (sb (subL L) a).n (sb (subL L) b).n) [])) := by
  obtain ⟨-, v2, -, -⟩ := vt_open (hL.vput ha)
  obtain ⟨-, u2, -, -⟩ := vt_open (hL.vput hb)
  have eA := tm_eta (sb (subL L) a)
  have eB := tm_eta (sb (subL L) b)
  rw [h1, (v2 h1).1] at eA
  rw [h2, (u2 h2).1] at eB
  have hn : (sb (subL L) a).n ≠ (sb (subL L) b).n := fun e => hne (by rw [eA, eB, e])
  by_cases hlt : (sb (subL L) b).n < (sb (subL L) a).n
  · rw [show max (sb (subL L) a).n (sb (subL L) b).n = (sb (subL L) a).n by omega, show min (sb (subL L) a).n (sb (subL L) b).n = (sb (subL L) b).n by omega, ← eB]
    refine u_bind hL ha hb h1 ?_ (fun _ => hlt)
    cases hq : occ (sb (subL L) a).n (sb (subL L) b)
    · rfl
    · have h9 : occ (sb (subL L) a).n (.mk 1 (sb (subL L) b).n []) = true := by rw [← eB]; exact hq
      rw [occ_var] at h9; omega
  · rw [show max (sb (subL L) a).n (sb (subL L) b).n = (sb (subL L) b).n by omega, show min (sb (subL L) a).n (sb (subL L) b).n = (sb (subL L) a).n by omega, ← eA]
    refine UOk.comm (u_bind hL hb ha h2 ?_ (fun _ => by omega))
    cases hq : occ (sb (subL L) b).n (sb (subL L) a)
    · rfl
    · have h9 : occ (sb (subL L) b).n (.mk 1 (sb (subL L) a).n []) = true := by rw [← eA]; exact hq
      rw [occ_var] at h9; omega

end Go.Proofs.YthlegfegkopdkaaGreat
