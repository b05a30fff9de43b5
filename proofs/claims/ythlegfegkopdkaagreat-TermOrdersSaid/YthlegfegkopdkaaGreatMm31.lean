/- Own text, joined of: R2 R3 R5 R4. The reference's 'put' and 'has': lists of numbers. · The reference's 'put'. · The reference's 'Vars'. · The reference's 'shape' and 'has'. -/
import Derived.Deep.AppendSrc
import Derived.Test.YthlegfegkopdkaaGreatMm30

namespace Go.Proofs.YthlegfegkopdkaaGreat
open Go.RowKit Go.Shelf Go.Sort

/-- What an append reads. -/
def SrcRow (W : World) (y : Value) (news : List Value) : Prop :=
  (y = .slice none 0 0 ∧ news = []) ∨ ∃ ad c, y = .slice (some ad) news.length c ∧ (∀ j u, news[j]? = some u → W.cell? (ad.add j) = some u) ∧ ∀ u ∈ news, u.oneCell' = true
theorem SrcRow.alloc {W : World} {y : Value} {news : List Value} (h : SrcRow W y news) (o : Obj) : SrcRow (W.alloc o) y news := by
  rcases h with h | ⟨ad, c, h1, h2, h3⟩
  · exact .inl h
  · exact .inr ⟨ad, c, h1, fun j u hu => by rw [World.cell?_alloc_lt _ _ _ (World.block_lt_of_cell? W _ (h2 j u hu))]; exact h2 j u hu, h3⟩
theorem SrcRow.grown {W W' : World} {y : Value} {news : List Value} {row : Option Nat} (h : SrcRow W y news) (hg : W.grownBy W' row) (hr : ∀ ad l c, y = .slice (some ad) l c → row ≠ some ad.block) : SrcRow W' y news := by
  rcases h with h | ⟨ad, c, h1, h2, h3⟩
  · exact .inl h
  · refine .inr ⟨ad, c, h1, fun j u hu => hg.cell (h2 j u hu) (fun e => hr ad _ c h1 (by rw [← e]; unfold Addr.add; split <;> rfl)), h3⟩

theorem app_run (W : World) (base : Nat) (v y : Value) (n : Nat) (xs news : List Value) (hl : n + news.length ≤ 1000) (h : W.ownsRow base 3 1 v n xs) (hb : base ≤ W.heap.size) (hy : SrcRow W y news) :
    ∃ v1 W1, (Builtin.append_ #[38, 38] 38 #[v, y]).run Tryz.prog W = .ok v1 W1 ∧ W1.ownsRow base 3 1 v1 (n + news.length) (xs ++ news) ∧ W.grownBy W1 v.ownBlock := by
  obtain ⟨i0, hi, hz0, hz1, hz2⟩ := info_parts inf3
  rcases hy with ⟨rfl, rfl⟩ | ⟨ad, c, rfl, h2, h3⟩
  · rcases h.2 with ⟨rfl, h2⟩ | ⟨g, cap, cs, rfl, h3, h4, h5, h6, h7, h8⟩
    · exact ⟨.slice none 0 0, W, by simp [Builtin.append_, run_underlying u38, sizeOf, typeInfo, hi, Builtin.lenOf, Builtin.firstCells], by simpa using h, World.grownBy.refl _ _⟩
    · refine ⟨.slice (some ⟨g, 0, none⟩) n cap, W, ?_, by simpa using h, World.grownBy.refl _ _⟩
      have := run_append_room_src (P := Tryz.prog) W 38 38 38 3 i0 u38 hi g 0 n cap (.slice none 0 0) 0 [] (Src.ofNil W u38 0) (by omega) (by simp) (by simp)
      simpa [World.setCells] using this
  · obtain ⟨v1, W1, h4, h5, h6, h7⟩ := run_append_own (P := Tryz.prog) W base 38 38 3 i0 (.int .i64 0) 1 8 u38 hi hz0 hz1 hz2 rfl (by decide) v n xs h ad news.length c news (by simp) h2 h3 (by unfold maxLen; omega) (by omega) hb
    exact ⟨v1, W1, h4, h5, h6⟩

/-- The elements from n on. -/
def geq (f : Nat → Bool) (n : Nat) : List Nat := ((List.range (20 - n)).map (n + ·)).filter f
theorem listTo_split (f : Nat → Bool) {n : Nat} (h : n ≤ 20) : listTo f 20 = listTo f n ++ geq f n := by
  unfold listTo geq
  have : List.range 20 = List.range n ++ (List.range (20 - n)).map (n + ·) := by
    have := @List.range_add n (20 - n)
    rwa [show n + (20 - n) = 20 by omega] at this
  rw [this, List.filter_append]
theorem geq_succ (f : Nat → Bool) {n : Nat} (h : n < 20) : geq f n = (if f n then [n] else []) ++ geq f (n + 1) := by
  unfold geq
  rw [show 20 - n = (20 - (n + 1)) + 1 by omega, List.range_succ_eq_map, List.map_cons, List.map_map]
  rw [List.filter_cons]
  have e : ((fun x => n + x) ∘ Nat.succ) = (fun x => n + 1 + x) := by funext x; simp; omega
  rw [e]
  simp only [Nat.add_zero]
  split <;> simp_all
theorem geq_le {f : Nat → Bool} {n x : Nat} (h : x ∈ geq f n) : n ≤ x := by
  unfold geq at h
  have := (List.mem_filter.1 h).1
  obtain ⟨y, _, rfl⟩ := List.mem_map.1 this
  omega
theorem listTo_lt {f : Nat → Bool} {n x : Nat} (h : x ∈ listTo f n) : x < n := by
  unfold listTo at h
  exact List.mem_range.1 (List.mem_filter.1 h).1
theorem listTo_set {f : Nat → Bool} {n : Nat} (h : n < 20) (_hf : f n = false) : listTo (setB f n true) 20 = listTo f n ++ n :: geq f (n + 1) := by
  rw [listTo_split _ (Nat.le_of_lt h), geq_succ _ h]
  have e1 : listTo (setB f n true) n = listTo f n := by
    unfold listTo
    refine List.filter_congr fun x hx => ?_
    have := List.mem_range.1 hx
    unfold setB; rw [if_neg (by omega)]
  have e2 : geq (setB f n true) (n + 1) = geq f (n + 1) := by
    unfold geq
    refine List.filter_congr fun x hx => ?_
    obtain ⟨y, _, rfl⟩ := List.mem_map.1 hx
    unfold setB; rw [if_neg (by omega)]
  rw [e1, e2]
  have : setB f n true n = true := by unfold setB; rw [if_pos rfl]
  rw [this]; rfl
theorem setB_same {f : Nat → Bool} {n : Nat} (hf : f n = true) : setB f n true = f := by
  funext i; unfold setB; split
  · subst_vars; exact hf.symm
  · rfl

end Go.Proofs.YthlegfegkopdkaaGreat

namespace Go.Proofs.YthlegfegkopdkaaGreat
open Go.RowKit Go.Shelf Go.Sort

theorem addp (b off j : Nat) : (⟨b, off, none⟩ : Addr).add j = ⟨b, off + j, none⟩ := by unfold Addr.add; split <;> simp_all
theorem geq_len (f : Nat → Bool) (n : Nat) : (geq f n).length ≤ 20 := by unfold geq; exact Nat.le_trans (List.length_filter_le _ _) (by simp)
theorem natVals_len (l : List Nat) : (natVals l).length = l.length := by simp [natVals]
theorem owns_ints {w : World} {base : Nat} {v : Value} {l : List Nat} (h : w.ownsRow base 3 1 v l.length (natVals l)) :
    ∃ av cv, v = .slice av l.length cv ∧ l.length ≤ cv ∧ cv ≤ maxLen ∧ Hid ((l = [] ∧ av = none ∧ cv = 0) ∨ ∃ g, av = some ⟨g, 0, none⟩ ∧ base ≤ g ∧ g < w.heap.size ∧ ∀ j (hj : j < l.length), w.cell? ⟨g, j, none⟩ = some (.int .i64 l[j])) := by
  rcases h.2 with ⟨h1, h2⟩ | ⟨g, cap, cur, h1, h2, h3, h4, h5, h6, h7⟩
  · obtain rfl := List.length_eq_zero_iff.1 h2
    exact ⟨none, 0, h1, by simp, by simp, Lib.hid (.inl ⟨rfl, rfl, rfl⟩)⟩
  · subst h1
    refine ⟨_, cap, rfl, h4, h5, Lib.hid (.inr ⟨g, rfl, h2, (h.lt g rfl).2, fun j hj => ?_⟩)⟩
    rw [h.cellAt j (by omega)]
    simp [natVals, hj]
theorem oneInts (l : List Nat) : ∀ u ∈ natVals l, u.oneCell' = true := fun u hu => by
  simp only [natVals, List.mem_map] at hu
  obtain ⟨x, _, rfl⟩ := hu
  rfl

/-- The slice [:k] of a row. -/
theorem sl_hi (W : World) (av : Option Addr) (l cv k : Nat) (hk : k ≤ cv) :
    (Instr.sliceAt 38 (.slice av l cv) none (some (.int .i64 k)) none).run Tryz.prog W = .ok (.slice (if cv = 0 then av else av.map (·.add 0)) k cv) W := by
  obtain ⟨i0, hi, hz0, hz1, hz2⟩ := info_parts inf3
  have h0 : (0 : Int) ≤ (k : Int) := by omega
  have h1 : (k : Int) ≤ (cv : Int) := by omega
  simp [Instr.sliceAt, Instr.slice, Instr.sliceBounds, run_underlying u38, run_sliceBound, sizeOf, typeInfo, hi, h0, h1]
theorem sl_lo (W : World) (av : Option Addr) (l cv k : Nat) (hk : k ≤ l) :
    (Instr.sliceAt 38 (.slice av l cv) (some (.int .i64 k)) none none).run Tryz.prog W = .ok (.slice (if cv = k then av else av.map (·.add k)) (l - k) (cv - k)) W := by
  obtain ⟨i0, hi, hz0, hz1, hz2⟩ := info_parts inf3
  have h0 : (0 : Int) ≤ (k : Int) := by omega
  have h1 : (k : Int) ≤ (l : Int) := by omega
  simp [Instr.sliceAt, Instr.slice, Instr.sliceBounds, run_underlying u38, run_sliceBound, sizeOf, typeInfo, hi, hz1, h0, h1]

theorem exec_slice {ρ : Operand → Value} {o : Oper} {x : Operand} {lo hi mx : Option Operand} {t : TypeId} {P : Program} {w : World} {y : Value} (ho : o.op = .slice t x lo hi mx) (hr : (Instr.sliceAt t (ρ x) (lo.map ρ) (hi.map ρ) (mx.map ρ)).run P w = .ok y w) :
    (execOp ρ o).run P w = .ok (.value y) w := by
  unfold execOp
  simp only [ho, Sem.run_bind, Sem.run_pure, Result.andThen_ok, hr]

theorem put_src {f : Nat → Bool} {m : Nat} (hm : m < 20) (hf : f m = false) {w : World} {base : Nat} {av : Option Addr} {cv : Nat} (hv : w.ownsRow base 3 1 (.slice av (listTo f 20).length cv) (listTo f 20).length (natVals (listTo f 20))) :
    ∃ y1 y2, (∀ W, (Instr.sliceAt 38 (.slice av (listTo f 20).length cv) none (some (.int .i64 (listTo f m).length)) none).run Tryz.prog W = .ok y1 W) ∧
      (∀ W, (Instr.sliceAt 38 (.slice av (listTo f 20).length cv) (some (.int .i64 (listTo f m).length)) none none).run Tryz.prog W = .ok y2 W) ∧
      ∀ W, Below w.heap.size w W → SrcRow W y1 (natVals (listTo f m)) ∧ SrcRow W y2 (natVals (geq f (m + 1))) := by
  obtain ⟨av', cv', he, h1, h2, h3⟩ := owns_ints hv
  simp only [Value.slice.injEq] at he
  obtain ⟨rfl, -, rfl⟩ := he
  have hA := listTo_split f (show m ≤ 20 by omega)
  rw [geq_succ f hm, hf] at hA
  simp only [Bool.false_eq_true, if_false, List.nil_append] at hA
  have hl : (listTo f m).length ≤ (listTo f 20).length := by rw [hA, List.length_append]; omega
  have hl2 : (listTo f 20).length - (listTo f m).length = (geq f (m + 1)).length := by rw [hA, List.length_append]; omega
  refine ⟨_, _, fun W => sl_hi W _ _ _ _ (by omega), fun W => sl_lo W _ _ _ _ hl, fun W hb => ?_⟩
  rcases h3.out with ⟨h4, h5, h6⟩ | ⟨g, h4, h5, h6, h7⟩
  · subst h5 h6
    rw [h4] at hA
    obtain ⟨h8, h9⟩ := List.append_eq_nil_iff.1 hA.symm
    rw [h4, h8, h9]
    exact ⟨.inl ⟨rfl, rfl⟩, .inl ⟨rfl, rfl⟩⟩
  · subst h4
    have hc : ∀ j (hj : j < (listTo f 20).length), W.cell? ⟨g, j, none⟩ = some (.int .i64 (listTo f 20)[j]) := fun j hj => (hb.cell (p := ⟨g, j, none⟩) h6).trans (h7 j hj)
    constructor
    · refine .inr ⟨⟨g, 0, none⟩, cv, ?_, fun j u hu => ?_, oneInts _⟩
      · rw [natVals_len]; split <;> simp [addp]
      · simp only [natVals, List.getElem?_map, Option.map_eq_some_iff] at hu
        obtain ⟨x, hx, rfl⟩ := hu
        obtain ⟨hj, rfl⟩ := List.getElem?_eq_some_iff.1 hx
        rw [addp, Nat.zero_add, hc j (by omega)]
        simp only [hA]
        rw [List.getElem_append_left]
    · refine .inr ⟨if cv = (listTo f m).length then ⟨g, 0, none⟩ else ⟨g, (listTo f m).length, none⟩, cv - (listTo f m).length, ?_, fun j u hu => ?_, oneInts _⟩
      · rw [natVals_len, hl2]; split <;> simp [addp]
      · simp only [natVals, List.getElem?_map, Option.map_eq_some_iff] at hu
        obtain ⟨x, hx, rfl⟩ := hu
        obtain ⟨hj, rfl⟩ := List.getElem?_eq_some_iff.1 hx
        rw [if_neg (by omega), addp, hc _ (by omega)]
        simp only [hA]
        rw [List.getElem_append_right (by omega)]
        simp

theorem fin_row {W : World} {b b' : Nat} {v : Value} {A C R : List Nat} {m : Nat} (hR : R = A ++ m :: C) (h : W.ownsRow b 3 1 v ((natVals A).length + 1 + (natVals C).length) (natVals A ++ [.int .i64 m] ++ natVals C)) (hb : b' ≤ b) : W.ownsRow b' 3 1 v R.length (natVals R) := by
  have e : natVals (A ++ m :: C) = natVals A ++ [.int .i64 m] ++ natVals C := by simp [natVals]
  have e2 : (A ++ m :: C).length = (natVals A).length + 1 + (natVals C).length := by simp [natVals]; omega
  rw [hR, e, e2]
  exact ownsRow_wider hb h

set_option maxRecDepth 100000 in
set_option maxHeartbeats 8000000 in
theorem rput_any (f : Nat → Bool) (m : Nat) (hm : m < 20) (w : World) (base : Nat) (v : Value) (hv : w.ownsRow base 3 1 v (listTo f 20).length (natVals (listTo f 20))) (hbase : base ≤ w.heap.size) :
    Calls Tryz.prog 62 #[v, .int .i64 m] w fun e w' => ∃ v', e = .returned v' ∧ w'.ownsRow base 3 1 v' (listTo (setB f m true) 20).length (natVals (listTo (setB f m true) 20)) ∧ Below w.heap.size w w' := by
  obtain ⟨i0, hi, hz0, hz1, hz2⟩ := info_parts inf3
  obtain ⟨av, cv, rfl, hcv, hcm, hcs⟩ := owns_ints hv
  have hsrc := fun hf => put_src hm hf hv
  have hres0 := fun hf => listTo_set (f := f) hm hf
  have hres1 := fun hf => setB_same (f := f) (n := m) hf
  obtain ⟨L, hL⟩ : ∃ L, L = listTo f 20 := ⟨_, rfl⟩
  obtain ⟨R, hR⟩ : ∃ L, L = listTo (setB f m true) 20 := ⟨_, rfl⟩
  obtain ⟨A, hAe⟩ : ∃ L, L = listTo f m := ⟨_, rfl⟩
  obtain ⟨C, hC⟩ : ∃ L, L = geq f (m + 1) := ⟨_, rfl⟩
  have hlen : L.length ≤ 20 := by rw [hL]; exact listTo_len f 20
  have hlA : A.length ≤ 20 := by rw [hAe]; exact Nat.le_trans (listTo_len f m) (by omega)
  have hlC : C.length ≤ 20 := by rw [hC]; exact geq_len _ _
  have hA : Hid (L = A ++ geq f m) := Lib.hid (by rw [hL, hAe]; exact listTo_split f (by omega))
  have hAl : A.length ≤ L.length := by rw [hA.out, List.length_append]; omega
  have hlow : Hid (∀ j (hj : j < L.length), j < A.length → L[j] < m) := Lib.hid (fun j hj h => by
    have e : L[j] = A[j]'h := by
      have h2 := hA.out
      simp only [h2]
      rw [List.getElem_append_left]
    rw [e]; exact listTo_lt (f := f) (by rw [← hAe]; exact List.getElem_mem _))
  have hhigh : Hid (∀ (hj : A.length < L.length), m ≤ L[A.length] ∧ (f m = true ↔ L[A.length] = m)) := Lib.hid (fun hj => by
    have hge : L[A.length] ∈ geq f m := by
      have h2 := hA.out
      simp only [h2]
      rw [List.getElem_append_right (Nat.le_refl _)]
      exact List.getElem_mem _
    refine ⟨geq_le hge, ?_⟩
    have e : L[A.length] = (geq f m)[0]'(by have := congrArg List.length hA.out; rw [List.length_append] at this; omega) := by
      have h2 := hA.out
      simp only [h2]
      rw [List.getElem_append_right (Nat.le_refl _)]
      congr 1
      omega
    have e2 := geq_succ f hm
    cases hf : f m
    · rw [hf] at e2
      simp only [Bool.false_eq_true, if_false, List.nil_append] at e2
      have : L[A.length] ∈ geq f (m + 1) := by rw [← e2]; exact hge
      have := geq_le this
      simp; omega
    · rw [hf] at e2
      simp only [if_true, List.singleton_append] at e2
      simp only [true_iff]
      rw [e]
      simp only [e2, List.getElem_cons_zero])
  have hfm : Hid (A.length = L.length → f m = false) := Lib.hid (fun h => by
    cases hf : f m
    · rfl
    · have e2 := geq_succ f hm
      rw [hf] at e2
      have := congrArg List.length hA.out
      rw [List.length_append, e2] at this
      simp at this; omega)
  rw [← hR, ← hAe, ← hC] at hres0
  rw [← hL, ← hAe, ← hC] at hsrc
  have hsame : Hid (f m = true → R = L) := Lib.hid (fun h => by rw [hR, hL, hres1 h])
  rw [← hL] at hv hcv hcs
  rw [← hL, ← hR]
  replace hres0 := Lib.hid hres0
  replace hsrc := Lib.hid hsrc
  replace hv := Lib.hid hv
  clear hL hR hC hAe hA hres1
  obtain ⟨kA, hkA⟩ : ∃ k, k = A.length := ⟨_, rfl⟩
  rw [← hkA] at hAl hlow hfm hsrc
  have hhigh : Hid (∀ j (hj : j < L.length), j = kA → m ≤ L[j] ∧ (f m = true ↔ L[j] = m)) := Lib.hid (fun j hj e => by subst e; subst hkA; exact hhigh.out hj)
  have hlA' : kA ≤ 20 := by omega
  replace hkA := Lib.hid hkA
  go_enter Tryz.func62, Tryz.ntmps62
  go_wp2_with fail
  go_loopw [5] (fun q wj => ∃ k : Nat, k ≤ kA ∧ q = .int .i64 k ∧ wj = w) (fun q _ => L.length - (intOf q).toNat)
  case atStart => exact ⟨0, by omega, rfl, rfl⟩
  case round =>
    obtain ⟨k, hk, rfl, rfl⟩ := hrel
    by_cases hlt : k < kA
    · have o1 : (k : Int) < (L.length : Int) := by omega
      obtain ⟨g, rfl, hgb, hgl, hcells⟩ : ∃ g, av = some ⟨g, 0, none⟩ ∧ base ≤ g ∧ g < wr.heap.size ∧ Hid (∀ j (hj : j < L.length), wr.cell? ⟨g, j, none⟩ = some (.int .i64 L[j])) := by
        rcases hcs.out with ⟨h0, _⟩ | ⟨g, h3, h4, h5, h6⟩
        · rw [h0] at hAl; simp at hAl; omega
        · exact ⟨g, h3, h4, h5, Lib.hid h6⟩
      have c2 := hcells.out k (by omega)
      have o3 : (L[k] : Int) < (m : Int) := by have := hlow.out k (by omega) hlt; omega
      obtain ⟨cm, hcm'⟩ : ∃ x, x = L[k] := ⟨_, rfl⟩
      rw [← hcm'] at c2 o3
      clear hcs hcells hcm' hsrc hv
      go_wp2_with fail
      go_roundw
      case rel => exact ⟨k + 1, by omega, by go_num, by trivial⟩
      case measure => simp [intOf]; omega
    · have hke : Hid (k = kA) := Lib.hid (by omega)
      by_cases hin : k < L.length
      · have o1 : (k : Int) < (L.length : Int) := by omega
        have hav : Hid (∃ g, av = some ⟨g, 0, none⟩ ∧ g < wr.heap.size ∧ wr.cell? ⟨g, k, none⟩ = some (.int .i64 L[k])) := Lib.hid (by
          rcases hcs.out with ⟨h0, _⟩ | ⟨g, h3, h4, h5, h6⟩
          · rw [h0] at hin; simp at hin
          · exact ⟨g, h3, h5, h6 k hin⟩)
        have h9 := hhigh.out k hin hke.out
        have o3 : ¬ (L[k] : Int) < (m : Int) := by omega
        obtain ⟨cm, hcm'⟩ : ∃ x, x = L[k] := ⟨_, rfl⟩
        rw [← hcm'] at o3 h9 hav
        clear hcs hcm' hlow hhigh hfm
        cases hf : f m
        · have o4 : ((cm : Int) == (m : Int)) = false := by
            rw [beq_eq_false_iff_ne]; intro h; have h2 := h9.2.2 (by omega); rw [hf] at h2; cases h2
          have hres := Lib.hid (hres0.out hf)
          obtain ⟨y1, y2, hr1, hr2, hs⟩ := hsrc.out hf
          rw [← hke.out] at hr1 hr2
          replace hr1 := Lib.hid hr1
          replace hr2 := Lib.hid hr2
          have hs1 : Hid (∀ W, Below wr.heap.size wr W → SrcRow W y1 (natVals A)) := Lib.hid (fun W h => (hs W h).1)
          have hs2 : Hid (∀ W, Below wr.heap.size wr W → SrcRow W y2 (natVals C)) := Lib.hid (fun W h => (hs W h).2)
          clear hs hsrc hres0 hsame h9 hf hkA hke hlA' hAl hlt hk
          obtain ⟨g, rfl, hgl, c2⟩ := hav.out
          clear hav
          go_upto_region 6 with fail
          refine region_named (S := fun W' => Below wr.heap.size wr W') (by kernel_rfl) (fun W hW => ?_)
          have hq : Hid (Below wr.heap.size wr W) := Lib.hid (by rw [hW]; exact (Below.refl _ _).drew)
          have hwr : wr.heap.size ≤ W.heap.size := hq.out.size
          clear hW
          refine takeH 0 33 (.slice (some ⟨g, 0, none⟩) L.length cv) rfl rfl (by kernel_rfl) (by kernel_rfl) (by kernel_rfl) (fun _ _ _ h => h) (by rfl) (by intro W hSw; clear hSw; go_simp) hq.out ?_
          try simp only [List.setIfInBounds_toArray, List.set_cons_zero, List.set_cons_succ]
          refine takeH 1 34 (.int .i64 k) rfl rfl (by kernel_rfl) (by kernel_rfl) (by kernel_rfl) (fun _ _ _ h => h) (by rfl) (by intro W hSw; clear hSw; go_simp) hq.out ?_
          try simp only [List.setIfInBounds_toArray, List.set_cons_zero, List.set_cons_succ]
          refine takeH 2 35 y1 rfl rfl (by kernel_rfl) (by kernel_rfl) (by kernel_rfl) (fun _ _ _ h => h) (by rfl) (fun W _ => exec_slice rfl (hr1.out W)) hq.out ?_
          try simp only [List.setIfInBounds_toArray, List.set_cons_zero, List.set_cons_succ]
          refine takeH 4 37 (.int .i64 m) rfl rfl (by kernel_rfl) (by kernel_rfl) (by kernel_rfl) (fun _ _ _ h => h) (by rfl) (by intro W hSw; clear hSw; go_simp) hq.out ?_
          try simp only [List.setIfInBounds_toArray, List.set_cons_zero, List.set_cons_succ]
          refine takeH 7 40 (.slice (some ⟨g, 0, none⟩) L.length cv) rfl rfl (by kernel_rfl) (by kernel_rfl) (by kernel_rfl) (fun _ _ _ h => h) (by rfl) (by intro W hSw; clear hSw; go_simp) hq.out ?_
          try simp only [List.setIfInBounds_toArray, List.set_cons_zero, List.set_cons_succ]
          refine takeH 8 41 (.int .i64 k) rfl rfl (by kernel_rfl) (by kernel_rfl) (by kernel_rfl) (fun _ _ _ h => h) (by rfl) (by intro W hSw; clear hSw; go_simp) hq.out ?_
          try simp only [List.setIfInBounds_toArray, List.set_cons_zero, List.set_cons_succ]
          refine takeH 9 42 y2 rfl rfl (by kernel_rfl) (by kernel_rfl) (by kernel_rfl) (fun _ _ _ h => h) (by rfl) (fun W _ => exec_slice rfl (hr2.out W)) hq.out ?_
          try simp only [List.setIfInBounds_toArray, List.set_cons_zero, List.set_cons_succ]
          refine wpAnyH_ready (rs := [3, 5]) (by kernel_rfl) (by simp) ?_
          refine AllReadyH.cons rfl (fun K hKc => ?_) (AllReadyH.cons rfl (fun K hKc => ?_) AllReadyH.nil)
          · rw [if_pos (by rfl)]
            obtain ⟨v1, W1, hr3, ho1, hg1⟩ := app_run W W.heap.size (.slice none 0 0) y1 0 [] (natVals A) (by rw [natVals_len]; omega) (World.ownsRow_nil _ _ _ _) (Nat.le_refl _) (hs1.out W hq.out)
            refine wp_builtin_append rfl rfl rfl hr3 ?_
            replace hq := Lib.hid (hq.out.grown hg1 hwr (fun q hq => by cases hq))
            have hWs1 : W.heap.size ≤ W1.heap.size := hg1.size
            simp only [List.nil_append, Nat.zero_add] at ho1
            refine hKc _ _ hq.out (fun _ => ?_)
            clear hKc K hr3
            try simp only [Act.put, List.setIfInBounds_toArray]
            refine wpAnyH_ready (rs := [5]) (by kernel_rfl) (by simp) ?_
            refine AllReadyH.cons rfl (fun K hKc => ?_) AllReadyH.nil
            go_simp
            replace hq := Lib.hid (hq.out.alloc (by omega) (.cells #[.int .i64 m] 3))
            refine hKc _ _ hq.out (fun _ => ?_)
            clear hKc K
            try simp only [Act.put, List.setIfInBounds_toArray, List.set_cons_zero, List.set_cons_succ]
            refine wpAnyH_ready (rs := [6]) (by kernel_rfl) (by simp) ?_
            refine AllReadyH.cons rfl (fun K hKc => ?_) AllReadyH.nil
            rw [if_pos (by rfl)]
            refine wp_append_own _ _ _ 38 rfl W.heap.size 3 i0 (.int .i64 0) 1 8 u38 hi hz0 hz1 hz2 rfl (by decide) v1 (natVals A).length (natVals A) rfl (ho1.alloc _) ⟨W1.heap.size, 0, none⟩ 1 1 [.int .i64 m] rfl rfl (cell_one_new _ _ _) (fun x hx => by simp at hx; subst hx; rfl) (by rw [natVals_len]; unfold maxLen; omega) (by rw [natVals_len]; omega) (by first | omega | (simp; omega)) ?_
            intro v2 W2 ho2 hg2 _
            have hWs2 : W.heap.size ≤ W2.heap.size := by have := hg2.size; first | omega | (simp at this; omega)
            replace hq := Lib.hid (hq.out.grown hg2 (by first | omega | (simp; omega)) (fun q hq => by have := (ho1.lt q hq).1; first | omega | (simp at this; omega)))
            refine hKc _ _ hq.out (fun _ => ?_)
            clear hKc K ho1 hg1 hg2
            try simp only [Act.put, List.setIfInBounds_toArray]
            obtain ⟨v3, W3, hr3, ho3, hg3⟩ := app_run W2 W.heap.size v2 y2 ((natVals A).length + 1) (natVals A ++ [.int .i64 m]) (natVals C) (by rw [natVals_len, natVals_len]; omega) ho2 hWs2 (hs2.out W2 hq.out)
            refine wpAnyH_ready (rs := [10]) (by kernel_rfl) (by simp) ?_
            refine AllReadyH.cons rfl (fun K hKc => ?_) AllReadyH.nil
            rw [if_pos (by rfl)]
            refine wp_builtin_append rfl rfl rfl hr3 ?_
            replace hq := Lib.hid (hq.out.grown hg3 (by omega) (fun q hq => by have := (ho2.lt q hq).1; omega))
            have hfin : Hid (W3.ownsRow base 3 1 v3 R.length (natVals R)) := Lib.hid (fin_row hres.out ho3 (by omega))
            refine hKc _ _ hq.out (fun _ => ?_)
            clear hKc K hr3 ho3 ho2 hg3
            try simp only [Act.put]
            refine takeH 11 4 v3 rfl rfl (by kernel_rfl) (by kernel_rfl) (by kernel_rfl) (fun _ _ _ h => h) (by rfl) (by intro W hSw; clear hSw; go_simp) hq.out ?_
            try simp only [List.setIfInBounds_toArray, List.set_cons_zero, List.set_cons_succ]
            refine wpAnyH_done (by kernel_rfl) ?_ _
            go_wp2_with fail
            go_ret
            exact ⟨_, rfl, hfin.out, hq.out⟩
          · go_simp
            replace hq := Lib.hid (hq.out.alloc hwr (.cells #[.int .i64 m] 3))
            refine hKc _ _ hq.out (fun _ => ?_)
            clear hKc K
            try simp only [Act.put, List.setIfInBounds_toArray, List.set_cons_zero, List.set_cons_succ]
            refine wpAnyH_ready (rs := [3]) (by kernel_rfl) (by simp) ?_
            refine AllReadyH.cons rfl (fun K hKc => ?_) AllReadyH.nil
            rw [if_pos (by rfl)]
            obtain ⟨v1, W1, hr3, ho1, hg1⟩ := app_run (W.alloc (.cells #[.int .i64 m] 3)) (W.heap.size + 1) (.slice none 0 0) y1 0 [] (natVals A) (by rw [natVals_len]; omega) (World.ownsRow_nil _ _ _ _) (by simp) (hs1.out _ hq.out)
            refine wp_builtin_append rfl rfl rfl hr3 ?_
            replace hq := Lib.hid (hq.out.grown hg1 (by simp; omega) (fun q hq => by cases hq))
            have hWs1 : W.heap.size + 1 ≤ W1.heap.size := by have := hg1.size; simpa using this
            simp only [List.nil_append, Nat.zero_add] at ho1
            refine hKc _ _ hq.out (fun _ => ?_)
            clear hKc K hr3
            try simp only [Act.put, List.setIfInBounds_toArray]
            refine wpAnyH_ready (rs := [6]) (by kernel_rfl) (by simp) ?_
            refine AllReadyH.cons rfl (fun K hKc => ?_) AllReadyH.nil
            rw [if_pos (by rfl)]
            refine wp_append_own _ _ _ 38 rfl (W.heap.size + 1) 3 i0 (.int .i64 0) 1 8 u38 hi hz0 hz1 hz2 rfl (by decide) v1 (natVals A).length (natVals A) rfl ho1 ⟨W.heap.size, 0, none⟩ 1 1 [.int .i64 m] rfl rfl (fun j u hj => hg1.cell (cell_one_new W (.int .i64 m) 3 j u hj) (fun h => by cases h)) (fun x hx => by simp at hx; subst hx; rfl) (by rw [natVals_len]; unfold maxLen; omega) (by rw [natVals_len]; omega) (by first | omega | (simp; omega)) ?_
            intro v2 W2 ho2 hg2 _
            have hWs2 : W.heap.size ≤ W2.heap.size := by have := hg2.size; first | omega | (simp at this; omega)
            replace hq := Lib.hid (hq.out.grown hg2 (by first | omega | (simp; omega)) (fun q hq => by have := (ho1.lt q hq).1; first | omega | (simp at this; omega)))
            replace ho2 := ownsRow_wider (b' := W.heap.size) (by omega) ho2
            refine hKc _ _ hq.out (fun _ => ?_)
            clear hKc K ho1 hg1 hg2
            try simp only [Act.put]
            obtain ⟨v3, W3, hr3, ho3, hg3⟩ := app_run W2 W.heap.size v2 y2 ((natVals A).length + 1) (natVals A ++ [.int .i64 m]) (natVals C) (by rw [natVals_len, natVals_len]; omega) ho2 hWs2 (hs2.out W2 hq.out)
            refine wpAnyH_ready (rs := [10]) (by kernel_rfl) (by simp) ?_
            refine AllReadyH.cons rfl (fun K hKc => ?_) AllReadyH.nil
            rw [if_pos (by rfl)]
            refine wp_builtin_append rfl rfl rfl hr3 ?_
            replace hq := Lib.hid (hq.out.grown hg3 (by omega) (fun q hq => by have := (ho2.lt q hq).1; omega))
            have hfin : Hid (W3.ownsRow base 3 1 v3 R.length (natVals R)) := Lib.hid (fin_row hres.out ho3 (by omega))
            refine hKc _ _ hq.out (fun _ => ?_)
            clear hKc K hr3 ho3 ho2 hg3
            try simp only [Act.put]
            refine takeH 11 4 v3 rfl rfl (by kernel_rfl) (by kernel_rfl) (by kernel_rfl) (fun _ _ _ h => h) (by rfl) (by intro W hSw; clear hSw; go_simp) hq.out ?_
            try simp only [List.setIfInBounds_toArray, List.set_cons_zero, List.set_cons_succ]
            refine wpAnyH_done (by kernel_rfl) ?_ _
            go_wp2_with fail
            go_ret
            exact ⟨_, rfl, hfin.out, hq.out⟩
        · have o4 : ((cm : Int) == (m : Int)) = true := by
            rw [beq_iff_eq]; have := h9.2.1 hf; omega
          have hres := Lib.hid (hsame.out hf)
          obtain ⟨g, rfl, hgl, c2⟩ := hav.out
          clear hav h9 hsrc hres0
          go_wp2_with fail
          go_ret
          exact ⟨_, rfl, by rw [hres.out]; exact hv.out, Below.refl _ _⟩
      · have o1 : ¬ (k : Int) < (L.length : Int) := by omega
        have hf := hfm.out (by have := hke.out; omega)
        have hres := Lib.hid (hres0.out hf)
        obtain ⟨y1, y2, hr1, hr2, hs⟩ := hsrc.out hf
        rw [← hke.out] at hr1 hr2
        replace hr1 := Lib.hid hr1
        replace hr2 := Lib.hid hr2
        have hs1 : Hid (∀ W, Below wr.heap.size wr W → SrcRow W y1 (natVals A)) := Lib.hid (fun W h => (hs W h).1)
        have hs2 : Hid (∀ W, Below wr.heap.size wr W → SrcRow W y2 (natVals C)) := Lib.hid (fun W h => (hs W h).2)
        clear hs hsrc hres0 hsame hf hkA hke hlA' hAl hlt hk hcs hlow hhigh hfm
        go_upto_region 6 with fail
        refine region_named (S := fun W' => Below wr.heap.size wr W') (by kernel_rfl) (fun W hW => ?_)
        have hq : Hid (Below wr.heap.size wr W) := Lib.hid (by rw [hW]; exact (Below.refl _ _).drew)
        have hwr : wr.heap.size ≤ W.heap.size := hq.out.size
        clear hW
        refine takeH 0 33 (.slice av L.length cv) rfl rfl (by kernel_rfl) (by kernel_rfl) (by kernel_rfl) (fun _ _ _ h => h) (by rfl) (by intro W hSw; clear hSw; go_simp) hq.out ?_
        try simp only [List.setIfInBounds_toArray, List.set_cons_zero, List.set_cons_succ]
        refine takeH 1 34 (.int .i64 k) rfl rfl (by kernel_rfl) (by kernel_rfl) (by kernel_rfl) (fun _ _ _ h => h) (by rfl) (by intro W hSw; clear hSw; go_simp) hq.out ?_
        try simp only [List.setIfInBounds_toArray, List.set_cons_zero, List.set_cons_succ]
        refine takeH 2 35 y1 rfl rfl (by kernel_rfl) (by kernel_rfl) (by kernel_rfl) (fun _ _ _ h => h) (by rfl) (fun W _ => exec_slice rfl (hr1.out W)) hq.out ?_
        try simp only [List.setIfInBounds_toArray, List.set_cons_zero, List.set_cons_succ]
        refine takeH 4 37 (.int .i64 m) rfl rfl (by kernel_rfl) (by kernel_rfl) (by kernel_rfl) (fun _ _ _ h => h) (by rfl) (by intro W hSw; clear hSw; go_simp) hq.out ?_
        try simp only [List.setIfInBounds_toArray, List.set_cons_zero, List.set_cons_succ]
        refine takeH 7 40 (.slice av L.length cv) rfl rfl (by kernel_rfl) (by kernel_rfl) (by kernel_rfl) (fun _ _ _ h => h) (by rfl) (by intro W hSw; clear hSw; go_simp) hq.out ?_
        try simp only [List.setIfInBounds_toArray, List.set_cons_zero, List.set_cons_succ]
        refine takeH 8 41 (.int .i64 k) rfl rfl (by kernel_rfl) (by kernel_rfl) (by kernel_rfl) (fun _ _ _ h => h) (by rfl) (by intro W hSw; clear hSw; go_simp) hq.out ?_
        try simp only [List.setIfInBounds_toArray, List.set_cons_zero, List.set_cons_succ]
        refine takeH 9 42 y2 rfl rfl (by kernel_rfl) (by kernel_rfl) (by kernel_rfl) (fun _ _ _ h => h) (by rfl) (fun W _ => exec_slice rfl (hr2.out W)) hq.out ?_
        try simp only [List.setIfInBounds_toArray, List.set_cons_zero, List.set_cons_succ]
        refine wpAnyH_ready (rs := [3, 5]) (by kernel_rfl) (by simp) ?_
        refine AllReadyH.cons rfl (fun K hKc => ?_) (AllReadyH.cons rfl (fun K hKc => ?_) AllReadyH.nil)
        · rw [if_pos (by rfl)]
          obtain ⟨v1, W1, hr3, ho1, hg1⟩ := app_run W W.heap.size (.slice none 0 0) y1 0 [] (natVals A) (by rw [natVals_len]; omega) (World.ownsRow_nil _ _ _ _) (Nat.le_refl _) (hs1.out W hq.out)
          refine wp_builtin_append rfl rfl rfl hr3 ?_
          replace hq := Lib.hid (hq.out.grown hg1 hwr (fun q hq => by cases hq))
          have hWs1 : W.heap.size ≤ W1.heap.size := hg1.size
          simp only [List.nil_append, Nat.zero_add] at ho1
          refine hKc _ _ hq.out (fun _ => ?_)
          clear hKc K hr3
          try simp only [Act.put, List.setIfInBounds_toArray]
          refine wpAnyH_ready (rs := [5]) (by kernel_rfl) (by simp) ?_
          refine AllReadyH.cons rfl (fun K hKc => ?_) AllReadyH.nil
          go_simp
          replace hq := Lib.hid (hq.out.alloc (by omega) (.cells #[.int .i64 m] 3))
          refine hKc _ _ hq.out (fun _ => ?_)
          clear hKc K
          try simp only [Act.put, List.setIfInBounds_toArray, List.set_cons_zero, List.set_cons_succ]
          refine wpAnyH_ready (rs := [6]) (by kernel_rfl) (by simp) ?_
          refine AllReadyH.cons rfl (fun K hKc => ?_) AllReadyH.nil
          rw [if_pos (by rfl)]
          refine wp_append_own _ _ _ 38 rfl W.heap.size 3 i0 (.int .i64 0) 1 8 u38 hi hz0 hz1 hz2 rfl (by decide) v1 (natVals A).length (natVals A) rfl (ho1.alloc _) ⟨W1.heap.size, 0, none⟩ 1 1 [.int .i64 m] rfl rfl (cell_one_new _ _ _) (fun x hx => by simp at hx; subst hx; rfl) (by rw [natVals_len]; unfold maxLen; omega) (by rw [natVals_len]; omega) (by first | omega | (simp; omega)) ?_
          intro v2 W2 ho2 hg2 _
          have hWs2 : W.heap.size ≤ W2.heap.size := by have := hg2.size; first | omega | (simp at this; omega)
          replace hq := Lib.hid (hq.out.grown hg2 (by first | omega | (simp; omega)) (fun q hq => by have := (ho1.lt q hq).1; first | omega | (simp at this; omega)))
          refine hKc _ _ hq.out (fun _ => ?_)
          clear hKc K ho1 hg1 hg2
          try simp only [Act.put, List.setIfInBounds_toArray]
          obtain ⟨v3, W3, hr3, ho3, hg3⟩ := app_run W2 W.heap.size v2 y2 ((natVals A).length + 1) (natVals A ++ [.int .i64 m]) (natVals C) (by rw [natVals_len, natVals_len]; omega) ho2 hWs2 (hs2.out W2 hq.out)
          refine wpAnyH_ready (rs := [10]) (by kernel_rfl) (by simp) ?_
          refine AllReadyH.cons rfl (fun K hKc => ?_) AllReadyH.nil
          rw [if_pos (by rfl)]
          refine wp_builtin_append rfl rfl rfl hr3 ?_
          replace hq := Lib.hid (hq.out.grown hg3 (by omega) (fun q hq => by have := (ho2.lt q hq).1; omega))
          have hfin : Hid (W3.ownsRow base 3 1 v3 R.length (natVals R)) := Lib.hid (fin_row hres.out ho3 (by omega))
          refine hKc _ _ hq.out (fun _ => ?_)
          clear hKc K hr3 ho3 ho2 hg3
          try simp only [Act.put]
          refine takeH 11 4 v3 rfl rfl (by kernel_rfl) (by kernel_rfl) (by kernel_rfl) (fun _ _ _ h => h) (by rfl) (by intro W hSw; clear hSw; go_simp) hq.out ?_
          try simp only [List.setIfInBounds_toArray, List.set_cons_zero, List.set_cons_succ]
          refine wpAnyH_done (by kernel_rfl) ?_ _
          go_wp2_with fail
          go_ret
          exact ⟨_, rfl, hfin.out, hq.out⟩
        · go_simp
          replace hq := Lib.hid (hq.out.alloc hwr (.cells #[.int .i64 m] 3))
          refine hKc _ _ hq.out (fun _ => ?_)
          clear hKc K
          try simp only [Act.put, List.setIfInBounds_toArray, List.set_cons_zero, List.set_cons_succ]
          refine wpAnyH_ready (rs := [3]) (by kernel_rfl) (by simp) ?_
          refine AllReadyH.cons rfl (fun K hKc => ?_) AllReadyH.nil
          rw [if_pos (by rfl)]
          obtain ⟨v1, W1, hr3, ho1, hg1⟩ := app_run (W.alloc (.cells #[.int .i64 m] 3)) (W.heap.size + 1) (.slice none 0 0) y1 0 [] (natVals A) (by rw [natVals_len]; omega) (World.ownsRow_nil _ _ _ _) (by simp) (hs1.out _ hq.out)
          refine wp_builtin_append rfl rfl rfl hr3 ?_
          replace hq := Lib.hid (hq.out.grown hg1 (by simp; omega) (fun q hq => by cases hq))
          have hWs1 : W.heap.size + 1 ≤ W1.heap.size := by have := hg1.size; simpa using this
          simp only [List.nil_append, Nat.zero_add] at ho1
          refine hKc _ _ hq.out (fun _ => ?_)
          clear hKc K hr3
          try simp only [Act.put, List.setIfInBounds_toArray]
          refine wpAnyH_ready (rs := [6]) (by kernel_rfl) (by simp) ?_
          refine AllReadyH.cons rfl (fun K hKc => ?_) AllReadyH.nil
          rw [if_pos (by rfl)]
          refine wp_append_own _ _ _ 38 rfl (W.heap.size + 1) 3 i0 (.int .i64 0) 1 8 u38 hi hz0 hz1 hz2 rfl (by decide) v1 (natVals A).length (natVals A) rfl ho1 ⟨W.heap.size, 0, none⟩ 1 1 [.int .i64 m] rfl rfl (fun j u hj => hg1.cell (cell_one_new W (.int .i64 m) 3 j u hj) (fun h => by cases h)) (fun x hx => by simp at hx; subst hx; rfl) (by rw [natVals_len]; unfold maxLen; omega) (by rw [natVals_len]; omega) (by first | omega | (simp; omega)) ?_
          intro v2 W2 ho2 hg2 _
          have hWs2 : W.heap.size ≤ W2.heap.size := by have := hg2.size; first | omega | (simp at this; omega)
          replace hq := Lib.hid (hq.out.grown hg2 (by first | omega | (simp; omega)) (fun q hq => by have := (ho1.lt q hq).1; first | omega | (simp at this; omega)))
          replace ho2 := ownsRow_wider (b' := W.heap.size) (by omega) ho2
          refine hKc _ _ hq.out (fun _ => ?_)
          clear hKc K ho1 hg1 hg2
          try simp only [Act.put]
          obtain ⟨v3, W3, hr3, ho3, hg3⟩ := app_run W2 W.heap.size v2 y2 ((natVals A).length + 1) (natVals A ++ [.int .i64 m]) (natVals C) (by rw [natVals_len, natVals_len]; omega) ho2 hWs2 (hs2.out W2 hq.out)
          refine wpAnyH_ready (rs := [10]) (by kernel_rfl) (by simp) ?_
          refine AllReadyH.cons rfl (fun K hKc => ?_) AllReadyH.nil
          rw [if_pos (by rfl)]
          refine wp_builtin_append rfl rfl rfl hr3 ?_
          replace hq := Lib.hid (hq.out.grown hg3 (by omega) (fun q hq => by have := (ho2.lt q hq).1; omega))
          have hfin : Hid (W3.ownsRow base 3 1 v3 R.length (natVals R)) := Lib.hid (fin_row hres.out ho3 (by omega))
          refine hKc _ _ hq.out (fun _ => ?_)
          clear hKc K hr3 ho3 ho2 hg3
          try simp only [Act.put]
          refine takeH 11 4 v3 rfl rfl (by kernel_rfl) (by kernel_rfl) (by kernel_rfl) (fun _ _ _ h => h) (by rfl) (by intro W hSw; clear hSw; go_simp) hq.out ?_
          try simp only [List.setIfInBounds_toArray, List.set_cons_zero, List.set_cons_succ]
          refine wpAnyH_done (by kernel_rfl) ?_ _
          go_wp2_with fail
          go_ret
          exact ⟨_, rfl, hfin.out, hq.out⟩

end Go.Proofs.YthlegfegkopdkaaGreat

namespace Go.Proofs.YthlegfegkopdkaaGreat
open Go.RowKit Go.Shelf Go.Sort

theorem ownsRow_up {w w' : World} {b n : Nat} {e : TypeId} {size : Nat} {v : Value} {k : Nat} {xs : List Value} (h : w.ownsRow b e size v k xs) (hb : Below n w w') (hn : w.heap.size ≤ n) : w'.ownsRow b e size v k xs := by
  refine ⟨h.1, ?_⟩
  rcases h.2 with h2 | ⟨g, cap, cur, h2, h3, h4, h5, h6, h7⟩
  · exact .inl h2
  · exact .inr ⟨g, cap, cur, h2, h3, (hb.block g (by have := (h.lt g (by rw [h2]; rfl)).2; omega)).trans h4, h5, h6, h7⟩

/-- What is left in from a list of variables, of which one may be bound. -/
def keep (op : Int) (k : Nat) (n : Int) (x : Nat) : Bool := !decide (op = 8) || !decide (k = 1) || !decide ((x : Int) = n)
def inTo (acc F : Nat → Bool) (op : Int) (k : Nat) (n : Int) (m : Nat) : Nat → Bool := fun i => acc i || (decide (i ∈ (listTo F 20).take m) && keep op k n i)
theorem inTo_zero (acc F : Nat → Bool) (op : Int) (k : Nat) (n : Int) : inTo acc F op k n 0 = acc := by funext i; simp [inTo]
theorem inTo_succ {acc F : Nat → Bool} {op : Int} {k : Nat} {n : Int} {m : Nat} (h : m < (listTo F 20).length) : inTo acc F op k n (m + 1) = if keep op k n (listTo F 20)[m] = true then setB (inTo acc F op k n m) (listTo F 20)[m] true else inTo acc F op k n m := by
  funext i
  have e : decide (i ∈ (listTo F 20).take (m + 1)) = (decide (i ∈ (listTo F 20).take m) || decide (i = (listTo F 20)[m])) := by
    rw [List.take_succ_eq_append_getElem h, Bool.eq_iff_iff]
    simp only [decide_eq_true_eq, Bool.or_eq_true, List.mem_append, List.mem_singleton]
  split
  · next hk =>
    simp only [inTo, e, setB]
    split
    · next he => subst he; simp [hk]
    · next he => simp [he]
  · next hk =>
    simp only [inTo, e]
    by_cases he : i = (listTo F 20)[m]
    · rw [Bool.not_eq_true] at hk
      rw [← he] at hk
      simp [hk]
    · simp [he]
theorem listTo_congr {f g : Nat → Bool} (h : ∀ i, i < 20 → f i = g i) : listTo f 20 = listTo g 20 := by
  unfold listTo
  exact List.filter_congr fun x hx => h x (List.mem_range.1 hx)
theorem mem_listTo {f : Nat → Bool} {i : Nat} : i ∈ listTo f 20 ↔ i < 20 ∧ f i = true := by
  unfold listTo; rw [List.mem_filter, List.mem_range]
theorem inTo_all (acc F : Nat → Bool) (op : Int) (k : Nat) (n : Int) (hn : op = 8 → 0 ≤ n) : listTo (inTo acc F op k n (listTo F 20).length) 20 = listTo (orSet acc (if op = 8 ∧ k = 1 then setB F n.toNat false else F)) 20 := by
  refine listTo_congr fun i hi => ?_
  have e : decide (i ∈ (listTo F 20).take (listTo F 20).length) = F i := by
    rw [List.take_length]
    cases h : F i
    · rw [decide_eq_false_iff_not, mem_listTo]; simp [h]
    · rw [decide_eq_true_eq, mem_listTo]; exact ⟨hi, h⟩
  simp only [inTo, e, orSet]
  congr 1
  by_cases h : op = 8 ∧ k = 1
  · have := hn h.1
    rw [if_pos h]
    by_cases he : (i : Int) = n
    · have : i = n.toNat := by omega
      simp [keep, h.1, h.2, setB, he]
      intro _; omega
    · have : ¬ i = n.toNat := by omega
      simp [keep, h.1, h.2, setB, he, this]
  · rw [if_neg h]
    simp only [keep]
    by_cases h8 : op = 8
    · have : ¬ k = 1 := fun e => h ⟨h8, e⟩
      simp [this]
    · simp [h8]
theorem listTo_one {n : Nat} (h : n < 20) : listTo (fun i => decide (i = n)) 20 = [n] := by
  have e : (fun i => decide (i = n)) = setB (fun _ => false) n true := by funext i; simp [setB]
  rw [e, listTo_set h rfl]
  have e1 : listTo (fun _ => false) n = [] := by simp [listTo]
  have e2 : geq (fun _ => false) (n + 1) = [] := by simp [geq]
  rw [e1, e2]; rfl
theorem ints_row {w : World} {base : Nat} {v : Value} {l : List Nat} (h : w.ownsRow base 3 1 v l.length (natVals l)) : ∃ av cv, v = .slice av l.length cv ∧ l.length ≤ cv ∧ Hid (∀ W, Below w.heap.size w W → ∀ j (hj : j < l.length), ∃ g, av = some ⟨g, 0, none⟩ ∧ g < w.heap.size ∧ W.cell? ⟨g, j, none⟩ = some (.int .i64 l[j])) := by
  obtain ⟨av, cv, h1, h2, h3, h4⟩ := owns_ints h
  refine ⟨av, cv, h1, h2, Lib.hid (fun W hW j hj => ?_)⟩
  rcases h4.out with ⟨h5, _⟩ | ⟨g, h5, h6, h7, h8⟩
  · rw [h5] at hj; simp at hj
  · exact ⟨g, h5, h7, (hW.cell (p := ⟨g, j, none⟩) h7).trans (h8 j hj)⟩

set_option maxRecDepth 100000 in
set_option maxHeartbeats 4000000 in
theorem rVars_any (N : Nat) : ∀ (t : Tm) (n₀ : Nat) (w : World) (a : Option Addr) (l c : Nat), t.size ≤ N → IsTm n₀ w t a l c → OkV t → n₀ ≤ w.heap.size →
    Calls Tryz.prog 24 #[.agg #[.int .i64 t.op, .int .i64 t.n, .slice a l c]] w fun e w' => ∃ v, e = .returned v ∧ w'.ownsRow w.heap.size 3 1 v (listTo (fvT t) 20).length (natVals (listTo (fvT t) 20)) ∧ Below w.heap.size w w' := by
  induction N with
  | zero => intro t _ _ _ _ _ h; have := size_pos t; omega
  | succ N ih =>
    intro t n₀ w a l c hs ht hO hn
    replace ih := Lib.hid ih
    obtain ⟨rfl, hlc, hc, hk⟩ := ht.open
    obtain ⟨o1, o2, o3, o4⟩ := hO.open
    have hsz := Lib.hid (size_eq t)
    have hsb : sizes t.kids ≤ N := by have := hsz.out; omega
    have hv := Lib.hid (fvT_eq t)
    replace o4 := Lib.hid o4
    by_cases h1 : t.op = 1
    · obtain ⟨n, hnn⟩ := Int.eq_ofNat_of_zero_le (o1 (.inl h1)).1
      have hn20 : n < 20 := by have := (o1 (.inl h1)).2; omega
      have hres : Hid (listTo (fvT t) 20 = [n]) := Lib.hid (by
        rw [hv.out, o2 h1, fvKs, ← listTo_one hn20]
        refine listTo_congr fun i _ => ?_
        simp [h1, hnn]
        omega)
      have h1b : (t.op == 1) = true := by simp [h1]
      have hone : Hid (∀ W : World, (W.alloc (.cells #[.int .i64 n] 3)).ownsRow W.heap.size 3 1 (.slice (some ⟨W.heap.size, 0, none⟩) 1 1) [n].length (natVals [n])) := Lib.hid (fun W => ⟨rfl, .inr ⟨W.heap.size, 1, _, rfl, Nat.le_refl _, heap_alloc_new W _, by simp, by simp [maxLen], rfl, rfl⟩⟩)
      rw [hres.out]
      clear o1 o2 o3 hk ht hO h1
      go_enter Tryz.func24, Tryz.ntmps24
      go_wp2_with fail
      go_ret
      refine ⟨_, rfl, ?_, by go_grown⟩
      have h9 := hone.out (w.alloc (.cells #[.int .i64 t.op, .int .i64 n, .slice a t.kids.length c] 28))
      rw [World.size_alloc] at h9
      exact ownsRow_wider (by omega) h9
    · have h1b : (t.op == 1) = false := by simp [h1]
      have hst : Hid (fvT t = fvKs t.op t.n (t.kids.drop 0) 0 (fun _ => false)) := Lib.hid (by
        rw [hv.out]; simp [h1])
      have hput := fun f m hm W base v hv hb => rput_any f m hm W base v hv hb
      replace hput := Lib.hid hput
      replace o1 := Lib.hid o1
      replace o3 := Lib.hid o3
      clear o2 ht hO h1 hv
      go_enter Tryz.func24, Tryz.ntmps24
      go_wp2_with fail
      go_loopw [3, 4, 5, 6] (fun out i _ _ wi => ∃ (k : Nat) (acc : Nat → Bool), k ≤ t.kids.length ∧ i = .int .i64 k ∧ Hid (fvT t = fvKs t.op t.n (t.kids.drop k) k acc) ∧ Hid (wi.ownsRow w.heap.size 3 1 out (listTo acc 20).length (natVals (listTo acc 20))) ∧ Hid (Below (w.heap.size + 1) (w.alloc (.cells #[.int .i64 t.op, .int .i64 t.n, .slice a t.kids.length c] 28)) wi)) (fun _ i _ _ _ => t.kids.length - (intOf i).toNat)
      case atStart => exact ⟨0, _, by omega, rfl, hst, Lib.hid (World.ownsRow_nil _ _ _ _), Lib.hid (Below.refl _ _)⟩
      case round =>
        obtain ⟨k, acc, hk1, rfl, hvk, hown, hb⟩ := hrel
        clear hst
        have hbw := Lib.hid (((Below.refl w.heap.size w).alloc (Nat.le_refl _) _).trans (hb.out.mono (Nat.le_succ _)))
        have hz := hb.out.size
        rw [World.size_alloc] at hz
        have hbox : Hid (∀ W, Below wr.heap.size wr W → W.cell? ⟨w.heap.size, 0, none⟩ = some (.int .i64 t.op) ∧ W.cell? ⟨w.heap.size, 1, none⟩ = some (.int .i64 t.n) ∧ W.cell? ⟨w.heap.size, 2, none⟩ = some (.slice a t.kids.length c)) := Lib.hid (fun W hW => by
          have h2 := hb.out.trans (hW.mono hz)
          refine ⟨?_, ?_, ?_⟩ <;> (rw [h2.cell (by simp)]; go_cell))
        obtain ⟨b0, b1, b2⟩ := hbox.out wr (Below.refl _ _)
        by_cases hlt : k < t.kids.length
        · rcases hk with hk | ⟨b, off, rfl, hbn, hks⟩
          · rw [hk] at hlt; simp at hlt
          obtain ⟨a', l', c', hc3, ht'⟩ := IsKids.get _ hks k hlt
          have hc3 := hc3.below (hbw.out.mono hn) hbn
          have ht' := (IsTm.below (hbw.out.mono hn) _ ht')
          obtain ⟨d0, d1, d2⟩ := hc3
          have hsk := size_kid t.kids k hlt
          have hS := Lib.hid (ih.out t.kids[k] n₀ wr a' l' c' (by omega) ht' (OkVs_get _ k hlt o4.out) (by omega))
          have hstep : Hid (fvT t = fvKs t.op t.n (t.kids.drop (k + 1)) (k + 1) (orSet acc (if t.op = 8 ∧ k = 1 then setB (fvT t.kids[k]) t.n.toNat false else fvT t.kids[k]))) := Lib.hid (by
            rw [hvk.out, fvKs_drop _ _ _ _ _ hlt])
          obtain ⟨F, hF⟩ : ∃ F, F = fvT t.kids[k] := ⟨_, rfl⟩
          rw [← hF] at hS hstep
          clear hks ht' hF hvk ih o4 hsk
          go_upto_region 9 with (go_at_call 24; refine (hS.out).mono ?_; rintro e w1 ⟨v1, rfl, hrow, hb1⟩)
          obtain ⟨av, cv, rfl, hcv, hel⟩ := ints_row hrow
          have hwz := hb1.size
          have hM := listTo_len F 20
          have hin0 : Hid (w1.ownsRow w.heap.size 3 1 u3 (listTo (inTo acc F t.op k t.n 0) 20).length (natVals (listTo (inTo acc F t.op k t.n 0) 20))) := Lib.hid (by rw [inTo_zero]; exact ownsRow_up hown.out hb1 (Nat.le_refl _))
          have hbox1 : Hid (∀ W, Below w1.heap.size w1 W → W.cell? ⟨w.heap.size, 0, none⟩ = some (.int .i64 t.op) ∧ W.cell? ⟨w.heap.size, 1, none⟩ = some (.int .i64 t.n) ∧ W.cell? ⟨w.heap.size, 2, none⟩ = some (.slice (some ⟨b, off, none⟩) t.kids.length c)) := Lib.hid (fun W hW => hbox.out W (Below.up hb1 hW))
          replace hb1 := Lib.hid hb1
          clear hrow hown b0 b1 b2 d0 d1 d2 hS hcv hbox
          go_loopw [3, 6] (fun out q wj => ∃ m : Nat, m ≤ (listTo F 20).length ∧ q = .int .i64 m ∧ Hid (wj.ownsRow w.heap.size 3 1 out (listTo (inTo acc F t.op k t.n m) 20).length (natVals (listTo (inTo acc F t.op k t.n m) 20))) ∧ Hid (Below w1.heap.size w1 wj)) (fun _ q _ => (listTo F 20).length - (intOf q).toNat)
          case atStart => exact ⟨0, by omega, rfl, hin0, Lib.hid (Below.refl _ _)⟩
          case round =>
            obtain ⟨m, hm, rfl, hown, hb2⟩ := hrel
            clear hin0
            obtain ⟨b0, b1, b2⟩ := hbox1.out _ hb2.out
            by_cases hq : m < (listTo F 20).length
            · have q1 : (m : Int) < ((listTo F 20).length : Int) := by omega
              obtain ⟨g, rfl, hgl, c0⟩ := hel.out _ hb2.out m hq
              obtain ⟨x, hx⟩ : ∃ x, x = (listTo F 20)[m] := ⟨_, rfl⟩
              have hx20 : x < 20 := by rw [hx]; exact listTo_lt (f := F) (List.getElem_mem _)
              rw [← hx] at c0
              replace hx := Lib.hid hx
              clear hel
              by_cases h8 : t.op = 8
              · by_cases hk1' : k = 1
                · by_cases hxn : (x : Int) = t.n
                  · have hkeep : ¬ keep t.op k t.n x = true := by simp [keep, h8, hk1', hxn]
                    have hnx : Hid (wr.ownsRow w.heap.size 3 1 u3 (listTo (inTo acc F t.op k t.n (m + 1)) 20).length (natVals (listTo (inTo acc F t.op k t.n (m + 1)) 20))) := Lib.hid (by
                      have e := inTo_succ (acc := acc) (op := t.op) (k := k) (n := t.n) hq
                      rw [← hx.out, if_neg hkeep] at e
                      rw [e]; exact hown.out)
                    replace hkeep := Lib.hid hkeep
                    clear hx
                    have g1 : (t.op != 8) = false := by simp [h8]
                    replace h8 := Lib.hid h8
                    have g2 : ((k : Int) != 1) = false := by simp; omega
                    replace hk1' := Lib.hid hk1'
                    have g3 : ((x : Int) != t.n) = false := by simp [hxn]
                    replace hxn := Lib.hid hxn
                    go_wp2_with fail
                    go_quiet (fail)
                    go_wp2_with fail
                    go_roundw
                    case rel => exact ⟨m + 1, by omega, by go_num, Lib.hid (ownsRow_up hnx.out (below_drewN _ _ _) (Nat.le_refl _)), Lib.hid (Below.up hb2.out (below_drewN _ _ _))⟩
                    case measure => simp [intOf]; omega
                  · have hkeep : keep t.op k t.n x = true := by simp [keep, hxn]
                    have hnx : Hid (∀ W W' v', W.ownsRow w.heap.size 3 1 v' (listTo (setB (inTo acc F t.op k t.n m) x true) 20).length (natVals (listTo (setB (inTo acc F t.op k t.n m) x true) 20)) → Below W.heap.size W W' → W'.ownsRow w.heap.size 3 1 v' (listTo (inTo acc F t.op k t.n (m + 1)) 20).length (natVals (listTo (inTo acc F t.op k t.n (m + 1)) 20))) := Lib.hid (fun W W' v' h hb => by
                      have e := inTo_succ (acc := acc) (op := t.op) (k := k) (n := t.n) hq
                      rw [← hx.out, if_pos hkeep] at e
                      rw [e]; exact ownsRow_up h hb (Nat.le_refl _))
                    replace hkeep := Lib.hid hkeep
                    clear hx
                    have g1 : (t.op != 8) = false := by simp [h8]
                    replace h8 := Lib.hid h8
                    have g2 : ((k : Int) != 1) = false := by simp; omega
                    replace hk1' := Lib.hid hk1'
                    have g3 : ((x : Int) != t.n) = true := by simp [hxn]
                    replace hxn := Lib.hid hxn
                    go_wp2_with fail
                    go_quiet (fail)
                    go_wp2_with (go_at_call 62; refine (hput.out (inTo acc F t.op k t.n m) x hx20 _ _ _ (ownsRow_up hown.out (below_drewN _ _ _) (Nat.le_refl _)) (by have := hb2.out.size; simp; omega)).mono ?_; rintro e w3 ⟨v3, rfl, hr3, hb3⟩)
                    go_roundw
                    case rel => exact ⟨m + 1, by omega, by go_num, Lib.hid (hnx.out _ _ _ hr3 (Below.refl _ _)), Lib.hid (Below.up hb2.out (Below.up (below_drewN _ _ _) hb3))⟩
                    case measure => simp [intOf]; omega
                · have hkeep : keep t.op k t.n x = true := by simp [keep, hk1']
                  have hnx : Hid (∀ W W' v', W.ownsRow w.heap.size 3 1 v' (listTo (setB (inTo acc F t.op k t.n m) x true) 20).length (natVals (listTo (setB (inTo acc F t.op k t.n m) x true) 20)) → Below W.heap.size W W' → W'.ownsRow w.heap.size 3 1 v' (listTo (inTo acc F t.op k t.n (m + 1)) 20).length (natVals (listTo (inTo acc F t.op k t.n (m + 1)) 20))) := Lib.hid (fun W W' v' h hb => by
                    have e := inTo_succ (acc := acc) (op := t.op) (k := k) (n := t.n) hq
                    rw [← hx.out, if_pos hkeep] at e
                    rw [e]; exact ownsRow_up h hb (Nat.le_refl _))
                  replace hkeep := Lib.hid hkeep
                  clear hx
                  have g1 : (t.op != 8) = false := by simp [h8]
                  replace h8 := Lib.hid h8
                  have g2 : ((k : Int) != 1) = true := by simp; omega
                  go_wp2_with fail
                  go_quiet (fail)
                  go_wp2_with (go_at_call 62; refine (hput.out (inTo acc F t.op k t.n m) x hx20 _ _ _ (ownsRow_up hown.out (below_drewN _ _ _) (Nat.le_refl _)) (by have := hb2.out.size; simp; omega)).mono ?_; rintro e w3 ⟨v3, rfl, hr3, hb3⟩)
                  go_roundw
                  case rel => exact ⟨m + 1, by omega, by go_num, Lib.hid (hnx.out _ _ _ hr3 (Below.refl _ _)), Lib.hid (Below.up hb2.out (Below.up (below_drewN _ _ _) hb3))⟩
                  case measure => simp [intOf]; omega
              have hkeep : keep t.op k t.n x = true := by simp [keep, h8]
              have hnx : Hid (∀ W W' v', W.ownsRow w.heap.size 3 1 v' (listTo (setB (inTo acc F t.op k t.n m) x true) 20).length (natVals (listTo (setB (inTo acc F t.op k t.n m) x true) 20)) → Below W.heap.size W W' → W'.ownsRow w.heap.size 3 1 v' (listTo (inTo acc F t.op k t.n (m + 1)) 20).length (natVals (listTo (inTo acc F t.op k t.n (m + 1)) 20))) := Lib.hid (fun W W' v' h hb => by
                have e := inTo_succ (acc := acc) (op := t.op) (k := k) (n := t.n) hq
                rw [← hx.out, if_pos hkeep] at e
                rw [e]; exact ownsRow_up h hb (Nat.le_refl _))
              replace hkeep := Lib.hid hkeep
              clear hx
              have g1 : (t.op != 8) = true := by simp [h8]
              replace h8 := Lib.hid h8
              go_wp2_with fail
              go_quiet (fail)
              go_wp2_with (go_at_call 62; refine (hput.out (inTo acc F t.op k t.n m) x hx20 _ _ _ (ownsRow_up hown.out (below_drewN _ _ _) (Nat.le_refl _)) (by have := hb2.out.size; simp; omega)).mono ?_; rintro e w3 ⟨v3, rfl, hr3, hb3⟩)
              go_roundw
              case rel => exact ⟨m + 1, by omega, by go_num, Lib.hid (hnx.out _ _ _ hr3 (Below.refl _ _)), Lib.hid (Below.up hb2.out (Below.up (below_drewN _ _ _) hb3))⟩
              case measure => simp [intOf]; omega
            · have hqe : m = (listTo F 20).length := by omega
              have q1 : ¬ (m : Int) < ((listTo F 20).length : Int) := by omega
              have hrow : Hid (wr.ownsRow w.heap.size 3 1 u3 (listTo (orSet acc (if t.op = 8 ∧ k = 1 then setB F t.n.toNat false else F)) 20).length (natVals (listTo (orSet acc (if t.op = 8 ∧ k = 1 then setB F t.n.toNat false else F)) 20))) := Lib.hid (by
                have e := inTo_all acc F t.op k t.n (fun h => (o1.out (.inr h)).1)
                rw [← e, ← hqe]; exact hown.out)
              replace hqe := Lib.hid hqe
              clear hown hel
              go_wp2_with fail
              go_roundw
              case rel => exact ⟨k + 1, _, by omega, by go_num, hstep, hrow, Lib.hid (hb.out.trans ((Below.up hb1.out hb2.out).mono hz))⟩
              case measure => simp [intOf]; omega
        · have : k = t.kids.length := by omega
          subst this
          have he : Hid (fvT t = acc) := Lib.hid (by rw [hvk.out, List.drop_length]; rfl)
          clear hvk hk
          go_wp2_with fail
          go_ret
          exact ⟨_, rfl, by rw [he.out]; exact hown.out, hbw.out⟩

end Go.Proofs.YthlegfegkopdkaaGreat

namespace Go.Proofs.YthlegfegkopdkaaGreat
open Go.RowKit Go.Shelf

/-! Shape -/
mutual
def isSh : Tm → Bool
  | .mk op _ ks => isShs ks && (op == 1 || op == 3)
def isShs : List Tm → Bool
  | [] => true
  | t :: ts => isSh t && isShs ts
end
theorem isSh_eq (t : Tm) : isSh t = (isShs t.kids && (t.op == 1 || t.op == 3)) := by cases t; rfl
theorem isShs_append (a b : List Tm) : isShs (a ++ b) = (isShs a && isShs b) := by
  induction a with
  | nil => simp [isShs]
  | cons t a ih => simp [isShs, ih, Bool.and_assoc]
theorem isShs_take_succ (ks : List Tm) (k : Nat) (h : k < ks.length) : isShs (ks.take (k + 1)) = (isShs (ks.take k) && isSh ks[k]) := by
  rw [List.take_succ_eq_append_getElem h, isShs_append]; simp [isShs]
theorem isShs_false (ks : List Tm) (k : Nat) (h : k < ks.length) (hf : isSh ks[k] = false) : isShs ks = false := by
  have h1 := isShs_take_succ ks k h
  have h2 := isShs_append (ks.take (k + 1)) (ks.drop (k + 1))
  rw [List.take_append_drop, h1, hf] at h2; simpa using h2

set_option maxHeartbeats 400000 in
theorem shape_any (N : Nat) : ∀ (t : Tm) (n₀ : Nat) (w : World) (a : Option Addr) (l c : Nat), t.size ≤ N → IsTm n₀ w t a l c → n₀ ≤ w.heap.size →
    Calls Tryz.prog 61 #[.agg #[.int .i64 t.op, .int .i64 t.n, .slice a l c]] w fun e w' => e = .returned (.bool (isSh t)) ∧ Below w.heap.size w w' := by
  induction N with
  | zero => intro t _ _ _ _ _ h; have := size_pos t; omega
  | succ N ih =>
    intro t n₀ w a l c hs ht hn
    replace ih := Lib.hid ih
    obtain ⟨rfl, hlc, hc, hk⟩ := ht.open
    have hsz := Lib.hid (size_eq t)
    have hsb : sizes t.kids ≤ N := by have := hsz.out; omega
    have hv := Lib.hid (isSh_eq t)
    go_enter Tryz.func61, Tryz.ntmps61
    go_wp2_with fail
    go_loopw [3] (fun i wr => ∃ k : Nat, k ≤ t.kids.length ∧ i = .int .i64 k ∧ Hid (isShs (t.kids.take k) = true) ∧ Below (w.heap.size + 1) (w.alloc (.cells #[.int .i64 t.op, .int .i64 t.n, .slice a t.kids.length c] 28)) wr) (fun i _ => t.kids.length - (intOf i).toNat)
    case atStart => exact ⟨0, by omega, rfl, Lib.hid (by simp [isShs]), Below.refl _ _⟩
    case round =>
      obtain ⟨k, hk1, rfl, hvk, hb⟩ := hrel
      have hbw := ((Below.refl w.heap.size w).alloc (Nat.le_refl _) _).trans (hb.mono (Nat.le_succ _))
      have hz := hb.size
      rw [World.size_alloc] at hz
      have hc0 : wr.cell? ⟨w.heap.size, 0, none⟩ = some (.int .i64 t.op) := by rw [hb.cell (by simp)]; go_cell
      have hc2 : wr.cell? ⟨w.heap.size, 2, none⟩ = some (.slice a t.kids.length c) := by rw [hb.cell (by simp)]; go_cell
      by_cases hlt : k < t.kids.length
      · rcases hk with hk | ⟨b, off, rfl, hbn, hks⟩
        · rw [hk] at hlt; simp at hlt
        obtain ⟨a', l', c', hc3, ht'⟩ := IsKids.get _ hks k hlt
        have hc3 := hc3.below (hbw.mono hn) hbn
        have ht' := (IsTm.below (hbw.mono hn) _ ht')
        obtain ⟨d0, d1, d2⟩ := hc3
        have hsk := size_kid t.kids k hlt
        have hS := ih.out t.kids[k] n₀ wr a' l' c' (by omega) ht' (by omega)
        have hvs := Lib.hid (isShs_take_succ t.kids k hlt)
        have hvf := Lib.hid (isShs_false t.kids k hlt)
        clear hks ht ht'
        cases hbv : isSh t.kids[k]
        all_goals
          rw [hbv] at hS
          replace hS := Lib.hid hS
          replace hbv := Lib.hid hbv
          go_wp2_with (go_at_call 61; refine (hS.out).mono ?_; rintro e w' ⟨rfl, hb'⟩)
        · go_ret
          exact ⟨by rw [hv.out, hvf.out hbv.out]; rfl, hbw.trans (hb'.mono (by omega))⟩
        · go_roundw
          case rel => exact ⟨k + 1, by omega, by go_num, Lib.hid (by rw [hvs.out, hvk.out, hbv.out]; rfl), hb.trans (hb'.mono hz)⟩
          case measure => simp [intOf]; omega
      · have : k = t.kids.length := by omega
        subst this
        have hvt : Hid (isShs t.kids = true) := by have := hvk.out; rw [List.take_length] at this; exact this
        clear hvk
        go_wp2_with fail
        all_goals
          go_ret
          exact ⟨by rw [hv.out, hvt.out]; first | (simp [*]; done) | (simp [*]; omega), hbw⟩


set_option maxRecDepth 100000 in
set_option maxHeartbeats 400000 in
theorem has_any (l : List Int) (m : Int) (n₀ : Nat) (w : World) (a : Option Addr) (la ca : Nat) (hA : IsInts n₀ w l a la ca) :
    Calls Tryz.prog 91 #[.slice a la ca, .int .i64 m] w fun e w' => e = .returned (.bool (decide (m ∈ l))) ∧ w = w' := by
  obtain ⟨rfl, ha1, ha2, hka⟩ := hA
  go_enter Tryz.func91, Tryz.ntmps91
  go_wp2_with fail
  go_loopw [5] (fun i wi => ∃ k : Nat, k ≤ l.length ∧ i = .int .i64 k ∧ wi = w ∧ Hid (∀ j (hj : j < l.length), j < k → l[j] ≠ m)) (fun i _ => l.length - (intOf i).toNat)
  case atStart => exact ⟨0, by omega, rfl, rfl, Lib.hid (fun j h h0 => by omega)⟩
  case round =>
    obtain ⟨k, hkk, rfl, rfl, hall⟩ := hrel
    by_cases hp : k < l.length
    · have o3 : (k : Int) < (l.length : Int) := by omega
      rcases hka with hka | ⟨b1, off1, rfl, hbn1, hks1⟩
      · rw [hka] at hp; simp at hp
      have c0 := hks1 k hp
      obtain ⟨x, hx⟩ : ∃ x, x = l[k] := ⟨_, rfl⟩
      rw [← hx] at c0
      replace hx := Lib.hid hx
      clear hks1
      by_cases he : x = m
      · have hv : Hid (decide (m ∈ l) = true) := Lib.hid (by rw [decide_eq_true_eq, ← he, hx.out]; exact List.getElem_mem hp)
        have o4 : (x == m) = true := by simpa using he
        replace he := Lib.hid he
        clear hall
        go_wp2_with fail
        go_ret
        exact ⟨by rw [hv.out]; rfl, rfl⟩
      · have o4 : (x == m) = false := by simpa using he
        have hall' : Hid (∀ j (hj : j < l.length), j < k + 1 → l[j] ≠ m) := Lib.hid (fun j hj h => by
          by_cases e : j = k
          · subst e; rw [← hx.out]; exact he
          · exact hall.out j hj (by omega))
        replace he := Lib.hid he
        clear hall
        go_wp2_with fail
        go_roundw
        case rel => exact ⟨k + 1, by omega, by go_num, by trivial, hall'⟩
        case measure => simp [intOf]; omega
    · have o3 : ¬ (k : Int) < (l.length : Int) := by omega
      have hv : Hid (decide (m ∈ l) = false) := Lib.hid (by
        rw [decide_eq_false_iff_not]; intro h
        obtain ⟨j, hj, e⟩ := List.getElem_of_mem h
        exact hall.out j hj (by omega) e)
      clear hall hka
      go_wp2_with fail
      go_ret
      exact ⟨by rw [hv.out]; rfl, rfl⟩

end Go.Proofs.YthlegfegkopdkaaGreat
