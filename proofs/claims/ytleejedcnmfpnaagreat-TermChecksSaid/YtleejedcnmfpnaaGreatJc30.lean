/- Own text, joined of: R2 R3 R5 R4 R6 R7 X1. The reference's 'put' and 'has': lists of numbers. · The reference's 'put'. · The reference's 'Vars'. · The reference's 'shape' and 'has'. · The reference's 'once' and 'Pattern': the models. · The reference's 'once', 'Pattern', 'Ground': the walks. · TermChecks, of arguments that lie in memory. -/
import Derived.Deep.AppendSrc
import Derived.Test.YtleejedcnmfpnaaGreatJc29

namespace Go.Proofs.YtleejedcnmfpnaaGreat
open Go.RowKit Go.Shelf Go.Sort

/-- What an append reads. -/
def SrcRow (W : World) (y : Value) (news : List Value) : Prop :=
  (y = .slice none 0 0 ∧ news = []) ∨ ∃ ad c, y = .slice (some ad) news.length c ∧ (∀ j u, news[j]? = some u → W.cell? (ad.add j) = some u) ∧ ∀ u ∈ news, u.oneCell' = true
theorem SrcRow.alloc {W : World} {y : Value} {news : List Value} (h : SrcRow W y news) (o : Obj) : SrcRow (W.alloc o) y news := by
  rcases h with h | ⟨ad, c, h1, h2, h3⟩
  · exact .inl h
  · exact .inr ⟨ad, c, h1, fun j u hu => by rw [World.cell?_alloc_lt _ _ _ (World.block_lt_of_cell? W _ (h2 j u hu))]; exact h2 j u hu, h3⟩
theorem SrcRow.grown {W W' : World} {y : Value} {news : List Value} {row : Option Nat} (h : SrcRow W y news) (hg : W.grownBy W' row) (hr : ∀ ad l c, y = .slice (some ad) l c → row ≠ some ad.block) : SrcRow W' y news := by
  rcases h with h | ⟨ad, c, h1, h2, h3⟩
  · exact .inl h
  · refine .inr ⟨ad, c, h1, fun j u hu => hg.cell (h2 j u hu) (fun e => hr ad _ c h1 (by rw [← e]; unfold Addr.add; split <;> rfl)), h3⟩

theorem app_run (W : World) (base : Nat) (v y : Value) (n : Nat) (xs news : List Value) (hl : n + news.length ≤ 1000) (h : W.ownsRow base 3 1 v n xs) (hb : base ≤ W.heap.size) (hy : SrcRow W y news) :
    ∃ v1 W1, (Builtin.append_ #[38, 38] 38 #[v, y]).run Tryz.prog W = .ok v1 W1 ∧ W1.ownsRow base 3 1 v1 (n + news.length) (xs ++ news) ∧ W.grownBy W1 v.ownBlock := by
  obtain ⟨i0, hi, hz0, hz1, hz2⟩ := info_parts inf3
  rcases hy with ⟨rfl, rfl⟩ | ⟨ad, c, rfl, h2, h3⟩
  · rcases h.2 with ⟨rfl, h2⟩ | ⟨g, cap, cs, rfl, h3, h4, h5, h6, h7, h8⟩
    · exact ⟨.slice none 0 0, W, by simp [Builtin.append_, run_underlying u38, sizeOf, typeInfo, hi, Builtin.lenOf, Builtin.firstCells], by simpa using h, World.grownBy.refl _ _⟩
    · refine ⟨.slice (some ⟨g, 0, none⟩) n cap, W, ?_, by simpa using h, World.grownBy.refl _ _⟩
      have := run_append_room_src (P := Tryz.prog) W 38 38 38 3 i0 u38 hi g 0 n cap (.slice none 0 0) 0 [] (Src.ofNil W u38 0) (by omega) (by simp) (by simp)
      simpa [World.setCells] using this
  · obtain ⟨v1, W1, h4, h5, h6, h7⟩ := run_append_own (P := Tryz.prog) W base 38 38 3 i0 (.int .i64 0) 1 8 u38 hi hz0 hz1 hz2 rfl (by decide) v n xs h ad news.length c news (by simp) h2 h3 (by unfold maxLen; omega) (by omega) hb
    exact ⟨v1, W1, h4, h5, h6⟩

/-- The elements from n on. -/
def geq (f : Nat → Bool) (n : Nat) : List Nat := ((List.range (20 - n)).map (n + ·)).filter f
theorem listTo_split (f : Nat → Bool) {n : Nat} (h : n ≤ 20) : listTo f 20 = listTo f n ++ geq f n := by
  unfold listTo geq
  have : List.range 20 = List.range n ++ (List.range (20 - n)).map (n + ·) := by
    have := @List.range_add n (20 - n)
    rwa [show n + (20 - n) = 20 by omega] at this
  rw [this, List.filter_append]
theorem geq_succ (f : Nat → Bool) {n : Nat} (h : n < 20) : geq f n = (if f n then [n] else []) ++ geq f (n + 1) := by
  unfold geq
  rw [show 20 - n = (20 - (n + 1)) + 1 by omega, List.range_succ_eq_map, List.map_cons, List.map_map]
  rw [List.filter_cons]
  have e : ((fun x => n + x) ∘ Nat.succ) = (fun x => n + 1 + x) := by funext x; simp; omega
  rw [e]
  simp only [Nat.add_zero]
  split <;> simp_all
theorem geq_le {f : Nat → Bool} {n x : Nat} (h : x ∈ geq f n) : n ≤ x := by
  unfold geq at h
  have := (List.mem_filter.1 h).1
  obtain ⟨y, _, rfl⟩ := List.mem_map.1 this
  omega
theorem listTo_lt {f : Nat → Bool} {n x : Nat} (h : x ∈ listTo f n) : x < n := by
  unfold listTo at h
  exact List.mem_range.1 (List.mem_filter.1 h).1
theorem listTo_set {f : Nat → Bool} {n : Nat} (h : n < 20) (hf : f n = false) : listTo (setB f n true) 20 = listTo f n ++ n :: geq f (n + 1) := by
  rw [listTo_split _ (Nat.le_of_lt h), geq_succ _ h]
  have e1 : listTo (setB f n true) n = listTo f n := by
    unfold listTo
    refine List.filter_congr fun x hx => ?_
    have := List.mem_range.1 hx
    unfold setB; rw [if_neg (by omega)]
  have e2 : geq (setB f n true) (n + 1) = geq f (n + 1) := by
    unfold geq
    refine List.filter_congr fun x hx => ?_
    obtain ⟨y, _, rfl⟩ := List.mem_map.1 hx
    unfold setB; rw [if_neg (by omega)]
  rw [e1, e2]
  have : setB f n true n = true := by unfold setB; rw [if_pos rfl]
  rw [this]; rfl
theorem setB_same {f : Nat → Bool} {n : Nat} (hf : f n = true) : setB f n true = f := by
  funext i; unfold setB; split
  · subst_vars; exact hf.symm
  · rfl

end Go.Proofs.YtleejedcnmfpnaaGreat

namespace Go.Proofs.YtleejedcnmfpnaaGreat
open Go.RowKit Go.Shelf Go.Sort

theorem addp (b off j : Nat) : (⟨b, off, none⟩ : Addr).add j = ⟨b, off + j, none⟩ := by unfold Addr.add; split <;> simp_all
theorem geq_len (f : Nat → Bool) (n : Nat) : (geq f n).length ≤ 20 := by unfold geq; exact Nat.le_trans (List.length_filter_le _ _) (by simp)
theorem natVals_len (l : List Nat) : (natVals l).length = l.length := by simp [natVals]
theorem owns_ints {w : World} {base : Nat} {v : Value} {l : List Nat} (h : w.ownsRow base 3 1 v l.length (natVals l)) :
    ∃ av cv, v = .slice av l.length cv ∧ l.length ≤ cv ∧ cv ≤ maxLen ∧ Hid ((l = [] ∧ av = none ∧ cv = 0) ∨ ∃ g, av = some ⟨g, 0, none⟩ ∧ base ≤ g ∧ g < w.heap.size ∧ ∀ j (hj : j < l.length), w.cell? ⟨g, j, none⟩ = some (.int .i64 l[j])) := by
  rcases h.2 with ⟨h1, h2⟩ | ⟨g, cap, cur, h1, h2, h3, h4, h5, h6, h7⟩
  · obtain rfl := List.length_eq_zero_iff.1 h2
    exact ⟨none, 0, h1, by simp, by simp, Lib.hid (.inl ⟨rfl, rfl, rfl⟩)⟩
  · subst h1
    refine ⟨_, cap, rfl, h4, h5, Lib.hid (.inr ⟨g, rfl, h2, (h.lt g rfl).2, fun j hj => ?_⟩)⟩
    rw [h.cellAt j (by omega)]
    simp [natVals, hj]
theorem oneInts (l : List Nat) : ∀ u ∈ natVals l, u.oneCell' = true := fun u hu => by
  simp only [natVals, List.mem_map] at hu
  obtain ⟨x, _, rfl⟩ := hu
  rfl

/-- The slice [:k] of a row. -/
theorem sl_hi (W : World) (av : Option Addr) (l cv k : Nat) (hk : k ≤ cv) :
    (Instr.sliceAt 38 (.slice av l cv) none (some (.int .i64 k)) none).run Tryz.prog W = .ok (.slice (if cv = 0 then av else av.map (·.add 0)) k cv) W := by
  obtain ⟨i0, hi, hz0, hz1, hz2⟩ := info_parts inf3
  have h0 : (0 : Int) ≤ (k : Int) := by omega
  have h1 : (k : Int) ≤ (cv : Int) := by omega
  simp [Instr.sliceAt, Instr.slice, Instr.sliceBounds, run_underlying u38, run_sliceBound, sizeOf, typeInfo, hi, hz1, h0, h1]
theorem sl_lo (W : World) (av : Option Addr) (l cv k : Nat) (hk : k ≤ l) :
    (Instr.sliceAt 38 (.slice av l cv) (some (.int .i64 k)) none none).run Tryz.prog W = .ok (.slice (if cv = k then av else av.map (·.add k)) (l - k) (cv - k)) W := by
  obtain ⟨i0, hi, hz0, hz1, hz2⟩ := info_parts inf3
  have h0 : (0 : Int) ≤ (k : Int) := by omega
  have h1 : (k : Int) ≤ (l : Int) := by omega
  simp [Instr.sliceAt, Instr.slice, Instr.sliceBounds, run_underlying u38, run_sliceBound, sizeOf, typeInfo, hi, hz1, h0, h1]

theorem exec_slice {ρ : Operand → Value} {o : Oper} {x : Operand} {lo hi mx : Option Operand} {t : TypeId} {P : Program} {w : World} {y : Value} (ho : o.op = .slice t x lo hi mx) (hr : (Instr.sliceAt t (ρ x) (lo.map ρ) (hi.map ρ) (mx.map ρ)).run P w = .ok y w) :
    (execOp ρ o).run P w = .ok (.value y) w := by
  unfold execOp
  simp only [ho, Sem.run_bind, Sem.run_pure, Result.andThen_ok, hr]

theorem put_src {f : Nat → Bool} {m : Nat} (hm : m < 20) (hf : f m = false) {w : World} {base : Nat} {av : Option Addr} {cv : Nat} (hv : w.ownsRow base 3 1 (.slice av (listTo f 20).length cv) (listTo f 20).length (natVals (listTo f 20))) :
    ∃ y1 y2, (∀ W, (Instr.sliceAt 38 (.slice av (listTo f 20).length cv) none (some (.int .i64 (listTo f m).length)) none).run Tryz.prog W = .ok y1 W) ∧
      (∀ W, (Instr.sliceAt 38 (.slice av (listTo f 20).length cv) (some (.int .i64 (listTo f m).length)) none none).run Tryz.prog W = .ok y2 W) ∧
      ∀ W, Below w.heap.size w W → SrcRow W y1 (natVals (listTo f m)) ∧ SrcRow W y2 (natVals (geq f (m + 1))) := by
  obtain ⟨av', cv', he, h1, h2, h3⟩ := owns_ints hv
  simp only [Value.slice.injEq] at he
  obtain ⟨rfl, -, rfl⟩ := he
  have hA := listTo_split f (show m ≤ 20 by omega)
  rw [geq_succ f hm, hf] at hA
  simp only [Bool.false_eq_true, if_false, List.nil_append] at hA
  have hl : (listTo f m).length ≤ (listTo f 20).length := by rw [hA, List.length_append]; omega
  have hl2 : (listTo f 20).length - (listTo f m).length = (geq f (m + 1)).length := by rw [hA, List.length_append]; omega
  refine ⟨_, _, fun W => sl_hi W _ _ _ _ (by omega), fun W => sl_lo W _ _ _ _ hl, fun W hb => ?_⟩
  rcases h3.out with ⟨h4, h5, h6⟩ | ⟨g, h4, h5, h6, h7⟩
  · subst h5 h6
    rw [h4] at hA
    obtain ⟨h8, h9⟩ := List.append_eq_nil_iff.1 hA.symm
    rw [h4, h8, h9]
    exact ⟨.inl ⟨rfl, rfl⟩, .inl ⟨rfl, rfl⟩⟩
  · subst h4
    have hc : ∀ j (hj : j < (listTo f 20).length), W.cell? ⟨g, j, none⟩ = some (.int .i64 (listTo f 20)[j]) := fun j hj => (hb.cell (p := ⟨g, j, none⟩) h6).trans (h7 j hj)
    constructor
    · refine .inr ⟨⟨g, 0, none⟩, cv, ?_, fun j u hu => ?_, oneInts _⟩
      · rw [natVals_len]; split <;> simp [addp]
      · simp only [natVals, List.getElem?_map, Option.map_eq_some_iff] at hu
        obtain ⟨x, hx, rfl⟩ := hu
        obtain ⟨hj, rfl⟩ := List.getElem?_eq_some_iff.1 hx
        rw [addp, Nat.zero_add, hc j (by omega)]
        simp only [hA]
        rw [List.getElem_append_left]
    · refine .inr ⟨if cv = (listTo f m).length then ⟨g, 0, none⟩ else ⟨g, (listTo f m).length, none⟩, cv - (listTo f m).length, ?_, fun j u hu => ?_, oneInts _⟩
      · rw [natVals_len, hl2]; split <;> simp [addp]
      · simp only [natVals, List.getElem?_map, Option.map_eq_some_iff] at hu
        obtain ⟨x, hx, rfl⟩ := hu
        obtain ⟨hj, rfl⟩ := List.getElem?_eq_some_iff.1 hx
        rw [if_neg (by omega), addp, hc _ (by omega)]
        simp only [hA]
        rw [List.getElem_append_right (by omega)]
        simp

theorem fin_row {W : World} {b b' : Nat} {v : Value} {A C R : List Nat} {m : Nat} (hR : R = A ++ m :: C) (h : W.ownsRow b 3 1 v ((natVals A).length + 1 + (natVals C).length) (natVals A ++ [.int .i64 m] ++ natVals C)) (hb : b' ≤ b) : W.ownsRow b' 3 1 v R.length (natVals R) := by
  have e : natVals (A ++ m :: C) = natVals A ++ [.int .i64 m] ++ natVals C := by simp [natVals]
  have e2 : (A ++ m :: C).length = (natVals A).length + 1 + (natVals C).length := by simp [natVals]; omega
  rw [hR, e, e2]
  exact ownsRow_wider hb h

set_option maxRecDepth 100000 in
set_option maxHeartbeats 8000000 in
theorem rput_any (f : Nat → Bool) (m : Nat) (hm : m < 20) (w : World) (base : Nat) (v : Value) (hv : w.ownsRow base 3 1 v (listTo f 20).length (natVals (listTo f 20))) (hbase : base ≤ w.heap.size) :
    Calls Tryz.prog 62 #[v, .int .i64 m] w fun e w' => ∃ v', e = .returned v' ∧ w'.ownsRow base 3 1 v' (listTo (setB f m true) 20).length (natVals (listTo (setB f m true) 20)) ∧ Below w.heap.size w w' := by
  obtain ⟨i0, hi, hz0, hz1, hz2⟩ := info_parts inf3
  obtain ⟨av, cv, rfl, hcv, hcm, hcs⟩ := owns_ints hv
  have hsrc := fun hf => put_src hm hf hv
  have hres0 := fun hf => listTo_set (f := f) hm hf
  have hres1 := fun hf => setB_same (f := f) (n := m) hf
  obtain ⟨L, hL⟩ : ∃ L, L = listTo f 20 := ⟨_, rfl⟩
  obtain ⟨R, hR⟩ : ∃ L, L = listTo (setB f m true) 20 := ⟨_, rfl⟩
  obtain ⟨A, hAe⟩ : ∃ L, L = listTo f m := ⟨_, rfl⟩
  obtain ⟨C, hC⟩ : ∃ L, L = geq f (m + 1) := ⟨_, rfl⟩
  have hlen : L.length ≤ 20 := by rw [hL]; exact listTo_len f 20
  have hlA : A.length ≤ 20 := by rw [hAe]; exact Nat.le_trans (listTo_len f m) (by omega)
  have hlC : C.length ≤ 20 := by rw [hC]; exact geq_len _ _
  have hA : Hid (L = A ++ geq f m) := Lib.hid (by rw [hL, hAe]; exact listTo_split f (by omega))
  have hAl : A.length ≤ L.length := by rw [hA.out, List.length_append]; omega
  have hlow : Hid (∀ j (hj : j < L.length), j < A.length → L[j] < m) := Lib.hid (fun j hj h => by
    have e : L[j] = A[j]'h := by
      have h2 := hA.out
      simp only [h2]
      rw [List.getElem_append_left]
    rw [e]; exact listTo_lt (f := f) (by rw [← hAe]; exact List.getElem_mem _))
  have hhigh : Hid (∀ (hj : A.length < L.length), m ≤ L[A.length] ∧ (f m = true ↔ L[A.length] = m)) := Lib.hid (fun hj => by
    have hge : L[A.length] ∈ geq f m := by
      have h2 := hA.out
      simp only [h2]
      rw [List.getElem_append_right (Nat.le_refl _)]
      exact List.getElem_mem _
    refine ⟨geq_le hge, ?_⟩
    have e : L[A.length] = (geq f m)[0]'(by have := congrArg List.length hA.out; rw [List.length_append] at this; omega) := by
      have h2 := hA.out
      simp only [h2]
      rw [List.getElem_append_right (Nat.le_refl _)]
      congr 1
      omega
    have e2 := geq_succ f hm
    cases hf : f m
    · rw [hf] at e2
      simp only [Bool.false_eq_true, if_false, List.nil_append] at e2
      have : L[A.length] ∈ geq f (m + 1) := by rw [← e2]; exact hge
      have := geq_le this
      simp; omega
    · rw [hf] at e2
      simp only [if_true, List.singleton_append] at e2
      simp only [true_iff]
      rw [e]
      simp only [e2, List.getElem_cons_zero])
  have hfm : Hid (A.length = L.length → f m = false) := Lib.hid (fun h => by
    cases hf : f m
    · rfl
    · have e2 := geq_succ f hm
      rw [hf] at e2
      have := congrArg List.length hA.out
      rw [List.length_append, e2] at this
      simp at this; omega)
  rw [← hR, ← hAe, ← hC] at hres0
  rw [← hL, ← hAe, ← hC] at hsrc
  have hsame : Hid (f m = true → R = L) := Lib.hid (fun h => by rw [hR, hL, hres1 h])
  rw [← hL] at hv hcv hcs
  rw [← hL, ← hR]
  replace hres0 := Lib.hid hres0
  replace hsrc := Lib.hid hsrc
  replace hv := Lib.hid hv
  clear hL hR hC hAe hA hres1
  obtain ⟨kA, hkA⟩ : ∃ k, k = A.length := ⟨_, rfl⟩
  rw [← hkA] at hAl hlow hfm hsrc
  have hhigh : Hid (∀ j (hj : j < L.length), j = kA → m ≤ L[j] ∧ (f m = true ↔ L[j] = m)) := Lib.hid (fun j hj e => by subst e; subst hkA; exact hhigh.out hj)
  have hlA' : kA ≤ 20 := by omega
  replace hkA := Lib.hid hkA
  go_enter Tryz.func62, Tryz.ntmps62
  go_wp2_with fail
  go_loopw [5] (fun q wj => ∃ k : Nat, k ≤ kA ∧ q = .int .i64 k ∧ wj = w) (fun q _ => L.length - (intOf q).toNat)
  case atStart => exact ⟨0, by omega, rfl, rfl⟩
  case round =>
    obtain ⟨k, hk, rfl, rfl⟩ := hrel
    by_cases hlt : k < kA
    · have o1 : (k : Int) < (L.length : Int) := by omega
      obtain ⟨g, rfl, hgb, hgl, hcells⟩ : ∃ g, av = some ⟨g, 0, none⟩ ∧ base ≤ g ∧ g < wr.heap.size ∧ Hid (∀ j (hj : j < L.length), wr.cell? ⟨g, j, none⟩ = some (.int .i64 L[j])) := by
        rcases hcs.out with ⟨h0, _⟩ | ⟨g, h3, h4, h5, h6⟩
        · rw [h0] at hAl; simp at hAl; omega
        · exact ⟨g, h3, h4, h5, Lib.hid h6⟩
      have c2 := hcells.out k (by omega)
      have o3 : (L[k] : Int) < (m : Int) := by have := hlow.out k (by omega) hlt; omega
      obtain ⟨cm, hcm'⟩ : ∃ x, x = L[k] := ⟨_, rfl⟩
      rw [← hcm'] at c2 o3
      clear hcs hcells hcm' hsrc hv
      go_wp2_with fail
      go_roundw
      case rel => exact ⟨k + 1, by omega, by go_num, by trivial⟩
      case measure => simp [intOf]; omega
    · have hke : Hid (k = kA) := Lib.hid (by omega)
      by_cases hin : k < L.length
      · have o1 : (k : Int) < (L.length : Int) := by omega
        have hav : Hid (∃ g, av = some ⟨g, 0, none⟩ ∧ g < wr.heap.size ∧ wr.cell? ⟨g, k, none⟩ = some (.int .i64 L[k])) := Lib.hid (by
          rcases hcs.out with ⟨h0, _⟩ | ⟨g, h3, h4, h5, h6⟩
          · rw [h0] at hin; simp at hin
          · exact ⟨g, h3, h5, h6 k hin⟩)
        have h9 := hhigh.out k hin hke.out
        have o3 : ¬ (L[k] : Int) < (m : Int) := by omega
        obtain ⟨cm, hcm'⟩ : ∃ x, x = L[k] := ⟨_, rfl⟩
        rw [← hcm'] at o3 h9 hav
        clear hcs hcm' hlow hhigh hfm
        cases hf : f m
        · have o4 : ((cm : Int) == (m : Int)) = false := by
            rw [beq_eq_false_iff_ne]; intro h; have h2 := h9.2.2 (by omega); rw [hf] at h2; cases h2
          have hres := Lib.hid (hres0.out hf)
          obtain ⟨y1, y2, hr1, hr2, hs⟩ := hsrc.out hf
          rw [← hke.out] at hr1 hr2
          replace hr1 := Lib.hid hr1
          replace hr2 := Lib.hid hr2
          have hs1 : Hid (∀ W, Below wr.heap.size wr W → SrcRow W y1 (natVals A)) := Lib.hid (fun W h => (hs W h).1)
          have hs2 : Hid (∀ W, Below wr.heap.size wr W → SrcRow W y2 (natVals C)) := Lib.hid (fun W h => (hs W h).2)
          clear hs hsrc hres0 hsame h9 hf hkA hke hlA' hAl hlt hk
          obtain ⟨g, rfl, hgl, c2⟩ := hav.out
          clear hav
          go_upto_region 6 with fail
          refine region_named (S := fun W' => Below wr.heap.size wr W') (by kernel_rfl) (fun W hW => ?_)
          have hq : Hid (Below wr.heap.size wr W) := Lib.hid (by rw [hW]; exact (Below.refl _ _).drew)
          have hwr : wr.heap.size ≤ W.heap.size := hq.out.size
          clear hW
          refine takeH 0 33 (.slice (some ⟨g, 0, none⟩) L.length cv) rfl rfl (by kernel_rfl) (by kernel_rfl) (by kernel_rfl) (fun _ _ _ h => h) (by rfl) (by intro W hSw; clear hSw; go_simp) hq.out ?_
          try simp only [List.setIfInBounds_toArray, List.set_cons_zero, List.set_cons_succ]
          refine takeH 1 34 (.int .i64 k) rfl rfl (by kernel_rfl) (by kernel_rfl) (by kernel_rfl) (fun _ _ _ h => h) (by rfl) (by intro W hSw; clear hSw; go_simp) hq.out ?_
          try simp only [List.setIfInBounds_toArray, List.set_cons_zero, List.set_cons_succ]
          refine takeH 2 35 y1 rfl rfl (by kernel_rfl) (by kernel_rfl) (by kernel_rfl) (fun _ _ _ h => h) (by rfl) (fun W _ => exec_slice rfl (hr1.out W)) hq.out ?_
          try simp only [List.setIfInBounds_toArray, List.set_cons_zero, List.set_cons_succ]
          refine takeH 4 37 (.int .i64 m) rfl rfl (by kernel_rfl) (by kernel_rfl) (by kernel_rfl) (fun _ _ _ h => h) (by rfl) (by intro W hSw; clear hSw; go_simp) hq.out ?_
          try simp only [List.setIfInBounds_toArray, List.set_cons_zero, List.set_cons_succ]
          refine takeH 7 40 (.slice (some ⟨g, 0, none⟩) L.length cv) rfl rfl (by kernel_rfl) (by kernel_rfl) (by kernel_rfl) (fun _ _ _ h => h) (by rfl) (by intro W hSw; clear hSw; go_simp) hq.out ?_
          try simp only [List.setIfInBounds_toArray, List.set_cons_zero, List.set_cons_succ]
          refine takeH 8 41 (.int .i64 k) rfl rfl (by kernel_rfl) (by kernel_rfl) (by kernel_rfl) (fun _ _ _ h => h) (by rfl) (by intro W hSw; clear hSw; go_simp) hq.out ?_
          try simp only [List.setIfInBounds_toArray, List.set_cons_zero, List.set_cons_succ]
          refine takeH 9 42 y2 rfl rfl (by kernel_rfl) (by kernel_rfl) (by kernel_rfl) (fun _ _ _ h => h) (by rfl) (fun W _ => exec_slice rfl (hr2.out W)) hq.out ?_
          try simp only [List.setIfInBounds_toArray, List.set_cons_zero, List.set_cons_succ]
          refine wpAnyH_ready (rs := [3, 5]) (by kernel_rfl) (by simp) ?_
          refine AllReadyH.cons rfl (fun K hKc => ?_) (AllReadyH.cons rfl (fun K hKc => ?_) AllReadyH.nil)
          · rw [if_pos (by rfl)]
            obtain ⟨v1, W1, hr3, ho1, hg1⟩ := app_run W W.heap.size (.slice none 0 0) y1 0 [] (natVals A) (by rw [natVals_len]; omega) (World.ownsRow_nil _ _ _ _) (Nat.le_refl _) (hs1.out W hq.out)
            refine wp_builtin_append rfl rfl rfl hr3 ?_
            replace hq := Lib.hid (hq.out.grown hg1 hwr (fun q hq => by cases hq))
            have hWs1 : W.heap.size ≤ W1.heap.size := hg1.size
            simp only [List.nil_append, Nat.zero_add] at ho1
            refine hKc _ _ hq.out (fun _ => ?_)
            clear hKc K hr3
            try simp only [Act.put, List.setIfInBounds_toArray, List.set_cons_zero, List.set_cons_succ]
            refine wpAnyH_ready (rs := [5]) (by kernel_rfl) (by simp) ?_
            refine AllReadyH.cons rfl (fun K hKc => ?_) AllReadyH.nil
            go_simp
            replace hq := Lib.hid (hq.out.alloc (by omega) (.cells #[.int .i64 m] 3))
            refine hKc _ _ hq.out (fun _ => ?_)
            clear hKc K
            try simp only [Act.put, List.setIfInBounds_toArray, List.set_cons_zero, List.set_cons_succ]
            refine wpAnyH_ready (rs := [6]) (by kernel_rfl) (by simp) ?_
            refine AllReadyH.cons rfl (fun K hKc => ?_) AllReadyH.nil
            rw [if_pos (by rfl)]
            refine wp_append_own _ _ _ 38 rfl W.heap.size 3 i0 (.int .i64 0) 1 8 u38 hi hz0 hz1 hz2 rfl (by decide) v1 (natVals A).length (natVals A) rfl (ho1.alloc _) ⟨W1.heap.size, 0, none⟩ 1 1 [.int .i64 m] rfl rfl (cell_one_new _ _ _) (fun x hx => by simp at hx; subst hx; rfl) (by rw [natVals_len]; unfold maxLen; omega) (by rw [natVals_len]; omega) (by first | omega | (simp; omega)) ?_
            intro v2 W2 ho2 hg2 _
            have hWs2 : W.heap.size ≤ W2.heap.size := by have := hg2.size; first | omega | (simp at this; omega)
            replace hq := Lib.hid (hq.out.grown hg2 (by first | omega | (simp; omega)) (fun q hq => by have := (ho1.lt q hq).1; first | omega | (simp at this; omega)))
            refine hKc _ _ hq.out (fun _ => ?_)
            clear hKc K ho1 hg1 hg2
            try simp only [Act.put, List.setIfInBounds_toArray, List.set_cons_zero, List.set_cons_succ]
            obtain ⟨v3, W3, hr3, ho3, hg3⟩ := app_run W2 W.heap.size v2 y2 ((natVals A).length + 1) (natVals A ++ [.int .i64 m]) (natVals C) (by rw [natVals_len, natVals_len]; omega) ho2 hWs2 (hs2.out W2 hq.out)
            refine wpAnyH_ready (rs := [10]) (by kernel_rfl) (by simp) ?_
            refine AllReadyH.cons rfl (fun K hKc => ?_) AllReadyH.nil
            rw [if_pos (by rfl)]
            refine wp_builtin_append rfl rfl rfl hr3 ?_
            replace hq := Lib.hid (hq.out.grown hg3 (by omega) (fun q hq => by have := (ho2.lt q hq).1; omega))
            have hfin : Hid (W3.ownsRow base 3 1 v3 R.length (natVals R)) := Lib.hid (fin_row hres.out ho3 (by omega))
            refine hKc _ _ hq.out (fun _ => ?_)
            clear hKc K hr3 ho3 ho2 hg3
            try simp only [Act.put, List.setIfInBounds_toArray, List.set_cons_zero, List.set_cons_succ]
            refine takeH 11 4 v3 rfl rfl (by kernel_rfl) (by kernel_rfl) (by kernel_rfl) (fun _ _ _ h => h) (by rfl) (by intro W hSw; clear hSw; go_simp) hq.out ?_
            try simp only [List.setIfInBounds_toArray, List.set_cons_zero, List.set_cons_succ]
            refine wpAnyH_done (by kernel_rfl) ?_ _
            go_wp2_with fail
            go_ret
            exact ⟨_, rfl, hfin.out, hq.out⟩
          · go_simp
            replace hq := Lib.hid (hq.out.alloc hwr (.cells #[.int .i64 m] 3))
            refine hKc _ _ hq.out (fun _ => ?_)
            clear hKc K
            try simp only [Act.put, List.setIfInBounds_toArray, List.set_cons_zero, List.set_cons_succ]
            refine wpAnyH_ready (rs := [3]) (by kernel_rfl) (by simp) ?_
            refine AllReadyH.cons rfl (fun K hKc => ?_) AllReadyH.nil
            rw [if_pos (by rfl)]
            obtain ⟨v1, W1, hr3, ho1, hg1⟩ := app_run (W.alloc (.cells #[.int .i64 m] 3)) (W.heap.size + 1) (.slice none 0 0) y1 0 [] (natVals A) (by rw [natVals_len]; omega) (World.ownsRow_nil _ _ _ _) (by simp) (hs1.out _ hq.out)
            refine wp_builtin_append rfl rfl rfl hr3 ?_
            replace hq := Lib.hid (hq.out.grown hg1 (by simp; omega) (fun q hq => by cases hq))
            have hWs1 : W.heap.size + 1 ≤ W1.heap.size := by have := hg1.size; simpa using this
            simp only [List.nil_append, Nat.zero_add] at ho1
            refine hKc _ _ hq.out (fun _ => ?_)
            clear hKc K hr3
            try simp only [Act.put, List.setIfInBounds_toArray, List.set_cons_zero, List.set_cons_succ]
            refine wpAnyH_ready (rs := [6]) (by kernel_rfl) (by simp) ?_
            refine AllReadyH.cons rfl (fun K hKc => ?_) AllReadyH.nil
            rw [if_pos (by rfl)]
            refine wp_append_own _ _ _ 38 rfl (W.heap.size + 1) 3 i0 (.int .i64 0) 1 8 u38 hi hz0 hz1 hz2 rfl (by decide) v1 (natVals A).length (natVals A) rfl ho1 ⟨W.heap.size, 0, none⟩ 1 1 [.int .i64 m] rfl rfl (fun j u hj => hg1.cell (cell_one_new W (.int .i64 m) 3 j u hj) (fun h => by cases h)) (fun x hx => by simp at hx; subst hx; rfl) (by rw [natVals_len]; unfold maxLen; omega) (by rw [natVals_len]; omega) (by first | omega | (simp; omega)) ?_
            intro v2 W2 ho2 hg2 _
            have hWs2 : W.heap.size ≤ W2.heap.size := by have := hg2.size; first | omega | (simp at this; omega)
            replace hq := Lib.hid (hq.out.grown hg2 (by first | omega | (simp; omega)) (fun q hq => by have := (ho1.lt q hq).1; first | omega | (simp at this; omega)))
            replace ho2 := ownsRow_wider (b' := W.heap.size) (by omega) ho2
            refine hKc _ _ hq.out (fun _ => ?_)
            clear hKc K ho1 hg1 hg2
            try simp only [Act.put, List.setIfInBounds_toArray, List.set_cons_zero, List.set_cons_succ]
            obtain ⟨v3, W3, hr3, ho3, hg3⟩ := app_run W2 W.heap.size v2 y2 ((natVals A).length + 1) (natVals A ++ [.int .i64 m]) (natVals C) (by rw [natVals_len, natVals_len]; omega) ho2 hWs2 (hs2.out W2 hq.out)
            refine wpAnyH_ready (rs := [10]) (by kernel_rfl) (by simp) ?_
            refine AllReadyH.cons rfl (fun K hKc => ?_) AllReadyH.nil
            rw [if_pos (by rfl)]
            refine wp_builtin_append rfl rfl rfl hr3 ?_
            replace hq := Lib.hid (hq.out.grown hg3 (by omega) (fun q hq => by have := (ho2.lt q hq).1; omega))
            have hfin : Hid (W3.ownsRow base 3 1 v3 R.length (natVals R)) := Lib.hid (fin_row hres.out ho3 (by omega))
            refine hKc _ _ hq.out (fun _ => ?_)
            clear hKc K hr3 ho3 ho2 hg3
            try simp only [Act.put, List.setIfInBounds_toArray, List.set_cons_zero, List.set_cons_succ]
            refine takeH 11 4 v3 rfl rfl (by kernel_rfl) (by kernel_rfl) (by kernel_rfl) (fun _ _ _ h => h) (by rfl) (by intro W hSw; clear hSw; go_simp) hq.out ?_
            try simp only [List.setIfInBounds_toArray, List.set_cons_zero, List.set_cons_succ]
            refine wpAnyH_done (by kernel_rfl) ?_ _
            go_wp2_with fail
            go_ret
            exact ⟨_, rfl, hfin.out, hq.out⟩
        · have o4 : ((cm : Int) == (m : Int)) = true := by
            rw [beq_iff_eq]; have := h9.2.1 hf; omega
          have hres := Lib.hid (hsame.out hf)
          obtain ⟨g, rfl, hgl, c2⟩ := hav.out
          clear hav h9 hsrc hres0
          go_wp2_with fail
          go_ret
          exact ⟨_, rfl, by rw [hres.out]; exact hv.out, Below.refl _ _⟩
      · have o1 : ¬ (k : Int) < (L.length : Int) := by omega
        have hf := hfm.out (by have := hke.out; omega)
        have hres := Lib.hid (hres0.out hf)
        obtain ⟨y1, y2, hr1, hr2, hs⟩ := hsrc.out hf
        rw [← hke.out] at hr1 hr2
        replace hr1 := Lib.hid hr1
        replace hr2 := Lib.hid hr2
        have hs1 : Hid (∀ W, Below wr.heap.size wr W → SrcRow W y1 (natVals A)) := Lib.hid (fun W h => (hs W h).1)
        have hs2 : Hid (∀ W, Below wr.heap.size wr W → SrcRow W y2 (natVals C)) := Lib.hid (fun W h => (hs W h).2)
        clear hs hsrc hres0 hsame hf hkA hke hlA' hAl hlt hk hcs hlow hhigh hfm
        go_upto_region 6 with fail
        refine region_named (S := fun W' => Below wr.heap.size wr W') (by kernel_rfl) (fun W hW => ?_)
        have hq : Hid (Below wr.heap.size wr W) := Lib.hid (by rw [hW]; exact (Below.refl _ _).drew)
        have hwr : wr.heap.size ≤ W.heap.size := hq.out.size
        clear hW
        refine takeH 0 33 (.slice av L.length cv) rfl rfl (by kernel_rfl) (by kernel_rfl) (by kernel_rfl) (fun _ _ _ h => h) (by rfl) (by intro W hSw; clear hSw; go_simp) hq.out ?_
        try simp only [List.setIfInBounds_toArray, List.set_cons_zero, List.set_cons_succ]
        refine takeH 1 34 (.int .i64 k) rfl rfl (by kernel_rfl) (by kernel_rfl) (by kernel_rfl) (fun _ _ _ h => h) (by rfl) (by intro W hSw; clear hSw; go_simp) hq.out ?_
        try simp only [List.setIfInBounds_toArray, List.set_cons_zero, List.set_cons_succ]
        refine takeH 2 35 y1 rfl rfl (by kernel_rfl) (by kernel_rfl) (by kernel_rfl) (fun _ _ _ h => h) (by rfl) (fun W _ => exec_slice rfl (hr1.out W)) hq.out ?_
        try simp only [List.setIfInBounds_toArray, List.set_cons_zero, List.set_cons_succ]
        refine takeH 4 37 (.int .i64 m) rfl rfl (by kernel_rfl) (by kernel_rfl) (by kernel_rfl) (fun _ _ _ h => h) (by rfl) (by intro W hSw; clear hSw; go_simp) hq.out ?_
        try simp only [List.setIfInBounds_toArray, List.set_cons_zero, List.set_cons_succ]
        refine takeH 7 40 (.slice av L.length cv) rfl rfl (by kernel_rfl) (by kernel_rfl) (by kernel_rfl) (fun _ _ _ h => h) (by rfl) (by intro W hSw; clear hSw; go_simp) hq.out ?_
        try simp only [List.setIfInBounds_toArray, List.set_cons_zero, List.set_cons_succ]
        refine takeH 8 41 (.int .i64 k) rfl rfl (by kernel_rfl) (by kernel_rfl) (by kernel_rfl) (fun _ _ _ h => h) (by rfl) (by intro W hSw; clear hSw; go_simp) hq.out ?_
        try simp only [List.setIfInBounds_toArray, List.set_cons_zero, List.set_cons_succ]
        refine takeH 9 42 y2 rfl rfl (by kernel_rfl) (by kernel_rfl) (by kernel_rfl) (fun _ _ _ h => h) (by rfl) (fun W _ => exec_slice rfl (hr2.out W)) hq.out ?_
        try simp only [List.setIfInBounds_toArray, List.set_cons_zero, List.set_cons_succ]
        refine wpAnyH_ready (rs := [3, 5]) (by kernel_rfl) (by simp) ?_
        refine AllReadyH.cons rfl (fun K hKc => ?_) (AllReadyH.cons rfl (fun K hKc => ?_) AllReadyH.nil)
        · rw [if_pos (by rfl)]
          obtain ⟨v1, W1, hr3, ho1, hg1⟩ := app_run W W.heap.size (.slice none 0 0) y1 0 [] (natVals A) (by rw [natVals_len]; omega) (World.ownsRow_nil _ _ _ _) (Nat.le_refl _) (hs1.out W hq.out)
          refine wp_builtin_append rfl rfl rfl hr3 ?_
          replace hq := Lib.hid (hq.out.grown hg1 hwr (fun q hq => by cases hq))
          have hWs1 : W.heap.size ≤ W1.heap.size := hg1.size
          simp only [List.nil_append, Nat.zero_add] at ho1
          refine hKc _ _ hq.out (fun _ => ?_)
          clear hKc K hr3
          try simp only [Act.put, List.setIfInBounds_toArray, List.set_cons_zero, List.set_cons_succ]
          refine wpAnyH_ready (rs := [5]) (by kernel_rfl) (by simp) ?_
          refine AllReadyH.cons rfl (fun K hKc => ?_) AllReadyH.nil
          go_simp
          replace hq := Lib.hid (hq.out.alloc (by omega) (.cells #[.int .i64 m] 3))
          refine hKc _ _ hq.out (fun _ => ?_)
          clear hKc K
          try simp only [Act.put, List.setIfInBounds_toArray, List.set_cons_zero, List.set_cons_succ]
          refine wpAnyH_ready (rs := [6]) (by kernel_rfl) (by simp) ?_
          refine AllReadyH.cons rfl (fun K hKc => ?_) AllReadyH.nil
          rw [if_pos (by rfl)]
          refine wp_append_own _ _ _ 38 rfl W.heap.size 3 i0 (.int .i64 0) 1 8 u38 hi hz0 hz1 hz2 rfl (by decide) v1 (natVals A).length (natVals A) rfl (ho1.alloc _) ⟨W1.heap.size, 0, none⟩ 1 1 [.int .i64 m] rfl rfl (cell_one_new _ _ _) (fun x hx => by simp at hx; subst hx; rfl) (by rw [natVals_len]; unfold maxLen; omega) (by rw [natVals_len]; omega) (by first | omega | (simp; omega)) ?_
          intro v2 W2 ho2 hg2 _
          have hWs2 : W.heap.size ≤ W2.heap.size := by have := hg2.size; first | omega | (simp at this; omega)
          replace hq := Lib.hid (hq.out.grown hg2 (by first | omega | (simp; omega)) (fun q hq => by have := (ho1.lt q hq).1; first | omega | (simp at this; omega)))
          refine hKc _ _ hq.out (fun _ => ?_)
          clear hKc K ho1 hg1 hg2
          try simp only [Act.put, List.setIfInBounds_toArray, List.set_cons_zero, List.set_cons_succ]
          obtain ⟨v3, W3, hr3, ho3, hg3⟩ := app_run W2 W.heap.size v2 y2 ((natVals A).length + 1) (natVals A ++ [.int .i64 m]) (natVals C) (by rw [natVals_len, natVals_len]; omega) ho2 hWs2 (hs2.out W2 hq.out)
          refine wpAnyH_ready (rs := [10]) (by kernel_rfl) (by simp) ?_
          refine AllReadyH.cons rfl (fun K hKc => ?_) AllReadyH.nil
          rw [if_pos (by rfl)]
          refine wp_builtin_append rfl rfl rfl hr3 ?_
          replace hq := Lib.hid (hq.out.grown hg3 (by omega) (fun q hq => by have := (ho2.lt q hq).1; omega))
          have hfin : Hid (W3.ownsRow base 3 1 v3 R.length (natVals R)) := Lib.hid (fin_row hres.out ho3 (by omega))
          refine hKc _ _ hq.out (fun _ => ?_)
          clear hKc K hr3 ho3 ho2 hg3
          try simp only [Act.put, List.setIfInBounds_toArray, List.set_cons_zero, List.set_cons_succ]
          refine takeH 11 4 v3 rfl rfl (by kernel_rfl) (by kernel_rfl) (by kernel_rfl) (fun _ _ _ h => h) (by rfl) (by intro W hSw; clear hSw; go_simp) hq.out ?_
          try simp only [List.setIfInBounds_toArray, List.set_cons_zero, List.set_cons_succ]
          refine wpAnyH_done (by kernel_rfl) ?_ _
          go_wp2_with fail
          go_ret
          exact ⟨_, rfl, hfin.out, hq.out⟩
        · go_simp
          replace hq := Lib.hid (hq.out.alloc hwr (.cells #[.int .i64 m] 3))
          refine hKc _ _ hq.out (fun _ => ?_)
          clear hKc K
          try simp only [Act.put, List.setIfInBounds_toArray, List.set_cons_zero, List.set_cons_succ]
          refine wpAnyH_ready (rs := [3]) (by kernel_rfl) (by simp) ?_
          refine AllReadyH.cons rfl (fun K hKc => ?_) AllReadyH.nil
          rw [if_pos (by rfl)]
          obtain ⟨v1, W1, hr3, ho1, hg1⟩ := app_run (W.alloc (.cells #[.int .i64 m] 3)) (W.heap.size + 1) (.slice none 0 0) y1 0 [] (natVals A) (by rw [natVals_len]; omega) (World.ownsRow_nil _ _ _ _) (by simp) (hs1.out _ hq.out)
          refine wp_builtin_append rfl rfl rfl hr3 ?_
          replace hq := Lib.hid (hq.out.grown hg1 (by simp; omega) (fun q hq => by cases hq))
          have hWs1 : W.heap.size + 1 ≤ W1.heap.size := by have := hg1.size; simpa using this
          simp only [List.nil_append, Nat.zero_add] at ho1
          refine hKc _ _ hq.out (fun _ => ?_)
          clear hKc K hr3
          try simp only [Act.put, List.setIfInBounds_toArray, List.set_cons_zero, List.set_cons_succ]
          refine wpAnyH_ready (rs := [6]) (by kernel_rfl) (by simp) ?_
          refine AllReadyH.cons rfl (fun K hKc => ?_) AllReadyH.nil
          rw [if_pos (by rfl)]
          refine wp_append_own _ _ _ 38 rfl (W.heap.size + 1) 3 i0 (.int .i64 0) 1 8 u38 hi hz0 hz1 hz2 rfl (by decide) v1 (natVals A).length (natVals A) rfl ho1 ⟨W.heap.size, 0, none⟩ 1 1 [.int .i64 m] rfl rfl (fun j u hj => hg1.cell (cell_one_new W (.int .i64 m) 3 j u hj) (fun h => by cases h)) (fun x hx => by simp at hx; subst hx; rfl) (by rw [natVals_len]; unfold maxLen; omega) (by rw [natVals_len]; omega) (by first | omega | (simp; omega)) ?_
          intro v2 W2 ho2 hg2 _
          have hWs2 : W.heap.size ≤ W2.heap.size := by have := hg2.size; first | omega | (simp at this; omega)
          replace hq := Lib.hid (hq.out.grown hg2 (by first | omega | (simp; omega)) (fun q hq => by have := (ho1.lt q hq).1; first | omega | (simp at this; omega)))
          replace ho2 := ownsRow_wider (b' := W.heap.size) (by omega) ho2
          refine hKc _ _ hq.out (fun _ => ?_)
          clear hKc K ho1 hg1 hg2
          try simp only [Act.put, List.setIfInBounds_toArray, List.set_cons_zero, List.set_cons_succ]
          obtain ⟨v3, W3, hr3, ho3, hg3⟩ := app_run W2 W.heap.size v2 y2 ((natVals A).length + 1) (natVals A ++ [.int .i64 m]) (natVals C) (by rw [natVals_len, natVals_len]; omega) ho2 hWs2 (hs2.out W2 hq.out)
          refine wpAnyH_ready (rs := [10]) (by kernel_rfl) (by simp) ?_
          refine AllReadyH.cons rfl (fun K hKc => ?_) AllReadyH.nil
          rw [if_pos (by rfl)]
          refine wp_builtin_append rfl rfl rfl hr3 ?_
          replace hq := Lib.hid (hq.out.grown hg3 (by omega) (fun q hq => by have := (ho2.lt q hq).1; omega))
          have hfin : Hid (W3.ownsRow base 3 1 v3 R.length (natVals R)) := Lib.hid (fin_row hres.out ho3 (by omega))
          refine hKc _ _ hq.out (fun _ => ?_)
          clear hKc K hr3 ho3 ho2 hg3
          try simp only [Act.put, List.setIfInBounds_toArray, List.set_cons_zero, List.set_cons_succ]
          refine takeH 11 4 v3 rfl rfl (by kernel_rfl) (by kernel_rfl) (by kernel_rfl) (fun _ _ _ h => h) (by rfl) (by intro W hSw; clear hSw; go_simp) hq.out ?_
          try simp only [List.setIfInBounds_toArray, List.set_cons_zero, List.set_cons_succ]
          refine wpAnyH_done (by kernel_rfl) ?_ _
          go_wp2_with fail
          go_ret
          exact ⟨_, rfl, hfin.out, hq.out⟩

end Go.Proofs.YtleejedcnmfpnaaGreat

namespace Go.Proofs.YtleejedcnmfpnaaGreat
open Go.RowKit Go.Shelf Go.Sort

theorem ownsRow_up {w w' : World} {b n : Nat} {e : TypeId} {size : Nat} {v : Value} {k : Nat} {xs : List Value} (h : w.ownsRow b e size v k xs) (hb : Below n w w') (hn : w.heap.size ≤ n) : w'.ownsRow b e size v k xs := by
  refine ⟨h.1, ?_⟩
  rcases h.2 with h2 | ⟨g, cap, cur, h2, h3, h4, h5, h6, h7⟩
  · exact .inl h2
  · exact .inr ⟨g, cap, cur, h2, h3, (hb.block g (by have := (h.lt g (by rw [h2]; rfl)).2; omega)).trans h4, h5, h6, h7⟩

/-- What is left in from a list of variables, of which one may be bound. -/
def keep (op : Int) (k : Nat) (n : Int) (x : Nat) : Bool := !decide (op = 8) || !decide (k = 1) || !decide ((x : Int) = n)
def inTo (acc F : Nat → Bool) (op : Int) (k : Nat) (n : Int) (m : Nat) : Nat → Bool := fun i => acc i || (decide (i ∈ (listTo F 20).take m) && keep op k n i)
theorem inTo_zero (acc F : Nat → Bool) (op : Int) (k : Nat) (n : Int) : inTo acc F op k n 0 = acc := by funext i; simp [inTo]
theorem inTo_succ {acc F : Nat → Bool} {op : Int} {k : Nat} {n : Int} {m : Nat} (h : m < (listTo F 20).length) : inTo acc F op k n (m + 1) = if keep op k n (listTo F 20)[m] = true then setB (inTo acc F op k n m) (listTo F 20)[m] true else inTo acc F op k n m := by
  funext i
  have e : decide (i ∈ (listTo F 20).take (m + 1)) = (decide (i ∈ (listTo F 20).take m) || decide (i = (listTo F 20)[m])) := by
    rw [List.take_succ_eq_append_getElem h, Bool.eq_iff_iff]
    simp only [decide_eq_true_eq, Bool.or_eq_true, List.mem_append, List.mem_singleton]
  split
  · next hk =>
    simp only [inTo, e, setB]
    split
    · next he => subst he; simp [hk]
    · next he => simp [he]
  · next hk =>
    simp only [inTo, e]
    by_cases he : i = (listTo F 20)[m]
    · rw [Bool.not_eq_true] at hk
      rw [← he] at hk
      simp [hk]
    · simp [he]
theorem listTo_congr {f g : Nat → Bool} (h : ∀ i, i < 20 → f i = g i) : listTo f 20 = listTo g 20 := by
  unfold listTo
  exact List.filter_congr fun x hx => h x (List.mem_range.1 hx)
theorem mem_listTo {f : Nat → Bool} {i : Nat} : i ∈ listTo f 20 ↔ i < 20 ∧ f i = true := by
  unfold listTo; rw [List.mem_filter, List.mem_range]
theorem inTo_all (acc F : Nat → Bool) (op : Int) (k : Nat) (n : Int) (hn : op = 8 → 0 ≤ n) : listTo (inTo acc F op k n (listTo F 20).length) 20 = listTo (orSet acc (if op = 8 ∧ k = 1 then setB F n.toNat false else F)) 20 := by
  refine listTo_congr fun i hi => ?_
  have e : decide (i ∈ (listTo F 20).take (listTo F 20).length) = F i := by
    rw [List.take_length]
    cases h : F i
    · rw [decide_eq_false_iff_not, mem_listTo]; simp [h]
    · rw [decide_eq_true_eq, mem_listTo]; exact ⟨hi, h⟩
  simp only [inTo, e, orSet]
  congr 1
  by_cases h : op = 8 ∧ k = 1
  · have := hn h.1
    rw [if_pos h]
    by_cases he : (i : Int) = n
    · have : i = n.toNat := by omega
      simp [keep, h.1, h.2, setB, he]
      intro _; omega
    · have : ¬ i = n.toNat := by omega
      simp [keep, h.1, h.2, setB, he, this]
  · rw [if_neg h]
    simp only [keep]
    by_cases h8 : op = 8
    · have : ¬ k = 1 := fun e => h ⟨h8, e⟩
      simp [this]
    · simp [h8]
theorem listTo_one {n : Nat} (h : n < 20) : listTo (fun i => decide (i = n)) 20 = [n] := by
  have e : (fun i => decide (i = n)) = setB (fun _ => false) n true := by funext i; simp [setB]
  rw [e, listTo_set h rfl]
  have e1 : listTo (fun _ => false) n = [] := by simp [listTo]
  have e2 : geq (fun _ => false) (n + 1) = [] := by simp [geq]
  rw [e1, e2]; rfl
theorem ints_row {w : World} {base : Nat} {v : Value} {l : List Nat} (h : w.ownsRow base 3 1 v l.length (natVals l)) : ∃ av cv, v = .slice av l.length cv ∧ l.length ≤ cv ∧ Hid (∀ W, Below w.heap.size w W → ∀ j (hj : j < l.length), ∃ g, av = some ⟨g, 0, none⟩ ∧ g < w.heap.size ∧ W.cell? ⟨g, j, none⟩ = some (.int .i64 l[j])) := by
  obtain ⟨av, cv, h1, h2, h3, h4⟩ := owns_ints h
  refine ⟨av, cv, h1, h2, Lib.hid (fun W hW j hj => ?_)⟩
  rcases h4.out with ⟨h5, _⟩ | ⟨g, h5, h6, h7, h8⟩
  · rw [h5] at hj; simp at hj
  · exact ⟨g, h5, h7, (hW.cell (p := ⟨g, j, none⟩) h7).trans (h8 j hj)⟩

set_option maxRecDepth 100000 in
set_option maxHeartbeats 4000000 in
theorem rVars_any (N : Nat) : ∀ (t : Tm) (n₀ : Nat) (w : World) (a : Option Addr) (l c : Nat), t.size ≤ N → IsTm n₀ w t a l c → OkV t → n₀ ≤ w.heap.size →
    Calls Tryz.prog 24 #[.agg #[.int .i64 t.op, .int .i64 t.n, .slice a l c]] w fun e w' => ∃ v, e = .returned v ∧ w'.ownsRow w.heap.size 3 1 v (listTo (fvT t) 20).length (natVals (listTo (fvT t) 20)) ∧ Below w.heap.size w w' := by
  induction N with
  | zero => intro t _ _ _ _ _ h; have := size_pos t; omega
  | succ N ih =>
    intro t n₀ w a l c hs ht hO hn
    replace ih := Lib.hid ih
    obtain ⟨rfl, hlc, hc, hk⟩ := ht.open
    obtain ⟨o1, o2, o3, o4⟩ := hO.open
    have hsz := Lib.hid (size_eq t)
    have hsb : sizes t.kids ≤ N := by have := hsz.out; omega
    have hv := Lib.hid (fvT_eq t)
    replace o4 := Lib.hid o4
    by_cases h1 : t.op = 1
    · obtain ⟨n, hnn⟩ := Int.eq_ofNat_of_zero_le (o1 (.inl h1)).1
      have hn20 : n < 20 := by have := (o1 (.inl h1)).2; omega
      have hres : Hid (listTo (fvT t) 20 = [n]) := Lib.hid (by
        rw [hv.out, o2 h1, fvKs, ← listTo_one hn20]
        refine listTo_congr fun i _ => ?_
        simp [h1, hnn]
        omega)
      have h1b : (t.op == 1) = true := by simp [h1]
      have hone : Hid (∀ W : World, (W.alloc (.cells #[.int .i64 n] 3)).ownsRow W.heap.size 3 1 (.slice (some ⟨W.heap.size, 0, none⟩) 1 1) [n].length (natVals [n])) := Lib.hid (fun W => ⟨rfl, .inr ⟨W.heap.size, 1, _, rfl, Nat.le_refl _, heap_alloc_new W _, by simp, by simp [maxLen], rfl, rfl⟩⟩)
      rw [hres.out]
      clear o1 o2 o3 hk ht hO h1
      go_enter Tryz.func24, Tryz.ntmps24
      go_wp2_with fail
      go_ret
      refine ⟨_, rfl, ?_, by go_grown⟩
      have h9 := hone.out (w.alloc (.cells #[.int .i64 t.op, .int .i64 n, .slice a t.kids.length c] 28))
      rw [World.size_alloc] at h9
      exact ownsRow_wider (by omega) h9
    · have h1b : (t.op == 1) = false := by simp [h1]
      have hst : Hid (fvT t = fvKs t.op t.n (t.kids.drop 0) 0 (fun _ => false)) := Lib.hid (by
        rw [hv.out]; simp [h1])
      have hput := fun f m hm W base v hv hb => rput_any f m hm W base v hv hb
      replace hput := Lib.hid hput
      replace o1 := Lib.hid o1
      replace o3 := Lib.hid o3
      clear o2 ht hO h1 hv
      go_enter Tryz.func24, Tryz.ntmps24
      go_wp2_with fail
      go_loopw [3, 4, 5, 6] (fun out i _ _ wi => ∃ (k : Nat) (acc : Nat → Bool), k ≤ t.kids.length ∧ i = .int .i64 k ∧ Hid (fvT t = fvKs t.op t.n (t.kids.drop k) k acc) ∧ Hid (wi.ownsRow w.heap.size 3 1 out (listTo acc 20).length (natVals (listTo acc 20))) ∧ Hid (Below (w.heap.size + 1) (w.alloc (.cells #[.int .i64 t.op, .int .i64 t.n, .slice a t.kids.length c] 28)) wi)) (fun _ i _ _ _ => t.kids.length - (intOf i).toNat)
      case atStart => exact ⟨0, _, by omega, rfl, hst, Lib.hid (World.ownsRow_nil _ _ _ _), Lib.hid (Below.refl _ _)⟩
      case round =>
        obtain ⟨k, acc, hk1, rfl, hvk, hown, hb⟩ := hrel
        clear hst
        have hbw := Lib.hid (((Below.refl w.heap.size w).alloc (Nat.le_refl _) _).trans (hb.out.mono (Nat.le_succ _)))
        have hz := hb.out.size
        rw [World.size_alloc] at hz
        have hbox : Hid (∀ W, Below wr.heap.size wr W → W.cell? ⟨w.heap.size, 0, none⟩ = some (.int .i64 t.op) ∧ W.cell? ⟨w.heap.size, 1, none⟩ = some (.int .i64 t.n) ∧ W.cell? ⟨w.heap.size, 2, none⟩ = some (.slice a t.kids.length c)) := Lib.hid (fun W hW => by
          have h2 := hb.out.trans (hW.mono hz)
          refine ⟨?_, ?_, ?_⟩ <;> (rw [h2.cell (by simp)]; go_cell))
        obtain ⟨b0, b1, b2⟩ := hbox.out wr (Below.refl _ _)
        by_cases hlt : k < t.kids.length
        · rcases hk with hk | ⟨b, off, rfl, hbn, hks⟩
          · rw [hk] at hlt; simp at hlt
          obtain ⟨a', l', c', hc3, ht'⟩ := IsKids.get _ hks k hlt
          have hc3 := hc3.below (hbw.out.mono hn) hbn
          have ht' := (IsTm.below (hbw.out.mono hn) _ ht')
          obtain ⟨d0, d1, d2⟩ := hc3
          have hsk := size_kid t.kids k hlt
          have hS := Lib.hid (ih.out t.kids[k] n₀ wr a' l' c' (by omega) ht' (OkVs_get _ k hlt o4.out) (by omega))
          have hstep : Hid (fvT t = fvKs t.op t.n (t.kids.drop (k + 1)) (k + 1) (orSet acc (if t.op = 8 ∧ k = 1 then setB (fvT t.kids[k]) t.n.toNat false else fvT t.kids[k]))) := Lib.hid (by
            rw [hvk.out, fvKs_drop _ _ _ _ _ hlt])
          obtain ⟨F, hF⟩ : ∃ F, F = fvT t.kids[k] := ⟨_, rfl⟩
          rw [← hF] at hS hstep
          clear hks ht' hF hvk ih o4 hsk
          go_upto_region 9 with (go_at_call 24; refine (hS.out).mono ?_; rintro e w1 ⟨v1, rfl, hrow, hb1⟩)
          obtain ⟨av, cv, rfl, hcv, hel⟩ := ints_row hrow
          have hwz := hb1.size
          have hM := listTo_len F 20
          have hin0 : Hid (w1.ownsRow w.heap.size 3 1 u3 (listTo (inTo acc F t.op k t.n 0) 20).length (natVals (listTo (inTo acc F t.op k t.n 0) 20))) := Lib.hid (by rw [inTo_zero]; exact ownsRow_up hown.out hb1 (Nat.le_refl _))
          have hbox1 : Hid (∀ W, Below w1.heap.size w1 W → W.cell? ⟨w.heap.size, 0, none⟩ = some (.int .i64 t.op) ∧ W.cell? ⟨w.heap.size, 1, none⟩ = some (.int .i64 t.n) ∧ W.cell? ⟨w.heap.size, 2, none⟩ = some (.slice (some ⟨b, off, none⟩) t.kids.length c)) := Lib.hid (fun W hW => hbox.out W (Below.up hb1 hW))
          replace hb1 := Lib.hid hb1
          clear hrow hown b0 b1 b2 d0 d1 d2 hS hcv hbox
          go_loopw [3, 6] (fun out q wj => ∃ m : Nat, m ≤ (listTo F 20).length ∧ q = .int .i64 m ∧ Hid (wj.ownsRow w.heap.size 3 1 out (listTo (inTo acc F t.op k t.n m) 20).length (natVals (listTo (inTo acc F t.op k t.n m) 20))) ∧ Hid (Below w1.heap.size w1 wj)) (fun _ q _ => (listTo F 20).length - (intOf q).toNat)
          case atStart => exact ⟨0, by omega, rfl, hin0, Lib.hid (Below.refl _ _)⟩
          case round =>
            obtain ⟨m, hm, rfl, hown, hb2⟩ := hrel
            clear hin0
            obtain ⟨b0, b1, b2⟩ := hbox1.out _ hb2.out
            by_cases hq : m < (listTo F 20).length
            · have q1 : (m : Int) < ((listTo F 20).length : Int) := by omega
              obtain ⟨g, rfl, hgl, c0⟩ := hel.out _ hb2.out m hq
              obtain ⟨x, hx⟩ : ∃ x, x = (listTo F 20)[m] := ⟨_, rfl⟩
              have hx20 : x < 20 := by rw [hx]; exact listTo_lt (f := F) (List.getElem_mem _)
              rw [← hx] at c0
              replace hx := Lib.hid hx
              clear hel
              by_cases h8 : t.op = 8
              · by_cases hk1' : k = 1
                · by_cases hxn : (x : Int) = t.n
                  · have hkeep : ¬ keep t.op k t.n x = true := by simp [keep, h8, hk1', hxn]
                    have hnx : Hid (wr.ownsRow w.heap.size 3 1 u3 (listTo (inTo acc F t.op k t.n (m + 1)) 20).length (natVals (listTo (inTo acc F t.op k t.n (m + 1)) 20))) := Lib.hid (by
                      have e := inTo_succ (acc := acc) (op := t.op) (k := k) (n := t.n) hq
                      rw [← hx.out, if_neg hkeep] at e
                      rw [e]; exact hown.out)
                    replace hkeep := Lib.hid hkeep
                    clear hx
                    have g1 : (t.op != 8) = false := by simp [h8]
                    replace h8 := Lib.hid h8
                    have g2 : ((k : Int) != 1) = false := by simp; omega
                    replace hk1' := Lib.hid hk1'
                    have g3 : ((x : Int) != t.n) = false := by simp [hxn]
                    replace hxn := Lib.hid hxn
                    go_wp2_with fail
                    go_quiet (fail)
                    go_wp2_with fail
                    go_roundw
                    case rel => exact ⟨m + 1, by omega, by go_num, Lib.hid (ownsRow_up hnx.out (below_drewN _ _ _) (Nat.le_refl _)), Lib.hid (Below.up hb2.out (below_drewN _ _ _))⟩
                    case measure => simp [intOf]; omega
                  · have hkeep : keep t.op k t.n x = true := by simp [keep, hxn]
                    have hnx : Hid (∀ W W' v', W.ownsRow w.heap.size 3 1 v' (listTo (setB (inTo acc F t.op k t.n m) x true) 20).length (natVals (listTo (setB (inTo acc F t.op k t.n m) x true) 20)) → Below W.heap.size W W' → W'.ownsRow w.heap.size 3 1 v' (listTo (inTo acc F t.op k t.n (m + 1)) 20).length (natVals (listTo (inTo acc F t.op k t.n (m + 1)) 20))) := Lib.hid (fun W W' v' h hb => by
                      have e := inTo_succ (acc := acc) (op := t.op) (k := k) (n := t.n) hq
                      rw [← hx.out, if_pos hkeep] at e
                      rw [e]; exact ownsRow_up h hb (Nat.le_refl _))
                    replace hkeep := Lib.hid hkeep
                    clear hx
                    have g1 : (t.op != 8) = false := by simp [h8]
                    replace h8 := Lib.hid h8
                    have g2 : ((k : Int) != 1) = false := by simp; omega
                    replace hk1' := Lib.hid hk1'
                    have g3 : ((x : Int) != t.n) = true := by simp [hxn]
                    replace hxn := Lib.hid hxn
                    go_wp2_with fail
                    go_quiet (fail)
                    go_wp2_with (go_at_call 62; refine (hput.out (inTo acc F t.op k t.n m) x hx20 _ _ _ (ownsRow_up hown.out (below_drewN _ _ _) (Nat.le_refl _)) (by have := hb2.out.size; simp; omega)).mono ?_; rintro e w3 ⟨v3, rfl, hr3, hb3⟩)
                    go_roundw
                    case rel => exact ⟨m + 1, by omega, by go_num, Lib.hid (hnx.out _ _ _ hr3 (Below.refl _ _)), Lib.hid (Below.up hb2.out (Below.up (below_drewN _ _ _) hb3))⟩
                    case measure => simp [intOf]; omega
                · have hkeep : keep t.op k t.n x = true := by simp [keep, hk1']
                  have hnx : Hid (∀ W W' v', W.ownsRow w.heap.size 3 1 v' (listTo (setB (inTo acc F t.op k t.n m) x true) 20).length (natVals (listTo (setB (inTo acc F t.op k t.n m) x true) 20)) → Below W.heap.size W W' → W'.ownsRow w.heap.size 3 1 v' (listTo (inTo acc F t.op k t.n (m + 1)) 20).length (natVals (listTo (inTo acc F t.op k t.n (m + 1)) 20))) := Lib.hid (fun W W' v' h hb => by
                    have e := inTo_succ (acc := acc) (op := t.op) (k := k) (n := t.n) hq
                    rw [← hx.out, if_pos hkeep] at e
                    rw [e]; exact ownsRow_up h hb (Nat.le_refl _))
                  replace hkeep := Lib.hid hkeep
                  clear hx
                  have g1 : (t.op != 8) = false := by simp [h8]
                  replace h8 := Lib.hid h8
                  have g2 : ((k : Int) != 1) = true := by simp; omega
                  go_wp2_with fail
                  go_quiet (fail)
                  go_wp2_with (go_at_call 62; refine (hput.out (inTo acc F t.op k t.n m) x hx20 _ _ _ (ownsRow_up hown.out (below_drewN _ _ _) (Nat.le_refl _)) (by have := hb2.out.size; simp; omega)).mono ?_; rintro e w3 ⟨v3, rfl, hr3, hb3⟩)
                  go_roundw
                  case rel => exact ⟨m + 1, by omega, by go_num, Lib.hid (hnx.out _ _ _ hr3 (Below.refl _ _)), Lib.hid (Below.up hb2.out (Below.up (below_drewN _ _ _) hb3))⟩
                  case measure => simp [intOf]; omega
              have hkeep : keep t.op k t.n x = true := by simp [keep, h8]
              have hnx : Hid (∀ W W' v', W.ownsRow w.heap.size 3 1 v' (listTo (setB (inTo acc F t.op k t.n m) x true) 20).length (natVals (listTo (setB (inTo acc F t.op k t.n m) x true) 20)) → Below W.heap.size W W' → W'.ownsRow w.heap.size 3 1 v' (listTo (inTo acc F t.op k t.n (m + 1)) 20).length (natVals (listTo (inTo acc F t.op k t.n (m + 1)) 20))) := Lib.hid (fun W W' v' h hb => by
                have e := inTo_succ (acc := acc) (op := t.op) (k := k) (n := t.n) hq
                rw [← hx.out, if_pos hkeep] at e
                rw [e]; exact ownsRow_up h hb (Nat.le_refl _))
              replace hkeep := Lib.hid hkeep
              clear hx
              have g1 : (t.op != 8) = true := by simp [h8]
              replace h8 := Lib.hid h8
              go_wp2_with fail
              go_quiet (fail)
              go_wp2_with (go_at_call 62; refine (hput.out (inTo acc F t.op k t.n m) x hx20 _ _ _ (ownsRow_up hown.out (below_drewN _ _ _) (Nat.le_refl _)) (by have := hb2.out.size; simp; omega)).mono ?_; rintro e w3 ⟨v3, rfl, hr3, hb3⟩)
              go_roundw
              case rel => exact ⟨m + 1, by omega, by go_num, Lib.hid (hnx.out _ _ _ hr3 (Below.refl _ _)), Lib.hid (Below.up hb2.out (Below.up (below_drewN _ _ _) hb3))⟩
              case measure => simp [intOf]; omega
            · have hqe : m = (listTo F 20).length := by omega
              have q1 : ¬ (m : Int) < ((listTo F 20).length : Int) := by omega
              have hrow : Hid (wr.ownsRow w.heap.size 3 1 u3 (listTo (orSet acc (if t.op = 8 ∧ k = 1 then setB F t.n.toNat false else F)) 20).length (natVals (listTo (orSet acc (if t.op = 8 ∧ k = 1 then setB F t.n.toNat false else F)) 20))) := Lib.hid (by
                have e := inTo_all acc F t.op k t.n (fun h => (o1.out (.inr h)).1)
                rw [← e, ← hqe]; exact hown.out)
              replace hqe := Lib.hid hqe
              clear hown hel
              go_wp2_with fail
              go_roundw
              case rel => exact ⟨k + 1, _, by omega, by go_num, hstep, hrow, Lib.hid (hb.out.trans ((Below.up hb1.out hb2.out).mono hz))⟩
              case measure => simp [intOf]; omega
        · have : k = t.kids.length := by omega
          subst this
          have he : Hid (fvT t = acc) := Lib.hid (by rw [hvk.out, List.drop_length]; rfl)
          clear hvk hk
          go_wp2_with fail
          go_ret
          exact ⟨_, rfl, by rw [he.out]; exact hown.out, hbw.out⟩

end Go.Proofs.YtleejedcnmfpnaaGreat

namespace Go.Proofs.YtleejedcnmfpnaaGreat
open Go.RowKit Go.Shelf

/-! Shape -/
mutual
def isSh : Tm → Bool
  | .mk op _ ks => isShs ks && (op == 1 || op == 3)
def isShs : List Tm → Bool
  | [] => true
  | t :: ts => isSh t && isShs ts
end
theorem isSh_eq (t : Tm) : isSh t = (isShs t.kids && (t.op == 1 || t.op == 3)) := by cases t; rfl
theorem isShs_append (a b : List Tm) : isShs (a ++ b) = (isShs a && isShs b) := by
  induction a with
  | nil => simp [isShs]
  | cons t a ih => simp [isShs, ih, Bool.and_assoc]
theorem isShs_take_succ (ks : List Tm) (k : Nat) (h : k < ks.length) : isShs (ks.take (k + 1)) = (isShs (ks.take k) && isSh ks[k]) := by
  rw [List.take_succ_eq_append_getElem h, isShs_append]; simp [isShs]
theorem isShs_false (ks : List Tm) (k : Nat) (h : k < ks.length) (hf : isSh ks[k] = false) : isShs ks = false := by
  have h1 := isShs_take_succ ks k h
  have h2 := isShs_append (ks.take (k + 1)) (ks.drop (k + 1))
  rw [List.take_append_drop, h1, hf] at h2; simpa using h2

set_option maxHeartbeats 400000 in
theorem shape_any (N : Nat) : ∀ (t : Tm) (n₀ : Nat) (w : World) (a : Option Addr) (l c : Nat), t.size ≤ N → IsTm n₀ w t a l c → n₀ ≤ w.heap.size →
    Calls Tryz.prog 61 #[.agg #[.int .i64 t.op, .int .i64 t.n, .slice a l c]] w fun e w' => e = .returned (.bool (isSh t)) ∧ Below w.heap.size w w' := by
  induction N with
  | zero => intro t _ _ _ _ _ h; have := size_pos t; omega
  | succ N ih =>
    intro t n₀ w a l c hs ht hn
    replace ih := Lib.hid ih
    obtain ⟨rfl, hlc, hc, hk⟩ := ht.open
    have hsz := Lib.hid (size_eq t)
    have hsb : sizes t.kids ≤ N := by have := hsz.out; omega
    have hv := Lib.hid (isSh_eq t)
    go_enter Tryz.func61, Tryz.ntmps61
    go_wp2_with fail
    go_loopw [3] (fun i wr => ∃ k : Nat, k ≤ t.kids.length ∧ i = .int .i64 k ∧ Hid (isShs (t.kids.take k) = true) ∧ Below (w.heap.size + 1) (w.alloc (.cells #[.int .i64 t.op, .int .i64 t.n, .slice a t.kids.length c] 28)) wr) (fun i _ => t.kids.length - (intOf i).toNat)
    case atStart => exact ⟨0, by omega, rfl, Lib.hid (by simp [isShs]), Below.refl _ _⟩
    case round =>
      obtain ⟨k, hk1, rfl, hvk, hb⟩ := hrel
      have hbw := ((Below.refl w.heap.size w).alloc (Nat.le_refl _) _).trans (hb.mono (Nat.le_succ _))
      have hz := hb.size
      rw [World.size_alloc] at hz
      have hc0 : wr.cell? ⟨w.heap.size, 0, none⟩ = some (.int .i64 t.op) := by rw [hb.cell (by simp)]; go_cell
      have hc2 : wr.cell? ⟨w.heap.size, 2, none⟩ = some (.slice a t.kids.length c) := by rw [hb.cell (by simp)]; go_cell
      by_cases hlt : k < t.kids.length
      · rcases hk with hk | ⟨b, off, rfl, hbn, hks⟩
        · rw [hk] at hlt; simp at hlt
        obtain ⟨a', l', c', hc3, ht'⟩ := IsKids.get _ hks k hlt
        have hc3 := hc3.below (hbw.mono hn) hbn
        have ht' := (IsTm.below (hbw.mono hn) _ ht')
        obtain ⟨d0, d1, d2⟩ := hc3
        have hsk := size_kid t.kids k hlt
        have hS := ih.out t.kids[k] n₀ wr a' l' c' (by omega) ht' (by omega)
        have hvs := Lib.hid (isShs_take_succ t.kids k hlt)
        have hvf := Lib.hid (isShs_false t.kids k hlt)
        clear hks ht ht'
        cases hbv : isSh t.kids[k]
        all_goals
          rw [hbv] at hS
          replace hS := Lib.hid hS
          replace hbv := Lib.hid hbv
          go_wp2_with (go_at_call 61; refine (hS.out).mono ?_; rintro e w' ⟨rfl, hb'⟩)
        · go_ret
          exact ⟨by rw [hv.out, hvf.out hbv.out]; rfl, hbw.trans (hb'.mono (by omega))⟩
        · go_roundw
          case rel => exact ⟨k + 1, by omega, by go_num, Lib.hid (by rw [hvs.out, hvk.out, hbv.out]; rfl), hb.trans (hb'.mono hz)⟩
          case measure => simp [intOf]; omega
      · have : k = t.kids.length := by omega
        subst this
        have hvt : Hid (isShs t.kids = true) := by have := hvk.out; rw [List.take_length] at this; exact this
        clear hvk
        go_wp2_with fail
        all_goals
          go_ret
          exact ⟨by rw [hv.out, hvt.out]; first | (simp [*]; done) | (simp [*]; omega), hbw⟩


set_option maxRecDepth 100000 in
set_option maxHeartbeats 400000 in
theorem has_any (l : List Int) (m : Int) (n₀ : Nat) (w : World) (a : Option Addr) (la ca : Nat) (hA : IsInts n₀ w l a la ca) :
    Calls Tryz.prog 91 #[.slice a la ca, .int .i64 m] w fun e w' => e = .returned (.bool (decide (m ∈ l))) ∧ w = w' := by
  obtain ⟨rfl, ha1, ha2, hka⟩ := hA
  go_enter Tryz.func91, Tryz.ntmps91
  go_wp2_with fail
  go_loopw [5] (fun i wi => ∃ k : Nat, k ≤ l.length ∧ i = .int .i64 k ∧ wi = w ∧ Hid (∀ j (hj : j < l.length), j < k → l[j] ≠ m)) (fun i _ => l.length - (intOf i).toNat)
  case atStart => exact ⟨0, by omega, rfl, rfl, Lib.hid (fun j h h0 => by omega)⟩
  case round =>
    obtain ⟨k, hkk, rfl, rfl, hall⟩ := hrel
    by_cases hp : k < l.length
    · have o3 : (k : Int) < (l.length : Int) := by omega
      rcases hka with hka | ⟨b1, off1, rfl, hbn1, hks1⟩
      · rw [hka] at hp; simp at hp
      have c0 := hks1 k hp
      obtain ⟨x, hx⟩ : ∃ x, x = l[k] := ⟨_, rfl⟩
      rw [← hx] at c0
      replace hx := Lib.hid hx
      clear hks1
      by_cases he : x = m
      · have hv : Hid (decide (m ∈ l) = true) := Lib.hid (by rw [decide_eq_true_eq, ← he, hx.out]; exact List.getElem_mem hp)
        have o4 : (x == m) = true := by simpa using he
        replace he := Lib.hid he
        clear hall
        go_wp2_with fail
        go_ret
        exact ⟨by rw [hv.out]; rfl, rfl⟩
      · have o4 : (x == m) = false := by simpa using he
        have hall' : Hid (∀ j (hj : j < l.length), j < k + 1 → l[j] ≠ m) := Lib.hid (fun j hj h => by
          by_cases e : j = k
          · subst e; rw [← hx.out]; exact he
          · exact hall.out j hj (by omega))
        replace he := Lib.hid he
        clear hall
        go_wp2_with fail
        go_roundw
        case rel => exact ⟨k + 1, by omega, by go_num, by trivial, hall'⟩
        case measure => simp [intOf]; omega
    · have o3 : ¬ (k : Int) < (l.length : Int) := by omega
      have hv : Hid (decide (m ∈ l) = false) := Lib.hid (by
        rw [decide_eq_false_iff_not]; intro h
        obtain ⟨j, hj, e⟩ := List.getElem_of_mem h
        exact hall.out j hj (by omega) e)
      clear hall hka
      go_wp2_with fail
      go_ret
      exact ⟨by rw [hv.out]; rfl, rfl⟩

end Go.Proofs.YtleejedcnmfpnaaGreat

namespace Go.Proofs.YtleejedcnmfpnaaGreat
open Go.RowKit Go.Shelf Go.Sort

/-! Once -/
mutual
/-- The variables met, and whether each stood once; the walk ends at the first that does not. -/
def onceT : Tm → (Nat → Bool) → (Nat → Bool) × Bool
  | .mk op n ks, met => if op = 1 then (setB met n.toNat true, !met n.toNat) else onceKs ks met
def onceKs : List Tm → (Nat → Bool) → (Nat → Bool) × Bool
  | [], met => (met, true)
  | t :: ts, met => if (onceT t met).2 = true then onceKs ts (onceT t met).1 else (onceT t met)
end
theorem onceT_eq (t : Tm) (met : Nat → Bool) : onceT t met = if t.op = 1 then (setB met t.n.toNat true, !met t.n.toNat) else onceKs t.kids met := by cases t; rfl
theorem onceKs_take_succ : ∀ (ks : List Tm) (k : Nat) (h : k < ks.length) (met : Nat → Bool), (onceKs (ks.take k) met).2 = true → onceKs (ks.take (k + 1)) met = onceT ks[k] (onceKs (ks.take k) met).1
  | t :: ts, 0, _, met, _ => by
    simp only [List.take_succ_cons, List.take_zero, onceKs, List.getElem_cons_zero]
    split
    · next h => exact Prod.ext rfl h.symm
    · rfl
  | t :: ts, k + 1, h, met, hk => by
    simp only [List.take_succ_cons, List.getElem_cons_succ] at *
    rw [onceKs] at hk
    rw [onceKs]
    split at hk
    · next h1 =>
      rw [if_pos h1]
      have h2 := onceKs_take_succ ts k (by simpa using h) (onceT t met).1 hk
      rw [h2]
      congr 2
      rw [onceKs, if_pos h1]
    · next h1 => exact absurd hk h1
theorem onceKs_stop : ∀ (ks : List Tm) (k : Nat) (h : k < ks.length) (met : Nat → Bool), (onceKs (ks.take k) met).2 = true → (onceT ks[k] (onceKs (ks.take k) met).1).2 = false → onceKs ks met = onceT ks[k] (onceKs (ks.take k) met).1
  | t :: ts, 0, _, met, _, hf => by
    simp only [List.take_zero, onceKs, List.getElem_cons_zero] at *
    rw [if_neg (by rw [hf]; simp)]
  | t :: ts, k + 1, h, met, hk, hf => by
    simp only [List.take_succ_cons, List.getElem_cons_succ] at *
    rw [onceKs] at hk
    by_cases h1 : (onceT t met).2 = true
    · rw [if_pos h1] at hk
      have e : onceKs (t :: List.take k ts) met = onceKs (List.take k ts) (onceT t met).1 := by rw [onceKs, if_pos h1]
      rw [e] at hf ⊢
      rw [onceKs, if_pos h1]
      exact onceKs_stop ts k (by simpa using h) _ hk hf
    · rw [if_neg h1] at hk; exact absurd hk h1

/-! Pattern, as the program has it -/
theorem patRun_ok : ∀ (l : List Nd) (met : Nat → Bool), patRun l met = true → ∀ x ∈ l, x.2.op = 1 ∨ x.2.op = 3
  | [], _, _ => by simp
  | x :: r, met, h => by
    rw [patRun, Bool.and_eq_true] at h
    intro y hy
    rcases List.mem_cons.1 hy with rfl | hy
    · have := h.1
      unfold patOk at this
      simp only [Bool.or_eq_true, Bool.and_eq_true, beq_iff_eq] at this
      rcases this with h | h
      · exact .inl h.1
      · exact .inr h
    · exact patRun_ok r _ h.2 y hy

mutual
theorem pat_once : ∀ (d : DT) (dep : Nat) (met : Nat → Bool), OkV d.tm → (patRun (d.pre dep) met = ((onceT d.tm met).2 && isSh d.tm)) ∧ (patRun (d.pre dep) met = true → metsOf (d.pre dep) met = (onceT d.tm met).1)
  | .mk op n a l c ks, dep, met, hO => by
    rw [DT.tm, OkV] at hO
    rw [DT.pre, DT.tm, onceT, isSh, patRun, metsOf]
    by_cases h1 : op = 1
    · subst h1
      have hk : tms ks = [] := hO.2.1 rfl
      have hks : ks = [] := by cases ks with | nil => rfl | cons d ds => rw [tms] at hk; cases hk
      subst hks
      simp [pres, patRun, metsOf, patOk, metN, isShs, tms, DT.op, DT.n]
    · rw [if_neg h1]
      obtain ⟨i1, i2⟩ := pats_once ks (dep + 1) met hO.2.2.2
      have e : metN met op n = met := by unfold metN; rw [if_neg h1]
      show (patOk met op n && patRun (pres ks (dep + 1)) (metN met op n)) = _ ∧ ((patOk met op n && patRun (pres ks (dep + 1)) (metN met op n)) = true → metsOf (pres ks (dep + 1)) (metN met op n) = _)
      rw [e, i1]
      have e2 : patOk met op n = (op == 1 || op == 3) := by
        have hb : (op == 1) = false := beq_eq_false_iff_ne.2 h1
        unfold patOk; rw [hb]; rfl
      rw [e2]
      constructor
      · cases (onceKs (tms ks) met).2 <;> cases isShs (tms ks) <;> cases (op == 1 || op == 3) <;> rfl
      · intro h
        rw [Bool.and_eq_true] at h
        exact i2 (by rw [i1]; exact h.2)
theorem pats_once : ∀ (ds : List DT) (dep : Nat) (met : Nat → Bool), OkVs (tms ds) → (patRun (pres ds dep) met = ((onceKs (tms ds) met).2 && isShs (tms ds))) ∧ (patRun (pres ds dep) met = true → metsOf (pres ds dep) met = (onceKs (tms ds) met).1)
  | [], dep, met, _ => by simp [pres, tms, onceKs, isShs, patRun, metsOf]
  | d :: ds, dep, met, hO => by
    rw [tms, OkVs] at hO
    rw [pres, tms, onceKs, isShs, patRun_append, metsOf_append]
    obtain ⟨i1, i2⟩ := pat_once d dep met hO.1
    cases hp : patRun (d.pre dep) met
    · rw [hp] at i1
      constructor
      · by_cases ho : (onceT d.tm met).2 = true
        · rw [if_pos ho]; rw [ho] at i1
          have : isSh d.tm = false := by simpa using i1.symm
          rw [this]; simp
        · rw [if_neg ho]; rw [Bool.not_eq_true] at ho; rw [ho]; simp
      · intro h; simp at h
    · rw [hp] at i1
      have h2 := i1.symm
      rw [Bool.and_eq_true] at h2
      rw [if_pos h2.1, i2 hp, h2.2]
      obtain ⟨j1, j2⟩ := pats_once ds dep (onceT d.tm met).1 hO.2
      constructor
      · rw [Bool.true_and, Bool.true_and]; exact j1
      · intro h; rw [Bool.true_and] at h; exact j2 h
end
theorem pattern_eq (d : DT) (h : OkV d.tm) : patternB d = ((onceT d.tm (fun _ => false)).2 && isSh d.tm) := (pat_once d 1 _ h).1

/-! Ground -/
theorem valOp_ne8 {op : Int} (h : valOp op = true) : op ≠ 8 := by rintro rfl; revert h; decide
mutual
theorem fv_ground : ∀ (t : Tm), OkV t → valueB t = true → ((∀ i, i < 20 → fvT t i = false) ↔ groundB t = true)
  | .mk op n ks, hO, hv => by
    rw [OkV] at hO
    unfold valueB at hv
    rw [allN, Bool.and_eq_true] at hv
    unfold groundB
    rw [allN, Bool.and_eq_true, fvT]
    rw [fvs_ground ks op n 0 _ (valOp_ne8 hv.1) hO.2.2.2 hv.2]
    refine and_congr ?_ Iff.rfl
    by_cases h1 : op = 1
    · constructor
      · intro h
        have h2 := hO.1 (.inl h1)
        have h3 := h n.toNat (by omega)
        simp [h1] at h3
        omega
      · intro h; simp [h1] at h
    · simp [h1]
theorem fvs_ground : ∀ (ks : List Tm) (op n : Int) (k : Nat) (acc : Nat → Bool), op ≠ 8 → OkVs ks → allNs (fun op _ => valOp op) ks = true → ((∀ i, i < 20 → fvKs op n ks k acc i = false) ↔ (∀ i, i < 20 → acc i = false) ∧ allNs (fun op _ => !(op == 1)) ks = true)
  | [], op, n, k, acc, _, _, _ => by simp [fvKs, allNs]
  | t :: ts, op, n, k, acc, h8, hO, hv => by
    rw [OkVs] at hO
    rw [allNs, Bool.and_eq_true] at hv
    rw [fvKs, if_neg (fun h => h8 h.1), fvs_ground ts op n (k + 1) _ h8 hO.2 hv.2, allNs, Bool.and_eq_true]
    have e := fv_ground t hO.1 hv.1
    unfold groundB at e
    rw [← e, ← and_assoc]
    refine and_congr ?_ Iff.rfl
    constructor
    · intro h
      exact ⟨fun i hi => by have := h i hi; unfold orSet at this; rw [Bool.or_eq_false_iff] at this; exact this.1, fun i hi => by have := h i hi; unfold orSet at this; rw [Bool.or_eq_false_iff] at this; exact this.2⟩
    · intro h i hi
      unfold orSet; rw [h.1 i hi, h.2 i hi]; rfl
end
theorem ground_nil {t : Tm} (hO : OkV t) (hv : valueB t = true) : (listTo (fvT t) 20).length = 0 ↔ groundB t = true := by
  rw [← fv_ground t hO hv, List.length_eq_zero_iff, List.eq_nil_iff_forall_not_mem]
  constructor
  · intro h i hi
    cases he : fvT t i
    · rfl
    · exact absurd (mem_listTo.2 ⟨hi, he⟩) (h i)
  · intro h i hm
    obtain ⟨h1, h2⟩ := mem_listTo.1 hm
    rw [h i h1] at h2; cases h2

end Go.Proofs.YtleejedcnmfpnaaGreat

namespace Go.Proofs.YtleejedcnmfpnaaGreat
open Go.RowKit Go.Shelf Go.Sort

def intsOf (l : List Nat) : List Int := l.map fun (x : Nat) => (x : Int)
theorem row_ints {w : World} {base : Nat} {v : Value} {l : List Nat} (h : w.ownsRow base 3 1 v l.length (natVals l)) : ∃ av cv, v = .slice av l.length cv ∧ IsInts w.heap.size w (intsOf l) av l.length cv := by
  obtain ⟨av, cv, h1, h2, h3, h4⟩ := owns_ints h
  refine ⟨av, cv, h1, by simp [intsOf], h2, by unfold maxLen at h3; omega, ?_⟩
  rcases h4.out with ⟨h5, _⟩ | ⟨g, h5, h6, h7, h8⟩
  · left; rw [h5]; rfl
  · refine .inr ⟨g, 0, h5, h7, fun k hk => ?_⟩
    rw [Nat.zero_add, h8 k (by simpa [intsOf] using hk)]
    simp [intsOf]
theorem mem_intsOf {f : Nat → Bool} {n : Nat} (h : n < 20) : decide ((n : Int) ∈ intsOf (listTo f 20)) = f n := by
  have e : (n : Int) ∈ intsOf (listTo f 20) ↔ n ∈ listTo f 20 := by
    unfold intsOf
    rw [List.mem_map]
    constructor
    · rintro ⟨x, hx, he⟩; have : x = n := by omega
      subst this; exact hx
    · intro h; exact ⟨n, h, rfl⟩
  cases hf : f n
  · rw [decide_eq_false_iff_not, e, mem_listTo]; simp [hf]
  · rw [decide_eq_true_eq, e, mem_listTo]; exact ⟨h, hf⟩
theorem has_row (f : Nat → Bool) {n : Nat} (hn : n < 20) {w : World} {base : Nat} {v : Value} (h : w.ownsRow base 3 1 v (listTo f 20).length (natVals (listTo f 20))) :
    Calls Tryz.prog 91 #[v, .int .i64 n] w fun e w' => e = .returned (.bool (f n)) ∧ w = w' := by
  obtain ⟨av, cv, rfl, hi⟩ := row_ints h
  have := has_any (intsOf (listTo f 20)) n w.heap.size w av _ cv hi
  rw [mem_intsOf hn] at this
  exact this

theorem wp_call2 {P : Program} {o : Oper} {a : Act} {w : World} {K : Act → World → Prop} {Q : Exit → Act → World → Prop} {x y : Operand} {f : FuncId} {ts : Array TypeId} {u v : Value} {d : Tmp}
    (ho : o.op = .call { callee := .value (.func f), args := #[x, y], argTypes := ts }) (hd : o.dst = some d) (hf : (callFunc f #[u, v]).run P w = .ok (.enter f #[u, v]) w) (hx : a.eval x = u) (hy : a.eval y = v)
    (h : Calls P f #[u, v] w fun e w' => ∃ r, e = .returned r ∧ K { tmps := a.tmps.setIfInBounds d r, defers := a.defers } w') : o.wp P a w K Q := by
  have e : (execOp a.eval o).run P w = .ok (.enter f #[u, v]) w := by
    unfold execOp
    unfold Act.eval at hx hy
    simp only [ho, resolve, invoke, Deferred.ofValue, Act.eval, Sem.run_bind, Sem.run_pure, Result.andThen_ok, List.map_toArray, List.map_cons, List.map_nil, hx, hy, Array.append_empty, hf]
    exact hf
  unfold Oper.wp
  rw [e, Oper.upon_enter, hd]
  refine h.mono ?_
  rintro e w' ⟨r, rfl, hk⟩
  exact hk

set_option maxRecDepth 100000 in
set_option maxHeartbeats 4000000 in
theorem once_any (N : Nat) : ∀ (t : Tm) (f : Nat → Bool) (n₀ : Nat) (w : World) (a : Option Addr) (l c : Nat) (base : Nat) (v : Value), t.size ≤ N → IsTm n₀ w t a l c → OkV t → n₀ ≤ w.heap.size → w.ownsRow base 3 1 v (listTo f 20).length (natVals (listTo f 20)) → base ≤ w.heap.size →
    Calls Tryz.prog 60 #[.agg #[.int .i64 t.op, .int .i64 t.n, .slice a l c], v] w fun e w' => ∃ v', e = .returned (.tuple #[v', .bool (onceT t f).2]) ∧ w'.ownsRow base 3 1 v' (listTo (onceT t f).1 20).length (natVals (listTo (onceT t f).1 20)) ∧ Below w.heap.size w w' := by
  induction N with
  | zero => intro t _ _ _ _ _ _ _ _ h; have := size_pos t; omega
  | succ N ih =>
    intro t f n₀ w a l c base v hs ht hO hn hrow hbase
    replace ih := Lib.hid ih
    obtain ⟨rfl, hlc, hc, hk⟩ := ht.open
    obtain ⟨o1, o2, o3, o4⟩ := hO.open
    have hsz := Lib.hid (size_eq t)
    have hsb : sizes t.kids ≤ N := by have := hsz.out; omega
    have hv := Lib.hid (onceT_eq t f)
    replace o4 := Lib.hid o4
    by_cases h1 : t.op = 1
    · obtain ⟨n, hnn⟩ := Int.eq_ofNat_of_zero_le (o1 (.inl h1)).1
      have hn20 : n < 20 := by have := (o1 (.inl h1)).2; omega
      have hres : Hid (onceT t f = (setB f n true, !f n)) := Lib.hid (by
        rw [hv.out, if_pos h1, hnn]; rfl)
      have h1b : (t.op == 1) = true := by simp [h1]
      rw [hres.out]
      have hP := fun W (hW : Below w.heap.size w W) => rput_any f n hn20 W base v (ownsRow_up hrow hW (Nat.le_refl _)) (by have := hW.size; omega)
      have hH := fun W (hW : Below w.heap.size w W) => has_row f hn20 (ownsRow_up hrow hW (Nat.le_refl _))
      simp only [hnn] at *
      replace hP := Lib.hid hP
      replace hH := Lib.hid hH
      obtain ⟨p, hp⟩ : ∃ p, p = f n := ⟨_, rfl⟩
      rw [← hp] at hH
      rw [← hp]
      replace hp := Lib.hid hp
      clear o1 o2 o3 hk ht hO h1 hv hres hrow
      go_enter Tryz.func60, Tryz.ntmps60
      go_upto_region 2 with fail
      obtain ⟨w0, hw0⟩ : ∃ W, W = w.alloc (.cells #[.int .i64 t.op, .int .i64 n, .slice a t.kids.length c] 28) := ⟨_, rfl⟩
      have hbw : Hid (Below w.heap.size w w0) := Lib.hid (by rw [hw0]; exact bal _ _)
      have hbx : Hid (∀ W, Below w0.heap.size w0 W → W.cell? ⟨w.heap.size, 1, none⟩ = some (.int .i64 n)) := Lib.hid (fun W hW => by
        rw [hW.cell (by rw [hw0]; simp), hw0]; go_cell)
      rw [← hw0]
      clear hw0
      refine region_named (S := fun W' => Below w0.heap.size w0 W') (by kernel_rfl) (fun W hW => ?_)
      have hq : Hid (Below w0.heap.size w0 W) := Lib.hid (by rw [hW]; exact (Below.refl _ _).drew)
      clear hW
      refine takeH 0 11 v rfl rfl (by kernel_rfl) (by kernel_rfl) (by kernel_rfl) (fun _ _ _ h => h) (by rfl) (by intro W hSw; clear hSw; go_simp) hq.out ?_
      try simp only [List.setIfInBounds_toArray, List.set_cons_zero, List.set_cons_succ]
      refine takeH 1 12 (.pointer (some ⟨w.heap.size, 1, none⟩)) rfl rfl (by kernel_rfl) (by kernel_rfl) (by kernel_rfl) (fun _ _ _ h => h) (by rfl) (by intro W hSw; clear hSw; go_simp) hq.out ?_
      try simp only [List.setIfInBounds_toArray, List.set_cons_zero, List.set_cons_succ]
      refine takeH 2 13 (.int .i64 n) rfl rfl (by kernel_rfl) (by kernel_rfl) (by kernel_rfl) (fun _ _ _ h => h) (by rfl) (by intro W hSw; have j := hbx.out W hSw; clear hSw; go_simp) hq.out ?_
      try simp only [List.setIfInBounds_toArray, List.set_cons_zero, List.set_cons_succ]
      refine takeH 4 15 v rfl rfl (by kernel_rfl) (by kernel_rfl) (by kernel_rfl) (fun _ _ _ h => h) (by rfl) (by intro W hSw; clear hSw; go_simp) hq.out ?_
      try simp only [List.setIfInBounds_toArray, List.set_cons_zero, List.set_cons_succ]
      refine takeH 5 16 (.pointer (some ⟨w.heap.size, 1, none⟩)) rfl rfl (by kernel_rfl) (by kernel_rfl) (by kernel_rfl) (fun _ _ _ h => h) (by rfl) (by intro W hSw; clear hSw; go_simp) hq.out ?_
      try simp only [List.setIfInBounds_toArray, List.set_cons_zero, List.set_cons_succ]
      refine takeH 6 17 (.int .i64 n) rfl rfl (by kernel_rfl) (by kernel_rfl) (by kernel_rfl) (fun _ _ _ h => h) (by rfl) (by intro W hSw; have j := hbx.out W hSw; clear hSw; go_simp) hq.out ?_
      try simp only [List.setIfInBounds_toArray, List.set_cons_zero, List.set_cons_succ]
      refine wpAnyH_ready (rs := [3]) (by kernel_rfl) (by simp) ?_
      refine AllReadyH.cons rfl (fun K hKc => ?_) AllReadyH.nil
      rw [if_pos (by rfl)]
      refine wp_call2 (f := 62) (d := 14) rfl rfl (enters_of Tryz.func62 (by kernel_rfl) rfl _ _) rfl rfl ((hP.out _ (Below.up hbw.out hq.out)).mono ?_)
      rintro e W1 ⟨v1, rfl, hr1, hb1⟩
      refine ⟨_, rfl, ?_⟩
      replace hq := Lib.hid (Below.up hq.out hb1)
      replace hr1 := Lib.hid hr1
      clear hb1
      refine hKc _ _ hq.out (fun _ => ?_)
      clear hKc K
      try simp only [Act.put, List.setIfInBounds_toArray, List.set_cons_zero, List.set_cons_succ]
      refine wpAnyH_ready (rs := [7]) (by kernel_rfl) (by simp) ?_
      refine AllReadyH.cons rfl (fun K hKc => ?_) AllReadyH.nil
      rw [if_pos (by rfl)]
      refine wp_call2 (f := 91) (d := 18) rfl rfl (enters_of Tryz.func91 (by kernel_rfl) rfl _ _) rfl rfl ((hH.out _ (Below.up hbw.out hq.out)).mono ?_)
      rintro e W2 ⟨rfl, rfl⟩
      refine ⟨_, rfl, ?_⟩
      refine hKc _ _ hq.out (fun _ => ?_)
      clear hKc K
      try simp only [Act.put, List.setIfInBounds_toArray, List.set_cons_zero, List.set_cons_succ]
      refine takeH 8 19 (.bool (!p)) rfl rfl (by kernel_rfl) (by kernel_rfl) (by kernel_rfl) (fun _ _ _ h => h) (by rfl) (by intro W hSw; clear hSw; go_simp) hq.out ?_
      try simp only [List.setIfInBounds_toArray, List.set_cons_zero, List.set_cons_succ]
      refine takeH 9 4 v1 rfl rfl (by kernel_rfl) (by kernel_rfl) (by kernel_rfl) (fun _ _ _ h => h) (by rfl) (by intro W hSw; clear hSw; go_simp) hq.out ?_
      try simp only [List.setIfInBounds_toArray, List.set_cons_zero, List.set_cons_succ]
      refine takeH 10 5 (.bool (!p)) rfl rfl (by kernel_rfl) (by kernel_rfl) (by kernel_rfl) (fun _ _ _ h => h) (by rfl) (by intro W hSw; clear hSw; go_simp) hq.out ?_
      try simp only [List.setIfInBounds_toArray, List.set_cons_zero, List.set_cons_succ]
      refine wpAnyH_done (by kernel_rfl) ?_ _
      go_wp2_with fail
      refine bodyPost_ret (v := .tuple #[v1, .bool (!p)]) (by simp [results, Tryz.f60, go_sem]) rfl ⟨v1, rfl, hr1.out, Below.up hbw.out hq.out⟩
    · have h1b : (t.op == 1) = false := by simp [h1]
      have hres : Hid (onceT t f = onceKs t.kids f) := Lib.hid (by rw [hv.out, if_neg h1])
      clear o1 o2 o3 ht hO h1 hv
      replace hrow := Lib.hid hrow
      go_enter Tryz.func60, Tryz.ntmps60
      go_wp2_with fail
      go_loopw [1, 6, 7] (fun bv isv i wi => ∃ (k : Nat) (met : Nat → Bool) (b : Bool), k ≤ t.kids.length ∧ i = .int .i64 k ∧ isv = .bool b ∧ Hid (b = true → onceKs (t.kids.take k) f = (met, true)) ∧ Hid (b = false → onceKs t.kids f = (met, false)) ∧ Hid (wi.ownsRow base 3 1 bv (listTo met 20).length (natVals (listTo met 20))) ∧ Hid (Below (w.heap.size + 1) (w.alloc (.cells #[.int .i64 t.op, .int .i64 t.n, .slice a t.kids.length c] 28)) wi)) (fun _ _ i _ => t.kids.length - (intOf i).toNat)
      case atStart => exact ⟨0, f, true, by omega, rfl, rfl, Lib.hid (fun _ => by simp [onceKs]), Lib.hid (fun h => by cases h), Lib.hid (ownsRow_up hrow.out (bal _ _) (Nat.le_refl _)), Lib.hid (Below.refl _ _)⟩
      case round =>
        obtain ⟨k, met, b, hk1, rfl, rfl, hyes, hno, hown, hb⟩ := hrel
        clear hrow
        have hbw := Lib.hid (((Below.refl w.heap.size w).alloc (Nat.le_refl _) _).trans (hb.out.mono (Nat.le_succ _)))
        have hz := hb.out.size
        rw [World.size_alloc] at hz
        have b2 : wr.cell? ⟨w.heap.size, 2, none⟩ = some (.slice a t.kids.length c) := by rw [hb.out.cell (by simp)]; go_cell
        by_cases hlt : k < t.kids.length
        · cases b
          · have hfin : Hid (onceT t f = (met, false)) := Lib.hid (by rw [hres.out]; exact hno.out rfl)
            clear hyes hno hk
            go_wp2_with fail
            refine bodyPost_ret (v := .tuple #[u1, .bool false]) (by simp [results, Tryz.f60, go_sem]) rfl ⟨u1, by rw [hfin.out], by rw [hfin.out]; exact hown.out, hbw.out⟩
          · rcases hk with hk | ⟨bb, off, rfl, hbn, hks⟩
            · rw [hk] at hlt; simp at hlt
            obtain ⟨a', l', c', hc3, ht'⟩ := IsKids.get _ hks k hlt
            have hc3 := hc3.below (hbw.out.mono hn) hbn
            have ht' := (IsTm.below (hbw.out.mono hn) _ ht')
            obtain ⟨d0, d1, d2⟩ := hc3
            have hsk := size_kid t.kids k hlt
            have hS := Lib.hid (ih.out t.kids[k] met n₀ wr a' l' c' base u1 (by omega) ht' (OkVs_get _ k hlt o4.out) (by omega) hown.out (by omega))
            have hy1 := Lib.hid (hyes.out rfl)
            have hstep := Lib.hid (onceKs_take_succ t.kids k hlt f (by rw [hy1.out]))
            have hstop := Lib.hid (onceKs_stop t.kids k hlt f (by rw [hy1.out]))
            obtain ⟨R, hR⟩ : ∃ R, R = onceT t.kids[k] met := ⟨_, rfl⟩
            have hstep2 : Hid (onceKs (t.kids.take (k + 1)) f = R) := Lib.hid (by rw [hstep.out, hy1.out, hR])
            have hstop2 : Hid (R.2 = false → onceKs t.kids f = R) := Lib.hid (fun h => by
              have := hstop.out
              rw [hy1.out] at this
              rw [this (by rw [← hR]; exact h), hR])
            obtain ⟨met', b'⟩ := R
            rw [← hR] at hS
            clear hks ht' hR hstep hstop hyes hno hown hy1 hsk
            go_wp2_with (go_at_call 60; refine (hS.out).mono ?_; rintro e w1 ⟨v1, rfl, hrow1, hb1⟩)
            go_roundw
            case rel => exact ⟨k + 1, met', b', by omega, by go_num, rfl, Lib.hid (fun h => by subst h; exact hstep2.out), Lib.hid (fun h => by subst h; exact hstop2.out rfl), Lib.hid hrow1, Lib.hid (hb.out.trans (hb1.mono hz))⟩
            case measure => simp [intOf]; omega
        · have hke : Hid (k = t.kids.length) := Lib.hid (by omega)
          have hfin : Hid (onceT t f = (met, b)) := Lib.hid (by
            rw [hres.out]
            cases b
            · exact hno.out rfl
            · have := hyes.out rfl
              rw [hke.out, List.take_length] at this
              exact this)
          have q1 : ¬ (k : Int) < (t.kids.length : Int) := by omega
          clear hyes hno hk
          go_wp2_with fail
          refine bodyPost_ret (v := .tuple #[u1, .bool b]) (by simp [results, Tryz.f60, go_sem]) rfl ⟨u1, by rw [hfin.out], by rw [hfin.out]; exact hown.out, hbw.out⟩

set_option maxRecDepth 100000 in
set_option maxHeartbeats 1000000 in
/-- 'Pattern'. -/
theorem rPattern_any (t : Tm) (n₀ : Nat) (w : World) (a : Option Addr) (l c : Nat) (ht : IsTm n₀ w t a l c) (hO : OkV t) (hn : n₀ ≤ w.heap.size) :
    Calls Tryz.prog 22 #[.agg #[.int .i64 t.op, .int .i64 t.n, .slice a l c]] w fun e w' => e = .returned (.bool ((onceT t (fun _ => false)).2 && isSh t)) ∧ Below w.heap.size w w' := by
  obtain ⟨w0, hw0⟩ : ∃ W, W = w.alloc (.cells #[.int .i64 t.op, .int .i64 t.n, .slice a l c] 28) := ⟨_, rfl⟩
  have hb0 : Below w.heap.size w w0 := by rw [hw0]; exact bal _ _
  have hO1 := fun W (hW : Below w.heap.size w W) => once_any t.size t (fun _ => false) n₀ W a l c W.heap.size (.slice none 0 0) (Nat.le_refl _) (IsTm.below (hW.mono hn) _ ht) hO (by have := hW.size; omega) (World.ownsRow_nil _ _ _ _) (Nat.le_refl _)
  have hS1 := fun W (hW : Below w.heap.size w W) => shape_any t.size t n₀ W a l c (Nat.le_refl _) (IsTm.below (hW.mono hn) _ ht) (by have := hW.size; omega)
  have hbx : Hid (∀ W, Below w0.heap.size w0 W → W.cell? ⟨w.heap.size, 0, none⟩ = some (.int .i64 t.op) ∧ W.cell? ⟨w.heap.size, 1, none⟩ = some (.int .i64 t.n) ∧ W.cell? ⟨w.heap.size, 2, none⟩ = some (.slice a l c)) := Lib.hid (fun W hW => by
    have hz : w.heap.size < w0.heap.size := by rw [hw0]; simp
    refine ⟨?_, ?_, ?_⟩ <;> (rw [hW.cell hz, hw0]; go_cell))
  have hO2 := hO1 w0 hb0
  rw [hw0] at hO2
  have hbe : Hid (∀ W, Below (w.alloc (.cells #[.int .i64 t.op, .int .i64 t.n, .slice a l c] 28)).heap.size (w.alloc (.cells #[.int .i64 t.op, .int .i64 t.n, .slice a l c] 28)) W → Below w0.heap.size w0 W) := Lib.hid (fun W h => by rw [hw0]; exact h)
  obtain ⟨R, hR⟩ : ∃ R, R = onceT t (fun _ => false) := ⟨_, rfl⟩
  obtain ⟨q, hq⟩ : ∃ q, q = isSh t := ⟨_, rfl⟩
  rw [← hR] at hO2
  rw [← hq] at hS1
  rw [← hR, ← hq]
  replace hO2 := Lib.hid hO2
  replace hS1 := Lib.hid hS1
  replace hb0 := Lib.hid hb0
  obtain ⟨met, b⟩ := R
  clear hO1 hw0 hR hq ht hO
  cases b
  · go_enter Tryz.func22, Tryz.ntmps22
    go_wp2_with (go_at_call 60; refine (hO2.out).mono ?_; rintro e w1 ⟨v1, rfl, hr, hb1⟩; replace hb1 := Lib.hid (hbe.out _ hb1))
    go_ret
    exact ⟨rfl, Below.up hb0.out hb1.out⟩
  · go_enter Tryz.func22, Tryz.ntmps22
    go_upto_region 2 with (go_at_call 60; refine (hO2.out).mono ?_; rintro e w1 ⟨v1, rfl, hr, hb1⟩; replace hb1 := Lib.hid (hbe.out _ hb1))
    obtain ⟨b0, b1, b2⟩ := hbx.out _ hb1.out
    go_wp2_with (go_at_call 61; refine (hS1.out _ (Below.up hb0.out hb1.out)).mono ?_; rintro e w2 ⟨rfl, hb2⟩)
    go_ret
    exact ⟨rfl, Below.up hb0.out (Below.up hb1.out hb2)⟩

set_option maxRecDepth 100000 in
set_option maxHeartbeats 1000000 in
/-- 'Ground'. -/
theorem rGround_any (t : Tm) (n₀ : Nat) (w : World) (a : Option Addr) (l c : Nat) (ht : IsTm n₀ w t a l c) (hO : OkV t) (hn : n₀ ≤ w.heap.size) :
    Calls Tryz.prog 21 #[.agg #[.int .i64 t.op, .int .i64 t.n, .slice a l c]] w fun e w' => e = .returned (.bool (decide ((listTo (fvT t) 20).length = 0))) ∧ Below w.heap.size w w' := by
  have hb0 : Below w.heap.size w (w.alloc (.cells #[.int .i64 t.op, .int .i64 t.n, .slice a l c] 28)) := bal _ _
  have hV := rVars_any t.size t n₀ (w.alloc (.cells #[.int .i64 t.op, .int .i64 t.n, .slice a l c] 28)) a l c (Nat.le_refl _) (IsTm.below (hb0.mono hn) _ ht) hO (by simp; omega)
  obtain ⟨L, hL⟩ : ∃ L, L = listTo (fvT t) 20 := ⟨_, rfl⟩
  rw [← hL] at hV
  rw [← hL]
  replace hV := Lib.hid hV
  replace hb0 := Lib.hid hb0
  clear ht hO hL
  go_enter Tryz.func21, Tryz.ntmps21
  go_wp2_with (go_at_call 24; refine (hV.out).mono ?_; rintro e w1 ⟨v1, rfl, hr, hb1⟩; obtain ⟨av, cv, rfl, hcv, hel⟩ := ints_row hr)
  go_ret
  refine ⟨?_, Below.up hb0.out hb1⟩
  have e : ((L.length : Int) == 0) = decide (L.length = 0) := by rw [Bool.eq_iff_iff]; simp
  rw [← e]
  rfl

end Go.Proofs.YtleejedcnmfpnaaGreat

namespace Go.Proofs.YtleejedcnmfpnaaGreat
open Go.RowKit Go.Shelf Go.Sort

theorem small1 (s : Sg) (d : DT) (n₀ : Nat) (w : World) (ac : Option Addr) (lc cc : Nat) (af : Option Addr) (lf cf : Nat) (hs : IsSg n₀ w s ac lc cc af lf cf) (h1 : Lies n₀ w d) (hn : n₀ ≤ w.heap.size) :
    Calls Tryz.prog 11 #[.agg #[.slice ac lc cc, .slice af lf cf], .slice (some ⟨w.heap.size, 0, none⟩) 1 1] (w.alloc (.cells #[.int .i64 d.op, .int .i64 d.n, .slice d.a d.l d.c] 28))
      fun e w' => e = .returned (.bool (smallDs [d] && smallB s)) ∧ Below w.heap.size w w' := by
  have hb := bal w (.cells #[.int .i64 d.op, .int .i64 d.n, .slice d.a d.l d.c] 28)
  refine (small_any s [d] (w.heap.size + 1) _ ac lc cc af lf cf w.heap.size 0 1 ((hs.below (hb.mono hn)).wider (by omega)) (one_lies' h1 hn) (by omega) ⟨by simp, by omega⟩ (by simp)).mono ?_
  rintro e w' ⟨he, h⟩
  exact ⟨he, hb.trans (h.mono (by simp))⟩
theorem given1 (s : Sg) (d : DT) (n₀ : Nat) (w : World) (ac : Option Addr) (lc cc : Nat) (af : Option Addr) (lf cf : Nat) (hs : IsSg n₀ w s ac lc cc af lf cf) (h1 : Lies n₀ w d) (hn : n₀ ≤ w.heap.size) :
    Calls Tryz.prog 19 #[.agg #[.slice ac lc cc, .slice af lf cf], .slice (some ⟨w.heap.size, 0, none⟩) 1 1] (w.alloc (.cells #[.int .i64 d.op, .int .i64 d.n, .slice d.a d.l d.c] 28))
      fun e w' => e = .returned (.bool (checkB s [d])) ∧ Below w.heap.size w w' := by
  have hb := bal w (.cells #[.int .i64 d.op, .int .i64 d.n, .slice d.a d.l d.c] 28)
  refine (given_any s [d] (w.heap.size + 1) _ ac lc cc af lf cf w.heap.size 0 1 ((hs.below (hb.mono hn)).wider (by omega)) (one_lies' h1 hn) (by omega) ⟨by simp, by omega⟩ (by simp)).mono ?_
  rintro e w' ⟨he, h⟩
  exact ⟨by rw [he]; rfl, hb.trans (h.mono (by simp))⟩

/-- What the calls of TermChecks answer, in every world behind the boxes. -/
structure ChecksAt (s : Sg) (d : DT) (ac : Option Addr) (lc cc : Nat) (af : Option Addr) (lf cf : Nat) (σ χ va gr pt : Bool) (L : List Nat) (W : World) : Prop where
  k13 : Calls Tryz.prog 13 #[.agg #[.slice ac lc cc, .slice af lf cf]] W fun e w' => e = .returned (.int .i64 (errOf σ)) ∧ Below W.heap.size W w'
  k14 : Calls Tryz.prog 14 #[.agg #[.slice ac lc cc, .slice af lf cf], .agg #[.int .i64 d.op, .int .i64 d.n, .slice d.a d.l d.c]] W fun e w' => e = .returned (.int .i64 (errOf χ)) ∧ Below W.heap.size W w'
  k15 : Calls Tryz.prog 15 #[.agg #[.slice ac lc cc, .slice af lf cf], .agg #[.int .i64 d.op, .int .i64 d.n, .slice d.a d.l d.c]] W fun e w' => e = .returned (.tuple #[.bool (χ && va), .bool (χ && va && gr), .int .i64 (errOf χ)]) ∧ Below W.heap.size W w'
  k16 : Calls Tryz.prog 16 #[.agg #[.slice ac lc cc, .slice af lf cf], .agg #[.int .i64 d.op, .int .i64 d.n, .slice d.a d.l d.c]] W fun e w' => e = .returned (.tuple #[.bool (χ && pt), .int .i64 (errOf χ)]) ∧ Below W.heap.size W w'
  k17 : Calls Tryz.prog 17 #[.agg #[.slice ac lc cc, .slice af lf cf], .agg #[.int .i64 d.op, .int .i64 d.n, .slice d.a d.l d.c]] W fun e w' => ∃ v, e = .returned (.tuple #[v, .int .i64 (errOf χ)]) ∧ Hid (w'.ownsRow W.heap.size 3 1 v (if χ = true then L else []).length (natVals (if χ = true then L else []))) ∧ (χ = false → v = .slice none 0 0) ∧ Below W.heap.size W w'
  k18 : Calls Tryz.prog 18 #[.agg #[.slice ac lc cc, .slice af lf cf]] W fun e w' => e = .returned (.bool σ) ∧ Below W.heap.size W w'
  k19 : Calls Tryz.prog 19 #[.agg #[.slice ac lc cc, .slice af lf cf], .slice (some ⟨W.heap.size, 0, none⟩) 1 1] (W.alloc (.cells #[.int .i64 d.op, .int .i64 d.n, .slice d.a d.l d.c] 28)) fun e w' => e = .returned (.bool χ) ∧ Below W.heap.size W w'
  k20 : Calls Tryz.prog 20 #[.agg #[.int .i64 d.op, .int .i64 d.n, .slice d.a d.l d.c]] W fun e w' => e = .returned (.bool va) ∧ Below W.heap.size W w'
  k21 : χ = true → va = true → Calls Tryz.prog 21 #[.agg #[.int .i64 d.op, .int .i64 d.n, .slice d.a d.l d.c]] W fun e w' => e = .returned (.bool gr) ∧ Below W.heap.size W w'
  k22 : χ = true → Calls Tryz.prog 22 #[.agg #[.int .i64 d.op, .int .i64 d.n, .slice d.a d.l d.c]] W fun e w' => e = .returned (.bool pt) ∧ Below W.heap.size W w'
  k24 : χ = true → Calls Tryz.prog 24 #[.agg #[.int .i64 d.op, .int .i64 d.n, .slice d.a d.l d.c]] W fun e w' => ∃ v, e = .returned v ∧ Hid (w'.ownsRow W.heap.size 3 1 v L.length (natVals L)) ∧ Below W.heap.size W w'

theorem checks_at {s : Sg} {d : DT} {n₀ : Nat} {W : World} {ac : Option Addr} {lc cc : Nat} {af : Option Addr} {lf cf : Nat} (hs : IsSg n₀ W s ac lc cc af lf cf) (h1 : Lies n₀ W d) (hn : n₀ ≤ W.heap.size) (hsm : smallT d.tm = true) :
    ChecksAt s d ac lc cc af lf cf (sigB s) (checkB s [d]) (valueB d.tm) (groundB d.tm) (patternB d) (listTo (fvT d.tm) 20) W := by
  have hsz := small_size hsm
  have ht := Lies.isTm _ h1
  have hO := fun h : checkB s [d] = true => OkV.checked h (List.mem_singleton.2 rfl)
  refine ⟨CheckSig_any s n₀ W ac lc cc af lf cf hs hn, Check_any s d n₀ W ac lc cc af lf cf hsz hn hs h1, ?_, ?_, ?_, Sig_any s n₀ W ac lc cc af lf cf hs hn, given1 s d n₀ W ac lc cc af lf cf hs h1 hn, ?_, ?_, ?_, ?_⟩
  · have := IsValue_any s d n₀ W ac lc cc af lf cf hsz hn hs h1
    unfold isValB isValA at this
    exact this
  · have := IsPattern_any s d n₀ W ac lc cc af lf cf hsz hn hs h1
    unfold patA at this
    exact this
  · refine (Vars_any s d n₀ W ac lc cc af lf cf hsz hn hs h1).mono ?_
    rintro e w' ⟨v, he, hr, hnil, hb⟩
    refine ⟨v, he, Lib.hid ?_, fun hc => hnil.2 ?_, hb⟩
    · unfold varsL at hr; exact hr
    · unfold varsL; rw [hc]; rfl
  · have := Value_any d.tm.size d.tm n₀ W d.a d.l d.c (Nat.le_refl _) ht hn
    simp only [DT.tm_op, DT.tm_n] at this
    rw [isVal_allN] at this
    exact this
  · intro hc hv
    have := rGround_any d.tm n₀ W d.a d.l d.c ht (hO hc) hn
    simp only [DT.tm_op, DT.tm_n] at this
    rw [show decide ((listTo (fvT d.tm) 20).length = 0) = groundB d.tm by
      rw [Bool.eq_iff_iff, decide_eq_true_eq]; exact ground_nil (hO hc) hv] at this
    exact this
  · intro hc
    have := rPattern_any d.tm n₀ W d.a d.l d.c ht (hO hc) hn
    simp only [DT.tm_op, DT.tm_n] at this
    rw [pattern_eq d (hO hc)]
    exact this
  · intro hc
    have := rVars_any d.tm.size d.tm n₀ W d.a d.l d.c (Nat.le_refl _) ht (hO hc) hn
    simp only [DT.tm_op, DT.tm_n] at this
    refine this.mono ?_
    rintro e w' ⟨v, he, hr, hb⟩
    exact ⟨v, he, Lib.hid hr, hb⟩

set_option maxRecDepth 100000 in
set_option maxHeartbeats 8000000 in
theorem TermChecks_any (s : Sg) (d : DT) (n₀ : Nat) (w : World) (ac : Option Addr) (lc cc : Nat) (af : Option Addr) (lf cf : Nat) (hs : IsSg n₀ w s ac lc cc af lf cf) (h1 : Lies n₀ w d) (hn : n₀ ≤ w.heap.size) :
    Calls Tryz.prog 3 #[.agg #[.slice ac lc cc, .slice af lf cf], .agg #[.int .i64 d.op, .int .i64 d.n, .slice d.a d.l d.c]] w
      fun e w' => e = .returned (.bool true) ∧ Below w.heap.size w w' := by
  obtain ⟨wa, hwa⟩ : ∃ W, W = bs1 w ac lc cc af lf cf := ⟨_, rfl⟩
  obtain ⟨W0, hW0⟩ : ∃ W, W = bt1 wa d := ⟨_, rfl⟩
  have hza : wa.heap.size = w.heap.size + 1 := by rw [hwa]; simp
  have hz0 : W0.heap.size = w.heap.size + 1 + 1 := by rw [hW0]; simp [hza]
  have ba : Below w.heap.size w wa := by rw [hwa]; exact bal _ _
  have bb : Below wa.heap.size wa W0 := by rw [hW0]; exact bal _ _
  have hB0 : Below w.heap.size w W0 := Below.up ba bb
  have hcells : Hid (∀ W, Below W0.heap.size W0 W → (W.cell? ⟨w.heap.size, 0, none⟩ = some (.slice ac lc cc) ∧ W.cell? ⟨w.heap.size, 1, none⟩ = some (.slice af lf cf)) ∧ (W.cell? ⟨w.heap.size + 1, 0, none⟩ = some (.int .i64 d.op) ∧ W.cell? ⟨w.heap.size + 1, 1, none⟩ = some (.int .i64 d.n) ∧ W.cell? ⟨w.heap.size + 1, 2, none⟩ = some (.slice d.a d.l d.c))) := Lib.hid (fun W h => by
    have e0 := box_s hwa (Nat.le_refl _) (Below.up bb h)
    have e1 := box_t hW0 (Nat.le_refl _) h
    rw [hza] at e1
    exact ⟨e0, e1⟩)
  have hlie : Hid (∀ W, Below W0.heap.size W0 W → n₀ ≤ W.heap.size ∧ IsSg n₀ W s ac lc cc af lf cf ∧ Lies n₀ W d) := Lib.hid (fun W h => by
    have hb := (Below.up hB0 h).mono hn
    exact ⟨by have := h.size; omega, hs.below hb, h1.below hb⟩)
  have hG : Calls Tryz.prog 11 #[.agg #[.slice ac lc cc, .slice af lf cf], .slice (some ⟨W0.heap.size, 0, none⟩) 1 1] (W0.alloc (.cells #[.int .i64 d.op, .int .i64 d.n, .slice d.a d.l d.c] 28))
      fun e w' => e = .returned (.bool (smallDs [d] && smallB s)) ∧ Below W0.heap.size W0 w' := by
    obtain ⟨q0, q1, q2⟩ := hlie.out W0 (Below.refl _ _)
    exact small1 s d n₀ W0 ac lc cc af lf cf q1 q2 q0
  have hb0 : Hid (∀ W, Below (w.heap.size + 1 + 1) (bt1 (bs1 w ac lc cc af lf cf) d) W → Below W0.heap.size W0 W) := Lib.hid (fun W h => by rw [hz0, hW0, hwa]; exact h)
  rw [hz0, hW0, hwa] at hG
  have hsm : Hid ((smallDs [d] && smallB s) = true → smallT d.tm = true) := Lib.hid (fun h => by
    simp only [smallDs, List.all_cons, List.all_nil, Bool.and_true, Bool.and_eq_true] at h
    exact h.1)
  obtain ⟨g, hg⟩ : ∃ g, g = (smallDs [d] && smallB s) := ⟨_, rfl⟩
  rw [← hg] at hG hsm
  have hKn := Lib.hid (fun W => known_any W)
  obtain ⟨σ, hσ⟩ : ∃ u, u = sigB s := ⟨_, rfl⟩
  obtain ⟨χ, hχ⟩ : ∃ u, u = checkB s [d] := ⟨_, rfl⟩
  obtain ⟨va, hva⟩ : ∃ u, u = valueB d.tm := ⟨_, rfl⟩
  obtain ⟨gr, hgr⟩ : ∃ u, u = groundB d.tm := ⟨_, rfl⟩
  obtain ⟨pt, hpt⟩ : ∃ u, u = patternB d := ⟨_, rfl⟩
  obtain ⟨L, hL⟩ : ∃ u, u = listTo (fvT d.tm) 20 := ⟨_, rfl⟩
  have hσχ : σ = false → χ = false := fun h => by rw [hχ]; unfold checkB; rw [← hσ, h]; rfl
  have hAt : Hid (smallT d.tm = true → ∀ W, Below W0.heap.size W0 W → ChecksAt s d ac lc cc af lf cf σ χ va gr pt L W) := Lib.hid (fun h W hW => by
    obtain ⟨q0, q1, q2⟩ := hlie.out W hW
    rw [hσ, hχ, hva, hgr, hpt, hL]
    exact checks_at q1 q2 q0 h)
  replace hG := Lib.hid hG
  replace hB0 := Lib.hid hB0
  clear hs h1 ba bb hW0 hz0 hza hwa hg hσ hχ hva hgr hpt hL
  go_enter Tryz.func3, Tryz.ntmps3
  go_upto_region 99 with fail
  refine (hG.out).mono ?_
  rintro e w1 ⟨rfl, hbe⟩
  replace hbe := Lib.hid (hb0.out _ hbe)
  clear hG
  cases g
  · go_wp2_with (go_at_call 12; refine (hKn.out _).mono ?_; rintro e w2 ⟨rfl, hbe2⟩)
    go_ret
    exact ⟨rfl, Below.up hB0.out (Below.up hbe.out hbe2)⟩
  replace hAt := Lib.hid (hAt.out (hsm.out rfl))
  clear hsm
  cases χ
  · cases σ
    · obtain ⟨⟨s0, s1⟩, p0, p1, p2⟩ := hcells.out _ hbe.out
      go_upto_region 3 with fail
      have k13 := fun dd os => ((hAt.out (grow (redrawn w1 dd) os) (Below.up hbe.out (below_regrown _ _ _))).k13).regrown_of
      have k14 := fun dd os => ((hAt.out (grow (redrawn w1 dd) os) (Below.up hbe.out (below_regrown _ _ _))).k14).regrown_of
      simp only [errOf, if_true, Bool.false_eq_true, if_false] at k13 k14
      replace k13 := Lib.hid k13
      replace k14 := Lib.hid k14
      have d0 := fun dd os => cell_regrown s0 dd os
      have d1 := fun dd os => cell_regrown s1 dd os
      have d2 := fun dd os => cell_regrown p0 dd os
      have d3 := fun dd os => cell_regrown p1 dd os
      have d4 := fun dd os => cell_regrown p2 dd os
      clear s0 s1 p0 p1 p2
      refine wp_region_quiet_below (by kernel_rfl) (by kernel_rfl) ?_
      quiet_step (fail)
      quiet_step (exact k13.out _ _)
      quiet_step (fail)
      quiet_step (fail)
      quiet_step (exact k14.out _ _)
      quiet_step (fail)
      quiet_step (fail)
      refine wpQuiet_nil ?_
      rintro _ ⟨⟨dq, osq⟩, rfl⟩
      replace hbe := Lib.hid (Below.up hbe.out (below_regrown w1 dq osq))
      clear d0 d1 d2 d3 d4 k13 k14
      obtain ⟨w2, hw2⟩ : ∃ W, W = grow (redrawn w1 dq) osq := ⟨_, rfl⟩
      simp only [← hw2] at hbe ⊢
      clear hw2
      obtain ⟨⟨s0, s1⟩, p0, p1, p2⟩ := hcells.out _ hbe.out
      have hC := (hAt.out _ hbe.out).k15
      try simp only [errOf, if_true, Bool.false_eq_true, if_false, Bool.true_and, Bool.false_and] at hC
      replace hC := Lib.hid hC
      go_upto_region 99 with fail
      refine (hC.out).mono ?_
      rintro e wn ⟨rfl, hbe2⟩
      clear hC s0 s1 p0 p1 p2
      replace hbe := Lib.hid (Below.up hbe.out hbe2)
      clear hbe2
      obtain ⟨⟨s0, s1⟩, p0, p1, p2⟩ := hcells.out _ hbe.out
      have hC := (hAt.out _ hbe.out).k16
      try simp only [errOf, if_true, Bool.false_eq_true, if_false, Bool.true_and, Bool.false_and] at hC
      replace hC := Lib.hid hC
      go_upto_region 99 with fail
      refine (hC.out).mono ?_
      rintro e wn ⟨rfl, hbe2⟩
      clear hC s0 s1 p0 p1 p2
      replace hbe := Lib.hid (Below.up hbe.out hbe2)
      clear hbe2
      obtain ⟨⟨s0, s1⟩, p0, p1, p2⟩ := hcells.out _ hbe.out
      have hC := (hAt.out _ hbe.out).k17
      try simp only [errOf, if_true, Bool.false_eq_true, if_false, Bool.true_and, Bool.false_and] at hC
      replace hC := Lib.hid hC
      go_upto_region 99 with fail
      refine (hC.out).mono ?_
      rintro e wn ⟨v, rfl, -, hnil, hbe2⟩
      clear hC s0 s1 p0 p1 p2
      obtain rfl := hnil (by first | rfl | trivial)
      clear hnil
      replace hbe := Lib.hid (Below.up hbe.out hbe2)
      clear hbe2
      obtain ⟨⟨s0, s1⟩, p0, p1, p2⟩ := hcells.out _ hbe.out
      have hC := (hAt.out _ hbe.out).k18
      try simp only [errOf, if_true, Bool.false_eq_true, if_false, Bool.true_and, Bool.false_and] at hC
      replace hC := Lib.hid hC
      go_upto_region 99 with fail
      refine (hC.out).mono ?_
      rintro e wn ⟨rfl, hbe2⟩
      clear hC s0 s1 p0 p1 p2
      replace hbe := Lib.hid (Below.up hbe.out hbe2)
      clear hbe2
      obtain ⟨⟨s0, s1⟩, p0, p1, p2⟩ := hcells.out _ hbe.out
      have hC := (hAt.out _ hbe.out).k19
      try simp only [errOf, if_true, Bool.false_eq_true, if_false, Bool.true_and, Bool.false_and] at hC
      replace hC := Lib.hid hC
      go_upto_region 99 with fail
      refine (hC.out).mono ?_
      rintro e wn ⟨rfl, hbe2⟩
      clear hC s0 s1 p0 p1 p2
      replace hbe := Lib.hid (Below.up hbe.out hbe2)
      clear hbe2
      go_wp2_with (go_at_call 12; refine (hKn.out _).mono ?_; rintro e wl ⟨rfl, hbe2⟩)
      go_ret
      exact ⟨rfl, Below.up hB0.out (Below.up hbe.out hbe2)⟩
    · obtain ⟨⟨s0, s1⟩, p0, p1, p2⟩ := hcells.out _ hbe.out
      go_upto_region 3 with fail
      have k13 := fun dd os => ((hAt.out (grow (redrawn w1 dd) os) (Below.up hbe.out (below_regrown _ _ _))).k13).regrown_of
      have k14 := fun dd os => ((hAt.out (grow (redrawn w1 dd) os) (Below.up hbe.out (below_regrown _ _ _))).k14).regrown_of
      simp only [errOf, if_true, Bool.false_eq_true, if_false] at k13 k14
      replace k13 := Lib.hid k13
      replace k14 := Lib.hid k14
      have d0 := fun dd os => cell_regrown s0 dd os
      have d1 := fun dd os => cell_regrown s1 dd os
      have d2 := fun dd os => cell_regrown p0 dd os
      have d3 := fun dd os => cell_regrown p1 dd os
      have d4 := fun dd os => cell_regrown p2 dd os
      clear s0 s1 p0 p1 p2
      refine wp_region_quiet_below (by kernel_rfl) (by kernel_rfl) ?_
      quiet_step (fail)
      quiet_step (exact k13.out _ _)
      quiet_step (fail)
      quiet_step (fail)
      quiet_step (exact k14.out _ _)
      quiet_step (fail)
      quiet_step (fail)
      refine wpQuiet_nil ?_
      rintro _ ⟨⟨dq, osq⟩, rfl⟩
      replace hbe := Lib.hid (Below.up hbe.out (below_regrown w1 dq osq))
      clear d0 d1 d2 d3 d4 k13 k14
      obtain ⟨w2, hw2⟩ : ∃ W, W = grow (redrawn w1 dq) osq := ⟨_, rfl⟩
      simp only [← hw2] at hbe ⊢
      clear hw2
      obtain ⟨⟨s0, s1⟩, p0, p1, p2⟩ := hcells.out _ hbe.out
      have hC := (hAt.out _ hbe.out).k15
      try simp only [errOf, if_true, Bool.false_eq_true, if_false, Bool.true_and, Bool.false_and] at hC
      replace hC := Lib.hid hC
      go_upto_region 99 with fail
      refine (hC.out).mono ?_
      rintro e wn ⟨rfl, hbe2⟩
      clear hC s0 s1 p0 p1 p2
      replace hbe := Lib.hid (Below.up hbe.out hbe2)
      clear hbe2
      obtain ⟨⟨s0, s1⟩, p0, p1, p2⟩ := hcells.out _ hbe.out
      have hC := (hAt.out _ hbe.out).k16
      try simp only [errOf, if_true, Bool.false_eq_true, if_false, Bool.true_and, Bool.false_and] at hC
      replace hC := Lib.hid hC
      go_upto_region 99 with fail
      refine (hC.out).mono ?_
      rintro e wn ⟨rfl, hbe2⟩
      clear hC s0 s1 p0 p1 p2
      replace hbe := Lib.hid (Below.up hbe.out hbe2)
      clear hbe2
      obtain ⟨⟨s0, s1⟩, p0, p1, p2⟩ := hcells.out _ hbe.out
      have hC := (hAt.out _ hbe.out).k17
      try simp only [errOf, if_true, Bool.false_eq_true, if_false, Bool.true_and, Bool.false_and] at hC
      replace hC := Lib.hid hC
      go_upto_region 99 with fail
      refine (hC.out).mono ?_
      rintro e wn ⟨v, rfl, -, hnil, hbe2⟩
      clear hC s0 s1 p0 p1 p2
      obtain rfl := hnil (by first | rfl | trivial)
      clear hnil
      replace hbe := Lib.hid (Below.up hbe.out hbe2)
      clear hbe2
      obtain ⟨⟨s0, s1⟩, p0, p1, p2⟩ := hcells.out _ hbe.out
      have hC := (hAt.out _ hbe.out).k18
      try simp only [errOf, if_true, Bool.false_eq_true, if_false, Bool.true_and, Bool.false_and] at hC
      replace hC := Lib.hid hC
      go_upto_region 99 with fail
      refine (hC.out).mono ?_
      rintro e wn ⟨rfl, hbe2⟩
      clear hC s0 s1 p0 p1 p2
      replace hbe := Lib.hid (Below.up hbe.out hbe2)
      clear hbe2
      obtain ⟨⟨s0, s1⟩, p0, p1, p2⟩ := hcells.out _ hbe.out
      have hC := (hAt.out _ hbe.out).k19
      try simp only [errOf, if_true, Bool.false_eq_true, if_false, Bool.true_and, Bool.false_and] at hC
      replace hC := Lib.hid hC
      go_upto_region 99 with fail
      refine (hC.out).mono ?_
      rintro e wn ⟨rfl, hbe2⟩
      clear hC s0 s1 p0 p1 p2
      replace hbe := Lib.hid (Below.up hbe.out hbe2)
      clear hbe2
      go_wp2_with (go_at_call 12; refine (hKn.out _).mono ?_; rintro e wl ⟨rfl, hbe2⟩)
      go_ret
      exact ⟨rfl, Below.up hB0.out (Below.up hbe.out hbe2)⟩
  · obtain rfl : σ = true := by cases σ with | true => rfl | false => exact absurd (hσχ rfl) (by simp)
    clear hσχ
    obtain ⟨⟨s0, s1⟩, p0, p1, p2⟩ := hcells.out _ hbe.out
    go_upto_region 3 with fail
    have k13 := fun dd os => ((hAt.out (grow (redrawn w1 dd) os) (Below.up hbe.out (below_regrown _ _ _))).k13).regrown_of
    have k14 := fun dd os => ((hAt.out (grow (redrawn w1 dd) os) (Below.up hbe.out (below_regrown _ _ _))).k14).regrown_of
    simp only [errOf, if_true, Bool.false_eq_true, if_false] at k13 k14
    replace k13 := Lib.hid k13
    replace k14 := Lib.hid k14
    have d0 := fun dd os => cell_regrown s0 dd os
    have d1 := fun dd os => cell_regrown s1 dd os
    have d2 := fun dd os => cell_regrown p0 dd os
    have d3 := fun dd os => cell_regrown p1 dd os
    have d4 := fun dd os => cell_regrown p2 dd os
    clear s0 s1 p0 p1 p2
    refine wp_region_quiet_below (by kernel_rfl) (by kernel_rfl) ?_
    quiet_step (fail)
    quiet_step (exact k13.out _ _)
    quiet_step (fail)
    quiet_step (fail)
    quiet_step (exact k14.out _ _)
    quiet_step (fail)
    quiet_step (fail)
    refine wpQuiet_nil ?_
    rintro _ ⟨⟨dq, osq⟩, rfl⟩
    replace hbe := Lib.hid (Below.up hbe.out (below_regrown w1 dq osq))
    clear d0 d1 d2 d3 d4 k13 k14
    obtain ⟨w2, hw2⟩ : ∃ W, W = grow (redrawn w1 dq) osq := ⟨_, rfl⟩
    simp only [← hw2] at hbe ⊢
    clear hw2
    obtain ⟨⟨s0, s1⟩, p0, p1, p2⟩ := hcells.out _ hbe.out
    have hC := (hAt.out _ hbe.out).k15
    try simp only [errOf, if_true, Bool.false_eq_true, if_false, Bool.true_and, Bool.false_and] at hC
    replace hC := Lib.hid hC
    go_upto_region 99 with fail
    refine (hC.out).mono ?_
    rintro e wn ⟨rfl, hbe2⟩
    clear hC s0 s1 p0 p1 p2
    replace hbe := Lib.hid (Below.up hbe.out hbe2)
    clear hbe2
    obtain ⟨⟨s0, s1⟩, p0, p1, p2⟩ := hcells.out _ hbe.out
    have hC := (hAt.out _ hbe.out).k16
    try simp only [errOf, if_true, Bool.false_eq_true, if_false, Bool.true_and, Bool.false_and] at hC
    replace hC := Lib.hid hC
    go_upto_region 99 with fail
    refine (hC.out).mono ?_
    rintro e wn ⟨rfl, hbe2⟩
    clear hC s0 s1 p0 p1 p2
    replace hbe := Lib.hid (Below.up hbe.out hbe2)
    clear hbe2
    obtain ⟨⟨s0, s1⟩, p0, p1, p2⟩ := hcells.out _ hbe.out
    have hC := (hAt.out _ hbe.out).k17
    try simp only [errOf, if_true, Bool.false_eq_true, if_false, Bool.true_and, Bool.false_and] at hC
    replace hC := Lib.hid hC
    go_upto_region 99 with fail
    refine (hC.out).mono ?_
    rintro e wn ⟨v, rfl, hrow, -, hbe2⟩
    clear hC s0 s1 p0 p1 p2
    obtain ⟨av, cv, rfl, -⟩ := row_ints hrow.out
    replace hbe := Lib.hid (Below.up hbe.out hbe2)
    clear hbe2
    have hrowU : Hid (∀ W, Below wn.heap.size wn W → IsInts W.heap.size W (intsOf L) av L.length cv) := Lib.hid (fun W hW => by
      obtain ⟨av', cv', he, hi⟩ := row_ints (ownsRow_up hrow.out hW (Nat.le_refl _))
      simp only [Value.slice.injEq] at he
      obtain ⟨rfl, -, rfl⟩ := he
      exact hi)
    clear hrow
    obtain ⟨w3, hw3⟩ : ∃ W, W = wn := ⟨_, rfl⟩
    rw [← hw3] at hrowU
    have hsince : Hid (Below w3.heap.size w3 wn) := Lib.hid (by rw [hw3]; exact Below.refl _ _)
    clear hw3
    obtain ⟨⟨s0, s1⟩, p0, p1, p2⟩ := hcells.out _ hbe.out
    have hC := (hAt.out _ hbe.out).k18
    try simp only [errOf, if_true, Bool.false_eq_true, if_false, Bool.true_and, Bool.false_and] at hC
    replace hC := Lib.hid hC
    go_upto_region 99 with fail
    refine (hC.out).mono ?_
    rintro e wn ⟨rfl, hbe2⟩
    clear hC s0 s1 p0 p1 p2
    replace hsince := Lib.hid (Below.up hsince.out hbe2)
    replace hbe := Lib.hid (Below.up hbe.out hbe2)
    clear hbe2
    obtain ⟨⟨s0, s1⟩, p0, p1, p2⟩ := hcells.out _ hbe.out
    have hC := (hAt.out _ hbe.out).k19
    try simp only [errOf, if_true, Bool.false_eq_true, if_false, Bool.true_and, Bool.false_and] at hC
    replace hC := Lib.hid hC
    go_upto_region 99 with fail
    refine (hC.out).mono ?_
    rintro e wn ⟨rfl, hbe2⟩
    clear hC s0 s1 p0 p1 p2
    replace hsince := Lib.hid (Below.up hsince.out hbe2)
    replace hbe := Lib.hid (Below.up hbe.out hbe2)
    clear hbe2
    obtain ⟨⟨s0, s1⟩, p0, p1, p2⟩ := hcells.out _ hbe.out
    have hC := (hAt.out _ hbe.out).k20
    try simp only [errOf, if_true, Bool.false_eq_true, if_false, Bool.true_and, Bool.false_and] at hC
    replace hC := Lib.hid hC
    go_upto_region 99 with fail
    refine (hC.out).mono ?_
    rintro e wn ⟨rfl, hbe2⟩
    clear hC s0 s1 p0 p1 p2
    replace hsince := Lib.hid (Below.up hsince.out hbe2)
    replace hbe := Lib.hid (Below.up hbe.out hbe2)
    clear hbe2
    cases va
    · obtain ⟨⟨s0, s1⟩, p0, p1, p2⟩ := hcells.out _ hbe.out
      have hC := (hAt.out _ hbe.out).k22 rfl
      try simp only [errOf, if_true, Bool.false_eq_true, if_false, Bool.true_and, Bool.false_and] at hC
      replace hC := Lib.hid hC
      go_upto_region 99 with fail
      refine (hC.out).mono ?_
      rintro e wn ⟨rfl, hbe2⟩
      clear hC s0 s1 p0 p1 p2
      replace hsince := Lib.hid (Below.up hsince.out hbe2)
      replace hbe := Lib.hid (Below.up hbe.out hbe2)
      clear hbe2
      obtain ⟨⟨s0, s1⟩, p0, p1, p2⟩ := hcells.out _ hbe.out
      have hC := (hAt.out _ hbe.out).k24 rfl
      try simp only [errOf, if_true, Bool.false_eq_true, if_false, Bool.true_and, Bool.false_and] at hC
      replace hC := Lib.hid hC
      go_upto_region 99 with fail
      refine (hC.out).mono ?_
      rintro e wn ⟨v2, rfl, hrow, hbe2⟩
      clear hC s0 s1 p0 p1 p2
      obtain ⟨av2, cv2, rfl, hi2⟩ := row_ints hrow.out
      clear hrow
      replace hi2 := Lib.hid hi2
      replace hsince := Lib.hid (Below.up hsince.out hbe2)
      replace hbe := Lib.hid (Below.up hbe.out hbe2)
      clear hbe2
      have hC := SameInts_any (intsOf L) (intsOf L) wn.heap.size wn av L.length cv av2 L.length cv2 (hrowU.out _ hsince.out) hi2.out (Nat.le_refl _)
      simp only [decide_true] at hC
      replace hC := Lib.hid hC
      clear hi2
      go_upto_region 99 with fail
      refine (hC.out).mono ?_
      rintro e wm ⟨rfl, hbe2⟩
      clear hC
      replace hbe := Lib.hid (Below.up hbe.out hbe2)
      clear hbe2
      go_wp2_with (go_at_call 12; refine (hKn.out _).mono ?_; rintro e wl ⟨rfl, hbe2⟩)
      go_ret
      exact ⟨rfl, Below.up hB0.out (Below.up hbe.out hbe2)⟩
    · obtain ⟨⟨s0, s1⟩, p0, p1, p2⟩ := hcells.out _ hbe.out
      have hC := (hAt.out _ hbe.out).k21 rfl rfl
      try simp only [errOf, if_true, Bool.false_eq_true, if_false, Bool.true_and, Bool.false_and] at hC
      replace hC := Lib.hid hC
      go_upto_region 99 with fail
      refine (hC.out).mono ?_
      rintro e wn ⟨rfl, hbe2⟩
      clear hC s0 s1 p0 p1 p2
      replace hsince := Lib.hid (Below.up hsince.out hbe2)
      replace hbe := Lib.hid (Below.up hbe.out hbe2)
      clear hbe2
      obtain ⟨⟨s0, s1⟩, p0, p1, p2⟩ := hcells.out _ hbe.out
      have hC := (hAt.out _ hbe.out).k22 rfl
      try simp only [errOf, if_true, Bool.false_eq_true, if_false, Bool.true_and, Bool.false_and] at hC
      replace hC := Lib.hid hC
      go_upto_region 99 with fail
      refine (hC.out).mono ?_
      rintro e wn ⟨rfl, hbe2⟩
      clear hC s0 s1 p0 p1 p2
      replace hsince := Lib.hid (Below.up hsince.out hbe2)
      replace hbe := Lib.hid (Below.up hbe.out hbe2)
      clear hbe2
      obtain ⟨⟨s0, s1⟩, p0, p1, p2⟩ := hcells.out _ hbe.out
      have hC := (hAt.out _ hbe.out).k24 rfl
      try simp only [errOf, if_true, Bool.false_eq_true, if_false, Bool.true_and, Bool.false_and] at hC
      replace hC := Lib.hid hC
      go_upto_region 99 with fail
      refine (hC.out).mono ?_
      rintro e wn ⟨v2, rfl, hrow, hbe2⟩
      clear hC s0 s1 p0 p1 p2
      obtain ⟨av2, cv2, rfl, hi2⟩ := row_ints hrow.out
      clear hrow
      replace hi2 := Lib.hid hi2
      replace hsince := Lib.hid (Below.up hsince.out hbe2)
      replace hbe := Lib.hid (Below.up hbe.out hbe2)
      clear hbe2
      have hC := SameInts_any (intsOf L) (intsOf L) wn.heap.size wn av L.length cv av2 L.length cv2 (hrowU.out _ hsince.out) hi2.out (Nat.le_refl _)
      simp only [decide_true] at hC
      replace hC := Lib.hid hC
      clear hi2
      go_upto_region 99 with fail
      refine (hC.out).mono ?_
      rintro e wm ⟨rfl, hbe2⟩
      clear hC
      replace hbe := Lib.hid (Below.up hbe.out hbe2)
      clear hbe2
      go_wp2_with (go_at_call 12; refine (hKn.out _).mono ?_; rintro e wl ⟨rfl, hbe2⟩)
      go_ret
      exact ⟨rfl, Below.up hB0.out (Below.up hbe.out hbe2)⟩

end Go.Proofs.YtleejedcnmfpnaaGreat
