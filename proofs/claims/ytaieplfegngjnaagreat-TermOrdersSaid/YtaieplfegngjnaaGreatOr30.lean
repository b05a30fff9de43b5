/- Own text, joined of: R2 R3 R5 R8 R9 R10 Rv R11 R4 R6 R7. The reference's 'put' and 'has': lists of numbers. · The reference's 'put'. · The reference's 'Vars'. · The reference's 'number': lists of pairs of numbers. · The reference's 'ordered': the plain side; rows of pairs. · The reference's 'ordered': a variable. · The reference's 'ordered': a variable. · The reference's 'ordered': what stands while the kids of a node are made. · The reference's 'shape' and 'has'. · The reference's 'once' and 'Pattern': the models. · The reference's 'once', 'Pattern', 'Ground': the walks. -/
import Derived.Deep.AppendSrc
import Derived.Test.YtaieplfegngjnaaGreatOr29

namespace Go.Proofs.YtaieplfegngjnaaGreat
open Go.RowKit Go.Shelf Go.Sort

/-- What an append reads. -/
def SrcRow (W : World) (y : Value) (news : List Value) : Prop :=
  (y = .slice none 0 0 ∧ news = []) ∨ ∃ ad c, y = .slice (some ad) news.length c ∧ (∀ j u, news[j]? = some u → W.cell? (ad.add j) = some u) ∧ ∀ u ∈ news, u.oneCell' = true
theorem SrcRow.alloc {W : World} {y : Value} {news : List Value} (h : SrcRow W y news) (o : Obj) : SrcRow (W.alloc o) y news := by
  rcases h with h | ⟨ad, c, h1, h2, h3⟩
  · exact .inl h
  · exact .inr ⟨ad, c, h1, fun j u hu => by rw [World.cell?_alloc_lt _ _ _ (World.block_lt_of_cell? W _ (h2 j u hu))]; exact h2 j u hu, h3⟩
theorem SrcRow.grown {W W' : World} {y : Value} {news : List Value} {row : Option Nat} (h : SrcRow W y news) (hg : W.grownBy W' row) (hr : ∀ ad l c, y = .slice (some ad) l c → row ≠ some ad.block) : SrcRow W' y news := by
  rcases h with h | ⟨ad, c, h1, h2, h3⟩
  · exact .inl h
  · refine .inr ⟨ad, c, h1, fun j u hu => hg.cell (h2 j u hu) (fun e => hr ad _ c h1 (by rw [← e]; unfold Addr.add; split <;> rfl)), h3⟩

theorem app_run (W : World) (base : Nat) (v y : Value) (n : Nat) (xs news : List Value) (hl : n + news.length ≤ 1000) (h : W.ownsRow base 3 1 v n xs) (hb : base ≤ W.heap.size) (hy : SrcRow W y news) :
    ∃ v1 W1, (Builtin.append_ #[38, 38] 38 #[v, y]).run Tryz.prog W = .ok v1 W1 ∧ W1.ownsRow base 3 1 v1 (n + news.length) (xs ++ news) ∧ W.grownBy W1 v.ownBlock := by
  obtain ⟨i0, hi, hz0, hz1, hz2⟩ := info_parts inf3
  rcases hy with ⟨rfl, rfl⟩ | ⟨ad, c, rfl, h2, h3⟩
  · rcases h.2 with ⟨rfl, h2⟩ | ⟨g, cap, cs, rfl, h3, h4, h5, h6, h7, h8⟩
    · exact ⟨.slice none 0 0, W, by simp [Builtin.append_, run_underlying u38, sizeOf, typeInfo, hi, Builtin.lenOf, Builtin.firstCells], by simpa using h, World.grownBy.refl _ _⟩
    · refine ⟨.slice (some ⟨g, 0, none⟩) n cap, W, ?_, by simpa using h, World.grownBy.refl _ _⟩
      have := run_append_room_src (P := Tryz.prog) W 38 38 38 3 i0 u38 hi g 0 n cap (.slice none 0 0) 0 [] (Src.ofNil W u38 0) (by omega) (by simp) (by simp)
      simpa [World.setCells] using this
  · obtain ⟨v1, W1, h4, h5, h6, h7⟩ := run_append_own (P := Tryz.prog) W base 38 38 3 i0 (.int .i64 0) 1 8 u38 hi hz0 hz1 hz2 rfl (by decide) v n xs h ad news.length c news (by simp) h2 h3 (by unfold maxLen; omega) (by omega) hb
    exact ⟨v1, W1, h4, h5, h6⟩

/-- The elements from n on. -/
def geq (f : Nat → Bool) (n : Nat) : List Nat := ((List.range (20 - n)).map (n + ·)).filter f
theorem listTo_split (f : Nat → Bool) {n : Nat} (h : n ≤ 20) : listTo f 20 = listTo f n ++ geq f n := by
  unfold listTo geq
  have : List.range 20 = List.range n ++ (List.range (20 - n)).map (n + ·) := by
    have := @List.range_add n (20 - n)
    rwa [show n + (20 - n) = 20 by omega] at this
  rw [this, List.filter_append]
theorem geq_succ (f : Nat → Bool) {n : Nat} (h : n < 20) : geq f n = (if f n then [n] else []) ++ geq f (n + 1) := by
  unfold geq
  rw [show 20 - n = (20 - (n + 1)) + 1 by omega, List.range_succ_eq_map, List.map_cons, List.map_map]
  rw [List.filter_cons]
  have e : ((fun x => n + x) ∘ Nat.succ) = (fun x => n + 1 + x) := by funext x; simp; omega
  rw [e]
  simp only [Nat.add_zero]
  split <;> simp_all
theorem geq_le {f : Nat → Bool} {n x : Nat} (h : x ∈ geq f n) : n ≤ x := by
  unfold geq at h
  have := (List.mem_filter.1 h).1
  obtain ⟨y, _, rfl⟩ := List.mem_map.1 this
  omega
theorem listTo_lt {f : Nat → Bool} {n x : Nat} (h : x ∈ listTo f n) : x < n := by
  unfold listTo at h
  exact List.mem_range.1 (List.mem_filter.1 h).1
theorem listTo_set {f : Nat → Bool} {n : Nat} (h : n < 20) (_hf : f n = false) : listTo (setB f n true) 20 = listTo f n ++ n :: geq f (n + 1) := by
  rw [listTo_split _ (Nat.le_of_lt h), geq_succ _ h]
  have e1 : listTo (setB f n true) n = listTo f n := by
    unfold listTo
    refine List.filter_congr fun x hx => ?_
    have := List.mem_range.1 hx
    unfold setB; rw [if_neg (by omega)]
  have e2 : geq (setB f n true) (n + 1) = geq f (n + 1) := by
    unfold geq
    refine List.filter_congr fun x hx => ?_
    obtain ⟨y, _, rfl⟩ := List.mem_map.1 hx
    unfold setB; rw [if_neg (by omega)]
  rw [e1, e2]
  have : setB f n true n = true := by unfold setB; rw [if_pos rfl]
  rw [this]; rfl
theorem setB_same {f : Nat → Bool} {n : Nat} (hf : f n = true) : setB f n true = f := by
  funext i; unfold setB; split
  · subst_vars; exact hf.symm
  · rfl

end Go.Proofs.YtaieplfegngjnaaGreat

namespace Go.Proofs.YtaieplfegngjnaaGreat
open Go.RowKit Go.Shelf Go.Sort

theorem addp (b off j : Nat) : (⟨b, off, none⟩ : Addr).add j = ⟨b, off + j, none⟩ := by unfold Addr.add; split <;> simp_all
theorem geq_len (f : Nat → Bool) (n : Nat) : (geq f n).length ≤ 20 := by unfold geq; exact Nat.le_trans (List.length_filter_le _ _) (by simp)
theorem natVals_len (l : List Nat) : (natVals l).length = l.length := by simp [natVals]
theorem owns_ints {w : World} {base : Nat} {v : Value} {l : List Nat} (h : w.ownsRow base 3 1 v l.length (natVals l)) :
    ∃ av cv, v = .slice av l.length cv ∧ l.length ≤ cv ∧ cv ≤ maxLen ∧ Hid ((l = [] ∧ av = none ∧ cv = 0) ∨ ∃ g, av = some ⟨g, 0, none⟩ ∧ base ≤ g ∧ g < w.heap.size ∧ ∀ j (hj : j < l.length), w.cell? ⟨g, j, none⟩ = some (.int .i64 l[j])) := by
  rcases h.2 with ⟨h1, h2⟩ | ⟨g, cap, cur, h1, h2, h3, h4, h5, h6, h7⟩
  · obtain rfl := List.length_eq_zero_iff.1 h2
    exact ⟨none, 0, h1, by simp, by simp, Lib.hid (.inl ⟨rfl, rfl, rfl⟩)⟩
  · subst h1
    refine ⟨_, cap, rfl, h4, h5, Lib.hid (.inr ⟨g, rfl, h2, (h.lt g rfl).2, fun j hj => ?_⟩)⟩
    rw [h.cellAt j (by omega)]
    simp [natVals, hj]
theorem oneInts (l : List Nat) : ∀ u ∈ natVals l, u.oneCell' = true := fun u hu => by
  simp only [natVals, List.mem_map] at hu
  obtain ⟨x, _, rfl⟩ := hu
  rfl

/-- The slice [:k] of a row. -/
theorem sl_hi (W : World) (av : Option Addr) (l cv k : Nat) (hk : k ≤ cv) :
    (Instr.sliceAt 38 (.slice av l cv) none (some (.int .i64 k)) none).run Tryz.prog W = .ok (.slice (if cv = 0 then av else av.map (·.add 0)) k cv) W := by
  obtain ⟨i0, hi, hz0, hz1, hz2⟩ := info_parts inf3
  have h0 : (0 : Int) ≤ (k : Int) := by omega
  have h1 : (k : Int) ≤ (cv : Int) := by omega
  simp [Instr.sliceAt, Instr.slice, Instr.sliceBounds, run_underlying u38, run_sliceBound, sizeOf, typeInfo, hi, h0, h1]
theorem sl_lo (W : World) (av : Option Addr) (l cv k : Nat) (hk : k ≤ l) :
    (Instr.sliceAt 38 (.slice av l cv) (some (.int .i64 k)) none none).run Tryz.prog W = .ok (.slice (if cv = k then av else av.map (·.add k)) (l - k) (cv - k)) W := by
  obtain ⟨i0, hi, hz0, hz1, hz2⟩ := info_parts inf3
  have h0 : (0 : Int) ≤ (k : Int) := by omega
  have h1 : (k : Int) ≤ (l : Int) := by omega
  simp [Instr.sliceAt, Instr.slice, Instr.sliceBounds, run_underlying u38, run_sliceBound, sizeOf, typeInfo, hi, hz1, h0, h1]

theorem exec_slice {ρ : Operand → Value} {o : Oper} {x : Operand} {lo hi mx : Option Operand} {t : TypeId} {P : Program} {w : World} {y : Value} (ho : o.op = .slice t x lo hi mx) (hr : (Instr.sliceAt t (ρ x) (lo.map ρ) (hi.map ρ) (mx.map ρ)).run P w = .ok y w) :
    (execOp ρ o).run P w = .ok (.value y) w := by
  unfold execOp
  simp only [ho, Sem.run_bind, Sem.run_pure, Result.andThen_ok, hr]

theorem put_src {f : Nat → Bool} {m : Nat} (hm : m < 20) (hf : f m = false) {w : World} {base : Nat} {av : Option Addr} {cv : Nat} (hv : w.ownsRow base 3 1 (.slice av (listTo f 20).length cv) (listTo f 20).length (natVals (listTo f 20))) :
    ∃ y1 y2, (∀ W, (Instr.sliceAt 38 (.slice av (listTo f 20).length cv) none (some (.int .i64 (listTo f m).length)) none).run Tryz.prog W = .ok y1 W) ∧
      (∀ W, (Instr.sliceAt 38 (.slice av (listTo f 20).length cv) (some (.int .i64 (listTo f m).length)) none none).run Tryz.prog W = .ok y2 W) ∧
      ∀ W, Below w.heap.size w W → SrcRow W y1 (natVals (listTo f m)) ∧ SrcRow W y2 (natVals (geq f (m + 1))) := by
  obtain ⟨av', cv', he, h1, h2, h3⟩ := owns_ints hv
  simp only [Value.slice.injEq] at he
  obtain ⟨rfl, -, rfl⟩ := he
  have hA := listTo_split f (show m ≤ 20 by omega)
  rw [geq_succ f hm, hf] at hA
  simp only [Bool.false_eq_true, if_false, List.nil_append] at hA
  have hl : (listTo f m).length ≤ (listTo f 20).length := by rw [hA, List.length_append]; omega
  have hl2 : (listTo f 20).length - (listTo f m).length = (geq f (m + 1)).length := by rw [hA, List.length_append]; omega
  refine ⟨_, _, fun W => sl_hi W _ _ _ _ (by omega), fun W => sl_lo W _ _ _ _ hl, fun W hb => ?_⟩
  rcases h3.out with ⟨h4, h5, h6⟩ | ⟨g, h4, h5, h6, h7⟩
  · subst h5 h6
    rw [h4] at hA
    obtain ⟨h8, h9⟩ := List.append_eq_nil_iff.1 hA.symm
    rw [h4, h8, h9]
    exact ⟨.inl ⟨rfl, rfl⟩, .inl ⟨rfl, rfl⟩⟩
  · subst h4
    have hc : ∀ j (hj : j < (listTo f 20).length), W.cell? ⟨g, j, none⟩ = some (.int .i64 (listTo f 20)[j]) := fun j hj => (hb.cell (p := ⟨g, j, none⟩) h6).trans (h7 j hj)
    constructor
    · refine .inr ⟨⟨g, 0, none⟩, cv, ?_, fun j u hu => ?_, oneInts _⟩
      · rw [natVals_len]; split <;> simp [addp]
      · simp only [natVals, List.getElem?_map, Option.map_eq_some_iff] at hu
        obtain ⟨x, hx, rfl⟩ := hu
        obtain ⟨hj, rfl⟩ := List.getElem?_eq_some_iff.1 hx
        rw [addp, Nat.zero_add, hc j (by omega)]
        simp only [hA]
        rw [List.getElem_append_left]
    · refine .inr ⟨if cv = (listTo f m).length then ⟨g, 0, none⟩ else ⟨g, (listTo f m).length, none⟩, cv - (listTo f m).length, ?_, fun j u hu => ?_, oneInts _⟩
      · rw [natVals_len, hl2]; split <;> simp [addp]
      · simp only [natVals, List.getElem?_map, Option.map_eq_some_iff] at hu
        obtain ⟨x, hx, rfl⟩ := hu
        obtain ⟨hj, rfl⟩ := List.getElem?_eq_some_iff.1 hx
        rw [if_neg (by omega), addp, hc _ (by omega)]
        simp only [hA]
        rw [List.getElem_append_right (by omega)]
        simp

theorem fin_row {W : World} {b b' : Nat} {v : Value} {A C R : List Nat} {m : Nat} (hR : R = A ++ m :: C) (h : W.ownsRow b 3 1 v ((natVals A).length + 1 + (natVals C).length) (natVals A ++ [.int .i64 m] ++ natVals C)) (hb : b' ≤ b) : W.ownsRow b' 3 1 v R.length (natVals R) := by
  have e : natVals (A ++ m :: C) = natVals A ++ [.int .i64 m] ++ natVals C := by simp [natVals]
  have e2 : (A ++ m :: C).length = (natVals A).length + 1 + (natVals C).length := by simp [natVals]; omega
  rw [hR, e, e2]
  exact ownsRow_wider hb h

set_option maxRecDepth 100000 in
set_option maxHeartbeats 8000000 in
theorem rput_any (f : Nat → Bool) (m : Nat) (hm : m < 20) (w : World) (base : Nat) (v : Value) (hv : w.ownsRow base 3 1 v (listTo f 20).length (natVals (listTo f 20))) (hbase : base ≤ w.heap.size) :
    Calls Tryz.prog 62 #[v, .int .i64 m] w fun e w' => ∃ v', e = .returned v' ∧ w'.ownsRow base 3 1 v' (listTo (setB f m true) 20).length (natVals (listTo (setB f m true) 20)) ∧ Below w.heap.size w w' := by
  obtain ⟨i0, hi, hz0, hz1, hz2⟩ := info_parts inf3
  obtain ⟨av, cv, rfl, hcv, hcm, hcs⟩ := owns_ints hv
  have hsrc := fun hf => put_src hm hf hv
  have hres0 := fun hf => listTo_set (f := f) hm hf
  have hres1 := fun hf => setB_same (f := f) (n := m) hf
  obtain ⟨L, hL⟩ : ∃ L, L = listTo f 20 := ⟨_, rfl⟩
  obtain ⟨R, hR⟩ : ∃ L, L = listTo (setB f m true) 20 := ⟨_, rfl⟩
  obtain ⟨A, hAe⟩ : ∃ L, L = listTo f m := ⟨_, rfl⟩
  obtain ⟨C, hC⟩ : ∃ L, L = geq f (m + 1) := ⟨_, rfl⟩
  have hlen : L.length ≤ 20 := by rw [hL]; exact listTo_len f 20
  have hlA : A.length ≤ 20 := by rw [hAe]; exact Nat.le_trans (listTo_len f m) (by omega)
  have hlC : C.length ≤ 20 := by rw [hC]; exact geq_len _ _
  have hA : Hid (L = A ++ geq f m) := Lib.hid (by rw [hL, hAe]; exact listTo_split f (by omega))
  have hAl : A.length ≤ L.length := by rw [hA.out, List.length_append]; omega
  have hlow : Hid (∀ j (hj : j < L.length), j < A.length → L[j] < m) := Lib.hid (fun j hj h => by
    have e : L[j] = A[j]'h := by
      have h2 := hA.out
      simp only [h2]
      rw [List.getElem_append_left]
    rw [e]; exact listTo_lt (f := f) (by rw [← hAe]; exact List.getElem_mem _))
  have hhigh : Hid (∀ (hj : A.length < L.length), m ≤ L[A.length] ∧ (f m = true ↔ L[A.length] = m)) := Lib.hid (fun hj => by
    have hge : L[A.length] ∈ geq f m := by
      have h2 := hA.out
      simp only [h2]
      rw [List.getElem_append_right (Nat.le_refl _)]
      exact List.getElem_mem _
    refine ⟨geq_le hge, ?_⟩
    have e : L[A.length] = (geq f m)[0]'(by have := congrArg List.length hA.out; rw [List.length_append] at this; omega) := by
      have h2 := hA.out
      simp only [h2]
      rw [List.getElem_append_right (Nat.le_refl _)]
      congr 1
      omega
    have e2 := geq_succ f hm
    cases hf : f m
    · rw [hf] at e2
      simp only [Bool.false_eq_true, if_false, List.nil_append] at e2
      have : L[A.length] ∈ geq f (m + 1) := by rw [← e2]; exact hge
      have := geq_le this
      simp; omega
    · rw [hf] at e2
      simp only [if_true, List.singleton_append] at e2
      simp only [true_iff]
      rw [e]
      simp only [e2, List.getElem_cons_zero])
  have hfm : Hid (A.length = L.length → f m = false) := Lib.hid (fun h => by
    cases hf : f m
    · rfl
    · have e2 := geq_succ f hm
      rw [hf] at e2
      have := congrArg List.length hA.out
      rw [List.length_append, e2] at this
      simp at this; omega)
  rw [← hR, ← hAe, ← hC] at hres0
  rw [← hL, ← hAe, ← hC] at hsrc
  have hsame : Hid (f m = true → R = L) := Lib.hid (fun h => by rw [hR, hL, hres1 h])
  rw [← hL] at hv hcv hcs
  rw [← hL, ← hR]
  replace hres0 := Lib.hid hres0
  replace hsrc := Lib.hid hsrc
  replace hv := Lib.hid hv
  clear hL hR hC hAe hA hres1
  obtain ⟨kA, hkA⟩ : ∃ k, k = A.length := ⟨_, rfl⟩
  rw [← hkA] at hAl hlow hfm hsrc
  have hhigh : Hid (∀ j (hj : j < L.length), j = kA → m ≤ L[j] ∧ (f m = true ↔ L[j] = m)) := Lib.hid (fun j hj e => by subst e; subst hkA; exact hhigh.out hj)
  have hlA' : kA ≤ 20 := by omega
  replace hkA := Lib.hid hkA
  go_enter Tryz.func62, Tryz.ntmps62
  go_wp2_with fail
  go_loopw [5] (fun q wj => ∃ k : Nat, k ≤ kA ∧ q = .int .i64 k ∧ wj = w) (fun q _ => L.length - (intOf q).toNat)
  case atStart => exact ⟨0, by omega, rfl, rfl⟩
  case round =>
    obtain ⟨k, hk, rfl, rfl⟩ := hrel
    by_cases hlt : k < kA
    · have o1 : (k : Int) < (L.length : Int) := by omega
      obtain ⟨g, rfl, hgb, hgl, hcells⟩ : ∃ g, av = some ⟨g, 0, none⟩ ∧ base ≤ g ∧ g < wr.heap.size ∧ Hid (∀ j (hj : j < L.length), wr.cell? ⟨g, j, none⟩ = some (.int .i64 L[j])) := by
        rcases hcs.out with ⟨h0, _⟩ | ⟨g, h3, h4, h5, h6⟩
        · rw [h0] at hAl; simp at hAl; omega
        · exact ⟨g, h3, h4, h5, Lib.hid h6⟩
      have c2 := hcells.out k (by omega)
      have o3 : (L[k] : Int) < (m : Int) := by have := hlow.out k (by omega) hlt; omega
      obtain ⟨cm, hcm'⟩ : ∃ x, x = L[k] := ⟨_, rfl⟩
      rw [← hcm'] at c2 o3
      clear hcs hcells hcm' hsrc hv
      go_wp2_with fail
      go_roundw
      case rel => exact ⟨k + 1, by omega, by go_num, by trivial⟩
      case measure => simp [intOf]; omega
    · have hke : Hid (k = kA) := Lib.hid (by omega)
      by_cases hin : k < L.length
      · have o1 : (k : Int) < (L.length : Int) := by omega
        have hav : Hid (∃ g, av = some ⟨g, 0, none⟩ ∧ g < wr.heap.size ∧ wr.cell? ⟨g, k, none⟩ = some (.int .i64 L[k])) := Lib.hid (by
          rcases hcs.out with ⟨h0, _⟩ | ⟨g, h3, h4, h5, h6⟩
          · rw [h0] at hin; simp at hin
          · exact ⟨g, h3, h5, h6 k hin⟩)
        have h9 := hhigh.out k hin hke.out
        have o3 : ¬ (L[k] : Int) < (m : Int) := by omega
        obtain ⟨cm, hcm'⟩ : ∃ x, x = L[k] := ⟨_, rfl⟩
        rw [← hcm'] at o3 h9 hav
        clear hcs hcm' hlow hhigh hfm
        cases hf : f m
        · have o4 : ((cm : Int) == (m : Int)) = false := by
            rw [beq_eq_false_iff_ne]; intro h; have h2 := h9.2.2 (by omega); rw [hf] at h2; cases h2
          have hres := Lib.hid (hres0.out hf)
          obtain ⟨y1, y2, hr1, hr2, hs⟩ := hsrc.out hf
          rw [← hke.out] at hr1 hr2
          replace hr1 := Lib.hid hr1
          replace hr2 := Lib.hid hr2
          have hs1 : Hid (∀ W, Below wr.heap.size wr W → SrcRow W y1 (natVals A)) := Lib.hid (fun W h => (hs W h).1)
          have hs2 : Hid (∀ W, Below wr.heap.size wr W → SrcRow W y2 (natVals C)) := Lib.hid (fun W h => (hs W h).2)
          clear hs hsrc hres0 hsame h9 hf hkA hke hlA' hAl hlt hk
          obtain ⟨g, rfl, hgl, c2⟩ := hav.out
          clear hav
          go_upto_region 6 with fail
          refine region_named (S := fun W' => Below wr.heap.size wr W') (by kernel_rfl) (fun W hW => ?_)
          have hq : Hid (Below wr.heap.size wr W) := Lib.hid (by rw [hW]; exact (Below.refl _ _).drew)
          have hwr : wr.heap.size ≤ W.heap.size := hq.out.size
          clear hW
          refine takeH 0 33 (.slice (some ⟨g, 0, none⟩) L.length cv) rfl rfl (by kernel_rfl) (by kernel_rfl) (by kernel_rfl) (fun _ _ _ h => h) (by rfl) (by intro W hSw; clear hSw; go_simp) hq.out ?_
          try simp only [List.setIfInBounds_toArray, List.set_cons_zero, List.set_cons_succ]
          refine takeH 1 34 (.int .i64 k) rfl rfl (by kernel_rfl) (by kernel_rfl) (by kernel_rfl) (fun _ _ _ h => h) (by rfl) (by intro W hSw; clear hSw; go_simp) hq.out ?_
          try simp only [List.setIfInBounds_toArray, List.set_cons_zero, List.set_cons_succ]
          refine takeH 2 35 y1 rfl rfl (by kernel_rfl) (by kernel_rfl) (by kernel_rfl) (fun _ _ _ h => h) (by rfl) (fun W _ => exec_slice rfl (hr1.out W)) hq.out ?_
          try simp only [List.setIfInBounds_toArray, List.set_cons_zero, List.set_cons_succ]
          refine takeH 4 37 (.int .i64 m) rfl rfl (by kernel_rfl) (by kernel_rfl) (by kernel_rfl) (fun _ _ _ h => h) (by rfl) (by intro W hSw; clear hSw; go_simp) hq.out ?_
          try simp only [List.setIfInBounds_toArray, List.set_cons_zero, List.set_cons_succ]
          refine takeH 7 40 (.slice (some ⟨g, 0, none⟩) L.length cv) rfl rfl (by kernel_rfl) (by kernel_rfl) (by kernel_rfl) (fun _ _ _ h => h) (by rfl) (by intro W hSw; clear hSw; go_simp) hq.out ?_
          try simp only [List.setIfInBounds_toArray, List.set_cons_zero, List.set_cons_succ]
          refine takeH 8 41 (.int .i64 k) rfl rfl (by kernel_rfl) (by kernel_rfl) (by kernel_rfl) (fun _ _ _ h => h) (by rfl) (by intro W hSw; clear hSw; go_simp) hq.out ?_
          try simp only [List.setIfInBounds_toArray, List.set_cons_zero, List.set_cons_succ]
          refine takeH 9 42 y2 rfl rfl (by kernel_rfl) (by kernel_rfl) (by kernel_rfl) (fun _ _ _ h => h) (by rfl) (fun W _ => exec_slice rfl (hr2.out W)) hq.out ?_
          try simp only [List.setIfInBounds_toArray, List.set_cons_zero, List.set_cons_succ]
          refine wpAnyH_ready (rs := [3, 5]) (by kernel_rfl) (by simp) ?_
          refine AllReadyH.cons rfl (fun K hKc => ?_) (AllReadyH.cons rfl (fun K hKc => ?_) AllReadyH.nil)
          · rw [if_pos (by rfl)]
            obtain ⟨v1, W1, hr3, ho1, hg1⟩ := app_run W W.heap.size (.slice none 0 0) y1 0 [] (natVals A) (by rw [natVals_len]; omega) (World.ownsRow_nil _ _ _ _) (Nat.le_refl _) (hs1.out W hq.out)
            refine wp_builtin_append rfl rfl rfl hr3 ?_
            replace hq := Lib.hid (hq.out.grown hg1 hwr (fun q hq => by cases hq))
            have hWs1 : W.heap.size ≤ W1.heap.size := hg1.size
            simp only [List.nil_append, Nat.zero_add] at ho1
            refine hKc _ _ hq.out (fun _ => ?_)
            clear hKc K hr3
            try simp only [Act.put, List.setIfInBounds_toArray]
            refine wpAnyH_ready (rs := [5]) (by kernel_rfl) (by simp) ?_
            refine AllReadyH.cons rfl (fun K hKc => ?_) AllReadyH.nil
            go_simp
            replace hq := Lib.hid (hq.out.alloc (by omega) (.cells #[.int .i64 m] 3))
            refine hKc _ _ hq.out (fun _ => ?_)
            clear hKc K
            try simp only [Act.put, List.setIfInBounds_toArray, List.set_cons_zero, List.set_cons_succ]
            refine wpAnyH_ready (rs := [6]) (by kernel_rfl) (by simp) ?_
            refine AllReadyH.cons rfl (fun K hKc => ?_) AllReadyH.nil
            rw [if_pos (by rfl)]
            refine wp_append_own _ _ _ 38 rfl W.heap.size 3 i0 (.int .i64 0) 1 8 u38 hi hz0 hz1 hz2 rfl (by decide) v1 (natVals A).length (natVals A) rfl (ho1.alloc _) ⟨W1.heap.size, 0, none⟩ 1 1 [.int .i64 m] rfl rfl (cell_one_new _ _ _) (fun x hx => by simp at hx; subst hx; rfl) (by rw [natVals_len]; unfold maxLen; omega) (by rw [natVals_len]; omega) (by first | omega | (simp; omega)) ?_
            intro v2 W2 ho2 hg2 _
            have hWs2 : W.heap.size ≤ W2.heap.size := by have := hg2.size; first | omega | (simp at this; omega)
            replace hq := Lib.hid (hq.out.grown hg2 (by first | omega | (simp; omega)) (fun q hq => by have := (ho1.lt q hq).1; first | omega | (simp at this; omega)))
            refine hKc _ _ hq.out (fun _ => ?_)
            clear hKc K ho1 hg1 hg2
            try simp only [Act.put, List.setIfInBounds_toArray]
            obtain ⟨v3, W3, hr3, ho3, hg3⟩ := app_run W2 W.heap.size v2 y2 ((natVals A).length + 1) (natVals A ++ [.int .i64 m]) (natVals C) (by rw [natVals_len, natVals_len]; omega) ho2 hWs2 (hs2.out W2 hq.out)
            refine wpAnyH_ready (rs := [10]) (by kernel_rfl) (by simp) ?_
            refine AllReadyH.cons rfl (fun K hKc => ?_) AllReadyH.nil
            rw [if_pos (by rfl)]
            refine wp_builtin_append rfl rfl rfl hr3 ?_
            replace hq := Lib.hid (hq.out.grown hg3 (by omega) (fun q hq => by have := (ho2.lt q hq).1; omega))
            have hfin : Hid (W3.ownsRow base 3 1 v3 R.length (natVals R)) := Lib.hid (fin_row hres.out ho3 (by omega))
            refine hKc _ _ hq.out (fun _ => ?_)
            clear hKc K hr3 ho3 ho2 hg3
            try simp only [Act.put]
            refine takeH 11 4 v3 rfl rfl (by kernel_rfl) (by kernel_rfl) (by kernel_rfl) (fun _ _ _ h => h) (by rfl) (by intro W hSw; clear hSw; go_simp) hq.out ?_
            try simp only [List.setIfInBounds_toArray, List.set_cons_zero, List.set_cons_succ]
            refine wpAnyH_done (by kernel_rfl) ?_ _
            go_wp2_with fail
            go_ret
            exact ⟨_, rfl, hfin.out, hq.out⟩
          · go_simp
            replace hq := Lib.hid (hq.out.alloc hwr (.cells #[.int .i64 m] 3))
            refine hKc _ _ hq.out (fun _ => ?_)
            clear hKc K
            try simp only [Act.put, List.setIfInBounds_toArray, List.set_cons_zero, List.set_cons_succ]
            refine wpAnyH_ready (rs := [3]) (by kernel_rfl) (by simp) ?_
            refine AllReadyH.cons rfl (fun K hKc => ?_) AllReadyH.nil
            rw [if_pos (by rfl)]
            obtain ⟨v1, W1, hr3, ho1, hg1⟩ := app_run (W.alloc (.cells #[.int .i64 m] 3)) (W.heap.size + 1) (.slice none 0 0) y1 0 [] (natVals A) (by rw [natVals_len]; omega) (World.ownsRow_nil _ _ _ _) (by simp) (hs1.out _ hq.out)
            refine wp_builtin_append rfl rfl rfl hr3 ?_
            replace hq := Lib.hid (hq.out.grown hg1 (by simp; omega) (fun q hq => by cases hq))
            have hWs1 : W.heap.size + 1 ≤ W1.heap.size := by have := hg1.size; simpa using this
            simp only [List.nil_append, Nat.zero_add] at ho1
            refine hKc _ _ hq.out (fun _ => ?_)
            clear hKc K hr3
            try simp only [Act.put, List.setIfInBounds_toArray]
            refine wpAnyH_ready (rs := [6]) (by kernel_rfl) (by simp) ?_
            refine AllReadyH.cons rfl (fun K hKc => ?_) AllReadyH.nil
            rw [if_pos (by rfl)]
            refine wp_append_own _ _ _ 38 rfl (W.heap.size + 1) 3 i0 (.int .i64 0) 1 8 u38 hi hz0 hz1 hz2 rfl (by decide) v1 (natVals A).length (natVals A) rfl ho1 ⟨W.heap.size, 0, none⟩ 1 1 [.int .i64 m] rfl rfl (fun j u hj => hg1.cell (cell_one_new W (.int .i64 m) 3 j u hj) (fun h => by cases h)) (fun x hx => by simp at hx; subst hx; rfl) (by rw [natVals_len]; unfold maxLen; omega) (by rw [natVals_len]; omega) (by first | omega | (simp; omega)) ?_
            intro v2 W2 ho2 hg2 _
            have hWs2 : W.heap.size ≤ W2.heap.size := by have := hg2.size; first | omega | (simp at this; omega)
            replace hq := Lib.hid (hq.out.grown hg2 (by first | omega | (simp; omega)) (fun q hq => by have := (ho1.lt q hq).1; first | omega | (simp at this; omega)))
            replace ho2 := ownsRow_wider (b' := W.heap.size) (by omega) ho2
            refine hKc _ _ hq.out (fun _ => ?_)
            clear hKc K ho1 hg1 hg2
            try simp only [Act.put]
            obtain ⟨v3, W3, hr3, ho3, hg3⟩ := app_run W2 W.heap.size v2 y2 ((natVals A).length + 1) (natVals A ++ [.int .i64 m]) (natVals C) (by rw [natVals_len, natVals_len]; omega) ho2 hWs2 (hs2.out W2 hq.out)
            refine wpAnyH_ready (rs := [10]) (by kernel_rfl) (by simp) ?_
            refine AllReadyH.cons rfl (fun K hKc => ?_) AllReadyH.nil
            rw [if_pos (by rfl)]
            refine wp_builtin_append rfl rfl rfl hr3 ?_
            replace hq := Lib.hid (hq.out.grown hg3 (by omega) (fun q hq => by have := (ho2.lt q hq).1; omega))
            have hfin : Hid (W3.ownsRow base 3 1 v3 R.length (natVals R)) := Lib.hid (fin_row hres.out ho3 (by omega))
            refine hKc _ _ hq.out (fun _ => ?_)
            clear hKc K hr3 ho3 ho2 hg3
            try simp only [Act.put]
            refine takeH 11 4 v3 rfl rfl (by kernel_rfl) (by kernel_rfl) (by kernel_rfl) (fun _ _ _ h => h) (by rfl) (by intro W hSw; clear hSw; go_simp) hq.out ?_
            try simp only [List.setIfInBounds_toArray, List.set_cons_zero, List.set_cons_succ]
            refine wpAnyH_done (by kernel_rfl) ?_ _
            go_wp2_with fail
            go_ret
            exact ⟨_, rfl, hfin.out, hq.out⟩
        · have o4 : ((cm : Int) == (m : Int)) = true := by
            rw [beq_iff_eq]; have := h9.2.1 hf; omega
          have hres := Lib.hid (hsame.out hf)
          obtain ⟨g, rfl, hgl, c2⟩ := hav.out
          clear hav h9 hsrc hres0
          go_wp2_with fail
          go_ret
          exact ⟨_, rfl, by rw [hres.out]; exact hv.out, Below.refl _ _⟩
      · have o1 : ¬ (k : Int) < (L.length : Int) := by omega
        have hf := hfm.out (by have := hke.out; omega)
        have hres := Lib.hid (hres0.out hf)
        obtain ⟨y1, y2, hr1, hr2, hs⟩ := hsrc.out hf
        rw [← hke.out] at hr1 hr2
        replace hr1 := Lib.hid hr1
        replace hr2 := Lib.hid hr2
        have hs1 : Hid (∀ W, Below wr.heap.size wr W → SrcRow W y1 (natVals A)) := Lib.hid (fun W h => (hs W h).1)
        have hs2 : Hid (∀ W, Below wr.heap.size wr W → SrcRow W y2 (natVals C)) := Lib.hid (fun W h => (hs W h).2)
        clear hs hsrc hres0 hsame hf hkA hke hlA' hAl hlt hk hcs hlow hhigh hfm
        go_upto_region 6 with fail
        refine region_named (S := fun W' => Below wr.heap.size wr W') (by kernel_rfl) (fun W hW => ?_)
        have hq : Hid (Below wr.heap.size wr W) := Lib.hid (by rw [hW]; exact (Below.refl _ _).drew)
        have hwr : wr.heap.size ≤ W.heap.size := hq.out.size
        clear hW
        refine takeH 0 33 (.slice av L.length cv) rfl rfl (by kernel_rfl) (by kernel_rfl) (by kernel_rfl) (fun _ _ _ h => h) (by rfl) (by intro W hSw; clear hSw; go_simp) hq.out ?_
        try simp only [List.setIfInBounds_toArray, List.set_cons_zero, List.set_cons_succ]
        refine takeH 1 34 (.int .i64 k) rfl rfl (by kernel_rfl) (by kernel_rfl) (by kernel_rfl) (fun _ _ _ h => h) (by rfl) (by intro W hSw; clear hSw; go_simp) hq.out ?_
        try simp only [List.setIfInBounds_toArray, List.set_cons_zero, List.set_cons_succ]
        refine takeH 2 35 y1 rfl rfl (by kernel_rfl) (by kernel_rfl) (by kernel_rfl) (fun _ _ _ h => h) (by rfl) (fun W _ => exec_slice rfl (hr1.out W)) hq.out ?_
        try simp only [List.setIfInBounds_toArray, List.set_cons_zero, List.set_cons_succ]
        refine takeH 4 37 (.int .i64 m) rfl rfl (by kernel_rfl) (by kernel_rfl) (by kernel_rfl) (fun _ _ _ h => h) (by rfl) (by intro W hSw; clear hSw; go_simp) hq.out ?_
        try simp only [List.setIfInBounds_toArray, List.set_cons_zero, List.set_cons_succ]
        refine takeH 7 40 (.slice av L.length cv) rfl rfl (by kernel_rfl) (by kernel_rfl) (by kernel_rfl) (fun _ _ _ h => h) (by rfl) (by intro W hSw; clear hSw; go_simp) hq.out ?_
        try simp only [List.setIfInBounds_toArray, List.set_cons_zero, List.set_cons_succ]
        refine takeH 8 41 (.int .i64 k) rfl rfl (by kernel_rfl) (by kernel_rfl) (by kernel_rfl) (fun _ _ _ h => h) (by rfl) (by intro W hSw; clear hSw; go_simp) hq.out ?_
        try simp only [List.setIfInBounds_toArray, List.set_cons_zero, List.set_cons_succ]
        refine takeH 9 42 y2 rfl rfl (by kernel_rfl) (by kernel_rfl) (by kernel_rfl) (fun _ _ _ h => h) (by rfl) (fun W _ => exec_slice rfl (hr2.out W)) hq.out ?_
        try simp only [List.setIfInBounds_toArray, List.set_cons_zero, List.set_cons_succ]
        refine wpAnyH_ready (rs := [3, 5]) (by kernel_rfl) (by simp) ?_
        refine AllReadyH.cons rfl (fun K hKc => ?_) (AllReadyH.cons rfl (fun K hKc => ?_) AllReadyH.nil)
        · rw [if_pos (by rfl)]
          obtain ⟨v1, W1, hr3, ho1, hg1⟩ := app_run W W.heap.size (.slice none 0 0) y1 0 [] (natVals A) (by rw [natVals_len]; omega) (World.ownsRow_nil _ _ _ _) (Nat.le_refl _) (hs1.out W hq.out)
          refine wp_builtin_append rfl rfl rfl hr3 ?_
          replace hq := Lib.hid (hq.out.grown hg1 hwr (fun q hq => by cases hq))
          have hWs1 : W.heap.size ≤ W1.heap.size := hg1.size
          simp only [List.nil_append, Nat.zero_add] at ho1
          refine hKc _ _ hq.out (fun _ => ?_)
          clear hKc K hr3
          try simp only [Act.put, List.setIfInBounds_toArray]
          refine wpAnyH_ready (rs := [5]) (by kernel_rfl) (by simp) ?_
          refine AllReadyH.cons rfl (fun K hKc => ?_) AllReadyH.nil
          go_simp
          replace hq := Lib.hid (hq.out.alloc (by omega) (.cells #[.int .i64 m] 3))
          refine hKc _ _ hq.out (fun _ => ?_)
          clear hKc K
          try simp only [Act.put, List.setIfInBounds_toArray, List.set_cons_zero, List.set_cons_succ]
          refine wpAnyH_ready (rs := [6]) (by kernel_rfl) (by simp) ?_
          refine AllReadyH.cons rfl (fun K hKc => ?_) AllReadyH.nil
          rw [if_pos (by rfl)]
          refine wp_append_own _ _ _ 38 rfl W.heap.size 3 i0 (.int .i64 0) 1 8 u38 hi hz0 hz1 hz2 rfl (by decide) v1 (natVals A).length (natVals A) rfl (ho1.alloc _) ⟨W1.heap.size, 0, none⟩ 1 1 [.int .i64 m] rfl rfl (cell_one_new _ _ _) (fun x hx => by simp at hx; subst hx; rfl) (by rw [natVals_len]; unfold maxLen; omega) (by rw [natVals_len]; omega) (by first | omega | (simp; omega)) ?_
          intro v2 W2 ho2 hg2 _
          have hWs2 : W.heap.size ≤ W2.heap.size := by have := hg2.size; first | omega | (simp at this; omega)
          replace hq := Lib.hid (hq.out.grown hg2 (by first | omega | (simp; omega)) (fun q hq => by have := (ho1.lt q hq).1; first | omega | (simp at this; omega)))
          refine hKc _ _ hq.out (fun _ => ?_)
          clear hKc K ho1 hg1 hg2
          try simp only [Act.put, List.setIfInBounds_toArray]
          obtain ⟨v3, W3, hr3, ho3, hg3⟩ := app_run W2 W.heap.size v2 y2 ((natVals A).length + 1) (natVals A ++ [.int .i64 m]) (natVals C) (by rw [natVals_len, natVals_len]; omega) ho2 hWs2 (hs2.out W2 hq.out)
          refine wpAnyH_ready (rs := [10]) (by kernel_rfl) (by simp) ?_
          refine AllReadyH.cons rfl (fun K hKc => ?_) AllReadyH.nil
          rw [if_pos (by rfl)]
          refine wp_builtin_append rfl rfl rfl hr3 ?_
          replace hq := Lib.hid (hq.out.grown hg3 (by omega) (fun q hq => by have := (ho2.lt q hq).1; omega))
          have hfin : Hid (W3.ownsRow base 3 1 v3 R.length (natVals R)) := Lib.hid (fin_row hres.out ho3 (by omega))
          refine hKc _ _ hq.out (fun _ => ?_)
          clear hKc K hr3 ho3 ho2 hg3
          try simp only [Act.put]
          refine takeH 11 4 v3 rfl rfl (by kernel_rfl) (by kernel_rfl) (by kernel_rfl) (fun _ _ _ h => h) (by rfl) (by intro W hSw; clear hSw; go_simp) hq.out ?_
          try simp only [List.setIfInBounds_toArray, List.set_cons_zero, List.set_cons_succ]
          refine wpAnyH_done (by kernel_rfl) ?_ _
          go_wp2_with fail
          go_ret
          exact ⟨_, rfl, hfin.out, hq.out⟩
        · go_simp
          replace hq := Lib.hid (hq.out.alloc hwr (.cells #[.int .i64 m] 3))
          refine hKc _ _ hq.out (fun _ => ?_)
          clear hKc K
          try simp only [Act.put, List.setIfInBounds_toArray, List.set_cons_zero, List.set_cons_succ]
          refine wpAnyH_ready (rs := [3]) (by kernel_rfl) (by simp) ?_
          refine AllReadyH.cons rfl (fun K hKc => ?_) AllReadyH.nil
          rw [if_pos (by rfl)]
          obtain ⟨v1, W1, hr3, ho1, hg1⟩ := app_run (W.alloc (.cells #[.int .i64 m] 3)) (W.heap.size + 1) (.slice none 0 0) y1 0 [] (natVals A) (by rw [natVals_len]; omega) (World.ownsRow_nil _ _ _ _) (by simp) (hs1.out _ hq.out)
          refine wp_builtin_append rfl rfl rfl hr3 ?_
          replace hq := Lib.hid (hq.out.grown hg1 (by simp; omega) (fun q hq => by cases hq))
          have hWs1 : W.heap.size + 1 ≤ W1.heap.size := by have := hg1.size; simpa using this
          simp only [List.nil_append, Nat.zero_add] at ho1
          refine hKc _ _ hq.out (fun _ => ?_)
          clear hKc K hr3
          try simp only [Act.put, List.setIfInBounds_toArray]
          refine wpAnyH_ready (rs := [6]) (by kernel_rfl) (by simp) ?_
          refine AllReadyH.cons rfl (fun K hKc => ?_) AllReadyH.nil
          rw [if_pos (by rfl)]
          refine wp_append_own _ _ _ 38 rfl (W.heap.size + 1) 3 i0 (.int .i64 0) 1 8 u38 hi hz0 hz1 hz2 rfl (by decide) v1 (natVals A).length (natVals A) rfl ho1 ⟨W.heap.size, 0, none⟩ 1 1 [.int .i64 m] rfl rfl (fun j u hj => hg1.cell (cell_one_new W (.int .i64 m) 3 j u hj) (fun h => by cases h)) (fun x hx => by simp at hx; subst hx; rfl) (by rw [natVals_len]; unfold maxLen; omega) (by rw [natVals_len]; omega) (by first | omega | (simp; omega)) ?_
          intro v2 W2 ho2 hg2 _
          have hWs2 : W.heap.size ≤ W2.heap.size := by have := hg2.size; first | omega | (simp at this; omega)
          replace hq := Lib.hid (hq.out.grown hg2 (by first | omega | (simp; omega)) (fun q hq => by have := (ho1.lt q hq).1; first | omega | (simp at this; omega)))
          replace ho2 := ownsRow_wider (b' := W.heap.size) (by omega) ho2
          refine hKc _ _ hq.out (fun _ => ?_)
          clear hKc K ho1 hg1 hg2
          try simp only [Act.put]
          obtain ⟨v3, W3, hr3, ho3, hg3⟩ := app_run W2 W.heap.size v2 y2 ((natVals A).length + 1) (natVals A ++ [.int .i64 m]) (natVals C) (by rw [natVals_len, natVals_len]; omega) ho2 hWs2 (hs2.out W2 hq.out)
          refine wpAnyH_ready (rs := [10]) (by kernel_rfl) (by simp) ?_
          refine AllReadyH.cons rfl (fun K hKc => ?_) AllReadyH.nil
          rw [if_pos (by rfl)]
          refine wp_builtin_append rfl rfl rfl hr3 ?_
          replace hq := Lib.hid (hq.out.grown hg3 (by omega) (fun q hq => by have := (ho2.lt q hq).1; omega))
          have hfin : Hid (W3.ownsRow base 3 1 v3 R.length (natVals R)) := Lib.hid (fin_row hres.out ho3 (by omega))
          refine hKc _ _ hq.out (fun _ => ?_)
          clear hKc K hr3 ho3 ho2 hg3
          try simp only [Act.put]
          refine takeH 11 4 v3 rfl rfl (by kernel_rfl) (by kernel_rfl) (by kernel_rfl) (fun _ _ _ h => h) (by rfl) (by intro W hSw; clear hSw; go_simp) hq.out ?_
          try simp only [List.setIfInBounds_toArray, List.set_cons_zero, List.set_cons_succ]
          refine wpAnyH_done (by kernel_rfl) ?_ _
          go_wp2_with fail
          go_ret
          exact ⟨_, rfl, hfin.out, hq.out⟩

end Go.Proofs.YtaieplfegngjnaaGreat

namespace Go.Proofs.YtaieplfegngjnaaGreat
open Go.RowKit Go.Shelf Go.Sort

theorem ownsRow_up {w w' : World} {b n : Nat} {e : TypeId} {size : Nat} {v : Value} {k : Nat} {xs : List Value} (h : w.ownsRow b e size v k xs) (hb : Below n w w') (hn : w.heap.size ≤ n) : w'.ownsRow b e size v k xs := by
  refine ⟨h.1, ?_⟩
  rcases h.2 with h2 | ⟨g, cap, cur, h2, h3, h4, h5, h6, h7⟩
  · exact .inl h2
  · exact .inr ⟨g, cap, cur, h2, h3, (hb.block g (by have := (h.lt g (by rw [h2]; rfl)).2; omega)).trans h4, h5, h6, h7⟩

/-- What is left in from a list of variables, of which one may be bound. -/
def keep (op : Int) (k : Nat) (n : Int) (x : Nat) : Bool := !decide (op = 8) || !decide (k = 1) || !decide ((x : Int) = n)
def inTo (acc F : Nat → Bool) (op : Int) (k : Nat) (n : Int) (m : Nat) : Nat → Bool := fun i => acc i || (decide (i ∈ (listTo F 20).take m) && keep op k n i)
theorem inTo_zero (acc F : Nat → Bool) (op : Int) (k : Nat) (n : Int) : inTo acc F op k n 0 = acc := by funext i; simp [inTo]
theorem inTo_succ {acc F : Nat → Bool} {op : Int} {k : Nat} {n : Int} {m : Nat} (h : m < (listTo F 20).length) : inTo acc F op k n (m + 1) = if keep op k n (listTo F 20)[m] = true then setB (inTo acc F op k n m) (listTo F 20)[m] true else inTo acc F op k n m := by
  funext i
  have e : decide (i ∈ (listTo F 20).take (m + 1)) = (decide (i ∈ (listTo F 20).take m) || decide (i = (listTo F 20)[m])) := by
    rw [List.take_succ_eq_append_getElem h, Bool.eq_iff_iff]
    simp only [decide_eq_true_eq, Bool.or_eq_true, List.mem_append, List.mem_singleton]
  split
  · next hk =>
    simp only [inTo, e, setB]
    split
    · next he => subst he; simp [hk]
    · next he => simp [he]
  · next hk =>
    simp only [inTo, e]
    by_cases he : i = (listTo F 20)[m]
    · rw [Bool.not_eq_true] at hk
      rw [← he] at hk
      simp [hk]
    · simp [he]
theorem listTo_congr {f g : Nat → Bool} (h : ∀ i, i < 20 → f i = g i) : listTo f 20 = listTo g 20 := by
  unfold listTo
  exact List.filter_congr fun x hx => h x (List.mem_range.1 hx)
theorem mem_listTo {f : Nat → Bool} {i : Nat} : i ∈ listTo f 20 ↔ i < 20 ∧ f i = true := by
  unfold listTo; rw [List.mem_filter, List.mem_range]
theorem inTo_all (acc F : Nat → Bool) (op : Int) (k : Nat) (n : Int) (hn : op = 8 → 0 ≤ n) : listTo (inTo acc F op k n (listTo F 20).length) 20 = listTo (orSet acc (if op = 8 ∧ k = 1 then setB F n.toNat false else F)) 20 := by
  refine listTo_congr fun i hi => ?_
  have e : decide (i ∈ (listTo F 20).take (listTo F 20).length) = F i := by
    rw [List.take_length]
    cases h : F i
    · rw [decide_eq_false_iff_not, mem_listTo]; simp [h]
    · rw [decide_eq_true_eq, mem_listTo]; exact ⟨hi, h⟩
  simp only [inTo, e, orSet]
  congr 1
  by_cases h : op = 8 ∧ k = 1
  · have := hn h.1
    rw [if_pos h]
    by_cases he : (i : Int) = n
    · have : i = n.toNat := by omega
      simp [keep, h.1, h.2, setB, he]
      intro _; omega
    · have : ¬ i = n.toNat := by omega
      simp [keep, h.1, h.2, setB, he, this]
  · rw [if_neg h]
    simp only [keep]
    by_cases h8 : op = 8
    · have : ¬ k = 1 := fun e => h ⟨h8, e⟩
      simp [this]
    · simp [h8]
theorem listTo_one {n : Nat} (h : n < 20) : listTo (fun i => decide (i = n)) 20 = [n] := by
  have e : (fun i => decide (i = n)) = setB (fun _ => false) n true := by funext i; simp [setB]
  rw [e, listTo_set h rfl]
  have e1 : listTo (fun _ => false) n = [] := by simp [listTo]
  have e2 : geq (fun _ => false) (n + 1) = [] := by simp [geq]
  rw [e1, e2]; rfl
theorem ints_row {w : World} {base : Nat} {v : Value} {l : List Nat} (h : w.ownsRow base 3 1 v l.length (natVals l)) : ∃ av cv, v = .slice av l.length cv ∧ l.length ≤ cv ∧ Hid (∀ W, Below w.heap.size w W → ∀ j (hj : j < l.length), ∃ g, av = some ⟨g, 0, none⟩ ∧ g < w.heap.size ∧ W.cell? ⟨g, j, none⟩ = some (.int .i64 l[j])) := by
  obtain ⟨av, cv, h1, h2, h3, h4⟩ := owns_ints h
  refine ⟨av, cv, h1, h2, Lib.hid (fun W hW j hj => ?_)⟩
  rcases h4.out with ⟨h5, _⟩ | ⟨g, h5, h6, h7, h8⟩
  · rw [h5] at hj; simp at hj
  · exact ⟨g, h5, h7, (hW.cell (p := ⟨g, j, none⟩) h7).trans (h8 j hj)⟩

set_option maxRecDepth 100000 in
set_option maxHeartbeats 4000000 in
theorem rVars_any (N : Nat) : ∀ (t : Tm) (n₀ : Nat) (w : World) (a : Option Addr) (l c : Nat), t.size ≤ N → IsTm n₀ w t a l c → OkV t → n₀ ≤ w.heap.size →
    Calls Tryz.prog 24 #[.agg #[.int .i64 t.op, .int .i64 t.n, .slice a l c]] w fun e w' => ∃ v, e = .returned v ∧ w'.ownsRow w.heap.size 3 1 v (listTo (fvT t) 20).length (natVals (listTo (fvT t) 20)) ∧ Below w.heap.size w w' := by
  induction N with
  | zero => intro t _ _ _ _ _ h; have := size_pos t; omega
  | succ N ih =>
    intro t n₀ w a l c hs ht hO hn
    replace ih := Lib.hid ih
    obtain ⟨rfl, hlc, hc, hk⟩ := ht.open
    obtain ⟨o1, o2, o3, o4⟩ := hO.open
    have hsz := Lib.hid (size_eq t)
    have hsb : sizes t.kids ≤ N := by have := hsz.out; omega
    have hv := Lib.hid (fvT_eq t)
    replace o4 := Lib.hid o4
    by_cases h1 : t.op = 1
    · obtain ⟨n, hnn⟩ := Int.eq_ofNat_of_zero_le (o1 (.inl h1)).1
      have hn20 : n < 20 := by have := (o1 (.inl h1)).2; omega
      have hres : Hid (listTo (fvT t) 20 = [n]) := Lib.hid (by
        rw [hv.out, o2 h1, fvKs, ← listTo_one hn20]
        refine listTo_congr fun i _ => ?_
        simp [h1, hnn]
        omega)
      have h1b : (t.op == 1) = true := by simp [h1]
      have hone : Hid (∀ W : World, (W.alloc (.cells #[.int .i64 n] 3)).ownsRow W.heap.size 3 1 (.slice (some ⟨W.heap.size, 0, none⟩) 1 1) [n].length (natVals [n])) := Lib.hid (fun W => ⟨rfl, .inr ⟨W.heap.size, 1, _, rfl, Nat.le_refl _, heap_alloc_new W _, by simp, by simp [maxLen], rfl, rfl⟩⟩)
      rw [hres.out]
      clear o1 o2 o3 hk ht hO h1
      go_enter Tryz.func24, Tryz.ntmps24
      go_wp2_with fail
      go_ret
      refine ⟨_, rfl, ?_, by go_grown⟩
      have h9 := hone.out (w.alloc (.cells #[.int .i64 t.op, .int .i64 n, .slice a t.kids.length c] 28))
      rw [World.size_alloc] at h9
      exact ownsRow_wider (by omega) h9
    · have h1b : (t.op == 1) = false := by simp [h1]
      have hst : Hid (fvT t = fvKs t.op t.n (t.kids.drop 0) 0 (fun _ => false)) := Lib.hid (by
        rw [hv.out]; simp [h1])
      have hput := fun f m hm W base v hv hb => rput_any f m hm W base v hv hb
      replace hput := Lib.hid hput
      replace o1 := Lib.hid o1
      replace o3 := Lib.hid o3
      clear o2 ht hO h1 hv
      go_enter Tryz.func24, Tryz.ntmps24
      go_wp2_with fail
      go_loopw [3, 4, 5, 6] (fun out i _ _ wi => ∃ (k : Nat) (acc : Nat → Bool), k ≤ t.kids.length ∧ i = .int .i64 k ∧ Hid (fvT t = fvKs t.op t.n (t.kids.drop k) k acc) ∧ Hid (wi.ownsRow w.heap.size 3 1 out (listTo acc 20).length (natVals (listTo acc 20))) ∧ Hid (Below (w.heap.size + 1) (w.alloc (.cells #[.int .i64 t.op, .int .i64 t.n, .slice a t.kids.length c] 28)) wi)) (fun _ i _ _ _ => t.kids.length - (intOf i).toNat)
      case atStart => exact ⟨0, _, by omega, rfl, hst, Lib.hid (World.ownsRow_nil _ _ _ _), Lib.hid (Below.refl _ _)⟩
      case round =>
        obtain ⟨k, acc, hk1, rfl, hvk, hown, hb⟩ := hrel
        clear hst
        have hbw := Lib.hid (((Below.refl w.heap.size w).alloc (Nat.le_refl _) _).trans (hb.out.mono (Nat.le_succ _)))
        have hz := hb.out.size
        rw [World.size_alloc] at hz
        have hbox : Hid (∀ W, Below wr.heap.size wr W → W.cell? ⟨w.heap.size, 0, none⟩ = some (.int .i64 t.op) ∧ W.cell? ⟨w.heap.size, 1, none⟩ = some (.int .i64 t.n) ∧ W.cell? ⟨w.heap.size, 2, none⟩ = some (.slice a t.kids.length c)) := Lib.hid (fun W hW => by
          have h2 := hb.out.trans (hW.mono hz)
          refine ⟨?_, ?_, ?_⟩ <;> (rw [h2.cell (by simp)]; go_cell))
        obtain ⟨b0, b1, b2⟩ := hbox.out wr (Below.refl _ _)
        by_cases hlt : k < t.kids.length
        · rcases hk with hk | ⟨b, off, rfl, hbn, hks⟩
          · rw [hk] at hlt; simp at hlt
          obtain ⟨a', l', c', hc3, ht'⟩ := IsKids.get _ hks k hlt
          have hc3 := hc3.below (hbw.out.mono hn) hbn
          have ht' := (IsTm.below (hbw.out.mono hn) _ ht')
          obtain ⟨d0, d1, d2⟩ := hc3
          have hsk := size_kid t.kids k hlt
          have hS := Lib.hid (ih.out t.kids[k] n₀ wr a' l' c' (by omega) ht' (OkVs_get _ k hlt o4.out) (by omega))
          have hstep : Hid (fvT t = fvKs t.op t.n (t.kids.drop (k + 1)) (k + 1) (orSet acc (if t.op = 8 ∧ k = 1 then setB (fvT t.kids[k]) t.n.toNat false else fvT t.kids[k]))) := Lib.hid (by
            rw [hvk.out, fvKs_drop _ _ _ _ _ hlt])
          obtain ⟨F, hF⟩ : ∃ F, F = fvT t.kids[k] := ⟨_, rfl⟩
          rw [← hF] at hS hstep
          clear hks ht' hF hvk ih o4 hsk
          go_upto_region 9 with (go_at_call 24; refine (hS.out).mono ?_; rintro e w1 ⟨v1, rfl, hrow, hb1⟩)
          obtain ⟨av, cv, rfl, hcv, hel⟩ := ints_row hrow
          have hwz := hb1.size
          have hM := listTo_len F 20
          have hin0 : Hid (w1.ownsRow w.heap.size 3 1 u3 (listTo (inTo acc F t.op k t.n 0) 20).length (natVals (listTo (inTo acc F t.op k t.n 0) 20))) := Lib.hid (by rw [inTo_zero]; exact ownsRow_up hown.out hb1 (Nat.le_refl _))
          have hbox1 : Hid (∀ W, Below w1.heap.size w1 W → W.cell? ⟨w.heap.size, 0, none⟩ = some (.int .i64 t.op) ∧ W.cell? ⟨w.heap.size, 1, none⟩ = some (.int .i64 t.n) ∧ W.cell? ⟨w.heap.size, 2, none⟩ = some (.slice (some ⟨b, off, none⟩) t.kids.length c)) := Lib.hid (fun W hW => hbox.out W (Below.up hb1 hW))
          replace hb1 := Lib.hid hb1
          clear hrow hown b0 b1 b2 d0 d1 d2 hS hcv hbox
          go_loopw [3, 6] (fun out q wj => ∃ m : Nat, m ≤ (listTo F 20).length ∧ q = .int .i64 m ∧ Hid (wj.ownsRow w.heap.size 3 1 out (listTo (inTo acc F t.op k t.n m) 20).length (natVals (listTo (inTo acc F t.op k t.n m) 20))) ∧ Hid (Below w1.heap.size w1 wj)) (fun _ q _ => (listTo F 20).length - (intOf q).toNat)
          case atStart => exact ⟨0, by omega, rfl, hin0, Lib.hid (Below.refl _ _)⟩
          case round =>
            obtain ⟨m, hm, rfl, hown, hb2⟩ := hrel
            clear hin0
            obtain ⟨b0, b1, b2⟩ := hbox1.out _ hb2.out
            by_cases hq : m < (listTo F 20).length
            · have q1 : (m : Int) < ((listTo F 20).length : Int) := by omega
              obtain ⟨g, rfl, hgl, c0⟩ := hel.out _ hb2.out m hq
              obtain ⟨x, hx⟩ : ∃ x, x = (listTo F 20)[m] := ⟨_, rfl⟩
              have hx20 : x < 20 := by rw [hx]; exact listTo_lt (f := F) (List.getElem_mem _)
              rw [← hx] at c0
              replace hx := Lib.hid hx
              clear hel
              by_cases h8 : t.op = 8
              · by_cases hk1' : k = 1
                · by_cases hxn : (x : Int) = t.n
                  · have hkeep : ¬ keep t.op k t.n x = true := by simp [keep, h8, hk1', hxn]
                    have hnx : Hid (wr.ownsRow w.heap.size 3 1 u3 (listTo (inTo acc F t.op k t.n (m + 1)) 20).length (natVals (listTo (inTo acc F t.op k t.n (m + 1)) 20))) := Lib.hid (by
                      have e := inTo_succ (acc := acc) (op := t.op) (k := k) (n := t.n) hq
                      rw [← hx.out, if_neg hkeep] at e
                      rw [e]; exact hown.out)
                    replace hkeep := Lib.hid hkeep
                    clear hx
                    have g1 : (t.op != 8) = false := by simp [h8]
                    replace h8 := Lib.hid h8
                    have g2 : ((k : Int) != 1) = false := by simp; omega
                    replace hk1' := Lib.hid hk1'
                    have g3 : ((x : Int) != t.n) = false := by simp [hxn]
                    replace hxn := Lib.hid hxn
                    go_wp2_with fail
                    go_quiet (fail)
                    go_wp2_with fail
                    go_roundw
                    case rel => exact ⟨m + 1, by omega, by go_num, Lib.hid (ownsRow_up hnx.out (below_drewN _ _ _) (Nat.le_refl _)), Lib.hid (Below.up hb2.out (below_drewN _ _ _))⟩
                    case measure => simp [intOf]; omega
                  · have hkeep : keep t.op k t.n x = true := by simp [keep, hxn]
                    have hnx : Hid (∀ W W' v', W.ownsRow w.heap.size 3 1 v' (listTo (setB (inTo acc F t.op k t.n m) x true) 20).length (natVals (listTo (setB (inTo acc F t.op k t.n m) x true) 20)) → Below W.heap.size W W' → W'.ownsRow w.heap.size 3 1 v' (listTo (inTo acc F t.op k t.n (m + 1)) 20).length (natVals (listTo (inTo acc F t.op k t.n (m + 1)) 20))) := Lib.hid (fun W W' v' h hb => by
                      have e := inTo_succ (acc := acc) (op := t.op) (k := k) (n := t.n) hq
                      rw [← hx.out, if_pos hkeep] at e
                      rw [e]; exact ownsRow_up h hb (Nat.le_refl _))
                    replace hkeep := Lib.hid hkeep
                    clear hx
                    have g1 : (t.op != 8) = false := by simp [h8]
                    replace h8 := Lib.hid h8
                    have g2 : ((k : Int) != 1) = false := by simp; omega
                    replace hk1' := Lib.hid hk1'
                    have g3 : ((x : Int) != t.n) = true := by simp [hxn]
                    replace hxn := Lib.hid hxn
                    go_wp2_with fail
                    go_quiet (fail)
                    go_wp2_with (go_at_call 62; refine (hput.out (inTo acc F t.op k t.n m) x hx20 _ _ _ (ownsRow_up hown.out (below_drewN _ _ _) (Nat.le_refl _)) (by have := hb2.out.size; simp; omega)).mono ?_; rintro e w3 ⟨v3, rfl, hr3, hb3⟩)
                    go_roundw
                    case rel => exact ⟨m + 1, by omega, by go_num, Lib.hid (hnx.out _ _ _ hr3 (Below.refl _ _)), Lib.hid (Below.up hb2.out (Below.up (below_drewN _ _ _) hb3))⟩
                    case measure => simp [intOf]; omega
                · have hkeep : keep t.op k t.n x = true := by simp [keep, hk1']
                  have hnx : Hid (∀ W W' v', W.ownsRow w.heap.size 3 1 v' (listTo (setB (inTo acc F t.op k t.n m) x true) 20).length (natVals (listTo (setB (inTo acc F t.op k t.n m) x true) 20)) → Below W.heap.size W W' → W'.ownsRow w.heap.size 3 1 v' (listTo (inTo acc F t.op k t.n (m + 1)) 20).length (natVals (listTo (inTo acc F t.op k t.n (m + 1)) 20))) := Lib.hid (fun W W' v' h hb => by
                    have e := inTo_succ (acc := acc) (op := t.op) (k := k) (n := t.n) hq
                    rw [← hx.out, if_pos hkeep] at e
                    rw [e]; exact ownsRow_up h hb (Nat.le_refl _))
                  replace hkeep := Lib.hid hkeep
                  clear hx
                  have g1 : (t.op != 8) = false := by simp [h8]
                  replace h8 := Lib.hid h8
                  have g2 : ((k : Int) != 1) = true := by simp; omega
                  go_wp2_with fail
                  go_quiet (fail)
                  go_wp2_with (go_at_call 62; refine (hput.out (inTo acc F t.op k t.n m) x hx20 _ _ _ (ownsRow_up hown.out (below_drewN _ _ _) (Nat.le_refl _)) (by have := hb2.out.size; simp; omega)).mono ?_; rintro e w3 ⟨v3, rfl, hr3, hb3⟩)
                  go_roundw
                  case rel => exact ⟨m + 1, by omega, by go_num, Lib.hid (hnx.out _ _ _ hr3 (Below.refl _ _)), Lib.hid (Below.up hb2.out (Below.up (below_drewN _ _ _) hb3))⟩
                  case measure => simp [intOf]; omega
              have hkeep : keep t.op k t.n x = true := by simp [keep, h8]
              have hnx : Hid (∀ W W' v', W.ownsRow w.heap.size 3 1 v' (listTo (setB (inTo acc F t.op k t.n m) x true) 20).length (natVals (listTo (setB (inTo acc F t.op k t.n m) x true) 20)) → Below W.heap.size W W' → W'.ownsRow w.heap.size 3 1 v' (listTo (inTo acc F t.op k t.n (m + 1)) 20).length (natVals (listTo (inTo acc F t.op k t.n (m + 1)) 20))) := Lib.hid (fun W W' v' h hb => by
                have e := inTo_succ (acc := acc) (op := t.op) (k := k) (n := t.n) hq
                rw [← hx.out, if_pos hkeep] at e
                rw [e]; exact ownsRow_up h hb (Nat.le_refl _))
              replace hkeep := Lib.hid hkeep
              clear hx
              have g1 : (t.op != 8) = true := by simp [h8]
              replace h8 := Lib.hid h8
              go_wp2_with fail
              go_quiet (fail)
              go_wp2_with (go_at_call 62; refine (hput.out (inTo acc F t.op k t.n m) x hx20 _ _ _ (ownsRow_up hown.out (below_drewN _ _ _) (Nat.le_refl _)) (by have := hb2.out.size; simp; omega)).mono ?_; rintro e w3 ⟨v3, rfl, hr3, hb3⟩)
              go_roundw
              case rel => exact ⟨m + 1, by omega, by go_num, Lib.hid (hnx.out _ _ _ hr3 (Below.refl _ _)), Lib.hid (Below.up hb2.out (Below.up (below_drewN _ _ _) hb3))⟩
              case measure => simp [intOf]; omega
            · have hqe : m = (listTo F 20).length := by omega
              have q1 : ¬ (m : Int) < ((listTo F 20).length : Int) := by omega
              have hrow : Hid (wr.ownsRow w.heap.size 3 1 u3 (listTo (orSet acc (if t.op = 8 ∧ k = 1 then setB F t.n.toNat false else F)) 20).length (natVals (listTo (orSet acc (if t.op = 8 ∧ k = 1 then setB F t.n.toNat false else F)) 20))) := Lib.hid (by
                have e := inTo_all acc F t.op k t.n (fun h => (o1.out (.inr h)).1)
                rw [← e, ← hqe]; exact hown.out)
              replace hqe := Lib.hid hqe
              clear hown hel
              go_wp2_with fail
              go_roundw
              case rel => exact ⟨k + 1, _, by omega, by go_num, hstep, hrow, Lib.hid (hb.out.trans ((Below.up hb1.out hb2.out).mono hz))⟩
              case measure => simp [intOf]; omega
        · have : k = t.kids.length := by omega
          subst this
          have he : Hid (fvT t = acc) := Lib.hid (by rw [hvk.out, List.drop_length]; rfl)
          clear hvk hk
          go_wp2_with fail
          go_ret
          exact ⟨_, rfl, by rw [he.out]; exact hown.out, hbw.out⟩

end Go.Proofs.YtaieplfegngjnaaGreat

namespace Go.Proofs.YtaieplfegngjnaaGreat
open Go.RowKit Go.Shelf Go.Sort

theorem und94 : Tryz.prog.underlying 94 = some (.slice 145) := by kernel_rfl
theorem und145 : Tryz.prog.underlying 145 = some (.array 2 3) := by kernel_rfl
theorem inf145 : (Tryz.prog.info? 145).map (fun i => (i.zero, i.size, i.bytes)) = some (some (.agg #[.int .i64 0, .int .i64 0]), 2, 16) := by kernel_rfl

abbrev Prs := List (Int × Int)
def pairVals : Prs → List Value
  | [] => []
  | p :: r => .int .i64 p.1 :: .int .i64 p.2 :: pairVals r
theorem pairVals_append : ∀ (a b : Prs), pairVals (a ++ b) = pairVals a ++ pairVals b
  | [], b => rfl
  | p :: r, b => by simp [pairVals, pairVals_append r b]
theorem pairVals_len : ∀ (l : Prs), (pairVals l).length = l.length * 2
  | [] => rfl
  | p :: r => by simp [pairVals, pairVals_len r]; omega
theorem pairVals_get : ∀ (l : Prs) (k : Nat) (h : k < l.length), (pairVals l)[k * 2]? = some (.int .i64 l[k].1) ∧ (pairVals l)[k * 2 + 1]? = some (.int .i64 l[k].2)
  | p :: r, 0, _ => by simp [pairVals]
  | p :: r, k + 1, h => by
    have := pairVals_get r k (by simpa using h)
    rw [show (k + 1) * 2 = k * 2 + 1 + 1 by omega]
    simpa [pairVals] using this
/-- The function that a list of pairs stands for: the last one counts. -/
def lookP (l : Prs) : Int → Option Int := l.foldl (fun f p => updI f p.1 p.2) (fun _ => none)
theorem lookP_snoc (l : Prs) (p : Int × Int) : lookP (l ++ [p]) = updI (lookP l) p.1 p.2 := by unfold lookP; rw [List.foldl_append]; rfl
theorem lookP_take_succ (l : Prs) (k : Nat) (h : k < l.length) : lookP (l.take (k + 1)) = updI (lookP (l.take k)) l[k].1 l[k].2 := by
  rw [List.take_succ_eq_append_getElem h, lookP_snoc]
theorem lookP_skip (l : Prs) (n : Int) (k : Nat) (hk : k ≤ l.length) (h : ∀ j (hj : j < l.length), k ≤ j → l[j].1 ≠ n) : lookP l n = lookP (l.take k) n := by
  have : ∀ i, k ≤ i → i ≤ l.length → lookP (l.take i) n = lookP (l.take k) n := by
    intro i
    induction i with
    | zero => intro h1 _; rw [show k = 0 by omega]
    | succ i ih =>
      intro h1 h2
      by_cases e : k = i + 1
      · rw [e]
      · rw [lookP_take_succ l i (by omega), ← ih (by omega) (by omega)]
        unfold updI
        rw [if_neg (fun he => h i (by omega) (by omega) he.symm)]
  have := this l.length hk (Nat.le_refl _)
  rwa [List.take_length] at this
theorem lookP_hit (l : Prs) (n : Int) (k : Nat) (hk : k < l.length) (h : ∀ j (hj : j < l.length), k < j → l[j].1 ≠ n) (he : l[k].1 = n) : lookP l n = some l[k].2 := by
  rw [lookP_skip l n (k + 1) (by omega) (fun j hj h1 => h j hj (by omega)), lookP_take_succ l k hk]
  unfold updI; rw [if_pos he.symm]
theorem lookP_none (l : Prs) (n : Int) (h : ∀ j (hj : j < l.length), l[j].1 ≠ n) : lookP l n = none := by
  rw [lookP_skip l n 0 (by omega) (fun j hj _ => h j hj)]; rfl

def PRow (w : World) (base : Nat) (v : Value) (l : Prs) : Prop := w.ownsRow base 145 2 v l.length (pairVals l)
theorem PRow.form {w : World} {base : Nat} {v : Value} {l : Prs} (h : PRow w base v l) :
    ∃ av cv, v = .slice av l.length cv ∧ l.length ≤ cv ∧ cv ≤ maxLen ∧ Hid (∀ j (hj : j < l.length), ∃ g, av = some ⟨g, 0, none⟩ ∧ base ≤ g ∧ g < w.heap.size ∧ w.cell? ⟨g, j * 2, none⟩ = some (.int .i64 l[j].1) ∧ w.cell? ⟨g, j * 2 + 1, none⟩ = some (.int .i64 l[j].2)) := by
  rcases h.2 with ⟨h1, h2⟩ | ⟨g, cap, cur, h1, h2, h3, h4, h5, h6, h7⟩
  · obtain rfl := List.length_eq_zero_iff.1 h2
    exact ⟨none, 0, h1, by simp, by simp, Lib.hid (fun j hj => by simp at hj)⟩
  · subst h1
    refine ⟨_, cap, rfl, h4, h5, Lib.hid (fun j hj => ⟨g, rfl, h2, (h.lt g rfl).2, ?_, ?_⟩)⟩
    · rw [h.cellAt (j * 2) (by omega)]; exact (pairVals_get l j hj).1
    · rw [h.cellAt (j * 2 + 1) (by omega)]; exact (pairVals_get l j hj).2

set_option maxRecDepth 100000 in
set_option maxHeartbeats 1000000 in
theorem rnumber_any (l : Prs) (n : Int) (w : World) (base : Nat) (v : Value) (hv : PRow w base v l) :
    Calls Tryz.prog 106 #[v, .int .i64 n] w fun e w' => e = .returned (.tuple #[.int .i64 ((lookP l n).getD 0), .bool (lookP l n).isSome]) ∧ w' = w := by
  obtain ⟨av, cv, rfl, hcv, hcm, hcs⟩ := hv.form
  clear hv
  have hcm' : cv ≤ 9223372036854775807 := by unfold maxLen at hcm; omega
  go_enter Tryz.func106, Tryz.ntmps106
  go_wp2_with fail
  go_loopw [6] (fun q wj => ∃ k : Nat, k ≤ l.length ∧ q = .int .i64 ((k : Int) - 1) ∧ wj = w ∧ Hid (∀ j (hj : j < l.length), k ≤ j → l[j].1 ≠ n)) (fun q _ => (intOf q + 1).toNat)
  case atStart => exact ⟨l.length, by omega, by go_num, rfl, Lib.hid (fun j hj h => by omega)⟩
  case round =>
    obtain ⟨k, hk, rfl, rfl, hall⟩ := hrel
    by_cases hp : k = 0
    · have hnone := Lib.hid (lookP_none l n (fun j hj => hall.out j hj (by omega)))
      have o1 : ¬ ((0 : Int) ≤ (k : Int) - 1) := by omega
      replace hp := Lib.hid hp
      clear hcs hall
      go_wp2_with fail
      refine bodyPost_ret (v := .tuple #[.int .i64 0, .bool false]) (by simp [results, Tryz.f106, go_sem]) rfl ⟨by rw [hnone.out]; rfl, rfl⟩
    · obtain ⟨m, rfl⟩ : ∃ m, k = m + 1 := ⟨k - 1, by omega⟩
      have hm : m < l.length := by omega
      obtain ⟨g, rfl, hgb, hgl, c0, c1⟩ := hcs.out m hm
      have o1 : (0 : Int) ≤ (m : Int) := by omega
      have o2 : (m : Int) < (l.length : Int) := by omega
      have em : (((m + 1 : Nat) : Int) - 1) = (m : Int) := by omega
      rw [em]
      obtain ⟨x, hx⟩ : ∃ x, x = l[m].1 := ⟨_, rfl⟩
      obtain ⟨y, hy⟩ : ∃ y, y = l[m].2 := ⟨_, rfl⟩
      rw [← hx] at c0
      rw [← hy] at c1
      by_cases he : x = n
      · have hhit := Lib.hid (lookP_hit l n m hm (fun j hj h => hall.out j hj (by omega)) (by rw [← hx]; exact he))
        rw [← hy] at hhit
        have o3 : (x == n) = true := by simpa using he
        replace he := Lib.hid he
        clear hcs hall hx hy
        go_wp2_with fail
        refine bodyPost_ret (v := .tuple #[.int .i64 y, .bool true]) (by simp [results, Tryz.f106, go_sem]) rfl ⟨by rw [hhit.out]; rfl, rfl⟩
      · have o3 : (x == n) = false := by simpa using he
        have hall' : Hid (∀ j (hj : j < l.length), m ≤ j → l[j].1 ≠ n) := Lib.hid (fun j hj h => by
          by_cases e : j = m
          · subst e; rw [← hx]; exact he
          · exact hall.out j hj (by omega))
        replace he := Lib.hid he
        clear hcs hall hx hy
        go_wp2_with fail
        go_roundw
        case rel => exact ⟨m, by omega, by go_num, by trivial, hall'⟩
        case measure => simp [intOf]

end Go.Proofs.YtaieplfegngjnaaGreat

namespace Go.Proofs.YtaieplfegngjnaaGreat
open Go.RowKit Go.Shelf Go.Sort

/-- What binds a kid's variables, the state in front of a kid, and what becomes of it. -/
def fbAt (op n : Int) (own : Nat) (fb : Int → Option Int) (j : Nat) : Int → Option Int := if op = 8 ∧ j = 1 then updI fb n own else fb
def stAt (op n : Int) (fb : Int → Option Int) (s : OS) (ks : List Tm) : Nat → OS
  | 0 => if op = 8 then s.next else s
  | j + 1 => if h : j < ks.length then (ordT (fbAt op n s.count fb j) (stAt op n fb s ks j) ks[j]).2 else stAt op n fb s ks j
def outAt (op n : Int) (fb : Int → Option Int) (s : OS) (ks : List Tm) (j : Nat) : Tm := if h : j < ks.length then (ordT (fbAt op n s.count fb j) (stAt op n fb s ks j) ks[j]).1 else .mk 0 0 []
theorem stAt_succ {op n : Int} {fb : Int → Option Int} {s : OS} {ks : List Tm} {j : Nat} (h : j < ks.length) : stAt op n fb s ks (j + 1) = (ordT (fbAt op n s.count fb j) (stAt op n fb s ks j) ks[j]).2 := by rw [stAt, dif_pos h]
theorem outAt_eq {op n : Int} {fb : Int → Option Int} {s : OS} {ks : List Tm} {j : Nat} (h : j < ks.length) : outAt op n fb s ks j = (ordT (fbAt op n s.count fb j) (stAt op n fb s ks j) ks[j]).1 := by rw [outAt, dif_pos h]
theorem stAt_count (op n : Int) (fb : Int → Option Int) (s : OS) (ks : List Tm) : ∀ j, j ≤ ks.length → (stAt op n fb s ks j).count ≤ s.count + 1 + sizes (ks.take j)
  | 0, _ => by
    simp only [stAt, List.take_zero, sizes]
    split <;> simp [OS.next] <;> omega
  | j + 1, h => by
    have h1 := stAt_count op n fb s ks j (by omega)
    have h2 := ordT_count (fbAt op n s.count fb j) ks[j] (stAt op n fb s ks j)
    rw [stAt_succ (by omega), sizes_take_succ _ _ (by omega)]
    omega
theorem stAt_room (op n : Int) (fb : Int → Option Int) (s : OS) (ks : List Tm) (j : Nat) (h : j < ks.length) : (stAt op n fb s ks j).count + ks[j].size ≤ s.count + 1 + sizes ks := by
  have h1 := stAt_count op n fb s ks j (by omega)
  have h2 := sizes_take_succ ks j h
  have h3 := sizes_take_le ks (j + 1)
  omega
theorem numO_mono (fb : Int → Option Int) (s : OS) (v : Int) : s.count ≤ (numO fb s v).2.count := by
  unfold numO
  split
  · exact Nat.le_refl _
  · split
    · exact Nat.le_refl _
    · exact Nat.le_succ _
mutual
theorem ordT_mono : ∀ (t : Tm) (fb : Int → Option Int) (s : OS), s.count ≤ (ordT fb s t).2.count
  | .mk op n ks, fb, s => by
    rw [ordT]
    split
    · exact numO_mono _ _ _
    · split
      · exact Nat.le_trans (Nat.le_succ _) (ordL_mono ks _ _ s.next)
      · exact ordTs_mono ks _ s
theorem ordTs_mono : ∀ (ks : List Tm) (fb : Int → Option Int) (s : OS), s.count ≤ (ordTs fb s ks).2.count
  | [], _, s => by rw [ordTs]; exact Nat.le_refl _
  | t :: ts, fb, s => by rw [ordTs]; exact Nat.le_trans (ordT_mono t fb s) (ordTs_mono ts fb _)
theorem ordL_mono : ∀ (ks : List Tm) (fb fi : Int → Option Int) (s : OS), s.count ≤ (ordL fb fi s ks).2.count
  | [], _, _, s => by rw [ordL]; exact Nat.le_refl _
  | t :: ts, fb, fi, s => by rw [ordL]; exact Nat.le_trans (ordT_mono t fb s) (ordTs_mono ts fi _)
end
theorem stAt_mono (op n : Int) (fb : Int → Option Int) (s : OS) (ks : List Tm) : ∀ j, j ≤ ks.length → s.count ≤ (stAt op n fb s ks j).count
  | 0, _ => by
    rw [stAt]
    split
    · exact Nat.le_succ _
    · exact Nat.le_refl _
  | j + 1, h => by
    rw [stAt_succ (by omega)]
    exact Nat.le_trans (stAt_mono op n fb s ks j (by omega)) (ordT_mono _ _ _)
theorem stAt_plain {op n : Int} {fb : Int → Option Int} {s : OS} {ks : List Tm} (h8 : op ≠ 8) : ∀ j, j ≤ ks.length → stAt op n fb s ks j = ordAt fb s ks j
  | 0, _ => by rw [stAt, if_neg h8, ordAt_zero]
  | j + 1, h => by
    rw [stAt_succ (by omega), stAt_plain h8 j (by omega), ordAt_succ _ _ _ (by omega)]
    unfold fbAt; rw [if_neg (fun e => h8 e.1)]
theorem ord_node (t : Tm) (fb : Int → Option Int) (s : OS) (h1 : t.op ≠ 1) (h8 : t.op = 8 → t.kids.length = 2) :
    ordT fb s t = (.mk t.op (if t.op = 8 then (s.count : Int) else t.n) ((List.range t.kids.length).map (outAt t.op t.n fb s t.kids)), stAt t.op t.n fb s t.kids t.kids.length) := by
  rw [ordT_eq, if_neg h1]
  by_cases e8 : t.op = 8
  · rw [if_pos e8, if_pos e8]
    have hl := h8 e8
    obtain ⟨x, y, hk⟩ : ∃ x y, t.kids = [x, y] := by
      match hh : t.kids, hl with
      | [x, y], _ => exact ⟨x, y, rfl⟩
    rw [hk, e8]
    have e0 : stAt 8 t.n fb s [x, y] 0 = s.next := by rw [stAt, if_pos rfl]
    have f0 : fbAt 8 t.n s.count fb 0 = fb := by unfold fbAt; rw [if_neg (by simp)]
    have f1 : fbAt 8 t.n s.count fb 1 = updI fb t.n s.count := by unfold fbAt; rw [if_pos (by simp)]
    have e1 : stAt 8 t.n fb s [x, y] 1 = (ordT fb s.next x).2 := by rw [stAt_succ (by simp), e0, f0]; rfl
    have e2 : stAt 8 t.n fb s [x, y] 2 = (ordT (updI fb t.n s.count) (ordT fb s.next x).2 y).2 := by rw [stAt_succ (by simp), e1, f1]; rfl
    have g0 : outAt 8 t.n fb s [x, y] 0 = (ordT fb s.next x).1 := by rw [outAt_eq (by simp), e0, f0]; rfl
    have g1 : outAt 8 t.n fb s [x, y] 1 = (ordT (updI fb t.n s.count) (ordT fb s.next x).2 y).1 := by rw [outAt_eq (by simp), e1, f1]; rfl
    simp only [List.length_cons, List.length_nil, ordL, ordTs]
    rw [show List.range (0 + 1 + 1) = [0, 1] from rfl]
    simp only [List.map_cons, List.map_nil, g0, g1]
    rw [show (0 + 1 + 1) = 2 from rfl, e2]
  · rw [if_neg e8, if_neg e8, stAt_plain e8 _ (Nat.le_refl _), ordAt_all, ← ordK_all]
    congr 2
    refine List.map_congr_left fun j hj => ?_
    have hj' := List.mem_range.1 hj
    rw [outAt_eq hj', stAt_plain e8 j (by omega)]
    unfold ordK
    rw [dif_pos hj']
    unfold fbAt; rw [if_neg (fun e => e8 e.1)]

theorem PRow.up {w w' : World} {b n : Nat} {v : Value} {l : Prs} (h : PRow w b v l) (hb : Below n w w') (hn : w.heap.size ≤ n) : PRow w' b v l := ownsRow_up h hb hn
theorem PRow.wider {w : World} {b b' : Nat} {v : Value} {l : Prs} (hb : b' ≤ b) (h : PRow w b v l) : PRow w b' v l := ownsRow_wider hb h
theorem onePairs (l : Prs) : ∀ u ∈ pairVals l, u.oneCell' = true := by
  induction l with
  | nil => intro u hu; simp [pairVals] at hu
  | cons p r ih => intro u hu; simp [pairVals] at hu; rcases hu with rfl | rfl | hu <;> first | rfl | exact ih u hu

/-- 'append([][2]int(nil), l...)'. -/
theorem appP_run (W : World) (b : Nat) (v : Value) (l : Prs) (hl : l.length ≤ 1000000) (h : PRow W b v l) :
    ∃ v1 W1, (Builtin.append_ #[94, 94] 94 #[.slice none 0 0, v]).run Tryz.prog W = .ok v1 W1 ∧ PRow W1 W.heap.size v1 l ∧ W.grownBy W1 none := by
  obtain ⟨i0, hi, hz0, hz1, hz2⟩ := info_parts inf145
  rcases h.2 with ⟨rfl, h2⟩ | ⟨g, cap, cs, rfl, h3, h4, h5, h6, h7, h8⟩
  · obtain rfl := List.length_eq_zero_iff.1 h2
    exact ⟨.slice none 0 0, W, by simp [Builtin.append_, run_underlying und94, sizeOf, typeInfo, hi, Builtin.lenOf, Builtin.firstCells], W.ownsRow_nil _ _ _, World.grownBy.refl _ _⟩
  · obtain ⟨v1, W1, h4, h5, h6, h7⟩ := run_append_own (P := Tryz.prog) W W.heap.size 94 94 145 i0 (.agg #[.int .i64 0, .int .i64 0]) 2 16 und94 hi hz0 hz1 hz2 rfl (by decide) (.slice none 0 0) 0 [] (W.ownsRow_nil _ _ _) ⟨g, 0, none⟩ l.length cap (pairVals l) (pairVals_len l)
      (h.cells rfl) (onePairs l) (by unfold maxLen; omega) (by omega) (Nat.le_refl _)
    exact ⟨v1, W1, h4, by simpa [PRow] using h5, h6⟩

theorem cell_two_new (W : World) (x y : Value) (ty j : Nat) (u : Value) (h : [x, y][j]? = some u) : (W.alloc (.cells #[x, y] ty)).cell? ((⟨W.heap.size, 0, none⟩ : Addr).add j) = some u := by
  rw [addp, Nat.zero_add]
  match j, h with
  | 0, h => simp at h; subst h; go_cell
  | 1, h => simp at h; subst h; go_cell
  | j + 2, h => simp at h
theorem snoc_row {W : World} {b b' : Nat} {v : Value} {l : Prs} {x y : Int} (h : W.ownsRow b 145 2 v (l.length + 1) (pairVals l ++ [.int .i64 x, .int .i64 y])) (hb : b' ≤ b) : PRow W b' v (l ++ [(x, y)]) := by
  unfold PRow
  rw [List.length_append, pairVals_append]
  exact ownsRow_wider hb h

/-- What 'ordered' comes to. -/
def OrdEnd (w : World) (vb : Value) (T : Tm) (S : OS) (e : Ending) (w' : World) : Prop :=
  ∃ a l c vf free, e = .returned (.tuple #[.agg #[.int .i64 T.op, .int .i64 T.n, .slice a l c], .agg #[vb, vf, .int .i64 (S.count : Nat)]]) ∧ Fresh w w' T a l c ∧ PRow w' 0 vf free ∧ lookP free = S.free ∧ free.length ≤ S.count ∧ Below w.heap.size w w'
def OrdR (N : Nat) : Prop := ∀ (t : Tm) (bound free : Prs) (next n₀ : Nat) (w : World) (a : Option Addr) (l c : Nat) (vb vf : Value), t.size ≤ N → IsTm n₀ w t a l c → OkV t → n₀ ≤ w.heap.size →
  PRow w 0 vb bound → PRow w 0 vf free → bound.length ≤ next → free.length ≤ next → next + t.size ≤ 1000000 →
  Calls Tryz.prog 72 #[.agg #[.int .i64 t.op, .int .i64 t.n, .slice a l c], .agg #[vb, vf, .int .i64 (next : Nat)]] w (OrdEnd w vb (ordT (lookP bound) ⟨lookP free, next⟩ t).1 (ordT (lookP bound) ⟨lookP free, next⟩ t).2)

end Go.Proofs.YtaieplfegngjnaaGreat

namespace Go.Proofs.YtaieplfegngjnaaGreat
open Go.RowKit Go.Shelf Go.Sort

theorem wp_call1 {P : Program} {o : Oper} {a : Act} {w : World} {K : Act → World → Prop} {Q : Exit → Act → World → Prop} {x : Operand} {f : FuncId} {ts : Array TypeId} {u : Value} {d : Tmp}
    (ho : o.op = .call { callee := .value (.func f), args := #[x], argTypes := ts }) (hd : o.dst = some d) (hf : (callFunc f #[u]).run P w = .ok (.enter f #[u]) w) (hx : a.eval x = u)
    (h : Calls P f #[u] w fun e w' => ∃ r, e = .returned r ∧ K { tmps := a.tmps.setIfInBounds d r, defers := a.defers } w') : o.wp P a w K Q := by
  have e : (execOp a.eval o).run P w = .ok (.enter f #[u]) w := by
    unfold execOp
    unfold Act.eval at hx
    simp only [ho, resolve, invoke, Deferred.ofValue, Act.eval, Sem.run_bind, Sem.run_pure, Result.andThen_ok, List.map_toArray, List.map_cons, List.map_nil, hx, Array.append_empty]
    exact hf
  unfold Oper.wp
  rw [e, Oper.upon_enter, hd]
  refine h.mono ?_
  rintro e w' ⟨r, rfl, hk⟩
  exact hk

abbrev scB (vb vf : Value) (k : Int) : Obj := .cells #[vb, vf, .int .i64 k] 96
abbrev zT : Obj := .cells #[.int .i64 0, .int .i64 0, .slice none 0 0] 28
abbrev zS : Obj := .cells #[.slice none 0 0, .slice none 0 0, .int .i64 0] 96
theorem ord_boxes {w w0 : World} {x2 x3 : Obj} (h : w0 = (((w.alloc x2).alloc x3).alloc zT).alloc zS) :
    w0.heap[w.heap.size]? = some x2 ∧ w0.heap[w.heap.size + 1]? = some x3 ∧ w0.heap[w.heap.size + 1 + 1]? = some zT ∧ w0.heap[w.heap.size + 1 + 1 + 1]? = some zS ∧ w0.heap.size = w.heap.size + 4 ∧ Below w.heap.size w w0 := by
  subst h
  refine ⟨heap_old (heap_old (heap_old (heap_new' _ rfl))), heap_old (heap_old (heap_new' _ (by simp))), heap_old (heap_new' _ (by simp)), heap_new' _ (by simp), by simp, by go_grown⟩
theorem PRow.far {x W : World} {b B : Nat} {ty : TypeId} {fr : Nat × Nat} {cs : Array Value} {v : Value} {l : Prs} (h : PRow x b v l) (hB : x.heap[B]? = some (.cells cs ty fr)) (hty : ty ≠ 145) (hW : ∀ k, k ≠ B → W.heap[k]? = x.heap[k]?) : PRow W b v l := by
  refine ⟨h.1, ?_⟩
  rcases h.2 with h2 | ⟨g, cap, cur, h2, h3, h4, h5, h6, h7⟩
  · exact .inl h2
  · refine .inr ⟨g, cap, cur, h2, h3, (hW g (fun e => ?_)).trans h4, h5, h6, h7⟩
    subst e
    rw [h4] at hB
    simp only [Option.some.injEq, Obj.cells.injEq] at hB
    exact hty hB.2.1.symm
theorem PRow.slice {w : World} {b : Nat} {v : Value} {l : Prs} (h : PRow w b v l) : ∃ a k c, v = .slice a k c := by
  obtain ⟨a, c, h1, _⟩ := h.form
  exact ⟨a, _, c, h1⟩
theorem Fresh.leaf (w w' : World) (op n : Int) : Fresh w w' (.mk op n []) none 0 0 := by
  simp only [Fresh, TmP]; exact ⟨rfl, by omega, by omega, .inl trivial⟩

end Go.Proofs.YtaieplfegngjnaaGreat

namespace Go.Proofs.YtaieplfegngjnaaGreat
open Go.RowKit Go.Shelf Go.Sort

set_option maxRecDepth 100000 in
set_option maxHeartbeats 8000000 in
theorem ordered_var (t : Tm) (bound free : Prs) (next : Nat) (w : World) (a : Option Addr) (c : Nat) (vb vf : Value) (_hO : OkV t) (hb : PRow w 0 vb bound) (hf : PRow w 0 vf free) (_hbl : bound.length ≤ next) (hfl : free.length ≤ next) (hnx : next + 1 ≤ 1000000) (h1 : t.op = 1) :
    Calls Tryz.prog 72 #[.agg #[.int .i64 t.op, .int .i64 t.n, .slice a 0 c], .agg #[vb, vf, .int .i64 (next : Nat)]] w (OrdEnd w vb (ordT (lookP bound) ⟨lookP free, next⟩ t).1 (ordT (lookP bound) ⟨lookP free, next⟩ t).2) := by
  obtain ⟨ab, lb, cb, rfl⟩ := hb.slice
  obtain ⟨af, lf, cf, rfl⟩ := hf.slice
  obtain ⟨n, hn⟩ : ∃ n, n = t.n := ⟨_, rfl⟩
  have hT : ordT (lookP bound) ⟨lookP free, next⟩ t = (.mk 1 (numO (lookP bound) ⟨lookP free, next⟩ n).1 [], (numO (lookP bound) ⟨lookP free, next⟩ n).2) := by rw [ordT_eq, if_pos h1, hn]
  rw [hT, h1, ← hn]
  clear hT
  show Calls _ _ _ _ (OrdEnd w (.slice ab lb cb) (.mk 1 (numO (lookP bound) ⟨lookP free, next⟩ n).1 []) (numO (lookP bound) ⟨lookP free, next⟩ n).2)
  obtain ⟨w0, hw0⟩ : ∃ W, W = (((w.alloc (.cells #[.int .i64 1, .int .i64 n, .slice a 0 c] 28)).alloc (scB (.slice ab lb cb) (.slice af lf cf) next)).alloc zT).alloc zS := ⟨_, rfl⟩
  obtain ⟨h2, h3, h4, h5, hz, hB⟩ := ord_boxes hw0
  have hN1 := rnumber_any bound n w0 0 (.slice ab lb cb) (hb.up hB (Nat.le_refl _))
  have hN2 := rnumber_any free n w0 0 (.slice af lf cf) (hf.up hB (Nat.le_refl _))
  rw [hw0] at hN1 hN2
  replace h2 := Lib.hid h2
  replace h3 := Lib.hid h3
  replace h4 := Lib.hid h4
  replace h5 := Lib.hid h5
  replace hz := Lib.hid hz
  replace hB := Lib.hid hB
  replace hb := Lib.hid hb
  replace hf := Lib.hid hf
  replace hw0 := Lib.hid hw0
  replace hn := Lib.hid hn
  clear _hO h1
  cases hlb : lookP bound n with
  | some m =>
    rw [hlb] at hN1
    simp only [Option.getD_some, Option.isSome_some] at hN1
    replace hN1 := Lib.hid hN1
    clear hN2
    have hR : Hid (numO (lookP bound) ⟨lookP free, next⟩ n = (m, ⟨lookP free, next⟩)) := Lib.hid (by unfold numO; rw [hlb])
    rw [hR.out]
    show Calls _ _ _ _ (OrdEnd w (.slice ab lb cb) (.mk 1 m []) ⟨lookP free, next⟩)
    clear hlb
    go_enter Tryz.func72, Tryz.ntmps72
    go_upto_region 2 with fail
    go_upto_region 99 with fail
    refine (hN1.out).mono ?_
    rintro e w' ⟨rfl, rfl⟩
    go_upto_region 9 with fail
    rw [← hw0.out]
    go_upto_region 9 with fail
    refine region_named (S := fun W' => W'.heap[w.heap.size + 1]? = some (.cells #[(.slice ab lb cb), (.slice af lf cf), .int .i64 (next : Nat)] 96 (0, 0))) (by kernel_rfl) (fun x1 hx1 => ?_)
    replace h3 := Lib.hid (show x1.heap[w.heap.size + 1]? = some (.cells #[(.slice ab lb cb), (.slice af lf cf), .int .i64 (next : Nat)] 96 (0, 0)) by rw [hx1]; exact h3.out)
    replace h4 := Lib.hid (show x1.heap[w.heap.size + 1 + 1]? = some (zT) by rw [hx1]; exact h4.out)
    replace h5 := Lib.hid (show x1.heap[w.heap.size + 1 + 1 + 1]? = some (zS) by rw [hx1]; exact h5.out)
    have hq := h3
    replace hB : Hid (Below w.heap.size w x1) := Lib.hid (by rw [hx1]; exact hB.out.drew)
    clear hx1
    refine takeH 0 53 (.int .i64 m) rfl rfl (by kernel_rfl) (by kernel_rfl) (by kernel_rfl) (fun _ _ _ h => h) (by rfl) (by intro W hSw; clear hSw; go_simp) hq.out ?_
    try simp only [List.setIfInBounds_toArray, List.set_cons_zero, List.set_cons_succ]
    refine takeH 2 55 (.agg #[(.slice ab lb cb), (.slice af lf cf), .int .i64 (next : Nat)]) rfl rfl (by kernel_rfl) (by kernel_rfl) (by kernel_rfl) (fun _ _ _ h => h) (by rfl) (by intro W hSw; obtain ⟨⟨j0, j1, j2⟩, -⟩ := c3_cells hSw; clear hSw; go_simp) hq.out ?_
    try simp only [List.setIfInBounds_toArray, List.set_cons_zero, List.set_cons_succ]
    refine wpAnyH_ready (rs := [1]) (by kernel_rfl) (by simp) ?_
    refine AllReadyH.cons rfl (fun K hKc => ?_) AllReadyH.nil
    rw [if_pos (by rfl)]
    refine wp_call1 (f := 82) (d := 54) rfl rfl (enters_of Tryz.func82 (by kernel_rfl) rfl _ _) rfl ((Var_mk m x1).mono ?_)
    rintro e x2 ⟨rfl, hb1⟩
    refine ⟨_, rfl, ?_⟩
    replace h3 := Lib.hid ((hb1.block _ (Array.getElem?_eq_some_iff.1 h3.out).1).trans h3.out)
    replace h4 := Lib.hid ((hb1.block _ (Array.getElem?_eq_some_iff.1 h4.out).1).trans h4.out)
    replace h5 := Lib.hid ((hb1.block _ (Array.getElem?_eq_some_iff.1 h5.out).1).trans h5.out)
    replace hq := h3
    replace hB := Lib.hid (Below.up hB.out hb1)
    clear hb1
    refine hKc _ _ hq.out (fun _ => ?_)
    clear hKc K
    try simp only [List.setIfInBounds_toArray, List.set_cons_zero, List.set_cons_succ]
    refine wpAnyH_ready (rs := [3]) (by kernel_rfl) (by simp) ?_
    refine AllReadyH.cons rfl (fun K hKc => ?_) AllReadyH.nil
    obtain ⟨⟨q0, q1, q2⟩, q3, q4, q5⟩ := c3_cells h4.out
    go_simp
    clear q0 q1 q2 q3 q4 q5
    obtain ⟨x3, hx3⟩ : ∃ Z, Z = (((x2.setCell ⟨w.heap.size + 1 + 1, 0, none⟩ (.int .i64 1)).setCell ⟨w.heap.size + 1 + 1, 1, none⟩ (.int .i64 m)).setCell ⟨w.heap.size + 1 + 1, 2, none⟩ (.slice none 0 0)) := ⟨_, rfl⟩
    rw [← hx3]
    have hs := set3 (.int .i64 1) (.int .i64 m) (.slice none 0 0) h4.out
    have ho := fun k (hk : k ≠ w.heap.size + 1 + 1) => set3_other (w := x2) (B := w.heap.size + 1 + 1) (.int .i64 1) (.int .i64 m) (.slice none 0 0) hk
    have hbs := set3_below (w := x2) (B := w.heap.size + 1 + 1) (n := w.heap.size) (.int .i64 1) (.int .i64 m) (.slice none 0 0) (by omega)
    rw [← hx3] at hs ho hbs
    replace h3 := Lib.hid ((ho _ (by omega)).trans h3.out)
    replace h5 := Lib.hid ((ho _ (by omega)).trans h5.out)
    replace hB := Lib.hid (hB.out.trans hbs)
    replace h4 := Lib.hid hs
    clear hs ho hbs hx3
    replace hq := h3
    refine hKc _ _ hq.out (fun _ => ?_)
    clear hKc K
    try simp only [List.setIfInBounds_toArray, List.set_cons_zero, List.set_cons_succ]
    refine wpAnyH_ready (rs := [4]) (by kernel_rfl) (by simp) ?_
    refine AllReadyH.cons rfl (fun K hKc => ?_) AllReadyH.nil
    obtain ⟨⟨q0, q1, q2⟩, q3, q4, q5⟩ := c3_cells h5.out
    go_simp
    clear q0 q1 q2 q3 q4 q5
    obtain ⟨x4, hx4⟩ : ∃ Z, Z = (((x3.setCell ⟨w.heap.size + 1 + 1 + 1, 0, none⟩ ((.slice ab lb cb))).setCell ⟨w.heap.size + 1 + 1 + 1, 1, none⟩ ((.slice af lf cf))).setCell ⟨w.heap.size + 1 + 1 + 1, 2, none⟩ (.int .i64 (next : Nat))) := ⟨_, rfl⟩
    rw [← hx4]
    have hs := set3 ((.slice ab lb cb)) ((.slice af lf cf)) (.int .i64 (next : Nat)) h5.out
    have ho := fun k (hk : k ≠ w.heap.size + 1 + 1 + 1) => set3_other (w := x3) (B := w.heap.size + 1 + 1 + 1) ((.slice ab lb cb)) ((.slice af lf cf)) (.int .i64 (next : Nat)) hk
    have hbs := set3_below (w := x3) (B := w.heap.size + 1 + 1 + 1) (n := w.heap.size) ((.slice ab lb cb)) ((.slice af lf cf)) (.int .i64 (next : Nat)) (by omega)
    rw [← hx4] at hs ho hbs
    replace h3 := Lib.hid ((ho _ (by omega)).trans h3.out)
    replace h4 := Lib.hid ((ho _ (by omega)).trans h4.out)
    replace hB := Lib.hid (hB.out.trans hbs)
    replace h5 := Lib.hid hs
    clear hs ho hbs hx4
    replace hq := h3
    refine hKc _ _ hq.out (fun _ => ?_)
    clear hKc K
    try simp only [List.setIfInBounds_toArray, List.set_cons_zero, List.set_cons_succ]
    refine wpAnyH_done (by kernel_rfl) ?_ _
    go_wp2_with fail
    obtain ⟨⟨r0, r1, r2⟩, -⟩ := c3_cells h4.out
    obtain ⟨⟨r3, r4, r5⟩, -⟩ := c3_cells h5.out
    refine bodyPost_ret (v := .tuple #[.agg #[.int .i64 1, .int .i64 m, .slice none 0 0], .agg #[(.slice ab lb cb), (.slice af lf cf), .int .i64 (next : Nat)]]) (by simp [results, Tryz.f72, go_sem, r0, r1, r2, r3, r4, r5]) rfl ?_
    exact ⟨none, 0, 0, (.slice af lf cf), free, rfl, Fresh.leaf _ _ _ _, hf.out.up hB.out (Nat.le_refl _), rfl, hfl, hB.out⟩
  | none =>
    rw [hlb] at hN1
    simp only [Option.getD_none, Option.isSome_none] at hN1
    replace hN1 := Lib.hid hN1
    cases hlf : lookP free n with
    | some m =>
      rw [hlf] at hN2
      simp only [Option.getD_some, Option.isSome_some] at hN2
      replace hN2 := Lib.hid hN2
      have hR : Hid (numO (lookP bound) ⟨lookP free, next⟩ n = (m, ⟨lookP free, next⟩)) := Lib.hid (by unfold numO; rw [hlb]; simp only [hlf])
      rw [hR.out]
      show Calls _ _ _ _ (OrdEnd w (.slice ab lb cb) (.mk 1 m []) ⟨lookP free, next⟩)
      clear hlb hlf
      go_enter Tryz.func72, Tryz.ntmps72
      go_upto_region 2 with fail
      go_upto_region 99 with fail
      refine (hN1.out).mono ?_
      rintro e w' ⟨rfl, rfl⟩
      go_upto_region 99 with fail
      refine (hN2.out).mono ?_
      rintro e w' ⟨rfl, rfl⟩
      go_upto_region 9 with fail
      rw [← hw0.out]
      go_upto_region 9 with fail
      refine region_named (S := fun W' => W'.heap[w.heap.size + 1]? = some (.cells #[(.slice ab lb cb), (.slice af lf cf), .int .i64 (next : Nat)] 96 (0, 0))) (by kernel_rfl) (fun x5 hx5 => ?_)
      replace h3 := Lib.hid (show x5.heap[w.heap.size + 1]? = some (.cells #[(.slice ab lb cb), (.slice af lf cf), .int .i64 (next : Nat)] 96 (0, 0)) by rw [hx5]; exact h3.out)
      replace h4 := Lib.hid (show x5.heap[w.heap.size + 1 + 1]? = some (zT) by rw [hx5]; exact h4.out)
      replace h5 := Lib.hid (show x5.heap[w.heap.size + 1 + 1 + 1]? = some (zS) by rw [hx5]; exact h5.out)
      have hq := h3
      replace hB : Hid (Below w.heap.size w x5) := Lib.hid (by rw [hx5]; exact hB.out.drew)
      clear hx5
      refine takeH 0 53 (.int .i64 m) rfl rfl (by kernel_rfl) (by kernel_rfl) (by kernel_rfl) (fun _ _ _ h => h) (by rfl) (by intro W hSw; clear hSw; go_simp) hq.out ?_
      try simp only [List.setIfInBounds_toArray, List.set_cons_zero, List.set_cons_succ]
      refine takeH 2 55 (.agg #[(.slice ab lb cb), (.slice af lf cf), .int .i64 (next : Nat)]) rfl rfl (by kernel_rfl) (by kernel_rfl) (by kernel_rfl) (fun _ _ _ h => h) (by rfl) (by intro W hSw; obtain ⟨⟨j0, j1, j2⟩, -⟩ := c3_cells hSw; clear hSw; go_simp) hq.out ?_
      try simp only [List.setIfInBounds_toArray, List.set_cons_zero, List.set_cons_succ]
      refine wpAnyH_ready (rs := [1]) (by kernel_rfl) (by simp) ?_
      refine AllReadyH.cons rfl (fun K hKc => ?_) AllReadyH.nil
      rw [if_pos (by rfl)]
      refine wp_call1 (f := 82) (d := 54) rfl rfl (enters_of Tryz.func82 (by kernel_rfl) rfl _ _) rfl ((Var_mk m x5).mono ?_)
      rintro e x6 ⟨rfl, hb1⟩
      refine ⟨_, rfl, ?_⟩
      replace h3 := Lib.hid ((hb1.block _ (Array.getElem?_eq_some_iff.1 h3.out).1).trans h3.out)
      replace h4 := Lib.hid ((hb1.block _ (Array.getElem?_eq_some_iff.1 h4.out).1).trans h4.out)
      replace h5 := Lib.hid ((hb1.block _ (Array.getElem?_eq_some_iff.1 h5.out).1).trans h5.out)
      replace hq := h3
      replace hB := Lib.hid (Below.up hB.out hb1)
      clear hb1
      refine hKc _ _ hq.out (fun _ => ?_)
      clear hKc K
      try simp only [List.setIfInBounds_toArray, List.set_cons_zero, List.set_cons_succ]
      refine wpAnyH_ready (rs := [3]) (by kernel_rfl) (by simp) ?_
      refine AllReadyH.cons rfl (fun K hKc => ?_) AllReadyH.nil
      obtain ⟨⟨q0, q1, q2⟩, q3, q4, q5⟩ := c3_cells h4.out
      go_simp
      clear q0 q1 q2 q3 q4 q5
      obtain ⟨x7, hx7⟩ : ∃ Z, Z = (((x6.setCell ⟨w.heap.size + 1 + 1, 0, none⟩ (.int .i64 1)).setCell ⟨w.heap.size + 1 + 1, 1, none⟩ (.int .i64 m)).setCell ⟨w.heap.size + 1 + 1, 2, none⟩ (.slice none 0 0)) := ⟨_, rfl⟩
      rw [← hx7]
      have hs := set3 (.int .i64 1) (.int .i64 m) (.slice none 0 0) h4.out
      have ho := fun k (hk : k ≠ w.heap.size + 1 + 1) => set3_other (w := x6) (B := w.heap.size + 1 + 1) (.int .i64 1) (.int .i64 m) (.slice none 0 0) hk
      have hbs := set3_below (w := x6) (B := w.heap.size + 1 + 1) (n := w.heap.size) (.int .i64 1) (.int .i64 m) (.slice none 0 0) (by omega)
      rw [← hx7] at hs ho hbs
      replace h3 := Lib.hid ((ho _ (by omega)).trans h3.out)
      replace h5 := Lib.hid ((ho _ (by omega)).trans h5.out)
      replace hB := Lib.hid (hB.out.trans hbs)
      replace h4 := Lib.hid hs
      clear hs ho hbs hx7
      replace hq := h3
      refine hKc _ _ hq.out (fun _ => ?_)
      clear hKc K
      try simp only [List.setIfInBounds_toArray, List.set_cons_zero, List.set_cons_succ]
      refine wpAnyH_ready (rs := [4]) (by kernel_rfl) (by simp) ?_
      refine AllReadyH.cons rfl (fun K hKc => ?_) AllReadyH.nil
      obtain ⟨⟨q0, q1, q2⟩, q3, q4, q5⟩ := c3_cells h5.out
      go_simp
      clear q0 q1 q2 q3 q4 q5
      obtain ⟨x8, hx8⟩ : ∃ Z, Z = (((x7.setCell ⟨w.heap.size + 1 + 1 + 1, 0, none⟩ ((.slice ab lb cb))).setCell ⟨w.heap.size + 1 + 1 + 1, 1, none⟩ ((.slice af lf cf))).setCell ⟨w.heap.size + 1 + 1 + 1, 2, none⟩ (.int .i64 (next : Nat))) := ⟨_, rfl⟩
      rw [← hx8]
      have hs := set3 ((.slice ab lb cb)) ((.slice af lf cf)) (.int .i64 (next : Nat)) h5.out
      have ho := fun k (hk : k ≠ w.heap.size + 1 + 1 + 1) => set3_other (w := x7) (B := w.heap.size + 1 + 1 + 1) ((.slice ab lb cb)) ((.slice af lf cf)) (.int .i64 (next : Nat)) hk
      have hbs := set3_below (w := x7) (B := w.heap.size + 1 + 1 + 1) (n := w.heap.size) ((.slice ab lb cb)) ((.slice af lf cf)) (.int .i64 (next : Nat)) (by omega)
      rw [← hx8] at hs ho hbs
      replace h3 := Lib.hid ((ho _ (by omega)).trans h3.out)
      replace h4 := Lib.hid ((ho _ (by omega)).trans h4.out)
      replace hB := Lib.hid (hB.out.trans hbs)
      replace h5 := Lib.hid hs
      clear hs ho hbs hx8
      replace hq := h3
      refine hKc _ _ hq.out (fun _ => ?_)
      clear hKc K
      try simp only [List.setIfInBounds_toArray, List.set_cons_zero, List.set_cons_succ]
      refine wpAnyH_done (by kernel_rfl) ?_ _
      go_wp2_with fail
      obtain ⟨⟨r0, r1, r2⟩, -⟩ := c3_cells h4.out
      obtain ⟨⟨r3, r4, r5⟩, -⟩ := c3_cells h5.out
      refine bodyPost_ret (v := .tuple #[.agg #[.int .i64 1, .int .i64 m, .slice none 0 0], .agg #[(.slice ab lb cb), (.slice af lf cf), .int .i64 (next : Nat)]]) (by simp [results, Tryz.f72, go_sem, r0, r1, r2, r3, r4, r5]) rfl ?_
      exact ⟨none, 0, 0, (.slice af lf cf), free, rfl, Fresh.leaf _ _ _ _, hf.out.up hB.out (Nat.le_refl _), rfl, hfl, hB.out⟩
    | none =>
      rw [hlf] at hN2
      simp only [Option.getD_none, Option.isSome_none] at hN2
      replace hN2 := Lib.hid hN2
      have hR : Hid (numO (lookP bound) ⟨lookP free, next⟩ n = ((next : Int), (⟨updI (lookP free) n next, next + 1⟩ : OS))) := Lib.hid (by unfold numO; rw [hlb]; simp only [hlf])
      rw [hR.out]
      show Calls _ _ _ _ (OrdEnd w (.slice ab lb cb) (.mk 1 (next : Int) []) ⟨updI (lookP free) n next, next + 1⟩)
      clear hlb hlf
      obtain ⟨i0, hi, hz0, hz1, hz2⟩ := info_parts inf145
      go_enter Tryz.func72, Tryz.ntmps72
      go_upto_region 2 with fail
      go_upto_region 99 with fail
      refine (hN1.out).mono ?_
      rintro e w' ⟨rfl, rfl⟩
      go_upto_region 99 with fail
      refine (hN2.out).mono ?_
      rintro e w' ⟨rfl, rfl⟩
      go_upto_region 7 with fail
      rw [← hw0.out]
      refine region_named (S := fun W' => Below (w.heap.size + 1) w0 W') (by kernel_rfl) (fun x hx => ?_)
      have hk : Hid (Below (w.heap.size + 4) w0 x) := Lib.hid (by rw [hx]; exact (Below.refl _ _).drew)
      have hq : Hid (Below (w.heap.size + 1) w0 x) := Lib.hid (hk.out.mono (by omega))
      have hzx : w.heap.size + 4 ≤ x.heap.size := by rw [hx]; show _ ≤ w0.heap.size; rw [hz.out]; exact Nat.le_refl _
      clear hx
      refine takeH 0 39 (.pointer (some ⟨w.heap.size + 1, 1, none⟩)) rfl rfl (by kernel_rfl) (by kernel_rfl) (by kernel_rfl) (fun _ _ _ h => h) (by rfl) (by intro W hSw; clear hSw; go_simp) hq.out ?_
      try simp only [List.setIfInBounds_toArray, List.set_cons_zero, List.set_cons_succ]
      refine takeH 3 42 (.pointer (some ⟨w.heap.size, 1, none⟩)) rfl rfl (by kernel_rfl) (by kernel_rfl) (by kernel_rfl) (fun _ _ _ h => h) (by rfl) (by intro W hSw; clear hSw; go_simp) hq.out ?_
      try simp only [List.setIfInBounds_toArray, List.set_cons_zero, List.set_cons_succ]
      refine takeH 4 43 (.int .i64 n) rfl rfl (by kernel_rfl) (by kernel_rfl) (by kernel_rfl) (fun _ _ _ h => h) (by rfl) (by intro W hSw; obtain ⟨⟨j0, j1, j2⟩, -⟩ := c3_cells ((hSw.block w.heap.size (by omega)).trans h2.out); clear hSw; go_simp) hq.out ?_
      try simp only [List.setIfInBounds_toArray, List.set_cons_zero, List.set_cons_succ]
      refine takeH 5 44 (.int .i64 (next : Nat)) rfl rfl (by kernel_rfl) (by kernel_rfl) (by kernel_rfl) (fun _ _ _ h => h) (by rfl) (by intro W hSw; clear hSw; go_simp) hq.out ?_
      try simp only [List.setIfInBounds_toArray, List.set_cons_zero, List.set_cons_succ]
      refine takeH 6 45 (.agg #[.int .i64 n, .int .i64 (next : Nat)]) rfl rfl (by kernel_rfl) (by kernel_rfl) (by kernel_rfl) (fun _ _ _ h => h) (by rfl) (by intro W hSw; clear hSw; go_simp) hq.out ?_
      try simp only [List.setIfInBounds_toArray, List.set_cons_zero, List.set_cons_succ]
      refine wpAnyH_ready (rs := [1, 7]) (by kernel_rfl) (by simp) ?_
      refine AllReadyH.cons rfl (fun K hKc => ?_) (AllReadyH.cons rfl (fun K hKc => ?_) AllReadyH.nil)
      · obtain ⟨⟨q0, q1, q2⟩, -⟩ := c3_cells ((hk.out.block (w.heap.size + 1) (by omega)).trans h3.out)
        go_simp
        clear q0 q1 q2
        refine hKc _ _ hq.out (fun _ => ?_)
        clear hKc K
        try simp only [List.setIfInBounds_toArray, List.set_cons_zero, List.set_cons_succ]
        refine wpAnyH_ready (rs := [2, 7]) (by kernel_rfl) (by simp) ?_
        refine AllReadyH.cons rfl (fun K hKc => ?_) (AllReadyH.cons rfl (fun K hKc => ?_) AllReadyH.nil)
        · rw [if_pos (by rfl)]
          obtain ⟨v1, x1, hr3, ho1, hg1⟩ := appP_run (x) 0 (.slice af lf cf) free (by omega) (hf.out.up (Below.trans hB.out (hk.out.mono (by omega))) (Nat.le_refl _))
          refine wp_builtin_append rfl rfl rfl hr3 ?_
          replace hk := Lib.hid (hk.out.grown hg1 (by first | omega | (simp; omega)) (fun q hq => by cases hq))
          replace hq := Lib.hid (show Below (w.heap.size + 1) w0 _ from hk.out.mono (by omega))
          have hz1' : (x).heap.size ≤ x1.heap.size := hg1.size
          clear hr3
          refine hKc _ _ hq.out (fun _ => ?_)
          clear hKc K
          try simp only [List.setIfInBounds_toArray, List.set_cons_zero, List.set_cons_succ]
          refine wpAnyH_ready (rs := [7]) (by kernel_rfl) (by simp) ?_
          refine AllReadyH.cons rfl (fun K hKc => ?_) AllReadyH.nil
          go_simp
          replace hk := Lib.hid (hk.out.alloc (by omega) (.cells #[.int .i64 n, .int .i64 (next : Nat)] 145))
          replace hq := Lib.hid (show Below (w.heap.size + 1) w0 _ from hk.out.mono (by omega))
          refine hKc _ _ hq.out (fun _ => ?_)
          clear hKc K
          try simp only [List.setIfInBounds_toArray, List.set_cons_zero, List.set_cons_succ]
          refine wpAnyH_ready (rs := [8]) (by kernel_rfl) (by simp) ?_
          refine AllReadyH.cons rfl (fun K hKc => ?_) AllReadyH.nil
          rw [if_pos (by rfl)]
          refine wp_append_own _ _ _ 94 rfl (x.heap.size) 145 i0 (.agg #[.int .i64 0, .int .i64 0]) 2 16 und94 hi hz0 hz1 hz2 rfl (by decide) v1 free.length (pairVals free) rfl (ho1.alloc _) ⟨x1.heap.size, 0, none⟩ 1 1 [.int .i64 n, .int .i64 (next : Nat)] rfl rfl (cell_two_new x1 _ _ 145) (fun x hx => by simp at hx; rcases hx with rfl | rfl <;> rfl) (by unfold maxLen; omega) (by omega) (by first | omega | (simp; omega)) ?_
          intro v2 x2 ho2 hg2 _
          replace hk := Lib.hid (hk.out.grown hg2 (by first | omega | (simp; omega)) (fun q hq => by have := (ho1.lt q hq).1; first | omega | (simp at this; omega)))
          replace hq := Lib.hid (show Below (w.heap.size + 1) w0 _ from hk.out.mono (by omega))
          have hrow : Hid (PRow x2 0 v2 (free ++ [(n, (next : Int))])) := Lib.hid (snoc_row ho2 (Nat.zero_le _))
          obtain ⟨a3, l3, c3, rfl⟩ := hrow.out.slice
          clear hg2 ho2 hg1 ho1
          refine hKc _ _ hq.out (fun _ => ?_)
          clear hKc K
          try simp only [List.setIfInBounds_toArray, List.set_cons_zero, List.set_cons_succ]
          refine takeH 9 48 (.pointer (some ⟨w.heap.size + 1, 1, none⟩)) rfl rfl (by kernel_rfl) (by kernel_rfl) (by kernel_rfl) (fun _ _ _ h => h) (by rfl) (by intro W hSw; clear hSw; go_simp) hq.out ?_
          try simp only [List.setIfInBounds_toArray, List.set_cons_zero, List.set_cons_succ]
          refine wpAnyH_ready (rs := [10]) (by kernel_rfl) (by simp) ?_
          refine AllReadyH.cons rfl (fun K hKc => ?_) AllReadyH.nil
          have g3 : Hid (x2.heap[w.heap.size + 1]? = some (scB (.slice ab lb cb) (.slice af lf cf) next)) := Lib.hid ((hk.out.block (w.heap.size + 1) (by omega)).trans h3.out)
          obtain ⟨⟨q0, q1, q2⟩, q3, q4, q5⟩ := c3_cells g3.out
          go_simp
          clear q0 q1 q2 q3 q4 q5
          obtain ⟨x3, hx3⟩ : ∃ X, X = x2.setCell ⟨w.heap.size + 1, 1, none⟩ (.slice a3 l3 c3) := ⟨_, rfl⟩
          rw [← hx3]
          replace hq := Lib.hid (show Below (w.heap.size + 1) w0 x3 by rw [hx3]; exact hq.out.setCell (p := ⟨w.heap.size + 1, 1, none⟩) (Nat.le_refl _) (.slice a3 l3 c3))
          replace h3 := Lib.hid (show x3.heap[w.heap.size + 1]? = some (scB (.slice ab lb cb) (.slice a3 l3 c3) next) by rw [hx3, heap_setCell_same x2 (w.heap.size + 1) 1 _ 96 (.slice a3 l3 c3) g3.out]; rfl)
          replace h4 := Lib.hid (show x3.heap[w.heap.size + 1 + 1]? = some zT by rw [hx3, heap_setCell_other _ _ _ _ (by first | (simp; done) | (simp; omega))]; exact (hk.out.block (w.heap.size + 1 + 1) (by omega)).trans h4.out)
          replace h5 := Lib.hid (show x3.heap[w.heap.size + 1 + 1 + 1]? = some zS by rw [hx3, heap_setCell_other _ _ _ _ (by first | (simp; done) | (simp; omega))]; exact (hk.out.block (w.heap.size + 1 + 1 + 1) (by omega)).trans h5.out)
          replace hB := Lib.hid (show Below w.heap.size w x3 by rw [hx3]; exact (hB.out.trans (hk.out.mono (by omega))).setCell (p := ⟨w.heap.size + 1, 1, none⟩) (by simp) (.slice a3 l3 c3))
          replace hrow : Hid (PRow x3 0 (.slice a3 l3 c3) (free ++ [(n, (next : Int))])) := Lib.hid (by rw [hx3]; exact hrow.out.far g3.out (by decide) (fun k hk => heap_setCell_other _ _ _ _ hk))
          clear hk g3 hx3
          refine hKc _ _ hq.out (fun _ => ?_)
          clear hKc K
          try simp only [List.setIfInBounds_toArray, List.set_cons_zero, List.set_cons_succ]
          refine wpAnyH_done (by kernel_rfl) ?_ _
          obtain ⟨⟨q0, q1, q2⟩, q3, q4, q5⟩ := c3_cells h3.out
          go_upto_region 9 with fail
          clear q0 q1 q2 q3 q4 q5
          obtain ⟨x4, hx4⟩ : ∃ X, X = x3.setCell ⟨w.heap.size + 1, 2, none⟩ (.int .i64 ((next : Int) + 1)) := ⟨_, rfl⟩
          rw [← hx4]
          have h3' := h3
          replace h4 := Lib.hid (show x4.heap[w.heap.size + 1 + 1]? = some zT by rw [hx4, heap_setCell_other _ _ _ _ (by first | (simp; done) | (simp; omega))]; exact h4.out)
          replace h5 := Lib.hid (show x4.heap[w.heap.size + 1 + 1 + 1]? = some zS by rw [hx4, heap_setCell_other _ _ _ _ (by first | (simp; done) | (simp; omega))]; exact h5.out)
          replace hB := Lib.hid (show Below w.heap.size w x4 by rw [hx4]; exact hB.out.setCell (p := ⟨w.heap.size + 1, 2, none⟩) (by simp) _)
          replace hrow : Hid (PRow x4 0 (.slice a3 l3 c3) (free ++ [(n, (next : Int))])) := Lib.hid (by rw [hx4]; exact hrow.out.far h3'.out (by decide) (fun k hk => heap_setCell_other _ _ _ _ hk))
          replace h3 := Lib.hid (show x4.heap[w.heap.size + 1]? = some (scB (.slice ab lb cb) (.slice a3 l3 c3) ((next : Int) + 1)) by rw [hx4, heap_setCell_same x3 (w.heap.size + 1) 2 _ 96 _ h3'.out]; rfl)
          clear h3' hx4
          go_upto_region 9 with fail
          refine region_named (S := fun W' => W'.heap[w.heap.size + 1]? = some (.cells #[(.slice ab lb cb), (.slice a3 l3 c3), .int .i64 ((next : Int) + 1)] 96 (0, 0))) (by kernel_rfl) (fun x9 hx9 => ?_)
          replace h3 := Lib.hid (show x9.heap[w.heap.size + 1]? = some (.cells #[(.slice ab lb cb), (.slice a3 l3 c3), .int .i64 ((next : Int) + 1)] 96 (0, 0)) by rw [hx9]; exact h3.out)
          replace h4 := Lib.hid (show x9.heap[w.heap.size + 1 + 1]? = some (zT) by rw [hx9]; exact h4.out)
          replace h5 := Lib.hid (show x9.heap[w.heap.size + 1 + 1 + 1]? = some (zS) by rw [hx9]; exact h5.out)
          have hq := h3
          replace hB : Hid (Below w.heap.size w x9) := Lib.hid (by rw [hx9]; exact hB.out.drew)
          replace hrow := Lib.hid (show PRow x9 0 (.slice a3 l3 c3) _ by rw [hx9]; exact hrow.out.up ((Below.refl _ _).drew) (Nat.le_refl _))
          clear hx9
          refine takeH 0 53 (.int .i64 (next : Nat)) rfl rfl (by kernel_rfl) (by kernel_rfl) (by kernel_rfl) (fun _ _ _ h => h) (by rfl) (by intro W hSw; clear hSw; go_simp) hq.out ?_
          try simp only [List.setIfInBounds_toArray, List.set_cons_zero, List.set_cons_succ]
          refine takeH 2 55 (.agg #[(.slice ab lb cb), (.slice a3 l3 c3), .int .i64 ((next : Int) + 1)]) rfl rfl (by kernel_rfl) (by kernel_rfl) (by kernel_rfl) (fun _ _ _ h => h) (by rfl) (by intro W hSw; obtain ⟨⟨j0, j1, j2⟩, -⟩ := c3_cells hSw; clear hSw; go_simp) hq.out ?_
          try simp only [List.setIfInBounds_toArray, List.set_cons_zero, List.set_cons_succ]
          refine wpAnyH_ready (rs := [1]) (by kernel_rfl) (by simp) ?_
          refine AllReadyH.cons rfl (fun K hKc => ?_) AllReadyH.nil
          rw [if_pos (by rfl)]
          refine wp_call1 (f := 82) (d := 54) rfl rfl (enters_of Tryz.func82 (by kernel_rfl) rfl _ _) rfl ((Var_mk (next : Nat) x9).mono ?_)
          rintro e x10 ⟨rfl, hb1⟩
          refine ⟨_, rfl, ?_⟩
          replace h3 := Lib.hid ((hb1.block _ (Array.getElem?_eq_some_iff.1 h3.out).1).trans h3.out)
          replace h4 := Lib.hid ((hb1.block _ (Array.getElem?_eq_some_iff.1 h4.out).1).trans h4.out)
          replace h5 := Lib.hid ((hb1.block _ (Array.getElem?_eq_some_iff.1 h5.out).1).trans h5.out)
          replace hrow := Lib.hid (hrow.out.up hb1 (Nat.le_refl _))
          replace hq := h3
          replace hB := Lib.hid (Below.up hB.out hb1)
          clear hb1
          refine hKc _ _ hq.out (fun _ => ?_)
          clear hKc K
          try simp only [List.setIfInBounds_toArray, List.set_cons_zero, List.set_cons_succ]
          refine wpAnyH_ready (rs := [3]) (by kernel_rfl) (by simp) ?_
          refine AllReadyH.cons rfl (fun K hKc => ?_) AllReadyH.nil
          obtain ⟨⟨q0, q1, q2⟩, q3, q4, q5⟩ := c3_cells h4.out
          go_simp
          clear q0 q1 q2 q3 q4 q5
          obtain ⟨x11, hx11⟩ : ∃ Z, Z = (((x10.setCell ⟨w.heap.size + 1 + 1, 0, none⟩ (.int .i64 1)).setCell ⟨w.heap.size + 1 + 1, 1, none⟩ (.int .i64 (next : Nat))).setCell ⟨w.heap.size + 1 + 1, 2, none⟩ (.slice none 0 0)) := ⟨_, rfl⟩
          rw [← hx11]
          have hs := set3 (.int .i64 1) (.int .i64 (next : Nat)) (.slice none 0 0) h4.out
          have ho := fun k (hk : k ≠ w.heap.size + 1 + 1) => set3_other (w := x10) (B := w.heap.size + 1 + 1) (.int .i64 1) (.int .i64 (next : Nat)) (.slice none 0 0) hk
          have hbs := set3_below (w := x10) (B := w.heap.size + 1 + 1) (n := w.heap.size) (.int .i64 1) (.int .i64 (next : Nat)) (.slice none 0 0) (by omega)
          rw [← hx11] at hs ho hbs
          replace h3 := Lib.hid ((ho _ (by omega)).trans h3.out)
          replace h5 := Lib.hid ((ho _ (by omega)).trans h5.out)
          replace hB := Lib.hid (hB.out.trans hbs)
          replace hrow := Lib.hid (hrow.out.far h4.out (by decide) ho)
          replace h4 := Lib.hid hs
          clear hs ho hbs hx11
          replace hq := h3
          refine hKc _ _ hq.out (fun _ => ?_)
          clear hKc K
          try simp only [List.setIfInBounds_toArray, List.set_cons_zero, List.set_cons_succ]
          refine wpAnyH_ready (rs := [4]) (by kernel_rfl) (by simp) ?_
          refine AllReadyH.cons rfl (fun K hKc => ?_) AllReadyH.nil
          obtain ⟨⟨q0, q1, q2⟩, q3, q4, q5⟩ := c3_cells h5.out
          go_simp
          clear q0 q1 q2 q3 q4 q5
          obtain ⟨x12, hx12⟩ : ∃ Z, Z = (((x11.setCell ⟨w.heap.size + 1 + 1 + 1, 0, none⟩ ((.slice ab lb cb))).setCell ⟨w.heap.size + 1 + 1 + 1, 1, none⟩ ((.slice a3 l3 c3))).setCell ⟨w.heap.size + 1 + 1 + 1, 2, none⟩ (.int .i64 ((next : Int) + 1))) := ⟨_, rfl⟩
          rw [← hx12]
          have hs := set3 ((.slice ab lb cb)) ((.slice a3 l3 c3)) (.int .i64 ((next : Int) + 1)) h5.out
          have ho := fun k (hk : k ≠ w.heap.size + 1 + 1 + 1) => set3_other (w := x11) (B := w.heap.size + 1 + 1 + 1) ((.slice ab lb cb)) ((.slice a3 l3 c3)) (.int .i64 ((next : Int) + 1)) hk
          have hbs := set3_below (w := x11) (B := w.heap.size + 1 + 1 + 1) (n := w.heap.size) ((.slice ab lb cb)) ((.slice a3 l3 c3)) (.int .i64 ((next : Int) + 1)) (by omega)
          rw [← hx12] at hs ho hbs
          replace h3 := Lib.hid ((ho _ (by omega)).trans h3.out)
          replace h4 := Lib.hid ((ho _ (by omega)).trans h4.out)
          replace hB := Lib.hid (hB.out.trans hbs)
          replace hrow := Lib.hid (hrow.out.far h5.out (by decide) ho)
          replace h5 := Lib.hid hs
          clear hs ho hbs hx12
          replace hq := h3
          refine hKc _ _ hq.out (fun _ => ?_)
          clear hKc K
          try simp only [List.setIfInBounds_toArray, List.set_cons_zero, List.set_cons_succ]
          refine wpAnyH_done (by kernel_rfl) ?_ _
          go_wp2_with fail
          obtain ⟨⟨r0, r1, r2⟩, -⟩ := c3_cells h4.out
          obtain ⟨⟨r3, r4, r5⟩, -⟩ := c3_cells h5.out
          refine bodyPost_ret (v := .tuple #[.agg #[.int .i64 1, .int .i64 (next : Nat), .slice none 0 0], .agg #[(.slice ab lb cb), (.slice a3 l3 c3), .int .i64 ((next : Int) + 1)]]) (by simp [results, Tryz.f72, go_sem, r0, r1, r2, r3, r4, r5]) rfl ?_
          exact ⟨none, 0, 0, (.slice a3 l3 c3), free ++ [(n, (next : Int))], by simp [Tm.op, Tm.n], Fresh.leaf _ _ _ _, hrow.out, by rw [lookP_snoc], by simp; omega, hB.out⟩
        · go_simp
          replace hk := Lib.hid (hk.out.alloc (by omega) (.cells #[.int .i64 n, .int .i64 (next : Nat)] 145))
          replace hq := Lib.hid (show Below (w.heap.size + 1) w0 _ from hk.out.mono (by omega))
          refine hKc _ _ hq.out (fun _ => ?_)
          clear hKc K
          try simp only [List.setIfInBounds_toArray, List.set_cons_zero, List.set_cons_succ]
          refine wpAnyH_ready (rs := [2]) (by kernel_rfl) (by simp) ?_
          refine AllReadyH.cons rfl (fun K hKc => ?_) AllReadyH.nil
          rw [if_pos (by rfl)]
          obtain ⟨v1, x1, hr3, ho1, hg1⟩ := appP_run (x.alloc (.cells #[.int .i64 n, .int .i64 (next : Nat)] 145)) 0 (.slice af lf cf) free (by omega) (hf.out.up (Below.trans hB.out (hk.out.mono (by omega))) (Nat.le_refl _))
          refine wp_builtin_append rfl rfl rfl hr3 ?_
          replace hk := Lib.hid (hk.out.grown hg1 (by first | omega | (simp; omega)) (fun q hq => by cases hq))
          replace hq := Lib.hid (show Below (w.heap.size + 1) w0 _ from hk.out.mono (by omega))
          have hz1' : (x.alloc (.cells #[.int .i64 n, .int .i64 (next : Nat)] 145)).heap.size ≤ x1.heap.size := hg1.size
          clear hr3
          refine hKc _ _ hq.out (fun _ => ?_)
          clear hKc K
          try simp only [List.setIfInBounds_toArray, List.set_cons_zero, List.set_cons_succ]
          have ho1' : x1.ownsRow (x.heap.size + 1) 145 2 v1 free.length (pairVals free) := by have := ho1; simp only [World.size_alloc] at this; exact this
          have hz1'' : x.heap.size + 1 ≤ x1.heap.size := by simpa using hz1'
          clear ho1
          have ho1 := ho1'
          clear ho1'
          refine wpAnyH_ready (rs := [8]) (by kernel_rfl) (by simp) ?_
          refine AllReadyH.cons rfl (fun K hKc => ?_) AllReadyH.nil
          rw [if_pos (by rfl)]
          refine wp_append_own _ _ _ 94 rfl (x.heap.size + 1) 145 i0 (.agg #[.int .i64 0, .int .i64 0]) 2 16 und94 hi hz0 hz1 hz2 rfl (by decide) v1 free.length (pairVals free) rfl ho1 ⟨x.heap.size, 0, none⟩ 1 1 [.int .i64 n, .int .i64 (next : Nat)] rfl rfl (fun j u hj => hg1.cell (cell_two_new x _ _ 145 j u hj) (fun h => by cases h)) (fun x hx => by simp at hx; rcases hx with rfl | rfl <;> rfl) (by unfold maxLen; omega) (by omega) (by first | omega | (simp; omega)) ?_
          intro v2 x2 ho2 hg2 _
          replace hk := Lib.hid (hk.out.grown hg2 (by first | omega | (simp; omega)) (fun q hq => by have := (ho1.lt q hq).1; first | omega | (simp at this; omega)))
          replace hq := Lib.hid (show Below (w.heap.size + 1) w0 _ from hk.out.mono (by omega))
          have hrow : Hid (PRow x2 0 v2 (free ++ [(n, (next : Int))])) := Lib.hid (snoc_row ho2 (Nat.zero_le _))
          obtain ⟨a3, l3, c3, rfl⟩ := hrow.out.slice
          clear hg2 ho2 hg1 ho1
          refine hKc _ _ hq.out (fun _ => ?_)
          clear hKc K
          try simp only [List.setIfInBounds_toArray, List.set_cons_zero, List.set_cons_succ]
          refine takeH 9 48 (.pointer (some ⟨w.heap.size + 1, 1, none⟩)) rfl rfl (by kernel_rfl) (by kernel_rfl) (by kernel_rfl) (fun _ _ _ h => h) (by rfl) (by intro W hSw; clear hSw; go_simp) hq.out ?_
          try simp only [List.setIfInBounds_toArray, List.set_cons_zero, List.set_cons_succ]
          refine wpAnyH_ready (rs := [10]) (by kernel_rfl) (by simp) ?_
          refine AllReadyH.cons rfl (fun K hKc => ?_) AllReadyH.nil
          have g3 : Hid (x2.heap[w.heap.size + 1]? = some (scB (.slice ab lb cb) (.slice af lf cf) next)) := Lib.hid ((hk.out.block (w.heap.size + 1) (by omega)).trans h3.out)
          obtain ⟨⟨q0, q1, q2⟩, q3, q4, q5⟩ := c3_cells g3.out
          go_simp
          clear q0 q1 q2 q3 q4 q5
          obtain ⟨x3, hx3⟩ : ∃ X, X = x2.setCell ⟨w.heap.size + 1, 1, none⟩ (.slice a3 l3 c3) := ⟨_, rfl⟩
          rw [← hx3]
          replace hq := Lib.hid (show Below (w.heap.size + 1) w0 x3 by rw [hx3]; exact hq.out.setCell (p := ⟨w.heap.size + 1, 1, none⟩) (Nat.le_refl _) (.slice a3 l3 c3))
          replace h3 := Lib.hid (show x3.heap[w.heap.size + 1]? = some (scB (.slice ab lb cb) (.slice a3 l3 c3) next) by rw [hx3, heap_setCell_same x2 (w.heap.size + 1) 1 _ 96 (.slice a3 l3 c3) g3.out]; rfl)
          replace h4 := Lib.hid (show x3.heap[w.heap.size + 1 + 1]? = some zT by rw [hx3, heap_setCell_other _ _ _ _ (by first | (simp; done) | (simp; omega))]; exact (hk.out.block (w.heap.size + 1 + 1) (by omega)).trans h4.out)
          replace h5 := Lib.hid (show x3.heap[w.heap.size + 1 + 1 + 1]? = some zS by rw [hx3, heap_setCell_other _ _ _ _ (by first | (simp; done) | (simp; omega))]; exact (hk.out.block (w.heap.size + 1 + 1 + 1) (by omega)).trans h5.out)
          replace hB := Lib.hid (show Below w.heap.size w x3 by rw [hx3]; exact (hB.out.trans (hk.out.mono (by omega))).setCell (p := ⟨w.heap.size + 1, 1, none⟩) (by simp) (.slice a3 l3 c3))
          replace hrow : Hid (PRow x3 0 (.slice a3 l3 c3) (free ++ [(n, (next : Int))])) := Lib.hid (by rw [hx3]; exact hrow.out.far g3.out (by decide) (fun k hk => heap_setCell_other _ _ _ _ hk))
          clear hk g3 hx3
          refine hKc _ _ hq.out (fun _ => ?_)
          clear hKc K
          try simp only [List.setIfInBounds_toArray, List.set_cons_zero, List.set_cons_succ]
          refine wpAnyH_done (by kernel_rfl) ?_ _
          obtain ⟨⟨q0, q1, q2⟩, q3, q4, q5⟩ := c3_cells h3.out
          go_upto_region 9 with fail
          clear q0 q1 q2 q3 q4 q5
          obtain ⟨x4, hx4⟩ : ∃ X, X = x3.setCell ⟨w.heap.size + 1, 2, none⟩ (.int .i64 ((next : Int) + 1)) := ⟨_, rfl⟩
          rw [← hx4]
          have h3' := h3
          replace h4 := Lib.hid (show x4.heap[w.heap.size + 1 + 1]? = some zT by rw [hx4, heap_setCell_other _ _ _ _ (by first | (simp; done) | (simp; omega))]; exact h4.out)
          replace h5 := Lib.hid (show x4.heap[w.heap.size + 1 + 1 + 1]? = some zS by rw [hx4, heap_setCell_other _ _ _ _ (by first | (simp; done) | (simp; omega))]; exact h5.out)
          replace hB := Lib.hid (show Below w.heap.size w x4 by rw [hx4]; exact hB.out.setCell (p := ⟨w.heap.size + 1, 2, none⟩) (by simp) _)
          replace hrow : Hid (PRow x4 0 (.slice a3 l3 c3) (free ++ [(n, (next : Int))])) := Lib.hid (by rw [hx4]; exact hrow.out.far h3'.out (by decide) (fun k hk => heap_setCell_other _ _ _ _ hk))
          replace h3 := Lib.hid (show x4.heap[w.heap.size + 1]? = some (scB (.slice ab lb cb) (.slice a3 l3 c3) ((next : Int) + 1)) by rw [hx4, heap_setCell_same x3 (w.heap.size + 1) 2 _ 96 _ h3'.out]; rfl)
          clear h3' hx4
          go_upto_region 9 with fail
          refine region_named (S := fun W' => W'.heap[w.heap.size + 1]? = some (.cells #[(.slice ab lb cb), (.slice a3 l3 c3), .int .i64 ((next : Int) + 1)] 96 (0, 0))) (by kernel_rfl) (fun x13 hx13 => ?_)
          replace h3 := Lib.hid (show x13.heap[w.heap.size + 1]? = some (.cells #[(.slice ab lb cb), (.slice a3 l3 c3), .int .i64 ((next : Int) + 1)] 96 (0, 0)) by rw [hx13]; exact h3.out)
          replace h4 := Lib.hid (show x13.heap[w.heap.size + 1 + 1]? = some (zT) by rw [hx13]; exact h4.out)
          replace h5 := Lib.hid (show x13.heap[w.heap.size + 1 + 1 + 1]? = some (zS) by rw [hx13]; exact h5.out)
          have hq := h3
          replace hB : Hid (Below w.heap.size w x13) := Lib.hid (by rw [hx13]; exact hB.out.drew)
          replace hrow := Lib.hid (show PRow x13 0 (.slice a3 l3 c3) _ by rw [hx13]; exact hrow.out.up ((Below.refl _ _).drew) (Nat.le_refl _))
          clear hx13
          refine takeH 0 53 (.int .i64 (next : Nat)) rfl rfl (by kernel_rfl) (by kernel_rfl) (by kernel_rfl) (fun _ _ _ h => h) (by rfl) (by intro W hSw; clear hSw; go_simp) hq.out ?_
          try simp only [List.setIfInBounds_toArray, List.set_cons_zero, List.set_cons_succ]
          refine takeH 2 55 (.agg #[(.slice ab lb cb), (.slice a3 l3 c3), .int .i64 ((next : Int) + 1)]) rfl rfl (by kernel_rfl) (by kernel_rfl) (by kernel_rfl) (fun _ _ _ h => h) (by rfl) (by intro W hSw; obtain ⟨⟨j0, j1, j2⟩, -⟩ := c3_cells hSw; clear hSw; go_simp) hq.out ?_
          try simp only [List.setIfInBounds_toArray, List.set_cons_zero, List.set_cons_succ]
          refine wpAnyH_ready (rs := [1]) (by kernel_rfl) (by simp) ?_
          refine AllReadyH.cons rfl (fun K hKc => ?_) AllReadyH.nil
          rw [if_pos (by rfl)]
          refine wp_call1 (f := 82) (d := 54) rfl rfl (enters_of Tryz.func82 (by kernel_rfl) rfl _ _) rfl ((Var_mk (next : Nat) x13).mono ?_)
          rintro e x14 ⟨rfl, hb1⟩
          refine ⟨_, rfl, ?_⟩
          replace h3 := Lib.hid ((hb1.block _ (Array.getElem?_eq_some_iff.1 h3.out).1).trans h3.out)
          replace h4 := Lib.hid ((hb1.block _ (Array.getElem?_eq_some_iff.1 h4.out).1).trans h4.out)
          replace h5 := Lib.hid ((hb1.block _ (Array.getElem?_eq_some_iff.1 h5.out).1).trans h5.out)
          replace hrow := Lib.hid (hrow.out.up hb1 (Nat.le_refl _))
          replace hq := h3
          replace hB := Lib.hid (Below.up hB.out hb1)
          clear hb1
          refine hKc _ _ hq.out (fun _ => ?_)
          clear hKc K
          try simp only [List.setIfInBounds_toArray, List.set_cons_zero, List.set_cons_succ]
          refine wpAnyH_ready (rs := [3]) (by kernel_rfl) (by simp) ?_
          refine AllReadyH.cons rfl (fun K hKc => ?_) AllReadyH.nil
          obtain ⟨⟨q0, q1, q2⟩, q3, q4, q5⟩ := c3_cells h4.out
          go_simp
          clear q0 q1 q2 q3 q4 q5
          obtain ⟨x15, hx15⟩ : ∃ Z, Z = (((x14.setCell ⟨w.heap.size + 1 + 1, 0, none⟩ (.int .i64 1)).setCell ⟨w.heap.size + 1 + 1, 1, none⟩ (.int .i64 (next : Nat))).setCell ⟨w.heap.size + 1 + 1, 2, none⟩ (.slice none 0 0)) := ⟨_, rfl⟩
          rw [← hx15]
          have hs := set3 (.int .i64 1) (.int .i64 (next : Nat)) (.slice none 0 0) h4.out
          have ho := fun k (hk : k ≠ w.heap.size + 1 + 1) => set3_other (w := x14) (B := w.heap.size + 1 + 1) (.int .i64 1) (.int .i64 (next : Nat)) (.slice none 0 0) hk
          have hbs := set3_below (w := x14) (B := w.heap.size + 1 + 1) (n := w.heap.size) (.int .i64 1) (.int .i64 (next : Nat)) (.slice none 0 0) (by omega)
          rw [← hx15] at hs ho hbs
          replace h3 := Lib.hid ((ho _ (by omega)).trans h3.out)
          replace h5 := Lib.hid ((ho _ (by omega)).trans h5.out)
          replace hB := Lib.hid (hB.out.trans hbs)
          replace hrow := Lib.hid (hrow.out.far h4.out (by decide) ho)
          replace h4 := Lib.hid hs
          clear hs ho hbs hx15
          replace hq := h3
          refine hKc _ _ hq.out (fun _ => ?_)
          clear hKc K
          try simp only [List.setIfInBounds_toArray, List.set_cons_zero, List.set_cons_succ]
          refine wpAnyH_ready (rs := [4]) (by kernel_rfl) (by simp) ?_
          refine AllReadyH.cons rfl (fun K hKc => ?_) AllReadyH.nil
          obtain ⟨⟨q0, q1, q2⟩, q3, q4, q5⟩ := c3_cells h5.out
          go_simp
          clear q0 q1 q2 q3 q4 q5
          obtain ⟨x16, hx16⟩ : ∃ Z, Z = (((x15.setCell ⟨w.heap.size + 1 + 1 + 1, 0, none⟩ ((.slice ab lb cb))).setCell ⟨w.heap.size + 1 + 1 + 1, 1, none⟩ ((.slice a3 l3 c3))).setCell ⟨w.heap.size + 1 + 1 + 1, 2, none⟩ (.int .i64 ((next : Int) + 1))) := ⟨_, rfl⟩
          rw [← hx16]
          have hs := set3 ((.slice ab lb cb)) ((.slice a3 l3 c3)) (.int .i64 ((next : Int) + 1)) h5.out
          have ho := fun k (hk : k ≠ w.heap.size + 1 + 1 + 1) => set3_other (w := x15) (B := w.heap.size + 1 + 1 + 1) ((.slice ab lb cb)) ((.slice a3 l3 c3)) (.int .i64 ((next : Int) + 1)) hk
          have hbs := set3_below (w := x15) (B := w.heap.size + 1 + 1 + 1) (n := w.heap.size) ((.slice ab lb cb)) ((.slice a3 l3 c3)) (.int .i64 ((next : Int) + 1)) (by omega)
          rw [← hx16] at hs ho hbs
          replace h3 := Lib.hid ((ho _ (by omega)).trans h3.out)
          replace h4 := Lib.hid ((ho _ (by omega)).trans h4.out)
          replace hB := Lib.hid (hB.out.trans hbs)
          replace hrow := Lib.hid (hrow.out.far h5.out (by decide) ho)
          replace h5 := Lib.hid hs
          clear hs ho hbs hx16
          replace hq := h3
          refine hKc _ _ hq.out (fun _ => ?_)
          clear hKc K
          try simp only [List.setIfInBounds_toArray, List.set_cons_zero, List.set_cons_succ]
          refine wpAnyH_done (by kernel_rfl) ?_ _
          go_wp2_with fail
          obtain ⟨⟨r0, r1, r2⟩, -⟩ := c3_cells h4.out
          obtain ⟨⟨r3, r4, r5⟩, -⟩ := c3_cells h5.out
          refine bodyPost_ret (v := .tuple #[.agg #[.int .i64 1, .int .i64 (next : Nat), .slice none 0 0], .agg #[(.slice ab lb cb), (.slice a3 l3 c3), .int .i64 ((next : Int) + 1)]]) (by simp [results, Tryz.f72, go_sem, r0, r1, r2, r3, r4, r5]) rfl ?_
          exact ⟨none, 0, 0, (.slice a3 l3 c3), free ++ [(n, (next : Int))], by simp [Tm.op, Tm.n], Fresh.leaf _ _ _ _, hrow.out, by rw [lookP_snoc], by simp; omega, hB.out⟩
      · go_simp
        replace hk := Lib.hid (hk.out.alloc (by omega) (.cells #[.int .i64 n, .int .i64 (next : Nat)] 145))
        replace hq := Lib.hid (show Below (w.heap.size + 1) w0 _ from hk.out.mono (by omega))
        refine hKc _ _ hq.out (fun _ => ?_)
        clear hKc K
        try simp only [List.setIfInBounds_toArray, List.set_cons_zero, List.set_cons_succ]
        refine wpAnyH_ready (rs := [1]) (by kernel_rfl) (by simp) ?_
        refine AllReadyH.cons rfl (fun K hKc => ?_) AllReadyH.nil
        obtain ⟨⟨q0, q1, q2⟩, -⟩ := c3_cells ((hk.out.block (w.heap.size + 1) (by omega)).trans h3.out)
        go_simp
        clear q0 q1 q2
        refine hKc _ _ hq.out (fun _ => ?_)
        clear hKc K
        try simp only [List.setIfInBounds_toArray, List.set_cons_zero, List.set_cons_succ]
        refine wpAnyH_ready (rs := [2]) (by kernel_rfl) (by simp) ?_
        refine AllReadyH.cons rfl (fun K hKc => ?_) AllReadyH.nil
        rw [if_pos (by rfl)]
        obtain ⟨v1, x1, hr3, ho1, hg1⟩ := appP_run (x.alloc (.cells #[.int .i64 n, .int .i64 (next : Nat)] 145)) 0 (.slice af lf cf) free (by omega) (hf.out.up (Below.trans hB.out (hk.out.mono (by omega))) (Nat.le_refl _))
        refine wp_builtin_append rfl rfl rfl hr3 ?_
        replace hk := Lib.hid (hk.out.grown hg1 (by first | omega | (simp; omega)) (fun q hq => by cases hq))
        replace hq := Lib.hid (show Below (w.heap.size + 1) w0 _ from hk.out.mono (by omega))
        have hz1' : (x.alloc (.cells #[.int .i64 n, .int .i64 (next : Nat)] 145)).heap.size ≤ x1.heap.size := hg1.size
        clear hr3
        refine hKc _ _ hq.out (fun _ => ?_)
        clear hKc K
        try simp only [List.setIfInBounds_toArray, List.set_cons_zero, List.set_cons_succ]
        have ho1' : x1.ownsRow (x.heap.size + 1) 145 2 v1 free.length (pairVals free) := by have := ho1; simp only [World.size_alloc] at this; exact this
        have hz1'' : x.heap.size + 1 ≤ x1.heap.size := by simpa using hz1'
        clear ho1
        have ho1 := ho1'
        clear ho1'
        refine wpAnyH_ready (rs := [8]) (by kernel_rfl) (by simp) ?_
        refine AllReadyH.cons rfl (fun K hKc => ?_) AllReadyH.nil
        rw [if_pos (by rfl)]
        refine wp_append_own _ _ _ 94 rfl (x.heap.size + 1) 145 i0 (.agg #[.int .i64 0, .int .i64 0]) 2 16 und94 hi hz0 hz1 hz2 rfl (by decide) v1 free.length (pairVals free) rfl ho1 ⟨x.heap.size, 0, none⟩ 1 1 [.int .i64 n, .int .i64 (next : Nat)] rfl rfl (fun j u hj => hg1.cell (cell_two_new x _ _ 145 j u hj) (fun h => by cases h)) (fun x hx => by simp at hx; rcases hx with rfl | rfl <;> rfl) (by unfold maxLen; omega) (by omega) (by first | omega | (simp; omega)) ?_
        intro v2 x2 ho2 hg2 _
        replace hk := Lib.hid (hk.out.grown hg2 (by first | omega | (simp; omega)) (fun q hq => by have := (ho1.lt q hq).1; first | omega | (simp at this; omega)))
        replace hq := Lib.hid (show Below (w.heap.size + 1) w0 _ from hk.out.mono (by omega))
        have hrow : Hid (PRow x2 0 v2 (free ++ [(n, (next : Int))])) := Lib.hid (snoc_row ho2 (Nat.zero_le _))
        obtain ⟨a3, l3, c3, rfl⟩ := hrow.out.slice
        clear hg2 ho2 hg1 ho1
        refine hKc _ _ hq.out (fun _ => ?_)
        clear hKc K
        try simp only [List.setIfInBounds_toArray, List.set_cons_zero, List.set_cons_succ]
        refine takeH 9 48 (.pointer (some ⟨w.heap.size + 1, 1, none⟩)) rfl rfl (by kernel_rfl) (by kernel_rfl) (by kernel_rfl) (fun _ _ _ h => h) (by rfl) (by intro W hSw; clear hSw; go_simp) hq.out ?_
        try simp only [List.setIfInBounds_toArray, List.set_cons_zero, List.set_cons_succ]
        refine wpAnyH_ready (rs := [10]) (by kernel_rfl) (by simp) ?_
        refine AllReadyH.cons rfl (fun K hKc => ?_) AllReadyH.nil
        have g3 : Hid (x2.heap[w.heap.size + 1]? = some (scB (.slice ab lb cb) (.slice af lf cf) next)) := Lib.hid ((hk.out.block (w.heap.size + 1) (by omega)).trans h3.out)
        obtain ⟨⟨q0, q1, q2⟩, q3, q4, q5⟩ := c3_cells g3.out
        go_simp
        clear q0 q1 q2 q3 q4 q5
        obtain ⟨x3, hx3⟩ : ∃ X, X = x2.setCell ⟨w.heap.size + 1, 1, none⟩ (.slice a3 l3 c3) := ⟨_, rfl⟩
        rw [← hx3]
        replace hq := Lib.hid (show Below (w.heap.size + 1) w0 x3 by rw [hx3]; exact hq.out.setCell (p := ⟨w.heap.size + 1, 1, none⟩) (Nat.le_refl _) (.slice a3 l3 c3))
        replace h3 := Lib.hid (show x3.heap[w.heap.size + 1]? = some (scB (.slice ab lb cb) (.slice a3 l3 c3) next) by rw [hx3, heap_setCell_same x2 (w.heap.size + 1) 1 _ 96 (.slice a3 l3 c3) g3.out]; rfl)
        replace h4 := Lib.hid (show x3.heap[w.heap.size + 1 + 1]? = some zT by rw [hx3, heap_setCell_other _ _ _ _ (by first | (simp; done) | (simp; omega))]; exact (hk.out.block (w.heap.size + 1 + 1) (by omega)).trans h4.out)
        replace h5 := Lib.hid (show x3.heap[w.heap.size + 1 + 1 + 1]? = some zS by rw [hx3, heap_setCell_other _ _ _ _ (by first | (simp; done) | (simp; omega))]; exact (hk.out.block (w.heap.size + 1 + 1 + 1) (by omega)).trans h5.out)
        replace hB := Lib.hid (show Below w.heap.size w x3 by rw [hx3]; exact (hB.out.trans (hk.out.mono (by omega))).setCell (p := ⟨w.heap.size + 1, 1, none⟩) (by simp) (.slice a3 l3 c3))
        replace hrow : Hid (PRow x3 0 (.slice a3 l3 c3) (free ++ [(n, (next : Int))])) := Lib.hid (by rw [hx3]; exact hrow.out.far g3.out (by decide) (fun k hk => heap_setCell_other _ _ _ _ hk))
        clear hk g3 hx3
        refine hKc _ _ hq.out (fun _ => ?_)
        clear hKc K
        try simp only [List.setIfInBounds_toArray, List.set_cons_zero, List.set_cons_succ]
        refine wpAnyH_done (by kernel_rfl) ?_ _
        obtain ⟨⟨q0, q1, q2⟩, q3, q4, q5⟩ := c3_cells h3.out
        go_upto_region 9 with fail
        clear q0 q1 q2 q3 q4 q5
        obtain ⟨x4, hx4⟩ : ∃ X, X = x3.setCell ⟨w.heap.size + 1, 2, none⟩ (.int .i64 ((next : Int) + 1)) := ⟨_, rfl⟩
        rw [← hx4]
        have h3' := h3
        replace h4 := Lib.hid (show x4.heap[w.heap.size + 1 + 1]? = some zT by rw [hx4, heap_setCell_other _ _ _ _ (by first | (simp; done) | (simp; omega))]; exact h4.out)
        replace h5 := Lib.hid (show x4.heap[w.heap.size + 1 + 1 + 1]? = some zS by rw [hx4, heap_setCell_other _ _ _ _ (by first | (simp; done) | (simp; omega))]; exact h5.out)
        replace hB := Lib.hid (show Below w.heap.size w x4 by rw [hx4]; exact hB.out.setCell (p := ⟨w.heap.size + 1, 2, none⟩) (by simp) _)
        replace hrow : Hid (PRow x4 0 (.slice a3 l3 c3) (free ++ [(n, (next : Int))])) := Lib.hid (by rw [hx4]; exact hrow.out.far h3'.out (by decide) (fun k hk => heap_setCell_other _ _ _ _ hk))
        replace h3 := Lib.hid (show x4.heap[w.heap.size + 1]? = some (scB (.slice ab lb cb) (.slice a3 l3 c3) ((next : Int) + 1)) by rw [hx4, heap_setCell_same x3 (w.heap.size + 1) 2 _ 96 _ h3'.out]; rfl)
        clear h3' hx4
        go_upto_region 9 with fail
        refine region_named (S := fun W' => W'.heap[w.heap.size + 1]? = some (.cells #[(.slice ab lb cb), (.slice a3 l3 c3), .int .i64 ((next : Int) + 1)] 96 (0, 0))) (by kernel_rfl) (fun x17 hx17 => ?_)
        replace h3 := Lib.hid (show x17.heap[w.heap.size + 1]? = some (.cells #[(.slice ab lb cb), (.slice a3 l3 c3), .int .i64 ((next : Int) + 1)] 96 (0, 0)) by rw [hx17]; exact h3.out)
        replace h4 := Lib.hid (show x17.heap[w.heap.size + 1 + 1]? = some (zT) by rw [hx17]; exact h4.out)
        replace h5 := Lib.hid (show x17.heap[w.heap.size + 1 + 1 + 1]? = some (zS) by rw [hx17]; exact h5.out)
        have hq := h3
        replace hB : Hid (Below w.heap.size w x17) := Lib.hid (by rw [hx17]; exact hB.out.drew)
        replace hrow := Lib.hid (show PRow x17 0 (.slice a3 l3 c3) _ by rw [hx17]; exact hrow.out.up ((Below.refl _ _).drew) (Nat.le_refl _))
        clear hx17
        refine takeH 0 53 (.int .i64 (next : Nat)) rfl rfl (by kernel_rfl) (by kernel_rfl) (by kernel_rfl) (fun _ _ _ h => h) (by rfl) (by intro W hSw; clear hSw; go_simp) hq.out ?_
        try simp only [List.setIfInBounds_toArray, List.set_cons_zero, List.set_cons_succ]
        refine takeH 2 55 (.agg #[(.slice ab lb cb), (.slice a3 l3 c3), .int .i64 ((next : Int) + 1)]) rfl rfl (by kernel_rfl) (by kernel_rfl) (by kernel_rfl) (fun _ _ _ h => h) (by rfl) (by intro W hSw; obtain ⟨⟨j0, j1, j2⟩, -⟩ := c3_cells hSw; clear hSw; go_simp) hq.out ?_
        try simp only [List.setIfInBounds_toArray, List.set_cons_zero, List.set_cons_succ]
        refine wpAnyH_ready (rs := [1]) (by kernel_rfl) (by simp) ?_
        refine AllReadyH.cons rfl (fun K hKc => ?_) AllReadyH.nil
        rw [if_pos (by rfl)]
        refine wp_call1 (f := 82) (d := 54) rfl rfl (enters_of Tryz.func82 (by kernel_rfl) rfl _ _) rfl ((Var_mk (next : Nat) x17).mono ?_)
        rintro e x18 ⟨rfl, hb1⟩
        refine ⟨_, rfl, ?_⟩
        replace h3 := Lib.hid ((hb1.block _ (Array.getElem?_eq_some_iff.1 h3.out).1).trans h3.out)
        replace h4 := Lib.hid ((hb1.block _ (Array.getElem?_eq_some_iff.1 h4.out).1).trans h4.out)
        replace h5 := Lib.hid ((hb1.block _ (Array.getElem?_eq_some_iff.1 h5.out).1).trans h5.out)
        replace hrow := Lib.hid (hrow.out.up hb1 (Nat.le_refl _))
        replace hq := h3
        replace hB := Lib.hid (Below.up hB.out hb1)
        clear hb1
        refine hKc _ _ hq.out (fun _ => ?_)
        clear hKc K
        try simp only [List.setIfInBounds_toArray, List.set_cons_zero, List.set_cons_succ]
        refine wpAnyH_ready (rs := [3]) (by kernel_rfl) (by simp) ?_
        refine AllReadyH.cons rfl (fun K hKc => ?_) AllReadyH.nil
        obtain ⟨⟨q0, q1, q2⟩, q3, q4, q5⟩ := c3_cells h4.out
        go_simp
        clear q0 q1 q2 q3 q4 q5
        obtain ⟨x19, hx19⟩ : ∃ Z, Z = (((x18.setCell ⟨w.heap.size + 1 + 1, 0, none⟩ (.int .i64 1)).setCell ⟨w.heap.size + 1 + 1, 1, none⟩ (.int .i64 (next : Nat))).setCell ⟨w.heap.size + 1 + 1, 2, none⟩ (.slice none 0 0)) := ⟨_, rfl⟩
        rw [← hx19]
        have hs := set3 (.int .i64 1) (.int .i64 (next : Nat)) (.slice none 0 0) h4.out
        have ho := fun k (hk : k ≠ w.heap.size + 1 + 1) => set3_other (w := x18) (B := w.heap.size + 1 + 1) (.int .i64 1) (.int .i64 (next : Nat)) (.slice none 0 0) hk
        have hbs := set3_below (w := x18) (B := w.heap.size + 1 + 1) (n := w.heap.size) (.int .i64 1) (.int .i64 (next : Nat)) (.slice none 0 0) (by omega)
        rw [← hx19] at hs ho hbs
        replace h3 := Lib.hid ((ho _ (by omega)).trans h3.out)
        replace h5 := Lib.hid ((ho _ (by omega)).trans h5.out)
        replace hB := Lib.hid (hB.out.trans hbs)
        replace hrow := Lib.hid (hrow.out.far h4.out (by decide) ho)
        replace h4 := Lib.hid hs
        clear hs ho hbs hx19
        replace hq := h3
        refine hKc _ _ hq.out (fun _ => ?_)
        clear hKc K
        try simp only [List.setIfInBounds_toArray, List.set_cons_zero, List.set_cons_succ]
        refine wpAnyH_ready (rs := [4]) (by kernel_rfl) (by simp) ?_
        refine AllReadyH.cons rfl (fun K hKc => ?_) AllReadyH.nil
        obtain ⟨⟨q0, q1, q2⟩, q3, q4, q5⟩ := c3_cells h5.out
        go_simp
        clear q0 q1 q2 q3 q4 q5
        obtain ⟨x20, hx20⟩ : ∃ Z, Z = (((x19.setCell ⟨w.heap.size + 1 + 1 + 1, 0, none⟩ ((.slice ab lb cb))).setCell ⟨w.heap.size + 1 + 1 + 1, 1, none⟩ ((.slice a3 l3 c3))).setCell ⟨w.heap.size + 1 + 1 + 1, 2, none⟩ (.int .i64 ((next : Int) + 1))) := ⟨_, rfl⟩
        rw [← hx20]
        have hs := set3 ((.slice ab lb cb)) ((.slice a3 l3 c3)) (.int .i64 ((next : Int) + 1)) h5.out
        have ho := fun k (hk : k ≠ w.heap.size + 1 + 1 + 1) => set3_other (w := x19) (B := w.heap.size + 1 + 1 + 1) ((.slice ab lb cb)) ((.slice a3 l3 c3)) (.int .i64 ((next : Int) + 1)) hk
        have hbs := set3_below (w := x19) (B := w.heap.size + 1 + 1 + 1) (n := w.heap.size) ((.slice ab lb cb)) ((.slice a3 l3 c3)) (.int .i64 ((next : Int) + 1)) (by omega)
        rw [← hx20] at hs ho hbs
        replace h3 := Lib.hid ((ho _ (by omega)).trans h3.out)
        replace h4 := Lib.hid ((ho _ (by omega)).trans h4.out)
        replace hB := Lib.hid (hB.out.trans hbs)
        replace hrow := Lib.hid (hrow.out.far h5.out (by decide) ho)
        replace h5 := Lib.hid hs
        clear hs ho hbs hx20
        replace hq := h3
        refine hKc _ _ hq.out (fun _ => ?_)
        clear hKc K
        try simp only [List.setIfInBounds_toArray, List.set_cons_zero, List.set_cons_succ]
        refine wpAnyH_done (by kernel_rfl) ?_ _
        go_wp2_with fail
        obtain ⟨⟨r0, r1, r2⟩, -⟩ := c3_cells h4.out
        obtain ⟨⟨r3, r4, r5⟩, -⟩ := c3_cells h5.out
        refine bodyPost_ret (v := .tuple #[.agg #[.int .i64 1, .int .i64 (next : Nat), .slice none 0 0], .agg #[(.slice ab lb cb), (.slice a3 l3 c3), .int .i64 ((next : Int) + 1)]]) (by simp [results, Tryz.f72, go_sem, r0, r1, r2, r3, r4, r5]) rfl ?_
        exact ⟨none, 0, 0, (.slice a3 l3 c3), free ++ [(n, (next : Int))], by simp [Tm.op, Tm.n], Fresh.leaf _ _ _ _, hrow.out, by rw [lookP_snoc], by simp; omega, hB.out⟩

end Go.Proofs.YtaieplfegngjnaaGreat

namespace Go.Proofs.YtaieplfegngjnaaGreat
open Go.RowKit Go.Shelf Go.Sort

theorem grow_keep {X w2 : World} {o o2 : Obj} {B : Nat} {row : Option Nat} (hg : (X.alloc o).grownBy w2 row) (hne : row ≠ some B) (h : X.heap[B]? = some o2) : w2.heap[B]? = some o2 := by
  have hlt := (Array.getElem?_eq_some_iff.1 h).1
  exact (hg.block B (by simp; omega) (fun e => hne e.symm)).trans (heap_old h)
theorem set3_size (W : World) (B : Nat) (x y z : Value) {Z : World} (h : Z = (((W.setCell ⟨B, 0, none⟩ x).setCell ⟨B, 1, none⟩ y).setCell ⟨B, 2, none⟩ z)) : W.heap.size ≤ Z.heap.size := by
  rw [h]; exact (set3_below (w := W) (B := B) (n := B) x y z (Nat.le_refl _)).size

theorem len_sizes : ∀ (ks : List Tm), ks.length ≤ sizes ks
  | [] => by simp
  | t :: ts => by
    have h1 := len_sizes ts
    have h2 := size_pos t
    simp only [List.length_cons, sizes]
    omega

structure KidsAt (w : World) (k : Nat) (F : Nat → Tm) (op nn : Int) (va : Option Addr) (vl vc : Nat) (K : List Kd) (wr : World) : Prop where
  r1 : K.map (·.t) = (List.range k).map F
  r2 : wr.heap[w.heap.size + 1 + 1 + 1 + 1]? = some (.cells #[.int .i64 op, .int .i64 nn, .slice va vl vc] 28 (0, 0))
  r4 : wr.ownsRow (w.heap.size + 5) 28 3 (.slice va vl vc) k (flat K)
  r5 : ∀ x ∈ K, TmP (fun b => w.heap.size + 5 ≤ b ∧ (Value.slice va vl vc).ownBlock ≠ some b) wr x.t x.a x.l x.c

theorem KidsAt.far {w : World} {k : Nat} {F : Nat → Tm} {op nn : Int} {va : Option Addr} {vl vc : Nat} {K : List Kd} {wr W : World} (h : KidsAt w k F op nn va vl vc K wr)
    (hA : ∀ j, w.heap.size + 4 ≤ j → j < wr.heap.size → W.heap[j]? = wr.heap[j]?) : KidsAt w k F op nn va vl vc K W := by
  have hlt := (Array.getElem?_eq_some_iff.1 h.r2).1
  exact ⟨h.r1, (hA _ (by omega) hlt).trans h.r2, own_stays h.r4 (fun g hg hl => hA g (by omega) hl), fun x hx => TmP.move (fun b hb hl => ⟨hb, hA b (by omega) hl⟩) _ (h.r5 x hx)⟩
theorem KidsAt.below {w : World} {k : Nat} {F : Nat → Tm} {op nn : Int} {va : Option Addr} {vl vc : Nat} {K : List Kd} {wr W : World} (h : KidsAt w k F op nn va vl vc K wr)
    (hb : Below wr.heap.size wr W) : KidsAt w k F op nn va vl vc K W := h.far (fun j _ hj => hb.block j hj)

theorem KidsAt.step {w : World} {k : Nat} {F : Nat → Tm} {op nn : Int} {va : Option Addr} {vl vc : Nat} {K : List Kd} {W2 W3 : World} {t : Tm} {a' : Option Addr} {l' c' g cap lo : Nat} {o' : Obj}
    (h : KidsAt w k F op nn va vl vc K W2) (ht : t = F k) (hlo : w.heap.size + 5 ≤ lo) (hown2 : ∀ j, (Value.slice va vl vc).ownBlock = some j → j < lo)
    (hk : TmP (fun b => lo ≤ b ∧ b < W2.heap.size) W2 t a' l' c')
    (hgrow : (W2.alloc o').grownBy W3 (Value.slice va vl vc).ownBlock)
    (hown : W3.ownsRow (w.heap.size + 5) 28 3 (.slice (some ⟨g, 0, none⟩) (k + 1) cap) (k + 1) (flat K ++ [.int .i64 t.op, .int .i64 t.n, .slice a' l' c']))
    (hat : (Value.slice va vl vc).ownBlock = some g ∨ g = W2.heap.size + 1) :
    KidsAt w (k + 1) F op nn (some ⟨g, 0, none⟩) (k + 1) cap (K ++ [⟨t, a', l', c'⟩]) (W3.setCell ⟨w.heap.size + 1 + 1 + 1 + 1, 2, none⟩ (.slice (some ⟨g, 0, none⟩) (k + 1) cap)) := by
  have hz1 := (Array.getElem?_eq_some_iff.1 h.r2).1
  have hnb : ∀ j, (Value.slice va vl vc).ownBlock = some j → w.heap.size + 5 ≤ j ∧ j < W2.heap.size := fun j e => own_base h.r4 e
  have hfar : ∀ j, j < W2.heap.size → (Value.slice va vl vc).ownBlock ≠ some j → W3.heap[j]? = W2.heap[j]? := fun j hj hne => (hgrow.block j (by simp; omega) (fun e => hne e.symm)).trans (Below.heap_alloc W2 o' j hj)
  have hset : ∀ j, j ≠ w.heap.size + 1 + 1 + 1 + 1 → (W3.setCell ⟨w.heap.size + 1 + 1 + 1 + 1, 2, none⟩ (.slice (some ⟨g, 0, none⟩) (k + 1) cap)).heap[j]? = W3.heap[j]? := fun j e => heap_setCell_other _ _ _ _ e
  have hg3 : w.heap.size + 5 ≤ g := by
    rcases hat with e | e
    · exact (hnb g e).1
    · omega
  refine ⟨?_, ?_, ?_, ?_⟩
  · simp [List.range_succ, h.r1, ht]
  · have e2 := (hfar (w.heap.size + 1 + 1 + 1 + 1) hz1 (fun e => by have := (hnb _ e).1; omega)).trans h.r2
    rw [heap_setCell_same W3 _ 2 _ 28 _ e2]; rfl
  · rw [flat_snoc]
    exact own_stays hown (fun j hj _ => hset j (by omega))
  · intro x hx
    have hne : ∀ j, j < W2.heap.size → (Value.slice va vl vc).ownBlock ≠ some j → (Value.slice (some ⟨g, 0, none⟩) (k + 1) cap).ownBlock ≠ some j := fun j hj hn e => by
      have : g = j := by simpa [Value.ownBlock] using e
      subst this
      rcases hat with e | e
      · exact hn e
      · omega
    rcases List.mem_append.1 hx with hx | hx
    · refine TmP.move (fun b hb hlt => ⟨⟨hb.1, hne b hlt hb.2⟩, ?_⟩) _ (h.r5 x hx)
      rw [hset b (by omega)]
      exact hfar b hlt hb.2
    · obtain rfl := List.mem_singleton.1 hx
      refine TmP.move (fun b hb hlt => ?_) _ hk
      have hnb' : (Value.slice va vl vc).ownBlock ≠ some b := fun e => by have := hown2 b e; omega
      refine ⟨⟨by omega, hne b hb.2 hnb'⟩, ?_⟩
      rw [hset b (by omega)]
      exact hfar b hlt hnb'

/-- What stands in front of the kid k. -/
structure RelO (w : World) (x2 : Obj) (F : Nat → Tm) (st : Nat → OS) (op nn : Int) (vb : Value) (k : Nat) (wr : World) : Prop where
  kids : ∃ K va vl vc, KidsAt w k F op nn va vl vc K wr
  h2 : wr.heap[w.heap.size]? = some x2
  free : ∃ vf free, wr.heap[w.heap.size + 1]? = some (scB vb vf ((st k).count : Nat)) ∧ PRow wr 0 vf free ∧ lookP free = (st k).free ∧ free.length ≤ (st k).count
  h4 : wr.heap[w.heap.size + 1 + 1]? = some zT
  h5 : wr.heap[w.heap.size + 1 + 1 + 1]? = some zS
  hB : Below w.heap.size w wr

theorem PRow.grow {x W : World} {o' : Obj} {b : Nat} {row : Option Nat} {v : Value} {l : Prs} (h : PRow x b v l) (hg : (x.alloc o').grownBy W row) (hr : ∀ q, row = some q → ∃ cs fr, x.heap[q]? = some (.cells cs 28 fr)) : PRow W b v l := by
  refine ⟨h.1, ?_⟩
  rcases h.2 with h2 | ⟨g, cap, cur, h2, h3, h4, h5, h6, h7⟩
  · exact .inl h2
  · have hlt := (Array.getElem?_eq_some_iff.1 h4).1
    refine .inr ⟨g, cap, cur, h2, h3, ((hg.block g (by simp; omega) (fun e => ?_)).trans (Below.heap_alloc x o' g hlt)).trans h4, h5, h6, h7⟩
    obtain ⟨cs, fr, h8⟩ := hr g e.symm
    rw [h4] at h8
    simp only [Option.some.injEq, Obj.cells.injEq] at h8
    exact absurd h8.2.1 (by decide)
theorem own_type {w : World} {base n size : Nat} {e : TypeId} {v : Value} {xs : List Value} (h : w.ownsRow base e size v n xs) : ∀ q, v.ownBlock = some q → ∃ cs fr, w.heap[q]? = some (.cells cs e fr) := by
  intro q hq
  rcases h.2 with ⟨h0, _⟩ | ⟨g, cap, cur, hv, hb, hg, _⟩
  · subst h0; cases hq
  · subst hv; cases hq; exact ⟨_, _, hg⟩

theorem RelO.next {w : World} {x2 : Obj} {F : Nat → Tm} {st : Nat → OS} {op nn : Int} {vb vb0 vb1 vf0 vf2 : Value} {c0 : Int} {k : Nat} {X w2 : World} {va : Option Addr} {vl vc : Nat} {K : List Kd} {free2 : Prs} {t : Tm} {a' : Option Addr} {l' c' g cap lo : Nat} {o' : Obj} {cn : Nat}
    (hK : KidsAt w k F op nn va vl vc K X) (h2 : X.heap[w.heap.size]? = some x2) (h3 : X.heap[w.heap.size + 1]? = some (scB vb0 vf0 c0)) (h4 : X.heap[w.heap.size + 1 + 1]? = some zT) (h5 : X.heap[w.heap.size + 1 + 1 + 1]? = some zS) (hB : Below w.heap.size w X)
    (hrow : PRow X 0 vf2 free2) (hlook : lookP free2 = (st (k + 1)).free) (hlen : free2.length ≤ (st (k + 1)).count) (hcn : cn = (st (k + 1)).count)
    (ht : t = F k) (hlo : w.heap.size + 5 ≤ lo) (hown2 : ∀ j, (Value.slice va vl vc).ownBlock = some j → j < lo) (hk : TmP (fun b => lo ≤ b ∧ b < X.heap.size) X t a' l' c')
    (hgrow : (X.alloc o').grownBy w2 (Value.slice va vl vc).ownBlock)
    (hown : w2.ownsRow (w.heap.size + 5) 28 3 (.slice (some ⟨g, 0, none⟩) (k + 1) cap) (k + 1) (flat K ++ [.int .i64 t.op, .int .i64 t.n, .slice a' l' c']))
    (hat : (Value.slice va vl vc).ownBlock = some g ∨ g = X.heap.size + 1) :
    RelO w x2 F st op nn vb (k + 1) (((((w2.setCell ⟨w.heap.size + 1 + 1 + 1 + 1, 2, none⟩ (.slice (some ⟨g, 0, none⟩) (k + 1) cap)).setCell ⟨w.heap.size + 1, 0, none⟩ vb1).setCell ⟨w.heap.size + 1, 1, none⟩ vf2).setCell ⟨w.heap.size + 1, 2, none⟩ (.int .i64 (cn : Nat))).setCell ⟨w.heap.size + 1, 0, none⟩ vb) := by
  have hKs := hK.step ht hlo hown2 hk hgrow hown hat
  have hz8 := (Array.getElem?_eq_some_iff.1 hK.r2).1
  obtain ⟨Y, hY⟩ : ∃ Y, Y = w2.setCell ⟨w.heap.size + 1 + 1 + 1 + 1, 2, none⟩ (.slice (some ⟨g, 0, none⟩) (k + 1) cap) := ⟨_, rfl⟩
  rw [← hY] at hKs ⊢
  have hnb : ∀ j, (Value.slice va vl vc).ownBlock = some j → w.heap.size + 5 ≤ j := fun j e => (own_base hK.r4 e).1
  have hlow : ∀ j, j < w.heap.size + 4 → Y.heap[j]? = X.heap[j]? := fun j hj => by
    rw [hY, heap_setCell_other _ _ _ _ (by simp; omega)]
    exact (hgrow.block j (by simp; omega) (fun e => by have := hnb j e.symm; omega)).trans (Below.heap_alloc X o' j (by omega))
  have hrow' : PRow Y 0 vf2 free2 := by
    have h6 := hrow.grow hgrow (own_type hK.r4)
    have h7 : w2.heap[w.heap.size + 1 + 1 + 1 + 1]? = _ := (hgrow.block _ (by simp; omega) (fun e => by have := hnb _ e.symm; omega)).trans ((Below.heap_alloc X o' _ hz8).trans hK.r2)
    rw [hY]
    exact h6.far h7 (by decide) (fun k hk => heap_setCell_other _ _ _ _ hk)
  have hBY : Below w.heap.size w Y := by
    rw [hY]
    exact ((hB.alloc hB.size o').grown hgrow (by simp; omega) (fun q hq => by have := hnb q hq; omega)).setCell (p := ⟨w.heap.size + 1 + 1 + 1 + 1, 2, none⟩) (by simp; omega) _
  have y3 := (hlow (w.heap.size + 1) (by omega)).trans h3
  obtain ⟨Z, hZ⟩ : ∃ Z, Z = ((((Y.setCell ⟨w.heap.size + 1, 0, none⟩ vb1).setCell ⟨w.heap.size + 1, 1, none⟩ vf2).setCell ⟨w.heap.size + 1, 2, none⟩ (.int .i64 (cn : Nat))).setCell ⟨w.heap.size + 1, 0, none⟩ vb) := ⟨_, rfl⟩
  rw [← hZ]
  have hset : ∀ j, j ≠ w.heap.size + 1 → Z.heap[j]? = Y.heap[j]? := fun j hj => by
    rw [hZ, heap_setCell_other _ _ _ _ hj]; exact set3_other (B := w.heap.size + 1) _ _ _ hj
  have z3 : Z.heap[w.heap.size + 1]? = some (scB vb vf2 ((st (k + 1)).count : Nat)) := by
    have h8 := set3 vb1 vf2 (.int .i64 (cn : Nat)) y3
    rw [hZ, heap_setCell_same _ _ 0 _ 96 vb h8, hcn]; rfl
  refine ⟨⟨_, _, _, _, hKs.far (fun j hj _ => hset j (by omega))⟩, (hset _ (by omega)).trans ((hlow _ (by omega)).trans h2), ⟨vf2, free2, z3, hrow'.far y3 (by decide) (fun j hj => hset j hj), hlook, hlen⟩,
    (hset _ (by omega)).trans ((hlow _ (by omega)).trans h4), (hset _ (by omega)).trans ((hlow _ (by omega)).trans h5), ?_⟩
  rw [hZ]
  exact (hBY.trans (set3_below (B := w.heap.size + 1) vb1 vf2 (.int .i64 (cn : Nat)) (by omega))).setCell (p := ⟨w.heap.size + 1, 0, none⟩) (by simp) _

end Go.Proofs.YtaieplfegngjnaaGreat

namespace Go.Proofs.YtaieplfegngjnaaGreat
open Go.RowKit Go.Shelf

/-! Shape -/
mutual
def isSh : Tm → Bool
  | .mk op _ ks => isShs ks && (op == 1 || op == 3)
def isShs : List Tm → Bool
  | [] => true
  | t :: ts => isSh t && isShs ts
end
theorem isSh_eq (t : Tm) : isSh t = (isShs t.kids && (t.op == 1 || t.op == 3)) := by cases t; rfl
theorem isShs_append (a b : List Tm) : isShs (a ++ b) = (isShs a && isShs b) := by
  induction a with
  | nil => simp [isShs]
  | cons t a ih => simp [isShs, ih, Bool.and_assoc]
theorem isShs_take_succ (ks : List Tm) (k : Nat) (h : k < ks.length) : isShs (ks.take (k + 1)) = (isShs (ks.take k) && isSh ks[k]) := by
  rw [List.take_succ_eq_append_getElem h, isShs_append]; simp [isShs]
theorem isShs_false (ks : List Tm) (k : Nat) (h : k < ks.length) (hf : isSh ks[k] = false) : isShs ks = false := by
  have h1 := isShs_take_succ ks k h
  have h2 := isShs_append (ks.take (k + 1)) (ks.drop (k + 1))
  rw [List.take_append_drop, h1, hf] at h2; simpa using h2

set_option maxHeartbeats 400000 in
theorem shape_any (N : Nat) : ∀ (t : Tm) (n₀ : Nat) (w : World) (a : Option Addr) (l c : Nat), t.size ≤ N → IsTm n₀ w t a l c → n₀ ≤ w.heap.size →
    Calls Tryz.prog 61 #[.agg #[.int .i64 t.op, .int .i64 t.n, .slice a l c]] w fun e w' => e = .returned (.bool (isSh t)) ∧ Below w.heap.size w w' := by
  induction N with
  | zero => intro t _ _ _ _ _ h; have := size_pos t; omega
  | succ N ih =>
    intro t n₀ w a l c hs ht hn
    replace ih := Lib.hid ih
    obtain ⟨rfl, hlc, hc, hk⟩ := ht.open
    have hsz := Lib.hid (size_eq t)
    have hsb : sizes t.kids ≤ N := by have := hsz.out; omega
    have hv := Lib.hid (isSh_eq t)
    go_enter Tryz.func61, Tryz.ntmps61
    go_wp2_with fail
    go_loopw [3] (fun i wr => ∃ k : Nat, k ≤ t.kids.length ∧ i = .int .i64 k ∧ Hid (isShs (t.kids.take k) = true) ∧ Below (w.heap.size + 1) (w.alloc (.cells #[.int .i64 t.op, .int .i64 t.n, .slice a t.kids.length c] 28)) wr) (fun i _ => t.kids.length - (intOf i).toNat)
    case atStart => exact ⟨0, by omega, rfl, Lib.hid (by simp [isShs]), Below.refl _ _⟩
    case round =>
      obtain ⟨k, hk1, rfl, hvk, hb⟩ := hrel
      have hbw := ((Below.refl w.heap.size w).alloc (Nat.le_refl _) _).trans (hb.mono (Nat.le_succ _))
      have hz := hb.size
      rw [World.size_alloc] at hz
      have hc0 : wr.cell? ⟨w.heap.size, 0, none⟩ = some (.int .i64 t.op) := by rw [hb.cell (by simp)]; go_cell
      have hc2 : wr.cell? ⟨w.heap.size, 2, none⟩ = some (.slice a t.kids.length c) := by rw [hb.cell (by simp)]; go_cell
      by_cases hlt : k < t.kids.length
      · rcases hk with hk | ⟨b, off, rfl, hbn, hks⟩
        · rw [hk] at hlt; simp at hlt
        obtain ⟨a', l', c', hc3, ht'⟩ := IsKids.get _ hks k hlt
        have hc3 := hc3.below (hbw.mono hn) hbn
        have ht' := (IsTm.below (hbw.mono hn) _ ht')
        obtain ⟨d0, d1, d2⟩ := hc3
        have hsk := size_kid t.kids k hlt
        have hS := ih.out t.kids[k] n₀ wr a' l' c' (by omega) ht' (by omega)
        have hvs := Lib.hid (isShs_take_succ t.kids k hlt)
        have hvf := Lib.hid (isShs_false t.kids k hlt)
        clear hks ht ht'
        cases hbv : isSh t.kids[k]
        all_goals
          rw [hbv] at hS
          replace hS := Lib.hid hS
          replace hbv := Lib.hid hbv
          go_wp2_with (go_at_call 61; refine (hS.out).mono ?_; rintro e w' ⟨rfl, hb'⟩)
        · go_ret
          exact ⟨by rw [hv.out, hvf.out hbv.out]; rfl, hbw.trans (hb'.mono (by omega))⟩
        · go_roundw
          case rel => exact ⟨k + 1, by omega, by go_num, Lib.hid (by rw [hvs.out, hvk.out, hbv.out]; rfl), hb.trans (hb'.mono hz)⟩
          case measure => simp [intOf]; omega
      · have : k = t.kids.length := by omega
        subst this
        have hvt : Hid (isShs t.kids = true) := by have := hvk.out; rw [List.take_length] at this; exact this
        clear hvk
        go_wp2_with fail
        all_goals
          go_ret
          exact ⟨by rw [hv.out, hvt.out]; first | (simp [*]; done) | (simp [*]; omega), hbw⟩


set_option maxRecDepth 100000 in
set_option maxHeartbeats 400000 in
theorem has_any (l : List Int) (m : Int) (n₀ : Nat) (w : World) (a : Option Addr) (la ca : Nat) (hA : IsInts n₀ w l a la ca) :
    Calls Tryz.prog 91 #[.slice a la ca, .int .i64 m] w fun e w' => e = .returned (.bool (decide (m ∈ l))) ∧ w = w' := by
  obtain ⟨rfl, ha1, ha2, hka⟩ := hA
  go_enter Tryz.func91, Tryz.ntmps91
  go_wp2_with fail
  go_loopw [5] (fun i wi => ∃ k : Nat, k ≤ l.length ∧ i = .int .i64 k ∧ wi = w ∧ Hid (∀ j (hj : j < l.length), j < k → l[j] ≠ m)) (fun i _ => l.length - (intOf i).toNat)
  case atStart => exact ⟨0, by omega, rfl, rfl, Lib.hid (fun j h h0 => by omega)⟩
  case round =>
    obtain ⟨k, hkk, rfl, rfl, hall⟩ := hrel
    by_cases hp : k < l.length
    · have o3 : (k : Int) < (l.length : Int) := by omega
      rcases hka with hka | ⟨b1, off1, rfl, hbn1, hks1⟩
      · rw [hka] at hp; simp at hp
      have c0 := hks1 k hp
      obtain ⟨x, hx⟩ : ∃ x, x = l[k] := ⟨_, rfl⟩
      rw [← hx] at c0
      replace hx := Lib.hid hx
      clear hks1
      by_cases he : x = m
      · have hv : Hid (decide (m ∈ l) = true) := Lib.hid (by rw [decide_eq_true_eq, ← he, hx.out]; exact List.getElem_mem hp)
        have o4 : (x == m) = true := by simpa using he
        replace he := Lib.hid he
        clear hall
        go_wp2_with fail
        go_ret
        exact ⟨by rw [hv.out]; rfl, rfl⟩
      · have o4 : (x == m) = false := by simpa using he
        have hall' : Hid (∀ j (hj : j < l.length), j < k + 1 → l[j] ≠ m) := Lib.hid (fun j hj h => by
          by_cases e : j = k
          · subst e; rw [← hx.out]; exact he
          · exact hall.out j hj (by omega))
        replace he := Lib.hid he
        clear hall
        go_wp2_with fail
        go_roundw
        case rel => exact ⟨k + 1, by omega, by go_num, by trivial, hall'⟩
        case measure => simp [intOf]; omega
    · have o3 : ¬ (k : Int) < (l.length : Int) := by omega
      have hv : Hid (decide (m ∈ l) = false) := Lib.hid (by
        rw [decide_eq_false_iff_not]; intro h
        obtain ⟨j, hj, e⟩ := List.getElem_of_mem h
        exact hall.out j hj (by omega) e)
      clear hall hka
      go_wp2_with fail
      go_ret
      exact ⟨by rw [hv.out]; rfl, rfl⟩

end Go.Proofs.YtaieplfegngjnaaGreat

namespace Go.Proofs.YtaieplfegngjnaaGreat
open Go.RowKit Go.Shelf Go.Sort

/-! Once -/
mutual
/-- The variables met, and whether each stood once; the walk ends at the first that does not. -/
def onceT : Tm → (Nat → Bool) → (Nat → Bool) × Bool
  | .mk op n ks, met => if op = 1 then (setB met n.toNat true, !met n.toNat) else onceKs ks met
def onceKs : List Tm → (Nat → Bool) → (Nat → Bool) × Bool
  | [], met => (met, true)
  | t :: ts, met => if (onceT t met).2 = true then onceKs ts (onceT t met).1 else (onceT t met)
end
theorem onceT_eq (t : Tm) (met : Nat → Bool) : onceT t met = if t.op = 1 then (setB met t.n.toNat true, !met t.n.toNat) else onceKs t.kids met := by cases t; rfl
theorem onceKs_take_succ : ∀ (ks : List Tm) (k : Nat) (h : k < ks.length) (met : Nat → Bool), (onceKs (ks.take k) met).2 = true → onceKs (ks.take (k + 1)) met = onceT ks[k] (onceKs (ks.take k) met).1
  | t :: ts, 0, _, met, _ => by
    simp only [List.take_succ_cons, List.take_zero, onceKs, List.getElem_cons_zero]
    split
    · next h => exact Prod.ext rfl h.symm
    · rfl
  | t :: ts, k + 1, h, met, hk => by
    simp only [List.take_succ_cons, List.getElem_cons_succ] at *
    rw [onceKs] at hk
    rw [onceKs]
    split at hk
    · next h1 =>
      rw [if_pos h1]
      have h2 := onceKs_take_succ ts k (by simpa using h) (onceT t met).1 hk
      rw [h2]
      congr 2
      rw [onceKs, if_pos h1]
    · next h1 => exact absurd hk h1
theorem onceKs_stop : ∀ (ks : List Tm) (k : Nat) (h : k < ks.length) (met : Nat → Bool), (onceKs (ks.take k) met).2 = true → (onceT ks[k] (onceKs (ks.take k) met).1).2 = false → onceKs ks met = onceT ks[k] (onceKs (ks.take k) met).1
  | t :: ts, 0, _, met, _, hf => by
    simp only [List.take_zero, onceKs, List.getElem_cons_zero] at *
    rw [if_neg (by rw [hf]; simp)]
  | t :: ts, k + 1, h, met, hk, hf => by
    simp only [List.take_succ_cons, List.getElem_cons_succ] at *
    rw [onceKs] at hk
    by_cases h1 : (onceT t met).2 = true
    · rw [if_pos h1] at hk
      have e : onceKs (t :: List.take k ts) met = onceKs (List.take k ts) (onceT t met).1 := by rw [onceKs, if_pos h1]
      rw [e] at hf ⊢
      rw [onceKs, if_pos h1]
      exact onceKs_stop ts k (by simpa using h) _ hk hf
    · rw [if_neg h1] at hk; exact absurd hk h1

/-! Pattern, as the program has it -/
theorem patRun_ok : ∀ (l : List Nd) (met : Nat → Bool), patRun l met = true → ∀ x ∈ l, x.2.op = 1 ∨ x.2.op = 3
  | [], _, _ => by simp
  | x :: r, met, h => by
    rw [patRun, Bool.and_eq_true] at h
    intro y hy
    rcases List.mem_cons.1 hy with rfl | hy
    · have := h.1
      unfold patOk at this
      simp only [Bool.or_eq_true, Bool.and_eq_true, beq_iff_eq] at this
      rcases this with h | h
      · exact .inl h.1
      · exact .inr h
    · exact patRun_ok r _ h.2 y hy

mutual
theorem pat_once : ∀ (d : DT) (dep : Nat) (met : Nat → Bool), OkV d.tm → (patRun (d.pre dep) met = ((onceT d.tm met).2 && isSh d.tm)) ∧ (patRun (d.pre dep) met = true → metsOf (d.pre dep) met = (onceT d.tm met).1)
  | .mk op n a l c ks, dep, met, hO => by
    rw [DT.tm, OkV] at hO
    rw [DT.pre, DT.tm, onceT, isSh, patRun, metsOf]
    by_cases h1 : op = 1
    · subst h1
      have hk : tms ks = [] := hO.2.1 rfl
      have hks : ks = [] := by cases ks with | nil => rfl | cons d ds => rw [tms] at hk; cases hk
      subst hks
      simp [pres, patRun, metsOf, patOk, metN, isShs, tms, DT.op, DT.n]
    · rw [if_neg h1]
      obtain ⟨i1, i2⟩ := pats_once ks (dep + 1) met hO.2.2.2
      have e : metN met op n = met := by unfold metN; rw [if_neg h1]
      show (patOk met op n && patRun (pres ks (dep + 1)) (metN met op n)) = _ ∧ ((patOk met op n && patRun (pres ks (dep + 1)) (metN met op n)) = true → metsOf (pres ks (dep + 1)) (metN met op n) = _)
      rw [e, i1]
      have e2 : patOk met op n = (op == 1 || op == 3) := by
        have hb : (op == 1) = false := beq_eq_false_iff_ne.2 h1
        unfold patOk; rw [hb]; rfl
      rw [e2]
      constructor
      · cases (onceKs (tms ks) met).2 <;> cases isShs (tms ks) <;> cases (op == 1 || op == 3) <;> rfl
      · intro h
        rw [Bool.and_eq_true] at h
        exact i2 (by rw [i1]; exact h.2)
theorem pats_once : ∀ (ds : List DT) (dep : Nat) (met : Nat → Bool), OkVs (tms ds) → (patRun (pres ds dep) met = ((onceKs (tms ds) met).2 && isShs (tms ds))) ∧ (patRun (pres ds dep) met = true → metsOf (pres ds dep) met = (onceKs (tms ds) met).1)
  | [], dep, met, _ => by simp [pres, tms, onceKs, isShs, patRun, metsOf]
  | d :: ds, dep, met, hO => by
    rw [tms, OkVs] at hO
    rw [pres, tms, onceKs, isShs, patRun_append, metsOf_append]
    obtain ⟨i1, i2⟩ := pat_once d dep met hO.1
    cases hp : patRun (d.pre dep) met
    · rw [hp] at i1
      constructor
      · by_cases ho : (onceT d.tm met).2 = true
        · rw [if_pos ho]; rw [ho] at i1
          have : isSh d.tm = false := by simpa using i1.symm
          rw [this]; simp
        · rw [if_neg ho]; rw [Bool.not_eq_true] at ho; rw [ho]; simp
      · intro h; simp at h
    · rw [hp] at i1
      have h2 := i1.symm
      rw [Bool.and_eq_true] at h2
      rw [if_pos h2.1, i2 hp, h2.2]
      obtain ⟨j1, j2⟩ := pats_once ds dep (onceT d.tm met).1 hO.2
      constructor
      · rw [Bool.true_and, Bool.true_and]; exact j1
      · intro h; rw [Bool.true_and] at h; exact j2 h
end
theorem pattern_eq (d : DT) (h : OkV d.tm) : patternB d = ((onceT d.tm (fun _ => false)).2 && isSh d.tm) := (pat_once d 1 _ h).1

/-! Ground -/
theorem valOp_ne8 {op : Int} (h : valOp op = true) : op ≠ 8 := by rintro rfl; revert h; decide
mutual
theorem fv_ground : ∀ (t : Tm), OkV t → valueB t = true → ((∀ i, i < 20 → fvT t i = false) ↔ groundB t = true)
  | .mk op n ks, hO, hv => by
    rw [OkV] at hO
    unfold valueB at hv
    rw [allN, Bool.and_eq_true] at hv
    unfold groundB
    rw [allN, Bool.and_eq_true, fvT]
    rw [fvs_ground ks op n 0 _ (valOp_ne8 hv.1) hO.2.2.2 hv.2]
    refine and_congr ?_ Iff.rfl
    by_cases h1 : op = 1
    · constructor
      · intro h
        have h2 := hO.1 (.inl h1)
        have h3 := h n.toNat (by omega)
        simp [h1] at h3
        omega
      · intro h; simp [h1] at h
    · simp [h1]
theorem fvs_ground : ∀ (ks : List Tm) (op n : Int) (k : Nat) (acc : Nat → Bool), op ≠ 8 → OkVs ks → allNs (fun op _ => valOp op) ks = true → ((∀ i, i < 20 → fvKs op n ks k acc i = false) ↔ (∀ i, i < 20 → acc i = false) ∧ allNs (fun op _ => !(op == 1)) ks = true)
  | [], op, n, k, acc, _, _, _ => by simp [fvKs, allNs]
  | t :: ts, op, n, k, acc, h8, hO, hv => by
    rw [OkVs] at hO
    rw [allNs, Bool.and_eq_true] at hv
    rw [fvKs, if_neg (fun h => h8 h.1), fvs_ground ts op n (k + 1) _ h8 hO.2 hv.2, allNs, Bool.and_eq_true]
    have e := fv_ground t hO.1 hv.1
    unfold groundB at e
    rw [← e, ← and_assoc]
    refine and_congr ?_ Iff.rfl
    constructor
    · intro h
      exact ⟨fun i hi => by have := h i hi; unfold orSet at this; rw [Bool.or_eq_false_iff] at this; exact this.1, fun i hi => by have := h i hi; unfold orSet at this; rw [Bool.or_eq_false_iff] at this; exact this.2⟩
    · intro h i hi
      unfold orSet; rw [h.1 i hi, h.2 i hi]; rfl
end
theorem ground_nil {t : Tm} (hO : OkV t) (hv : valueB t = true) : (listTo (fvT t) 20).length = 0 ↔ groundB t = true := by
  rw [← fv_ground t hO hv, List.length_eq_zero_iff, List.eq_nil_iff_forall_not_mem]
  constructor
  · intro h i hi
    cases he : fvT t i
    · rfl
    · exact absurd (mem_listTo.2 ⟨hi, he⟩) (h i)
  · intro h i hm
    obtain ⟨h1, h2⟩ := mem_listTo.1 hm
    rw [h i h1] at h2; cases h2

end Go.Proofs.YtaieplfegngjnaaGreat

namespace Go.Proofs.YtaieplfegngjnaaGreat
open Go.RowKit Go.Shelf Go.Sort

def intsOf (l : List Nat) : List Int := l.map fun (x : Nat) => (x : Int)
theorem row_ints {w : World} {base : Nat} {v : Value} {l : List Nat} (h : w.ownsRow base 3 1 v l.length (natVals l)) : ∃ av cv, v = .slice av l.length cv ∧ IsInts w.heap.size w (intsOf l) av l.length cv := by
  obtain ⟨av, cv, h1, h2, h3, h4⟩ := owns_ints h
  refine ⟨av, cv, h1, by simp [intsOf], h2, by unfold maxLen at h3; omega, ?_⟩
  rcases h4.out with ⟨h5, _⟩ | ⟨g, h5, h6, h7, h8⟩
  · left; rw [h5]; rfl
  · refine .inr ⟨g, 0, h5, h7, fun k hk => ?_⟩
    rw [Nat.zero_add, h8 k (by simpa [intsOf] using hk)]
    simp [intsOf]
theorem mem_intsOf {f : Nat → Bool} {n : Nat} (h : n < 20) : decide ((n : Int) ∈ intsOf (listTo f 20)) = f n := by
  have e : (n : Int) ∈ intsOf (listTo f 20) ↔ n ∈ listTo f 20 := by
    unfold intsOf
    rw [List.mem_map]
    constructor
    · rintro ⟨x, hx, he⟩; have : x = n := by omega
      subst this; exact hx
    · intro h; exact ⟨n, h, rfl⟩
  cases hf : f n
  · rw [decide_eq_false_iff_not, e, mem_listTo]; simp [hf]
  · rw [decide_eq_true_eq, e, mem_listTo]; exact ⟨h, hf⟩
theorem has_row (f : Nat → Bool) {n : Nat} (hn : n < 20) {w : World} {base : Nat} {v : Value} (h : w.ownsRow base 3 1 v (listTo f 20).length (natVals (listTo f 20))) :
    Calls Tryz.prog 91 #[v, .int .i64 n] w fun e w' => e = .returned (.bool (f n)) ∧ w = w' := by
  obtain ⟨av, cv, rfl, hi⟩ := row_ints h
  have := has_any (intsOf (listTo f 20)) n w.heap.size w av _ cv hi
  rw [mem_intsOf hn] at this
  exact this

theorem wp_call2 {P : Program} {o : Oper} {a : Act} {w : World} {K : Act → World → Prop} {Q : Exit → Act → World → Prop} {x y : Operand} {f : FuncId} {ts : Array TypeId} {u v : Value} {d : Tmp}
    (ho : o.op = .call { callee := .value (.func f), args := #[x, y], argTypes := ts }) (hd : o.dst = some d) (hf : (callFunc f #[u, v]).run P w = .ok (.enter f #[u, v]) w) (hx : a.eval x = u) (hy : a.eval y = v)
    (h : Calls P f #[u, v] w fun e w' => ∃ r, e = .returned r ∧ K { tmps := a.tmps.setIfInBounds d r, defers := a.defers } w') : o.wp P a w K Q := by
  have e : (execOp a.eval o).run P w = .ok (.enter f #[u, v]) w := by
    unfold execOp
    unfold Act.eval at hx hy
    simp only [ho, resolve, invoke, Deferred.ofValue, Act.eval, Sem.run_bind, Sem.run_pure, Result.andThen_ok, List.map_toArray, List.map_cons, List.map_nil, hx, hy, Array.append_empty]
    exact hf
  unfold Oper.wp
  rw [e, Oper.upon_enter, hd]
  refine h.mono ?_
  rintro e w' ⟨r, rfl, hk⟩
  exact hk

set_option maxRecDepth 100000 in
set_option maxHeartbeats 4000000 in
theorem once_any (N : Nat) : ∀ (t : Tm) (f : Nat → Bool) (n₀ : Nat) (w : World) (a : Option Addr) (l c : Nat) (base : Nat) (v : Value), t.size ≤ N → IsTm n₀ w t a l c → OkV t → n₀ ≤ w.heap.size → w.ownsRow base 3 1 v (listTo f 20).length (natVals (listTo f 20)) → base ≤ w.heap.size →
    Calls Tryz.prog 60 #[.agg #[.int .i64 t.op, .int .i64 t.n, .slice a l c], v] w fun e w' => ∃ v', e = .returned (.tuple #[v', .bool (onceT t f).2]) ∧ w'.ownsRow base 3 1 v' (listTo (onceT t f).1 20).length (natVals (listTo (onceT t f).1 20)) ∧ Below w.heap.size w w' := by
  induction N with
  | zero => intro t _ _ _ _ _ _ _ _ h; have := size_pos t; omega
  | succ N ih =>
    intro t f n₀ w a l c base v hs ht hO hn hrow hbase
    replace ih := Lib.hid ih
    obtain ⟨rfl, hlc, hc, hk⟩ := ht.open
    obtain ⟨o1, o2, o3, o4⟩ := hO.open
    have hsz := Lib.hid (size_eq t)
    have hsb : sizes t.kids ≤ N := by have := hsz.out; omega
    have hv := Lib.hid (onceT_eq t f)
    replace o4 := Lib.hid o4
    by_cases h1 : t.op = 1
    · obtain ⟨n, hnn⟩ := Int.eq_ofNat_of_zero_le (o1 (.inl h1)).1
      have hn20 : n < 20 := by have := (o1 (.inl h1)).2; omega
      have hres : Hid (onceT t f = (setB f n true, !f n)) := Lib.hid (by
        rw [hv.out, if_pos h1, hnn]; rfl)
      have h1b : (t.op == 1) = true := by simp [h1]
      rw [hres.out]
      have hP := fun W (hW : Below w.heap.size w W) => rput_any f n hn20 W base v (ownsRow_up hrow hW (Nat.le_refl _)) (by have := hW.size; omega)
      have hH := fun W (hW : Below w.heap.size w W) => has_row f hn20 (ownsRow_up hrow hW (Nat.le_refl _))
      simp only [hnn] at *
      replace hP := Lib.hid hP
      replace hH := Lib.hid hH
      obtain ⟨p, hp⟩ : ∃ p, p = f n := ⟨_, rfl⟩
      rw [← hp] at hH
      rw [← hp]
      replace hp := Lib.hid hp
      clear o1 o2 o3 hk ht hO h1 hv hres hrow
      go_enter Tryz.func60, Tryz.ntmps60
      go_upto_region 2 with fail
      obtain ⟨w0, hw0⟩ : ∃ W, W = w.alloc (.cells #[.int .i64 t.op, .int .i64 n, .slice a t.kids.length c] 28) := ⟨_, rfl⟩
      have hbw : Hid (Below w.heap.size w w0) := Lib.hid (by rw [hw0]; exact bal _ _)
      have hbx : Hid (∀ W, Below w0.heap.size w0 W → W.cell? ⟨w.heap.size, 1, none⟩ = some (.int .i64 n)) := Lib.hid (fun W hW => by
        rw [hW.cell (by rw [hw0]; simp), hw0]; go_cell)
      rw [← hw0]
      clear hw0
      refine region_named (S := fun W' => Below w0.heap.size w0 W') (by kernel_rfl) (fun W hW => ?_)
      have hq : Hid (Below w0.heap.size w0 W) := Lib.hid (by rw [hW]; exact (Below.refl _ _).drew)
      clear hW
      refine takeH 0 11 v rfl rfl (by kernel_rfl) (by kernel_rfl) (by kernel_rfl) (fun _ _ _ h => h) (by rfl) (by intro W hSw; clear hSw; go_simp) hq.out ?_
      try simp only [List.setIfInBounds_toArray, List.set_cons_zero, List.set_cons_succ]
      refine takeH 1 12 (.pointer (some ⟨w.heap.size, 1, none⟩)) rfl rfl (by kernel_rfl) (by kernel_rfl) (by kernel_rfl) (fun _ _ _ h => h) (by rfl) (by intro W hSw; clear hSw; go_simp) hq.out ?_
      try simp only [List.setIfInBounds_toArray, List.set_cons_zero, List.set_cons_succ]
      refine takeH 2 13 (.int .i64 n) rfl rfl (by kernel_rfl) (by kernel_rfl) (by kernel_rfl) (fun _ _ _ h => h) (by rfl) (by intro W hSw; have j := hbx.out W hSw; clear hSw; go_simp) hq.out ?_
      try simp only [List.setIfInBounds_toArray, List.set_cons_zero, List.set_cons_succ]
      refine takeH 4 15 v rfl rfl (by kernel_rfl) (by kernel_rfl) (by kernel_rfl) (fun _ _ _ h => h) (by rfl) (by intro W hSw; clear hSw; go_simp) hq.out ?_
      try simp only [List.setIfInBounds_toArray, List.set_cons_zero, List.set_cons_succ]
      refine takeH 5 16 (.pointer (some ⟨w.heap.size, 1, none⟩)) rfl rfl (by kernel_rfl) (by kernel_rfl) (by kernel_rfl) (fun _ _ _ h => h) (by rfl) (by intro W hSw; clear hSw; go_simp) hq.out ?_
      try simp only [List.setIfInBounds_toArray, List.set_cons_zero, List.set_cons_succ]
      refine takeH 6 17 (.int .i64 n) rfl rfl (by kernel_rfl) (by kernel_rfl) (by kernel_rfl) (fun _ _ _ h => h) (by rfl) (by intro W hSw; have j := hbx.out W hSw; clear hSw; go_simp) hq.out ?_
      try simp only [List.setIfInBounds_toArray, List.set_cons_zero, List.set_cons_succ]
      refine wpAnyH_ready (rs := [3]) (by kernel_rfl) (by simp) ?_
      refine AllReadyH.cons rfl (fun K hKc => ?_) AllReadyH.nil
      rw [if_pos (by rfl)]
      refine wp_call2 (f := 62) (d := 14) rfl rfl (enters_of Tryz.func62 (by kernel_rfl) rfl _ _) rfl rfl ((hP.out _ (Below.up hbw.out hq.out)).mono ?_)
      rintro e W1 ⟨v1, rfl, hr1, hb1⟩
      refine ⟨_, rfl, ?_⟩
      replace hq := Lib.hid (Below.up hq.out hb1)
      replace hr1 := Lib.hid hr1
      clear hb1
      refine hKc _ _ hq.out (fun _ => ?_)
      clear hKc K
      try simp only [List.setIfInBounds_toArray, List.set_cons_zero, List.set_cons_succ]
      refine wpAnyH_ready (rs := [7]) (by kernel_rfl) (by simp) ?_
      refine AllReadyH.cons rfl (fun K hKc => ?_) AllReadyH.nil
      rw [if_pos (by rfl)]
      refine wp_call2 (f := 91) (d := 18) rfl rfl (enters_of Tryz.func91 (by kernel_rfl) rfl _ _) rfl rfl ((hH.out _ (Below.up hbw.out hq.out)).mono ?_)
      rintro e W2 ⟨rfl, rfl⟩
      refine ⟨_, rfl, ?_⟩
      refine hKc _ _ hq.out (fun _ => ?_)
      clear hKc K
      try simp only [List.setIfInBounds_toArray, List.set_cons_zero, List.set_cons_succ]
      refine takeH 8 19 (.bool (!p)) rfl rfl (by kernel_rfl) (by kernel_rfl) (by kernel_rfl) (fun _ _ _ h => h) (by rfl) (by intro W hSw; clear hSw; go_simp) hq.out ?_
      try simp only [List.setIfInBounds_toArray, List.set_cons_zero, List.set_cons_succ]
      refine takeH 9 4 v1 rfl rfl (by kernel_rfl) (by kernel_rfl) (by kernel_rfl) (fun _ _ _ h => h) (by rfl) (by intro W hSw; clear hSw; go_simp) hq.out ?_
      try simp only [List.setIfInBounds_toArray, List.set_cons_zero, List.set_cons_succ]
      refine takeH 10 5 (.bool (!p)) rfl rfl (by kernel_rfl) (by kernel_rfl) (by kernel_rfl) (fun _ _ _ h => h) (by rfl) (by intro W hSw; clear hSw; go_simp) hq.out ?_
      try simp only [List.setIfInBounds_toArray, List.set_cons_zero, List.set_cons_succ]
      refine wpAnyH_done (by kernel_rfl) ?_ _
      go_wp2_with fail
      refine bodyPost_ret (v := .tuple #[v1, .bool (!p)]) (by simp [results, Tryz.f60, go_sem]) rfl ⟨v1, rfl, hr1.out, Below.up hbw.out hq.out⟩
    · have h1b : (t.op == 1) = false := by simp [h1]
      have hres : Hid (onceT t f = onceKs t.kids f) := Lib.hid (by rw [hv.out, if_neg h1])
      clear o1 o2 o3 ht hO h1 hv
      replace hrow := Lib.hid hrow
      go_enter Tryz.func60, Tryz.ntmps60
      go_wp2_with fail
      go_loopw [1, 6, 7] (fun bv isv i wi => ∃ (k : Nat) (met : Nat → Bool) (b : Bool), k ≤ t.kids.length ∧ i = .int .i64 k ∧ isv = .bool b ∧ Hid (b = true → onceKs (t.kids.take k) f = (met, true)) ∧ Hid (b = false → onceKs t.kids f = (met, false)) ∧ Hid (wi.ownsRow base 3 1 bv (listTo met 20).length (natVals (listTo met 20))) ∧ Hid (Below (w.heap.size + 1) (w.alloc (.cells #[.int .i64 t.op, .int .i64 t.n, .slice a t.kids.length c] 28)) wi)) (fun _ _ i _ => t.kids.length - (intOf i).toNat)
      case atStart => exact ⟨0, f, true, by omega, rfl, rfl, Lib.hid (fun _ => by simp [onceKs]), Lib.hid (fun h => by cases h), Lib.hid (ownsRow_up hrow.out (bal _ _) (Nat.le_refl _)), Lib.hid (Below.refl _ _)⟩
      case round =>
        obtain ⟨k, met, b, hk1, rfl, rfl, hyes, hno, hown, hb⟩ := hrel
        clear hrow
        have hbw := Lib.hid (((Below.refl w.heap.size w).alloc (Nat.le_refl _) _).trans (hb.out.mono (Nat.le_succ _)))
        have hz := hb.out.size
        rw [World.size_alloc] at hz
        have b2 : wr.cell? ⟨w.heap.size, 2, none⟩ = some (.slice a t.kids.length c) := by rw [hb.out.cell (by simp)]; go_cell
        by_cases hlt : k < t.kids.length
        · cases b
          · have hfin : Hid (onceT t f = (met, false)) := Lib.hid (by rw [hres.out]; exact hno.out rfl)
            clear hyes hno hk
            go_wp2_with fail
            refine bodyPost_ret (v := .tuple #[u1, .bool false]) (by simp [results, Tryz.f60, go_sem]) rfl ⟨u1, by rw [hfin.out], by rw [hfin.out]; exact hown.out, hbw.out⟩
          · rcases hk with hk | ⟨bb, off, rfl, hbn, hks⟩
            · rw [hk] at hlt; simp at hlt
            obtain ⟨a', l', c', hc3, ht'⟩ := IsKids.get _ hks k hlt
            have hc3 := hc3.below (hbw.out.mono hn) hbn
            have ht' := (IsTm.below (hbw.out.mono hn) _ ht')
            obtain ⟨d0, d1, d2⟩ := hc3
            have hsk := size_kid t.kids k hlt
            have hS := Lib.hid (ih.out t.kids[k] met n₀ wr a' l' c' base u1 (by omega) ht' (OkVs_get _ k hlt o4.out) (by omega) hown.out (by omega))
            have hy1 := Lib.hid (hyes.out rfl)
            have hstep := Lib.hid (onceKs_take_succ t.kids k hlt f (by rw [hy1.out]))
            have hstop := Lib.hid (onceKs_stop t.kids k hlt f (by rw [hy1.out]))
            obtain ⟨R, hR⟩ : ∃ R, R = onceT t.kids[k] met := ⟨_, rfl⟩
            have hstep2 : Hid (onceKs (t.kids.take (k + 1)) f = R) := Lib.hid (by rw [hstep.out, hy1.out, hR])
            have hstop2 : Hid (R.2 = false → onceKs t.kids f = R) := Lib.hid (fun h => by
              have := hstop.out
              rw [hy1.out] at this
              rw [this (by rw [← hR]; exact h), hR])
            obtain ⟨met', b'⟩ := R
            rw [← hR] at hS
            clear hks ht' hR hstep hstop hyes hno hown hy1 hsk
            go_wp2_with (go_at_call 60; refine (hS.out).mono ?_; rintro e w1 ⟨v1, rfl, hrow1, hb1⟩)
            go_roundw
            case rel => exact ⟨k + 1, met', b', by omega, by go_num, rfl, Lib.hid (fun h => by subst h; exact hstep2.out), Lib.hid (fun h => by subst h; exact hstop2.out rfl), Lib.hid hrow1, Lib.hid (hb.out.trans (hb1.mono hz))⟩
            case measure => simp [intOf]; omega
        · have hke : Hid (k = t.kids.length) := Lib.hid (by omega)
          have hfin : Hid (onceT t f = (met, b)) := Lib.hid (by
            rw [hres.out]
            cases b
            · exact hno.out rfl
            · have := hyes.out rfl
              rw [hke.out, List.take_length] at this
              exact this)
          have q1 : ¬ (k : Int) < (t.kids.length : Int) := by omega
          clear hyes hno hk
          go_wp2_with fail
          refine bodyPost_ret (v := .tuple #[u1, .bool b]) (by simp [results, Tryz.f60, go_sem]) rfl ⟨u1, by rw [hfin.out], by rw [hfin.out]; exact hown.out, hbw.out⟩

set_option maxRecDepth 100000 in
set_option maxHeartbeats 1000000 in
/-- 'Pattern'. -/
theorem rPattern_any (t : Tm) (n₀ : Nat) (w : World) (a : Option Addr) (l c : Nat) (ht : IsTm n₀ w t a l c) (hO : OkV t) (hn : n₀ ≤ w.heap.size) :
    Calls Tryz.prog 22 #[.agg #[.int .i64 t.op, .int .i64 t.n, .slice a l c]] w fun e w' => e = .returned (.bool ((onceT t (fun _ => false)).2 && isSh t)) ∧ Below w.heap.size w w' := by
  obtain ⟨w0, hw0⟩ : ∃ W, W = w.alloc (.cells #[.int .i64 t.op, .int .i64 t.n, .slice a l c] 28) := ⟨_, rfl⟩
  have hb0 : Below w.heap.size w w0 := by rw [hw0]; exact bal _ _
  have hO1 := fun W (hW : Below w.heap.size w W) => once_any t.size t (fun _ => false) n₀ W a l c W.heap.size (.slice none 0 0) (Nat.le_refl _) (IsTm.below (hW.mono hn) _ ht) hO (by have := hW.size; omega) (World.ownsRow_nil _ _ _ _) (Nat.le_refl _)
  have hS1 := fun W (hW : Below w.heap.size w W) => shape_any t.size t n₀ W a l c (Nat.le_refl _) (IsTm.below (hW.mono hn) _ ht) (by have := hW.size; omega)
  have hbx : Hid (∀ W, Below w0.heap.size w0 W → W.cell? ⟨w.heap.size, 0, none⟩ = some (.int .i64 t.op) ∧ W.cell? ⟨w.heap.size, 1, none⟩ = some (.int .i64 t.n) ∧ W.cell? ⟨w.heap.size, 2, none⟩ = some (.slice a l c)) := Lib.hid (fun W hW => by
    have hz : w.heap.size < w0.heap.size := by rw [hw0]; simp
    refine ⟨?_, ?_, ?_⟩ <;> (rw [hW.cell hz, hw0]; go_cell))
  have hO2 := hO1 w0 hb0
  rw [hw0] at hO2
  have hbe : Hid (∀ W, Below (w.alloc (.cells #[.int .i64 t.op, .int .i64 t.n, .slice a l c] 28)).heap.size (w.alloc (.cells #[.int .i64 t.op, .int .i64 t.n, .slice a l c] 28)) W → Below w0.heap.size w0 W) := Lib.hid (fun W h => by rw [hw0]; exact h)
  obtain ⟨R, hR⟩ : ∃ R, R = onceT t (fun _ => false) := ⟨_, rfl⟩
  obtain ⟨q, hq⟩ : ∃ q, q = isSh t := ⟨_, rfl⟩
  rw [← hR] at hO2
  rw [← hq] at hS1
  rw [← hR, ← hq]
  replace hO2 := Lib.hid hO2
  replace hS1 := Lib.hid hS1
  replace hb0 := Lib.hid hb0
  obtain ⟨met, b⟩ := R
  clear hO1 hw0 hR hq ht hO
  cases b
  · go_enter Tryz.func22, Tryz.ntmps22
    go_wp2_with (go_at_call 60; refine (hO2.out).mono ?_; rintro e w1 ⟨v1, rfl, hr, hb1⟩; replace hb1 := Lib.hid (hbe.out _ hb1))
    go_ret
    exact ⟨rfl, Below.up hb0.out hb1.out⟩
  · go_enter Tryz.func22, Tryz.ntmps22
    go_upto_region 2 with (go_at_call 60; refine (hO2.out).mono ?_; rintro e w1 ⟨v1, rfl, hr, hb1⟩; replace hb1 := Lib.hid (hbe.out _ hb1))
    obtain ⟨b0, b1, b2⟩ := hbx.out _ hb1.out
    go_wp2_with (go_at_call 61; refine (hS1.out _ (Below.up hb0.out hb1.out)).mono ?_; rintro e w2 ⟨rfl, hb2⟩)
    go_ret
    exact ⟨rfl, Below.up hb0.out (Below.up hb1.out hb2)⟩

set_option maxRecDepth 100000 in
set_option maxHeartbeats 1000000 in
/-- 'Ground'. -/
theorem rGround_any (t : Tm) (n₀ : Nat) (w : World) (a : Option Addr) (l c : Nat) (ht : IsTm n₀ w t a l c) (hO : OkV t) (hn : n₀ ≤ w.heap.size) :
    Calls Tryz.prog 21 #[.agg #[.int .i64 t.op, .int .i64 t.n, .slice a l c]] w fun e w' => e = .returned (.bool (decide ((listTo (fvT t) 20).length = 0))) ∧ Below w.heap.size w w' := by
  have hb0 : Below w.heap.size w (w.alloc (.cells #[.int .i64 t.op, .int .i64 t.n, .slice a l c] 28)) := bal _ _
  have hV := rVars_any t.size t n₀ (w.alloc (.cells #[.int .i64 t.op, .int .i64 t.n, .slice a l c] 28)) a l c (Nat.le_refl _) (IsTm.below (hb0.mono hn) _ ht) hO (by simp; omega)
  obtain ⟨L, hL⟩ : ∃ L, L = listTo (fvT t) 20 := ⟨_, rfl⟩
  rw [← hL] at hV
  rw [← hL]
  replace hV := Lib.hid hV
  replace hb0 := Lib.hid hb0
  clear ht hO hL
  go_enter Tryz.func21, Tryz.ntmps21
  go_wp2_with (go_at_call 24; refine (hV.out).mono ?_; rintro e w1 ⟨v1, rfl, hr, hb1⟩; obtain ⟨av, cv, rfl, hcv, hel⟩ := ints_row hr)
  go_ret
  refine ⟨?_, Below.up hb0.out hb1⟩
  have e : ((L.length : Int) == 0) = decide (L.length = 0) := by rw [Bool.eq_iff_iff]; simp
  rw [← e]
  rfl

end Go.Proofs.YtaieplfegngjnaaGreat
