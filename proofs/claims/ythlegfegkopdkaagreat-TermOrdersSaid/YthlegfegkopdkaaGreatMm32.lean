/- Own text, joined of: Q1 Q2. The arguments' data, opened: terms, signatures. · TermSorts: values are ordered: of every signature and every three terms the call returns true, and the arguments read as they did. -/
import Derived.Test.YthlegfegkopdkaaGreatRows
import Derived.ProofKit
import Derived.SizedLaws
import Derived.Deep.Slices
import Derived.Lib.SmallJoins
import Derived.Test.YthlegfegkopdkaaGreatMm30

namespace Go.Proofs.YthlegfegkopdkaaGreat
open Go.ChangeShapes Go.WideShapes Go.ChangeAt Go.RowKit Go.Deep Go.Joins

theorem c28 : Tryz.prog.cellsOf 28 = 3 := by kernel_rfl
theorem c26 : Tryz.prog.cellsOf 26 = 1 := by kernel_rfl
theorem c25 : Tryz.prog.cellsOf 25 = 1 := by kernel_rfl
theorem c24 : Tryz.prog.cellsOf 24 = 2 := by kernel_rfl
theorem c22 : Tryz.prog.cellsOf 22 = 1 := by kernel_rfl
theorem c84 : Tryz.prog.cellsOf 84 = 2 := by kernel_rfl
theorem c9 : Tryz.prog.cellsOf 9 = 1 := by kernel_rfl
theorem cc3 : Tryz.prog.cellsOf 3 = 1 := by kernel_rfl
instance : Inhabited Tm := ⟨.mk 0 0 []⟩

theorem IsKids.of {n₀ : Nat} {w : World} : ∀ (ks : List Tm) {b off : Nat}, (∀ k (h : k < ks.length), ∃ a l c, Cells3 w b (off + k * 3) ks[k].op ks[k].n a l c ∧ IsTm n₀ w ks[k] a l c) → IsKids n₀ w ks b off
  | [], _, _, _ => by simp [IsKids]
  | t :: ts, b, off, h => by
    simp only [IsKids]
    have h00 := h 0 (by simp)
    rw [Nat.zero_mul, Nat.add_zero] at h00
    refine ⟨h00, IsKids.of ts fun k hk => ?_⟩
    have := h (k + 1) (by simpa using hk)
    rw [show off + (k + 1) * 3 = off + 3 + k * 3 by omega] at this
    simpa using this

theorem cells3_of {W : World} {a : Addr} {cs : List Value} (h : W.cells? 0 a 3 = some cs) : ∃ x y z, cs = [x, y, z] ∧ W.cell? (a.add 0) = some x ∧ W.cell? (a.add 1) = some y ∧ W.cell? (a.add 2) = some z := by
  have e : List.range 3 = [0, 1, 2] := rfl
  simp only [World.cells?, e, Nat.zero_le, if_true, List.mapM_cons, List.mapM_nil, Option.bind_eq_bind, Option.bind_eq_some_iff, Option.pure_def, Option.some.injEq] at h
  obtain ⟨x, h1, l1, ⟨y, h2, l2, ⟨z, h3, l3, h4, h5⟩, h6⟩, h7⟩ := h
  subst h4; subst h5; subst h6; subst h7
  exact ⟨x, y, z, rfl, h1, h2, h3⟩
theorem cells2_of {W : World} {a : Addr} {cs : List Value} (h : W.cells? 0 a 2 = some cs) : ∃ x y, cs = [x, y] ∧ W.cell? (a.add 0) = some x ∧ W.cell? (a.add 1) = some y := by
  have e : List.range 2 = [0, 1] := rfl
  simp only [World.cells?, e, Nat.zero_le, if_true, List.mapM_cons, List.mapM_nil, Option.bind_eq_bind, Option.bind_eq_some_iff, Option.pure_def, Option.some.injEq] at h
  obtain ⟨x, h1, l1, ⟨y, h2, l2, h4, h5⟩, h6⟩ := h
  subst h4; subst h5; subst h6
  exact ⟨x, y, rfl, h1, h2⟩
theorem u24 : ∃ f0 f1, Tryz.prog.underlying 24 = some (.struct #[f0, f1]) ∧ f0.type = 22 ∧ f1.type = 22 ∧ f0.offset = 0 ∧ f1.offset = 1 := ⟨_, _, Tryz.underlying24, rfl, rfl, rfl, rfl⟩
theorem u84 : ∃ f0 f1, Tryz.prog.underlying 84 = some (.struct #[f0, f1]) ∧ f0.type = 9 ∧ f1.type = 3 ∧ f0.offset = 0 ∧ f1.offset = 1 := ⟨_, _, Tryz.underlying84, rfl, rfl, rfl, rfl⟩
theorem u28 : ∃ f0 f1 f2, Tryz.prog.underlying 28 = some (.struct #[f0, f1, f2]) ∧ f0.type = 25 ∧ f1.type = 3 ∧ f2.type = 26 ∧ f0.offset = 0 ∧ f1.offset = 1 ∧ f2.offset = 2 := ⟨_, _, _, Tryz.underlying28, rfl, rfl, rfl, rfl, rfl, rfl⟩

section
variable {H : Type} {enc : TypeId × Value → H} {W : World} {spare : Nat → Bool} {held : Bool}

set_option maxRecDepth 10000 in
theorem open_term : ∀ (fuel : Nat) (cs : List Value) (x : DataW H × List MemPlace), DataW.trod enc Tryz.prog W 0 spare held fuel 28 cs = some x →
    ∃ (t : Tm) (a : Option Addr) (l c : Nat), cs = [.int .i64 t.op, .int .i64 t.n, .slice a l c] ∧ IsTm W.heap.size W t a l c := by
  intro fuel
  induction fuel using Nat.strongRecOn with
  | ind fuel ih =>
    intro cs x h
    obtain ⟨f0, f1, f2, hu, e0, e1, e2, o0, o1, o2⟩ := u28
    obtain ⟨xs, n, hn, hx, hl, hlen, hf⟩ := DataW.trod_struct hu h
    rw [c28] at hl
    match cs, hl with
    | [v0, v1, v2], _ =>
      match xs, hlen with
      | [y0, y1, y2], _ =>
        have h0 := hf 0 f0 rfl
        have h1 := hf 1 f1 rfl
        have h2 := hf 2 f2 rfl
        rw [e0, o0, c25] at h0
        rw [e1, o1, cc3] at h1
        rw [e2, o2, c26] at h2
        simp only [List.drop_zero, List.drop_succ_cons, List.take_succ_cons, List.take_zero, List.getElem?_cons_zero, List.getElem?_cons_succ] at h0 h1 h2
        obtain ⟨op, k0, -, -⟩ := DataW.trod_int Tryz.underlying25 h0
        obtain ⟨nn, k1, -, -⟩ := DataW.trod_int Tryz.underlying3 h1
        simp only [List.cons.injEq, and_true] at k0 k1
        subst k0 k1
        rcases DataW.trod_slice Tryz.underlying26 h2 with ⟨k2, -⟩ | ⟨a, len, cap, elems, rest, m, hm, k2, -, -, hle, hcm, hel, hrow, -, -⟩
        · simp only [List.cons.injEq, and_true] at k2
          subst k2
          exact ⟨.mk op nn [], none, 0, 0, rfl, by simp [IsTm]⟩
        · simp only [List.cons.injEq, and_true] at k2
          subst k2
          by_cases h0 : len = 0
          · subst h0
            exact ⟨.mk op nn [], some a, 0, cap, rfl, by simp only [IsTm]; exact ⟨rfl, hle, by unfold maxLen at hcm; omega, .inl trivial⟩⟩
          obtain ⟨b, off, spot⟩ := a
          have hsp : spot = none := by
            have hr := hrow 0 (by omega)
            rw [List.getElem?_eq_getElem (by omega), c28] at hr
            obtain ⟨cs', hc, -⟩ := Option.bind_eq_some_iff.1 hr
            obtain ⟨x0, x1, x2, -, q0, -, -⟩ := cells3_of hc
            simpa [Addr.add] using World.cell?_spot q0
          subst hsp
          have hkid : ∀ i, i < len → b < W.heap.size ∧ ∃ t : Tm, ∃ a l c, Cells3 W b (off + i * 3) t.op t.n a l c ∧ IsTm W.heap.size W t a l c := fun i hi => by
            have hr := hrow i hi
            rw [List.getElem?_eq_getElem (by omega), c28] at hr
            obtain ⟨cs', hc, hd⟩ := Option.bind_eq_some_iff.1 hr
            obtain ⟨t, a', l', c', he, ht⟩ := ih m (by omega) cs' _ hd
            obtain ⟨x0, x1, x2, hxs, q0, q1, q2⟩ := cells3_of hc
            rw [hxs] at he
            simp only [List.cons.injEq, and_true] at he
            obtain ⟨rfl, rfl, rfl⟩ := he
            rw [add_plain, add_plain] at q0 q1 q2
            exact ⟨World.block_lt_of_cell? W _ q0, t, a', l', c', ⟨q0, q1, q2⟩, ht⟩
          obtain ⟨f, hfk⟩ := choose_lt (α := Tm) (p := fun i t => ∃ a l c, Cells3 W b (off + i * 3) t.op t.n a l c ∧ IsTm W.heap.size W t a l c) (fun i hi => (hkid i hi).2)
          refine ⟨.mk op nn ((List.range len).map f), some ⟨b, off, none⟩, len, cap, rfl, ?_⟩
          simp only [IsTm]
          refine ⟨by simp, hle, by unfold maxLen at hcm; omega, ?_⟩
          obtain ⟨hb, -⟩ := hkid 0 (by omega)
          refine .inr ⟨b, off, rfl, hb, IsKids.of _ fun k hk => ?_⟩
          have := hfk k (by simpa using hk)
          simpa using this

theorem mem_weightsAll {P : Program} {e : TypeId} {d : DataW H} {n : Nat} : ∀ {l : List (DataW H)}, d ∈ l → n ∈ d.weights P e → n ∈ DataW.weightsAll P e l
  | x :: r, h, hn => by
    simp only [DataW.weightsAll, List.mem_append]
    rcases List.mem_cons.1 h with rfl | h
    · exact .inl hn
    · exact .inr (mem_weightsAll h hn)

set_option maxRecDepth 10000 in
theorem open_names {fuel : Nat} {v : Value} {x : DataW H × List MemPlace} (h : DataW.trod enc Tryz.prog W 0 spare held fuel 22 [v] = some x) (hsz : ∀ n ∈ x.1.weights Tryz.prog 22, n ≤ reachBytes) :
    ∃ (ns : List Nm) (a : Option Addr) (l c : Nat), v = .slice a l c ∧ IsNames W.heap.size W ns a l c := by
  obtain ⟨f0, f1, hu, e0, e1, o0, o1⟩ := u84
  rcases DataW.trod_slice Tryz.underlying22 h with ⟨k2, -⟩ | ⟨a, len, cap, elems, rest, m, hm, k2, hx, -, hle, hcm, hel, hrow, -, -⟩
  · simp only [List.cons.injEq, and_true] at k2
    subst k2
    exact ⟨[], none, 0, 0, rfl, rfl, by omega, by omega, .inl rfl⟩
  · simp only [List.cons.injEq, and_true] at k2
    subst k2
    by_cases h0 : len = 0
    · subst h0
      exact ⟨[], some a, 0, cap, rfl, rfl, hle, by unfold maxLen at hcm; omega, .inl rfl⟩
    obtain ⟨b, off, spot⟩ := a
    have hsp : spot = none := by
      have hr := hrow 0 (by omega)
      rw [List.getElem?_eq_getElem (by omega), c84] at hr
      obtain ⟨cs', hc, -⟩ := Option.bind_eq_some_iff.1 hr
      obtain ⟨x0, x1, -, q0, -⟩ := cells2_of hc
      simpa [Addr.add] using World.cell?_spot q0
    subst hsp
    have hkid : ∀ i, i < len → b < W.heap.size ∧ ∃ t : Nm, W.cell? ⟨b, off + i * 2, none⟩ = some (.string t.1) ∧ W.cell? ⟨b, off + i * 2 + 1, none⟩ = some (.int .i64 t.2) ∧ t.1.size ≤ 140737488351232 := fun i hi => by
      have hr := hrow i hi
      have hi' : i < elems.length := by omega
      rw [List.getElem?_eq_getElem hi', c84] at hr
      obtain ⟨cs', hc, hd⟩ := Option.bind_eq_some_iff.1 hr
      obtain ⟨x0, x1, hxs, q0, q1⟩ := cells2_of hc
      subst hxs
      obtain ⟨xs, n, hn, hxx, hl, hlen, hf⟩ := DataW.trod_struct hu hd
      match xs, hlen with
      | [y0, y1], _ =>
        have h0 := hf 0 f0 rfl
        have h1 := hf 1 f1 rfl
        rw [e0, o0, c9] at h0
        rw [e1, o1, cc3] at h1
        simp only [List.drop_zero, List.drop_succ_cons, List.take_succ_cons, List.take_zero, List.getElem?_cons_zero, List.getElem?_cons_succ] at h0 h1
        obtain ⟨s, k0, ky, -⟩ := DataW.trod_string Tryz.underlying9 h0
        obtain ⟨nn, k1, -, -⟩ := DataW.trod_int Tryz.underlying3 h1
        simp only [List.cons.injEq, and_true] at k0 k1
        subst k0 k1
        rw [add_plain, add_plain] at q0 q1
        have hw : s.data.toList.length ≤ reachBytes := by
          refine hsz _ ?_
          rw [hx]
          simp only [DataW.weights, Tryz.underlying22, List.mem_cons, List.mem_append]
          refine .inr (.inl (mem_weightsAll (d := elems[i].1) (List.mem_map.2 ⟨elems[i], List.getElem_mem hi', rfl⟩) ?_))
          rw [hxx]
          simp only [DataW.weights, hu, List.map_cons, List.map_nil, DataW.weightsEach, ky]
          simp
        refine ⟨World.block_lt_of_cell? W _ q0, (s, nn), q0, q1, ?_⟩
        have : s.data.toList.length = s.size := by rw [Array.length_toList]; rfl
        rw [this] at hw
        have e : reachBytes = 140737488351232 := by decide
        rw [e] at hw
        exact hw
    obtain ⟨f, hfk⟩ := choose_lt (α := Nm) (p := fun i t => W.cell? ⟨b, off + i * 2, none⟩ = some (.string t.1) ∧ W.cell? ⟨b, off + i * 2 + 1, none⟩ = some (.int .i64 t.2) ∧ t.1.size ≤ 140737488351232) (fun i hi => (hkid i hi).2)
    refine ⟨(List.range len).map f, some ⟨b, off, none⟩, len, cap, rfl, by simp, hle, by unfold maxLen at hcm; omega, ?_⟩
    obtain ⟨hb, -⟩ := hkid 0 (by omega)
    refine .inr ⟨b, off, rfl, hb, fun k hk => ?_⟩
    have := hfk k (by simpa using hk)
    simpa using this
end

end Go.Proofs.YthlegfegkopdkaaGreat

namespace Go.Proofs.YthlegfegkopdkaaGreat
open Go.ChangeShapes Go.WideShapes Go.ChangeAt Go.RowKit Go.Deep Go.Joins

theorem Tryz.own : ownKnob Tryz.prog.godebug = none := by kernel_rfl
theorem Tryz.laidOut : laidOutB Tryz.prog = true := by kernel_rfl

section
variable {H : Type} {enc : TypeId × Value → H} {W : World} {base : Nat}

set_option maxRecDepth 100000 in
theorem arg_term {v : Value} {d : DataW H} {p : List MemPlace} (hv : Value.okWide Tryz.prog W .any base 28 v) (h : DataW.Trod enc Tryz.prog W 0 (fun _ => true) true 28 v d p) :
    ∃ t : DT, v = .agg #[.int .i64 t.op, .int .i64 t.n, .slice t.a t.l t.c] ∧ Lies W.heap.size W t := by
  obtain ⟨cs, rfl, hcs⟩ := okWide_struct Tryz.underlying28 hv
  obtain ⟨fuel, hf⟩ := h
  obtain ⟨t, a, l, c, he, ht⟩ := open_term fuel _ _ hf
  obtain ⟨ds, hL, hk⟩ := IsTm.dec t ht
  refine ⟨.mk t.op t.n a l c ds, ?_, hL⟩
  simp only [Value.cells] at he
  congr 1
  exact Array.ext' (by simpa [DT.op, DT.n, DT.a, DT.l, DT.c] using he)

set_option maxRecDepth 100000 in
theorem arg_sig {v : Value} {d : DataW H} {p : List MemPlace} (hv : Value.okWide Tryz.prog W .any base 24 v) (h : DataW.Trod enc Tryz.prog W 0 (fun _ => true) true 24 v d p) (hsz : ∀ n ∈ d.weights Tryz.prog 24, n ≤ reachBytes) :
    ∃ (s : Sg) (ac : Option Addr) (lc cc : Nat) (af : Option Addr) (lf cf : Nat), v = .agg #[.slice ac lc cc, .slice af lf cf] ∧ IsSg W.heap.size W s ac lc cc af lf cf := by
  obtain ⟨f0, f1, hu, e0, e1, o0, o1⟩ := u24
  obtain ⟨cs, rfl, hcs⟩ := okWide_struct hu hv
  obtain ⟨fuel, hf⟩ := h
  obtain ⟨y0, y1, n, hx, hl, h0, h1⟩ := trod_struct2 hu hf
  rw [c24] at hcs
  obtain ⟨v0, v1, rfl⟩ : ∃ v0 v1, cs = #[v0, v1] := by
    match cs, hcs with
    | ⟨[v0, v1]⟩, _ => exact ⟨v0, v1, rfl⟩
  simp only [Value.cells] at h0 h1
  rw [e0, o0, c22] at h0
  rw [e1, o1, c22] at h1
  simp only [List.drop_zero, List.drop_succ_cons, List.take_succ_cons, List.take_zero] at h0 h1
  simp only [Prod.mk.injEq] at hx
  rw [hx.1] at hsz
  simp only [DataW.weights, hu, List.map_cons, List.map_nil, DataW.weightsEach, e0, e1, List.append_nil, List.mem_append] at hsz
  obtain ⟨n0, a0, l0, k0, rfl, i0⟩ := open_names h0 (fun n hn => hsz n (.inl hn))
  obtain ⟨n1, a1, l1, k1, rfl, i1⟩ := open_names h1 (fun n hn => hsz n (.inr hn))
  exact ⟨⟨n0, n1⟩, _, _, _, _, _, _, rfl, ⟨i0, i1⟩⟩
end

end Go.Proofs.YthlegfegkopdkaaGreat
