/- Own text, joined of: X8 X11. TermCapture: of every signature, every term and every list of bindings the call returns true, and the arguments read as they did. · TermGeneral: of every signature, every two terms and every list of bindings the call returns true, and the arguments read as they did. -/
import Derived.Test.YthlegfegkopdkaaGreatGe32
import Derived.Test.YthlegfegkopdkaaGreatGe33

namespace Go.Proofs.YthlegfegkopdkaaGreat
open Go.ChangeShapes Go.WideShapes Go.ChangeAt Go.RowKit Go.Deep Go.Joins

theorem c70 : Tryz.prog.cellsOf 70 = 4 := by kernel_rfl
theorem cells4_of {W : World} {a : Addr} {cs : List Value} (h : W.cells? 0 a 4 = some cs) : ∃ x y z u, cs = [x, y, z, u] ∧ W.cell? (a.add 0) = some x ∧ W.cell? (a.add 1) = some y ∧ W.cell? (a.add 2) = some z ∧ W.cell? (a.add 3) = some u := by
  have e : List.range 4 = [0, 1, 2, 3] := rfl
  simp only [World.cells?, e, Nat.zero_le, if_true, List.mapM_cons, List.mapM_nil, Option.bind_eq_bind, Option.bind_eq_some_iff, Option.pure_def, Option.some.injEq] at h
  obtain ⟨x, h1, l1, ⟨y, h2, l2, ⟨z, h3, l3, ⟨u, h4, l4, h5, h6⟩, h7⟩, h8⟩, h9⟩ := h
  subst h5; subst h6; subst h7; subst h8; subst h9
  exact ⟨x, y, z, u, rfl, h1, h2, h3, h4⟩
theorem u70 : ∃ f0 f1, Tryz.prog.underlying 70 = some (.struct #[f0, f1]) ∧ f0.type = 3 ∧ f1.type = 28 ∧ f0.offset = 0 ∧ f1.offset = 1 := ⟨_, _, Tryz.underlying70, rfl, rfl, rfl, rfl⟩

section
variable {H : Type} {enc : TypeId × Value → H} {W : World} {spare : Nat → Bool} {held : Bool}

set_option maxRecDepth 10000 in
theorem open_binds {fuel : Nat} {v : Value} {x : DataW H × List MemPlace} (h : DataW.trod enc Tryz.prog W 0 spare held fuel 46 [v] = some x) :
    ∃ (L : List (Int × Tm)) (a : Option Addr) (l c : Nat), v = .slice a l c ∧ IsBinds W.heap.size W L a l c := by
  obtain ⟨f0, f1, hu, e0, e1, o0, o1⟩ := u70
  rcases DataW.trod_slice Tryz.underlying46 h with ⟨k2, -⟩ | ⟨a, len, cap, elems, rest, m, hm, k2, hx, -, hle, hcm, hel, hrow, -, -⟩
  · simp only [List.cons.injEq, and_true] at k2
    subst k2
    exact ⟨[], none, 0, 0, rfl, rfl, by omega, by omega, .inl rfl⟩
  · simp only [List.cons.injEq, and_true] at k2
    subst k2
    by_cases h0 : len = 0
    · subst h0
      exact ⟨[], some a, 0, cap, rfl, rfl, hle, by unfold maxLen at hcm; omega, .inl rfl⟩
    obtain ⟨b, off, spot⟩ := a
    have hsp : spot = none := by
      have hr := hrow 0 (by omega)
      rw [List.getElem?_eq_getElem (by omega), c70] at hr
      obtain ⟨cs', hc, -⟩ := Option.bind_eq_some_iff.1 hr
      obtain ⟨x0, x1, x2, x3, -, q0, -⟩ := cells4_of hc
      simpa [Addr.add] using World.cell?_spot q0
    subst hsp
    have hkid : ∀ i, i < len → b < W.heap.size ∧ ∃ y : Int × Tm, W.cell? ⟨b, off + i * 4, none⟩ = some (.int .i64 y.1) ∧ ∃ a' l' c', Cells3 W b (off + i * 4 + 1) y.2.op y.2.n a' l' c' ∧ IsTm W.heap.size W y.2 a' l' c' := fun i hi => by
      have hr := hrow i hi
      have hi' : i < elems.length := by omega
      rw [List.getElem?_eq_getElem hi', c70] at hr
      obtain ⟨cs', hc, hd⟩ := Option.bind_eq_some_iff.1 hr
      obtain ⟨x0, x1, x2, x3, hxs, q0, q1, q2, q3⟩ := cells4_of hc
      subst hxs
      obtain ⟨xs, n, hn, hxx, hl, hlen, hf⟩ := DataW.trod_struct hu hd
      match xs, hlen with
      | [y0, y1], _ =>
        have h0 := hf 0 f0 rfl
        have h1 := hf 1 f1 rfl
        rw [e0, o0, cc3] at h0
        rw [e1, o1, c28] at h1
        simp only [List.drop_zero, List.drop_succ_cons, List.take_succ_cons, List.take_zero, List.getElem?_cons_zero, List.getElem?_cons_succ] at h0 h1
        obtain ⟨nn, k0, -, -⟩ := DataW.trod_int Tryz.underlying3 h0
        obtain ⟨t, a', l', c', he, ht⟩ := open_term _ _ _ h1
        simp only [List.cons.injEq, and_true] at k0 he
        obtain ⟨rfl, rfl, rfl⟩ := he
        subst k0
        rw [add_plain, add_plain] at q0 q1 q2 q3
        exact ⟨World.block_lt_of_cell? W _ q0, (nn, t), q0, a', l', c', ⟨q1, q2, q3⟩, ht⟩
    haveI : Inhabited (Int × Tm) := ⟨(0, .mk 0 0 [])⟩
    obtain ⟨f, hfk⟩ := choose_lt (α := Int × Tm) (p := fun i y => W.cell? ⟨b, off + i * 4, none⟩ = some (.int .i64 y.1) ∧ ∃ a' l' c', Cells3 W b (off + i * 4 + 1) y.2.op y.2.n a' l' c' ∧ IsTm W.heap.size W y.2 a' l' c') (fun i hi => (hkid i hi).2)
    refine ⟨(List.range len).map f, some ⟨b, off, none⟩, len, cap, rfl, by simp, hle, by unfold maxLen at hcm; omega, ?_⟩
    obtain ⟨hb, -⟩ := hkid 0 (by omega)
    refine .inr ⟨b, off, rfl, hb, fun k hk => ?_⟩
    have := hfk k (by simpa using hk)
    simpa using this
set_option maxRecDepth 100000 in
theorem arg_binds {base : Nat} {v : Value} {d : DataW H} {p : List MemPlace} (hv : Value.okWide Tryz.prog W .any base 46 v) (h : DataW.Trod enc Tryz.prog W 0 (fun _ => true) true 46 v d p) :
    ∃ (L : List (Int × Tm)) (a : Option Addr) (l c : Nat), v = .slice a l c ∧ IsBinds W.heap.size W L a l c := by
  obtain ⟨fuel, hf⟩ := h
  obtain ⟨a, l, c, rfl⟩ : ∃ a l c, v = .slice a l c := okWide_slice Tryz.underlying46 hv
  exact open_binds hf
end

set_option maxRecDepth 100000 in
theorem termCapture_lifted (os : Os) (started : os.Started) (H : Type) (enc : TypeId × Value → H) :
    ReturnsInHanded {} Tryz.checked os 7 .any (Rows.termCaptureSpec.pre6 enc Tryz.prog Tryz.f7 Rows.termCaptureRow.domain false) (Rows.termCaptureSpec.post enc Tryz.prog Tryz.f7 false true false false) := by
  refine returnsInHanded_of_change_sized (C := Tryz.checked) Tryz.own started (by kernel_rfl) Tryz.func7
    (ChangeSpec.witness6 (enc := enc) (C := Tryz.checked) false ⟨#[], #[.agg #[.slice none 0 0, .slice none 0 0], .agg #[.int .i64 0, .int .i64 0, .slice none 0 0], .slice none 0 0], []⟩ 8 (by kernel_rfl) (by kernel_rfl) (by kernel_rfl) (by kernel_rfl)) ?_
  intro W base args ds gs before hval0 hW hcnd0 hsz0 _
  have hval : ∀ (j : Nat) t v, Tryz.f7.params[j]? = some t → args[j]? = some v → Value.okWide Tryz.prog W .any base t v := hval0
  have hsz : (DataW.weightsEach Tryz.prog (Tryz.f7.params.toList ++ Rows.termCaptureSpec.plain.varTypes Tryz.prog) (ds ++ gs)).all (· ≤ reachBytes) = true := hsz0
  have hW' := hW
  obtain ⟨p, q, hA0, hV, rfl, hfz, hnd⟩ := hW
  have hA : DataW.TrodAll enc Tryz.prog W 0 (fun _ => true) true Tryz.f7.params.toList args.toList ds p := hA0
  rw [Tryz.params7] at hA hval hsz
  obtain ⟨v0, v1, v2, d0, d1, d2, p0, p1, p2, rfl, rfl, rfl, h0, h1, h2⟩ := trodAll_three hA
  obtain ⟨rfl, rfl⟩ := trodVars_none hV
  clear hA0 hval0 hsz0 hcnd0
  simp only [List.append_nil] at hW' hsz
  obtain ⟨s, ac, lc, cc, af, lf, cf, rfl, hs⟩ := arg_sig (hval 0 24 v0 rfl rfl) h0 (fun n hn => by
    have := List.all_eq_true.1 hsz n (DataW.weights_mem_each (j := 0) (t := 24) rfl rfl n hn)
    simpa using this)
  obtain ⟨t1, rfl, g1⟩ := arg_term (hval 1 28 v1 rfl rfl) h1
  obtain ⟨L, al, ll, cl, rfl, g2⟩ := arg_binds (hval 2 46 v2 rfl rfl) h2
  have hlt : ∀ x ∈ p0 ++ (p1 ++ p2), x.block < W.heap.size := fun x hx => by simpa using hW'.lt x (by simpa using hx)
  refine (TermCapture_any s t1 L W.heap.size W ac lc cc af lf cf al ll cl hs g1 g2 (Nat.le_refl _)).mono fun e W' ⟨he, hnx⟩ => ?_
  subst he
  refine ⟨_, rfl, _, _, _, [], p0 ++ (p1 ++ p2), [], hW', trodAll_mk1 (shut_bool Tryz.underlying4 _), ?_, rfl, hnx.frame _, fun h => by cases h⟩
  exact trodAll_mk3 (Below.trod Tryz.laidOut (by kernel_rfl) (of_decide_eq_true (by kernel_rfl)) h0 hnx (fun x hx => hlt x (by simp [hx])))
    (Below.trod Tryz.laidOut (by kernel_rfl) (of_decide_eq_true (by kernel_rfl)) h1 hnx (fun x hx => hlt x (by simp [hx])))
    (Below.trod Tryz.laidOut (by kernel_rfl) (of_decide_eq_true (by kernel_rfl)) h2 hnx (fun x hx => hlt x (by simp [hx])))

theorem termCapture_holds : Rows.TermCaptureSaid :=
  OpenClaim.holds_of_wide 7 Tryz.f7 rfl rfl rfl rfl rfl rfl rfl ⟨rfl, rfl, rfl, rfl, rfl⟩ rfl rfl rfl rfl rfl (by kernel_rfl) Tryz.func7 (by kernel_rfl)
    (of_decide_eq_true (by kernel_rfl)) (by unfold Func.isWrapper; first | (rw [if_pos (by decide +kernel)]; kernel_rfl) | (rw [if_neg (by decide +kernel)]; exact ⟨rfl, rfl⟩))
    (fun os started H enc _ => termCapture_lifted os started H enc)

end Go.Proofs.YthlegfegkopdkaaGreat

namespace Go.Proofs.YthlegfegkopdkaaGreat
open Go.ChangeShapes Go.WideShapes Go.ChangeAt Go.RowKit Go.Deep Go.Joins

set_option maxRecDepth 100000 in
theorem termGeneral_lifted (os : Os) (started : os.Started) (H : Type) (enc : TypeId × Value → H) :
    ReturnsInHanded {} Tryz.checked os 9 .any (Rows.termGeneralSpec.pre6 enc Tryz.prog Tryz.f9 Rows.termGeneralRow.domain false) (Rows.termGeneralSpec.post enc Tryz.prog Tryz.f9 false true false false) := by
  refine returnsInHanded_of_change_sized (C := Tryz.checked) Tryz.own started (by kernel_rfl) Tryz.func9
    (ChangeSpec.witness6 (enc := enc) (C := Tryz.checked) false ⟨#[], #[.agg #[.slice none 0 0, .slice none 0 0], .agg #[.int .i64 0, .int .i64 0, .slice none 0 0], .agg #[.int .i64 0, .int .i64 0, .slice none 0 0], .slice none 0 0], []⟩ 8 (by kernel_rfl) (by kernel_rfl) (by kernel_rfl) (by kernel_rfl)) ?_
  intro W base args ds gs before hval0 hW hcnd0 hsz0 _
  have hval : ∀ (j : Nat) t v, Tryz.f9.params[j]? = some t → args[j]? = some v → Value.okWide Tryz.prog W .any base t v := hval0
  have hsz : (DataW.weightsEach Tryz.prog (Tryz.f9.params.toList ++ Rows.termGeneralSpec.plain.varTypes Tryz.prog) (ds ++ gs)).all (· ≤ reachBytes) = true := hsz0
  have hW' := hW
  obtain ⟨p, q, hA0, hV, rfl, hfz, hnd⟩ := hW
  have hA : DataW.TrodAll enc Tryz.prog W 0 (fun _ => true) true Tryz.f9.params.toList args.toList ds p := hA0
  rw [Tryz.params9] at hA hval hsz
  obtain ⟨v0, v1, v2, v3, d0, d1, d2, d3, p0, p1, p2, p3, rfl, rfl, rfl, h0, h1, h2, h3⟩ := trodAll_four hA
  obtain ⟨rfl, rfl⟩ := trodVars_none hV
  clear hA0 hval0 hsz0 hcnd0
  simp only [List.append_nil] at hW' hsz
  obtain ⟨s, ac, lc, cc, af, lf, cf, rfl, hs⟩ := arg_sig (hval 0 24 v0 rfl rfl) h0 (fun n hn => by
    have := List.all_eq_true.1 hsz n (DataW.weights_mem_each (j := 0) (t := 24) rfl rfl n hn)
    simpa using this)
  obtain ⟨t1, rfl, g1⟩ := arg_term (hval 1 28 v1 rfl rfl) h1
  obtain ⟨t2, rfl, g2⟩ := arg_term (hval 2 28 v2 rfl rfl) h2
  obtain ⟨L, al, ll, cl, rfl, g3⟩ := arg_binds (hval 3 46 v3 rfl rfl) h3
  have hlt : ∀ x ∈ p0 ++ (p1 ++ (p2 ++ p3)), x.block < W.heap.size := fun x hx => by simpa using hW'.lt x (by simpa using hx)
  refine (TermGeneral_any s t1 t2 L W.heap.size W ac lc cc af lf cf al ll cl hs g1 g2 g3 (Nat.le_refl _)).mono fun e W' ⟨he, hnx⟩ => ?_
  subst he
  refine ⟨_, rfl, _, _, _, [], p0 ++ (p1 ++ (p2 ++ p3)), [], hW', trodAll_mk1 (shut_bool Tryz.underlying4 _), ?_, rfl, hnx.frame _, fun h => by cases h⟩
  exact trodAll_mk4 (Below.trod Tryz.laidOut (by kernel_rfl) (of_decide_eq_true (by kernel_rfl)) h0 hnx (fun x hx => hlt x (by simp [hx])))
    (Below.trod Tryz.laidOut (by kernel_rfl) (of_decide_eq_true (by kernel_rfl)) h1 hnx (fun x hx => hlt x (by simp [hx])))
    (Below.trod Tryz.laidOut (by kernel_rfl) (of_decide_eq_true (by kernel_rfl)) h2 hnx (fun x hx => hlt x (by simp [hx])))
    (Below.trod Tryz.laidOut (by kernel_rfl) (of_decide_eq_true (by kernel_rfl)) h3 hnx (fun x hx => hlt x (by simp [hx])))

theorem termGeneral_holds : Rows.TermGeneralSaid :=
  OpenClaim.holds_of_wide 9 Tryz.f9 rfl rfl rfl rfl rfl rfl rfl ⟨rfl, rfl, rfl, rfl, rfl⟩ rfl rfl rfl rfl rfl (by kernel_rfl) Tryz.func9 (by kernel_rfl)
    (of_decide_eq_true (by kernel_rfl)) (by unfold Func.isWrapper; first | (rw [if_pos (by decide +kernel)]; kernel_rfl) | (rw [if_neg (by decide +kernel)]; exact ⟨rfl, rfl⟩))
    (fun os started H enc _ => termGeneral_lifted os started H enc)

end Go.Proofs.YthlegfegkopdkaaGreat
