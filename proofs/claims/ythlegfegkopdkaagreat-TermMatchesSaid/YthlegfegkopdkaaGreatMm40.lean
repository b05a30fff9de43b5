/- Own text, joined of: Mt8 Mt9 Mt10. The reference's 'unified': what it comes to behind a list in solved form. · The reference's 'unified' and 'Unify', in whole. · The reference's 'matched' and 'Match'. -/
import Derived.Deep.CutRange
import Derived.Test.YthlegfegkopdkaaGreatMm39

namespace Go.Proofs.YthlegfegkopdkaaGreat
open Go.RowKit Go.Shelf Go.Sort

/-- What 'unified' comes to. -/
def UniEnd (L : List (Int × Tm)) (a b : Tm) (w : World) (e : Ending) (w' : World) : Prop :=
  ∃ va vl vc is, e = .returned (.tuple #[.slice va vl vc, .bool is]) ∧ Below w.heap.size w w' ∧ (is = true → ∃ L', IsBinds w'.heap.size w' L' va vl vc ∧ UOk L a b L') ∧ (is = false → ∀ θ, Sat θ L → sb θ a ≠ sb θ b)

/-- Both boxes hold what came of the list. -/
def UBox (w : World) (A B : Tm) (W : World) : Prop :=
  ∃ xa xl xc ya yl yc, W.heap[w.heap.size]? = some (.cells #[.int .i64 A.op, .int .i64 A.n, .slice xa xl xc] 28 (0, 0)) ∧ W.heap[w.heap.size + 1]? = some (.cells #[.int .i64 B.op, .int .i64 B.n, .slice ya yl yc] 28 (0, 0)) ∧
    IsTm W.heap.size W A xa xl xc ∧ IsTm W.heap.size W B ya yl yc ∧ Below w.heap.size w W

theorem ubox_of {n₀ : Nat} {w w0 x1 w1 y1 w2 W3 W4 : World} {A B : Tm} {xa ya : Option Addr} {xl xc yl yc : Nat} (hz0 : w0.heap.size = w.heap.size + 1 + 1) (hn : n₀ ≤ w.heap.size) (hx1 : w0.heap.size ≤ x1.heap.size) (hy1 : w0.heap.size ≤ y1.heap.size)
    (h1 : Mix n₀ x1 w1 A xa xl xc) (h12 : Below w1.heap.size w1 w2) (h2 : Mix n₀ y1 w2 B ya yl yc) (hw2 : Below w.heap.size w w2)
    (r3 : W3.heap[w.heap.size]? = some (.cells #[.int .i64 A.op, .int .i64 A.n, .slice xa xl xc] 28 (0, 0))) (s3 : ∀ k, k ≠ w.heap.size → W3.heap[k]? = w2.heap[k]?) (b3 : Below w.heap.size w2 W3)
    (r4 : W4.heap[w.heap.size + 1]? = some (.cells #[.int .i64 B.op, .int .i64 B.n, .slice ya yl yc] 28 (0, 0))) (s4 : ∀ k, k ≠ w.heap.size + 1 → W4.heap[k]? = W3.heap[k]?) (b4 : Below (w.heap.size + 1) W3 W4) : UBox w A B W4 := by
  refine ⟨xa, xl, xc, ya, yl, yc, (s4 _ (by omega)).trans r3, r4, ?_, ?_, (hw2.trans b3).trans (b4.mono (by omega))⟩
  · refine TmP.is (P := fun b => b < W4.heap.size) (fun _ h => h) _ (TmP.move (fun b hb hlt => ?_) _ h1)
    have hb' : b ≠ w.heap.size ∧ b ≠ w.heap.size + 1 := by rcases hb with h | h <;> omega
    refine ⟨?_, (s4 b hb'.2).trans ((s3 b hb'.1).trans (h12.block b hlt))⟩
    have := h12.size; have := b3.size; have := b4.size; omega
  · refine TmP.is (P := fun b => b < W4.heap.size) (fun _ h => h) _ (TmP.move (fun b hb hlt => ?_) _ h2)
    have hb' : b ≠ w.heap.size ∧ b ≠ w.heap.size + 1 := by rcases hb with h | h <;> omega
    refine ⟨?_, (s4 b hb'.2).trans (s3 b hb'.1)⟩
    have := b3.size; have := b4.size; omega

/-- What is known behind k pairs of kids. -/
def KInv (L : List (Int × Tm)) (a b A B : Tm) (k : Nat) (is : Bool) (W : World) (va : Option Addr) (vl vc : Nat) : Prop :=
  (is = true → ∃ Lk, IsBinds W.heap.size W Lk va vl vc ∧ Sol Lk ∧ (∀ θ, Sat θ Lk ↔ Sat θ L ∧ ∀ j (h : j < A.kids.length) (h' : j < B.kids.length), j < k → sb θ A.kids[j] = sb θ B.kids[j]) ∧ (Lk = L ∨ L.length < Lk.length)) ∧
  (is = false → ∀ θ, Sat θ L → sb θ a ≠ sb θ b)
theorem KInv.step {L Lk : List (Int × Tm)} {a b A B : Tm} {k : Nat} (hk : k < A.kids.length) (hk' : k < B.kids.length) (hkd : ∀ θ, Sat θ L → (sb θ a = sb θ b ↔ ∀ j (h : j < A.kids.length) (h' : j < B.kids.length), sb θ A.kids[j] = sb θ B.kids[j]))
    (h1 : ∀ θ, Sat θ Lk ↔ Sat θ L ∧ ∀ j (h : j < A.kids.length) (h' : j < B.kids.length), j < k → sb θ A.kids[j] = sb θ B.kids[j]) (h2 : Lk = L ∨ L.length < Lk.length) {is : Bool} {W : World} {va : Option Addr} {vl vc : Nat}
    (g1 : is = true → ∃ L', IsBinds W.heap.size W L' va vl vc ∧ UOk Lk A.kids[k] B.kids[k] L') (g2 : is = false → ∀ θ, Sat θ Lk → sb θ A.kids[k] ≠ sb θ B.kids[k]) : KInv L a b A B (k + 1) is W va vl vc := by
  refine ⟨fun h => ?_, fun h θ hθ e => ?_⟩
  · obtain ⟨L', hI, hS', hiff, hlen⟩ := g1 h
    refine ⟨L', hI, hS', fun θ => ?_, ?_⟩
    · rw [hiff, h1]
      constructor
      · rintro ⟨⟨e1, e2⟩, e3⟩
        refine ⟨e1, fun j hj hj' hjk => ?_⟩
        by_cases e : j = k
        · subst e; exact e3
        · exact e2 j hj hj' (by omega)
      · rintro ⟨e1, e2⟩
        exact ⟨⟨e1, fun j hj hj' hjk => e2 j hj hj' (by omega)⟩, e2 k hk hk' (by omega)⟩
    · rcases hlen with rfl | hlen
      · exact h2
      · rcases h2 with rfl | h2
        · exact .inr hlen
        · exact .inr (by omega)
  · have hall := (hkd θ hθ).1 e
    exact g2 h θ ((h1 θ).2 ⟨hθ, fun j hj hj' _ => hall j hj hj'⟩) (hall k hk hk')

theorem binds_up {A B : World} {L : List (Int × Tm)} {a : Option Addr} {l c : Nat} (h : IsBinds A.heap.size A L a l c) (hb : Below A.heap.size A B) : IsBinds B.heap.size B L a l c := by
  obtain ⟨h1, h2, h3, h4⟩ := h.below hb
  refine ⟨h1, h2, h3, h4.imp id fun ⟨b, off, ha, hb', hk⟩ => ⟨b, off, ha, by have := hb.size; omega, fun k hkl => ?_⟩⟩
  obtain ⟨c0, a', l', c', g1, g2⟩ := hk k hkl
  exact ⟨c0, a', l', c', g1, g2.wider hb.size⟩

theorem is_var (n : Nat) (W : World) (m : Int) : IsTm n W (.mk 1 m []) none 0 0 := by simp [IsTm]

set_option maxRecDepth 100000 in
set_option maxHeartbeats 16000000 in
theorem unified_step (m N : Nat) (ihm : ∀ m', m' < m → ∀ (a b : Tm) (L : List (Int × Tm)) (n₀ : Nat) (w : World) (aa : Option Addr) (la ca : Nat) (ab : Option Addr) (lb cb : Nat) (al : Option Addr) (ll cl : Nat), 20 - L.length ≤ m' → vtB a = true → vtB b = true → Sol L → IsTm n₀ w a aa la ca → IsTm n₀ w b ab lb cb → IsBinds n₀ w L al ll cl → n₀ ≤ w.heap.size →
      Calls Tryz.prog 81 #[.agg #[.int .i64 a.op, .int .i64 a.n, .slice aa la ca], .agg #[.int .i64 b.op, .int .i64 b.n, .slice ab lb cb], .slice al ll cl] w (UniEnd L a b w))
    (ihN : ∀ (a b : Tm) (L : List (Int × Tm)) (n₀ : Nat) (w : World) (aa : Option Addr) (la ca : Nat) (ab : Option Addr) (lb cb : Nat) (al : Option Addr) (ll cl : Nat), 20 - L.length ≤ m → (sb (subL L) a).size ≤ N → vtB a = true → vtB b = true → Sol L → IsTm n₀ w a aa la ca → IsTm n₀ w b ab lb cb → IsBinds n₀ w L al ll cl → n₀ ≤ w.heap.size →
      Calls Tryz.prog 81 #[.agg #[.int .i64 a.op, .int .i64 a.n, .slice aa la ca], .agg #[.int .i64 b.op, .int .i64 b.n, .slice ab lb cb], .slice al ll cl] w (UniEnd L a b w))
    (a b : Tm) (L : List (Int × Tm)) (n₀ : Nat) (w : World) (aa : Option Addr) (la ca : Nat) (ab : Option Addr) (lb cb : Nat) (al : Option Addr) (ll cl : Nat) (hm : 20 - L.length ≤ m) (hN : (sb (subL L) a).size ≤ N + 1) (hva : vtB a = true) (hvb : vtB b = true) (hS : Sol L) (hta : IsTm n₀ w a aa la ca) (htb : IsTm n₀ w b ab lb cb) (hL : IsBinds n₀ w L al ll cl) (hn : n₀ ≤ w.heap.size) :
    Calls Tryz.prog 81 #[.agg #[.int .i64 a.op, .int .i64 a.n, .slice aa la ca], .agg #[.int .i64 b.op, .int .i64 b.n, .slice ab lb cb], .slice al ll cl] w (UniEnd L a b w) := by
  have hll : ll = L.length := hL.1
  subst hll
  obtain ⟨w0, hw0⟩ : ∃ W, W = (w.alloc (.cells #[.int .i64 a.op, .int .i64 a.n, .slice aa la ca] 28)).alloc (.cells #[.int .i64 b.op, .int .i64 b.n, .slice ab lb cb] 28) := ⟨_, rfl⟩
  have hz0 : w0.heap.size = w.heap.size + 1 + 1 := by rw [hw0]; simp
  have hB0 : Below w.heap.size w w0 := by rw [hw0]; go_grown
  have ra : w0.heap[w.heap.size]? = some (.cells #[.int .i64 a.op, .int .i64 a.n, .slice aa la ca] 28 (0, 0)) := by rw [hw0]; exact heap_old (heap_new' _ rfl)
  have rb : w0.heap[w.heap.size + 1]? = some (.cells #[.int .i64 b.op, .int .i64 b.n, .slice ab lb cb] 28 (0, 0)) := by rw [hw0]; exact heap_new' _ (by simp)
  have hA1 := hS.vput hva
  have hB1 := hS.vput hvb
  obtain ⟨A, hA⟩ : ∃ A, A = sb (subL L) a := ⟨_, rfl⟩
  obtain ⟨B, hB⟩ : ∃ B, B = sb (subL L) b := ⟨_, rfl⟩
  have hsame : A = B → UOk L a b L := fun h => u_same hS (by rw [← hA, ← hB]; exact h)
  have hvars : A.op = 1 → B.op = 1 → A ≠ B → UOk L a b (solvedL L (max A.n B.n) (.mk 1 (min A.n B.n) [])) := fun h1 h2 h3 => by
    subst hA hB; exact u_vars hS hva hvb h1 h2 h3
  have hbA : A.op = 1 → B.op ≠ 1 → occ A.n B = false → UOk L a b (solvedL L A.n B) := fun h1 h2 h3 => by
    subst hA hB; exact u_bind hS hva hvb h1 h3 (fun e => absurd e h2)
  have hoA : A.op = 1 → B.op ≠ 1 → occ A.n B = true → ∀ θ, Sat θ L → sb θ a ≠ sb θ b := fun h1 h2 h3 => by
    subst hA hB; exact u_occ hS hvb h1 h2 h3
  have hbB : B.op = 1 → A.op ≠ 1 → occ B.n A = false → UOk L a b (solvedL L B.n A) := fun h1 h2 h3 => by
    subst hA hB; exact (u_bind hS hvb hva h1 h3 (fun e => absurd e h2)).comm
  have hoB : B.op = 1 → A.op ≠ 1 → occ B.n A = true → ∀ θ, Sat θ L → sb θ a ≠ sb θ b := fun h1 h2 h3 θ hθ e => by
    subst hA hB; exact u_occ hS hva h1 h2 h3 θ hθ e.symm
  have hcl : A.op ≠ 1 → B.op ≠ 1 → (A.op ≠ B.op ∨ A.n ≠ B.n ∨ A.kids.length ≠ B.kids.length) → ∀ θ, Sat θ L → sb θ a ≠ sb θ b := fun h1 h2 h3 => by
    subst hA hB; exact u_clash h1 h2 h3
  have hkd : A.op ≠ 1 → B.op ≠ 1 → A.op = B.op → A.n = B.n → A.kids.length = B.kids.length → ∀ θ, Sat θ L → (sb θ a = sb θ b ↔ ∀ j (h : j < A.kids.length) (h' : j < B.kids.length), sb θ A.kids[j] = sb θ B.kids[j]) := fun h1 h2 h3 h4 h5 => by
    subst hA hB; exact u_kids h1 h2 h3 h4 h5
  have hgA : ∀ y ∈ L, occ y.1 A = false := fun y hy => by rw [hA]; exact hS.gone hy
  have hCa : Hid (∀ W, Below w0.heap.size w0 W → Calls Tryz.prog 29 #[.agg #[.int .i64 a.op, .int .i64 a.n, .slice aa la ca], .slice al L.length cl] W (SubEnd n₀ W A)) := Lib.hid (fun W hW => by
    have hb : Below n₀ w W := (hB0.mono hn).trans (hW.mono (by omega))
    rw [hA]
    exact rSubst_any a.size a L n₀ n₀ W aa la ca al L.length cl (Nat.le_refl _) hva (IsTm.below hb _ hta) (hL.below hb) (Nat.le_refl _) (by have := hW.size; omega))
  have hCb : Hid (∀ W, Below w0.heap.size w0 W → Calls Tryz.prog 29 #[.agg #[.int .i64 b.op, .int .i64 b.n, .slice ab lb cb], .slice al L.length cl] W (SubEnd n₀ W B)) := Lib.hid (fun W hW => by
    have hb : Below n₀ w W := (hB0.mono hn).trans (hW.mono (by omega))
    rw [hB]
    exact rSubst_any b.size b L n₀ n₀ W ab lb cb al L.length cl (Nat.le_refl _) hvb (IsTm.below hb _ htb) (hL.below hb) (Nat.le_refl _) (by have := hW.size; omega))
  have hLw : Hid (∀ W, Below w.heap.size w W → IsBinds n₀ W L al L.length cl) := Lib.hid (fun W hW => hL.below (hW.mono hn))
  have hNA : A.size ≤ N + 1 := by rw [hA]; exact hN
  rw [← hA] at hA1
  rw [← hB] at hB1
  have hLlen : L.length ≤ 20 := hS.len
  replace hsame := Lib.hid hsame
  replace hvars := Lib.hid hvars
  replace hbA := Lib.hid hbA
  replace hoA := Lib.hid hoA
  replace hbB := Lib.hid hbB
  replace hoB := Lib.hid hoB
  replace hcl := Lib.hid hcl
  replace hkd := Lib.hid hkd
  replace hgA := Lib.hid hgA
  replace hA1 := Lib.hid hA1
  replace hB1 := Lib.hid hB1
  replace ihm := Lib.hid ihm
  replace ihN := Lib.hid ihN
  replace hS := Lib.hid hS
  replace hNA := Lib.hid hNA
  replace ra := Lib.hid ra
  replace rb := Lib.hid rb
  have hst : Hid (Below w0.heap.size w0 w0) := Lib.hid (Below.refl _ _)
  have hzz := Lib.hid hz0
  replace hB0 := Lib.hid hB0
  clear hA hB hta htb hL hva hvb hN hz0
  go_enter Tryz.func81, Tryz.ntmps81
  go_upto_region 1 with fail
  rw [← hw0]
  replace hw0 := Lib.hid hw0
  go_cut [] from 10 to 15 (fun W => UBox w A B W)
  case first =>
    refine region_named (S := fun _ => True) (by kernel_rfl) (fun x hx => ?_)
    have hqx : Hid (Below w0.heap.size w0 x) := Lib.hid (by rw [hx]; exact (Below.refl _ _).drew)
    clear hx
    refine takeH 1 11 (.slice al L.length cl) rfl rfl (by kernel_rfl) (by kernel_rfl) (by kernel_rfl) (fun _ _ _ h => h) (by rfl) (by intro W hSw; clear hSw; go_simp) trivial ?_
    try simp only [List.setIfInBounds_toArray, List.set_cons_zero, List.set_cons_succ]
    refine takeH 4 14 (.slice al L.length cl) rfl rfl (by kernel_rfl) (by kernel_rfl) (by kernel_rfl) (fun _ _ _ h => h) (by rfl) (by intro W hSw; clear hSw; go_simp) trivial ?_
    try simp only [List.setIfInBounds_toArray, List.set_cons_zero, List.set_cons_succ]
    refine wpAnyH_ready (rs := [0, 3]) (by kernel_rfl) (by simp) ?_
    refine AllReadyH.cons rfl (fun K5 hKc => ?_) (AllReadyH.cons rfl (fun K5 hKc => ?_) AllReadyH.nil)
    · obtain ⟨⟨p0, p1, p2⟩, -⟩ := c3_cells (((hqx).out.block w.heap.size (by have := hzz.out; omega)).trans ra.out)
      go_simp
      clear p0 p1 p2
      refine hKc _ _ trivial (fun _ => ?_)
      clear hKc K5
      try simp only [Act.put, List.setIfInBounds_toArray, List.set_cons_zero, List.set_cons_succ]
      refine wpAnyH_ready (rs := [2, 3]) (by kernel_rfl) (by simp) ?_
      refine AllReadyH.cons rfl (fun K5 hKc => ?_) (AllReadyH.cons rfl (fun K5 hKc => ?_) AllReadyH.nil)
      · go_simp
        go_at_call 29
        refine (hCa.out _ hqx.out).mono ?_
        rintro e w1 ⟨aa1, al1, ac1, rfl, hMa, hbw1⟩
        have hqw1 : Hid (Below w0.heap.size w0 w1) := Lib.hid (Below.up hqx.out hbw1)
        have hza : Hid (w0.heap.size ≤ x.heap.size) := Lib.hid hqx.out.size
        replace hMa := Lib.hid hMa
        replace hbw1 := Lib.hid hbw1
        refine hKc _ _ trivial (fun _ => ?_)
        clear hKc K5
        try simp only [Act.put, List.setIfInBounds_toArray, List.set_cons_zero, List.set_cons_succ]
        refine wpAnyH_ready (rs := [3]) (by kernel_rfl) (by simp) ?_
        refine AllReadyH.cons rfl (fun K5 hKc => ?_) AllReadyH.nil
        obtain ⟨⟨p0, p1, p2⟩, -⟩ := c3_cells (((hqw1).out.block (w.heap.size + 1) (by have := hzz.out; omega)).trans rb.out)
        go_simp
        clear p0 p1 p2
        refine hKc _ _ trivial (fun _ => ?_)
        clear hKc K5
        try simp only [Act.put, List.setIfInBounds_toArray, List.set_cons_zero, List.set_cons_succ]
        refine wpAnyH_ready (rs := [5]) (by kernel_rfl) (by simp) ?_
        refine AllReadyH.cons rfl (fun K5 hKc => ?_) AllReadyH.nil
        go_simp
        go_at_call 29
        refine (hCb.out _ hqw1.out).mono ?_
        rintro e w2 ⟨ba1, bl1, bc1, rfl, hMb, hbw2⟩
        have hqw2 : Hid (Below w0.heap.size w0 w2) := Lib.hid (Below.up hqw1.out hbw2)
        have hzb : Hid (w0.heap.size ≤ w1.heap.size) := Lib.hid hqw1.out.size
        replace hMb := Lib.hid hMb
        replace hbw2 := Lib.hid hbw2
        refine hKc _ _ trivial (fun _ => ?_)
        clear hKc K5
        try simp only [Act.put, List.setIfInBounds_toArray, List.set_cons_zero, List.set_cons_succ]
        refine wpAnyH_ready (rs := [6]) (by kernel_rfl) (by simp) ?_
        refine AllReadyH.cons rfl (fun K5 hKc => ?_) AllReadyH.nil
        obtain ⟨⟨p0, p1, p2⟩, p3, p4, p5⟩ := c3_cells ((hqw2.out.block w.heap.size (by have := hzz.out; omega)).trans ra.out)
        obtain ⟨W3, e3, r3, -, s3, b3⟩ := stored3 (.int .i64 A.op) (.int .i64 A.n) (.slice aa1 al1 ac1) ((hqw2.out.block w.heap.size (by have := hzz.out; omega)).trans ra.out)
        go_simp
        rw [← e3]
        clear p0 p1 p2 p3 p4 p5
        refine hKc _ _ trivial (fun _ => ?_)
        clear hKc K5
        try simp only [Act.put, List.setIfInBounds_toArray, List.set_cons_zero, List.set_cons_succ]
        refine wpAnyH_ready (rs := [7]) (by kernel_rfl) (by simp) ?_
        refine AllReadyH.cons rfl (fun K5 hKc => ?_) AllReadyH.nil
        have rb3 := (s3 (w.heap.size + 1) (by omega)).trans ((hqw2.out.block (w.heap.size + 1) (by have := hzz.out; omega)).trans rb.out)
        obtain ⟨⟨p0, p1, p2⟩, p3, p4, p5⟩ := c3_cells rb3
        obtain ⟨W4, e4, r4, -, s4, b4⟩ := stored3 (.int .i64 B.op) (.int .i64 B.n) (.slice ba1 bl1 bc1) rb3
        clear e3
        go_simp
        rw [← e4]
        have hfin := Lib.hid (ubox_of hzz.out hn hza.out hzb.out hMa.out hbw2.out hMb.out (Below.trans hB0.out (hqw2.out.mono (by have := hzz.out; omega))) r3 s3 b3 r4 s4 b4)
        clear p0 p1 p2 p3 p4 p5 e4 r3 s3 b3 r4 s4 b4 rb3
        refine hKc _ _ trivial (fun _ => ?_)
        clear hKc K5
        try simp only [Act.put, List.setIfInBounds_toArray, List.set_cons_zero, List.set_cons_succ]
        refine wpAnyH_done (by kernel_rfl) ?_ _
        go_wp2_with fail
        go_meet
        case rel => exact hfin.out
      · obtain ⟨⟨p0, p1, p2⟩, -⟩ := c3_cells (((hqx).out.block (w.heap.size + 1) (by have := hzz.out; omega)).trans rb.out)
        go_simp
        clear p0 p1 p2
        refine hKc _ _ trivial (fun _ => ?_)
        clear hKc K5
        try simp only [Act.put, List.setIfInBounds_toArray, List.set_cons_zero, List.set_cons_succ]
        refine wpAnyH_ready (rs := [2]) (by kernel_rfl) (by simp) ?_
        refine AllReadyH.cons rfl (fun K5 hKc => ?_) AllReadyH.nil
        go_simp
        go_at_call 29
        refine (hCa.out _ hqx.out).mono ?_
        rintro e w1 ⟨aa1, al1, ac1, rfl, hMa, hbw1⟩
        have hqw1 : Hid (Below w0.heap.size w0 w1) := Lib.hid (Below.up hqx.out hbw1)
        have hza : Hid (w0.heap.size ≤ x.heap.size) := Lib.hid hqx.out.size
        replace hMa := Lib.hid hMa
        replace hbw1 := Lib.hid hbw1
        refine hKc _ _ trivial (fun _ => ?_)
        clear hKc K5
        try simp only [Act.put, List.setIfInBounds_toArray, List.set_cons_zero, List.set_cons_succ]
        refine wpAnyH_ready (rs := [5]) (by kernel_rfl) (by simp) ?_
        refine AllReadyH.cons rfl (fun K5 hKc => ?_) AllReadyH.nil
        go_simp
        go_at_call 29
        refine (hCb.out _ hqw1.out).mono ?_
        rintro e w2 ⟨ba1, bl1, bc1, rfl, hMb, hbw2⟩
        have hqw2 : Hid (Below w0.heap.size w0 w2) := Lib.hid (Below.up hqw1.out hbw2)
        have hzb : Hid (w0.heap.size ≤ w1.heap.size) := Lib.hid hqw1.out.size
        replace hMb := Lib.hid hMb
        replace hbw2 := Lib.hid hbw2
        refine hKc _ _ trivial (fun _ => ?_)
        clear hKc K5
        try simp only [Act.put, List.setIfInBounds_toArray, List.set_cons_zero, List.set_cons_succ]
        refine wpAnyH_ready (rs := [6]) (by kernel_rfl) (by simp) ?_
        refine AllReadyH.cons rfl (fun K5 hKc => ?_) AllReadyH.nil
        obtain ⟨⟨p0, p1, p2⟩, p3, p4, p5⟩ := c3_cells ((hqw2.out.block w.heap.size (by have := hzz.out; omega)).trans ra.out)
        obtain ⟨W3, e3, r3, -, s3, b3⟩ := stored3 (.int .i64 A.op) (.int .i64 A.n) (.slice aa1 al1 ac1) ((hqw2.out.block w.heap.size (by have := hzz.out; omega)).trans ra.out)
        go_simp
        rw [← e3]
        clear p0 p1 p2 p3 p4 p5
        refine hKc _ _ trivial (fun _ => ?_)
        clear hKc K5
        try simp only [Act.put, List.setIfInBounds_toArray, List.set_cons_zero, List.set_cons_succ]
        refine wpAnyH_ready (rs := [7]) (by kernel_rfl) (by simp) ?_
        refine AllReadyH.cons rfl (fun K5 hKc => ?_) AllReadyH.nil
        have rb3 := (s3 (w.heap.size + 1) (by omega)).trans ((hqw2.out.block (w.heap.size + 1) (by have := hzz.out; omega)).trans rb.out)
        obtain ⟨⟨p0, p1, p2⟩, p3, p4, p5⟩ := c3_cells rb3
        obtain ⟨W4, e4, r4, -, s4, b4⟩ := stored3 (.int .i64 B.op) (.int .i64 B.n) (.slice ba1 bl1 bc1) rb3
        clear e3
        go_simp
        rw [← e4]
        have hfin := Lib.hid (ubox_of hzz.out hn hza.out hzb.out hMa.out hbw2.out hMb.out (Below.trans hB0.out (hqw2.out.mono (by have := hzz.out; omega))) r3 s3 b3 r4 s4 b4)
        clear p0 p1 p2 p3 p4 p5 e4 r3 s3 b3 r4 s4 b4 rb3
        refine hKc _ _ trivial (fun _ => ?_)
        clear hKc K5
        try simp only [Act.put, List.setIfInBounds_toArray, List.set_cons_zero, List.set_cons_succ]
        refine wpAnyH_done (by kernel_rfl) ?_ _
        go_wp2_with fail
        go_meet
        case rel => exact hfin.out
    · obtain ⟨⟨p0, p1, p2⟩, -⟩ := c3_cells (((hqx).out.block (w.heap.size + 1) (by have := hzz.out; omega)).trans rb.out)
      go_simp
      clear p0 p1 p2
      refine hKc _ _ trivial (fun _ => ?_)
      clear hKc K5
      try simp only [Act.put, List.setIfInBounds_toArray, List.set_cons_zero, List.set_cons_succ]
      refine wpAnyH_ready (rs := [0]) (by kernel_rfl) (by simp) ?_
      refine AllReadyH.cons rfl (fun K5 hKc => ?_) AllReadyH.nil
      obtain ⟨⟨p0, p1, p2⟩, -⟩ := c3_cells (((hqx).out.block w.heap.size (by have := hzz.out; omega)).trans ra.out)
      go_simp
      clear p0 p1 p2
      refine hKc _ _ trivial (fun _ => ?_)
      clear hKc K5
      try simp only [Act.put, List.setIfInBounds_toArray, List.set_cons_zero, List.set_cons_succ]
      refine wpAnyH_ready (rs := [2]) (by kernel_rfl) (by simp) ?_
      refine AllReadyH.cons rfl (fun K5 hKc => ?_) AllReadyH.nil
      go_simp
      go_at_call 29
      refine (hCa.out _ hqx.out).mono ?_
      rintro e w1 ⟨aa1, al1, ac1, rfl, hMa, hbw1⟩
      have hqw1 : Hid (Below w0.heap.size w0 w1) := Lib.hid (Below.up hqx.out hbw1)
      have hza : Hid (w0.heap.size ≤ x.heap.size) := Lib.hid hqx.out.size
      replace hMa := Lib.hid hMa
      replace hbw1 := Lib.hid hbw1
      refine hKc _ _ trivial (fun _ => ?_)
      clear hKc K5
      try simp only [Act.put, List.setIfInBounds_toArray, List.set_cons_zero, List.set_cons_succ]
      refine wpAnyH_ready (rs := [5]) (by kernel_rfl) (by simp) ?_
      refine AllReadyH.cons rfl (fun K5 hKc => ?_) AllReadyH.nil
      go_simp
      go_at_call 29
      refine (hCb.out _ hqw1.out).mono ?_
      rintro e w2 ⟨ba1, bl1, bc1, rfl, hMb, hbw2⟩
      have hqw2 : Hid (Below w0.heap.size w0 w2) := Lib.hid (Below.up hqw1.out hbw2)
      have hzb : Hid (w0.heap.size ≤ w1.heap.size) := Lib.hid hqw1.out.size
      replace hMb := Lib.hid hMb
      replace hbw2 := Lib.hid hbw2
      refine hKc _ _ trivial (fun _ => ?_)
      clear hKc K5
      try simp only [Act.put, List.setIfInBounds_toArray, List.set_cons_zero, List.set_cons_succ]
      refine wpAnyH_ready (rs := [6]) (by kernel_rfl) (by simp) ?_
      refine AllReadyH.cons rfl (fun K5 hKc => ?_) AllReadyH.nil
      obtain ⟨⟨p0, p1, p2⟩, p3, p4, p5⟩ := c3_cells ((hqw2.out.block w.heap.size (by have := hzz.out; omega)).trans ra.out)
      obtain ⟨W3, e3, r3, -, s3, b3⟩ := stored3 (.int .i64 A.op) (.int .i64 A.n) (.slice aa1 al1 ac1) ((hqw2.out.block w.heap.size (by have := hzz.out; omega)).trans ra.out)
      go_simp
      rw [← e3]
      clear p0 p1 p2 p3 p4 p5
      refine hKc _ _ trivial (fun _ => ?_)
      clear hKc K5
      try simp only [Act.put, List.setIfInBounds_toArray, List.set_cons_zero, List.set_cons_succ]
      refine wpAnyH_ready (rs := [7]) (by kernel_rfl) (by simp) ?_
      refine AllReadyH.cons rfl (fun K5 hKc => ?_) AllReadyH.nil
      have rb3 := (s3 (w.heap.size + 1) (by omega)).trans ((hqw2.out.block (w.heap.size + 1) (by have := hzz.out; omega)).trans rb.out)
      obtain ⟨⟨p0, p1, p2⟩, p3, p4, p5⟩ := c3_cells rb3
      obtain ⟨W4, e4, r4, -, s4, b4⟩ := stored3 (.int .i64 B.op) (.int .i64 B.n) (.slice ba1 bl1 bc1) rb3
      clear e3
      go_simp
      rw [← e4]
      have hfin := Lib.hid (ubox_of hzz.out hn hza.out hzb.out hMa.out hbw2.out hMb.out (Below.trans hB0.out (hqw2.out.mono (by have := hzz.out; omega))) r3 s3 b3 r4 s4 b4)
      clear p0 p1 p2 p3 p4 p5 e4 r3 s3 b3 r4 s4 b4 rb3
      refine hKc _ _ trivial (fun _ => ?_)
      clear hKc K5
      try simp only [Act.put, List.setIfInBounds_toArray, List.set_cons_zero, List.set_cons_succ]
      refine wpAnyH_done (by kernel_rfl) ?_ _
      go_wp2_with fail
      go_meet
      case rel => exact hfin.out
  case rest =>
    obtain ⟨xa, xl, xc, ya, yl, yc, rA, rB, tA, tB, hbw⟩ := hcut
    obtain ⟨wx, rfl⟩ : ∃ wx : World, wx = wc := ⟨_, rfl⟩
    have hAo := tA.open
    have hBo := tB.open
    have hxl : xl = A.kids.length := hAo.1
    have hyl : yl = B.kids.length := hBo.1
    subst hxl hyl
    have hbx : Hid (∀ W, Below wx.heap.size wx W → W.heap[w.heap.size]? = some (.cells #[.int .i64 A.op, .int .i64 A.n, .slice xa A.kids.length xc] 28 (0, 0)) ∧ W.heap[w.heap.size + 1]? = some (.cells #[.int .i64 B.op, .int .i64 B.n, .slice ya B.kids.length yc] 28 (0, 0)) ∧
        IsTm W.heap.size W A xa A.kids.length xc ∧ IsTm W.heap.size W B ya B.kids.length yc ∧ IsBinds W.heap.size W L al L.length cl ∧ Below w.heap.size w W) := Lib.hid (fun W hW => by
      have hbW := hbw.trans (hW.mono hbw.size)
      have hz := hbW.size
      exact ⟨(hW.block _ (Array.getElem?_eq_some_iff.1 rA).1).trans rA, (hW.block _ (Array.getElem?_eq_some_iff.1 rB).1).trans rB, IsTm.wider hW.size _ (IsTm.below hW _ tA), IsTm.wider hW.size _ (IsTm.below hW _ tB),
        IsBinds2.one (n₁ := W.heap.size) (n₀ := n₀) (by obtain ⟨h1, h2, h3, h4⟩ := hLw.out W hbW; exact ⟨h1, h2, h3, h4.imp id (fun ⟨b, off, ha, hb, hk⟩ => ⟨b, off, ha, by omega, hk⟩)⟩) (by omega), hbW⟩)
    have hstx : Hid (Below wx.heap.size wx wx) := Lib.hid (Below.refl _ _)
    clear rA rB tA tB hbw hCa hCb hst hAo hBo ra rb
    -- the same already
    obtain ⟨rA, rB, tA, tB, -, -⟩ := hbx.out wx hstx.out
    obtain ⟨⟨p0, p1, p2⟩, -⟩ := c3_cells rA
    obtain ⟨⟨q0, q1, q2⟩, -⟩ := c3_cells rB
    obtain ⟨bs, hbs⟩ : ∃ bs, bs = sameB A B := ⟨_, rfl⟩
    have hC := Same_any A.size A B wx.heap.size wx xa A.kids.length xc ya B.kids.length yc (Nat.le_refl _) tA tB (Nat.le_refl _)
    rw [← hbs] at hC
    replace hC := Lib.hid hC
    clear rA rB tA tB
    go_upto_region 99 with fail
    refine (hC.out).mono ?_
    rintro e w2 ⟨rfl, hb2⟩
    have hq2 : Hid (Below wx.heap.size wx w2) := Lib.hid hb2
    clear hC hb2 p0 p1 p2 q0 q1 q2
    cases bs
    rotate_left
    · have hAB := sameB_of _ _ hbs.symm
      have hU := Lib.hid (hsame.out hAB)
      clear hbs hAB
      go_wp2_with fail
      obtain ⟨-, -, -, -, hI, hbW⟩ := hbx.out w2 hq2.out
      exact bodyPost_ret (v := .tuple #[.slice al L.length cl, .bool true]) (by simp [results, Tryz.f81, go_sem]) rfl ⟨al, L.length, cl, true, rfl, hbW, fun _ => ⟨L, hI, hU.out⟩, fun h => by cases h⟩
    have hne : Hid (A ≠ B) := Lib.hid (fun h => by rw [h, sameB_refl] at hbs; cases hbs)
    clear hbs
    obtain ⟨rA, rB, tA, tB, -, -⟩ := hbx.out w2 hq2.out
    obtain ⟨⟨p0, p1, p2⟩, -⟩ := c3_cells rA
    obtain ⟨⟨q0, q1, q2⟩, -⟩ := c3_cells rB
    clear rA rB tA tB
    by_cases h1 : A.op = 1
    · have o1 : (A.op == 1) = true := by simpa using h1
      by_cases h2 : B.op = 1
      · have o2 : (B.op == 1) = true := by simpa using h2
        have hU := Lib.hid (hvars.out h1 h2 hne.out)
        replace h1 := Lib.hid h1
        replace h2 := Lib.hid h2
        go_upto_region 5 with fail
        refine region_named (S := fun W' => Below wx.heap.size wx W') (by kernel_rfl) (fun x hx => ?_)
        have hqx : Hid (Below wx.heap.size wx x) := Lib.hid (by rw [hx]; exact Below.up hq2.out ((Below.refl _ _).drew))
        clear hx p0 p1 p2 q0 q1 q2
        refine takeH 0 28 (.slice al L.length cl) rfl rfl (by kernel_rfl) (by kernel_rfl) (by kernel_rfl) (fun _ _ _ h => h) (by rfl) (by intro W hSw; clear hSw; go_simp) hqx.out ?_
        try simp only [List.setIfInBounds_toArray, List.set_cons_zero, List.set_cons_succ]
        refine takeH 1 29 (.pointer (some ⟨w.heap.size, 1, none⟩)) rfl rfl (by kernel_rfl) (by kernel_rfl) (by kernel_rfl) (fun _ _ _ h => h) (by rfl) (by intro W hSw; clear hSw; go_simp) hqx.out ?_
        try simp only [List.setIfInBounds_toArray, List.set_cons_zero, List.set_cons_succ]
        refine takeH 2 30 (.int .i64 A.n) rfl rfl (by kernel_rfl) (by kernel_rfl) (by kernel_rfl) (fun _ _ _ h => h) (by rfl) (by intro W hSw; obtain ⟨rA, rB, -⟩ := hbx.out W hSw; obtain ⟨⟨j0, j1, j2⟩, -⟩ := c3_cells rA; obtain ⟨⟨k0, k1, k2⟩, -⟩ := c3_cells rB; clear rA rB hSw; go_simp) hqx.out ?_
        try simp only [List.setIfInBounds_toArray, List.set_cons_zero, List.set_cons_succ]
        refine takeH 3 31 (.pointer (some ⟨w.heap.size + 1, 1, none⟩)) rfl rfl (by kernel_rfl) (by kernel_rfl) (by kernel_rfl) (fun _ _ _ h => h) (by rfl) (by intro W hSw; clear hSw; go_simp) hqx.out ?_
        try simp only [List.setIfInBounds_toArray, List.set_cons_zero, List.set_cons_succ]
        refine takeH 4 32 (.int .i64 B.n) rfl rfl (by kernel_rfl) (by kernel_rfl) (by kernel_rfl) (fun _ _ _ h => h) (by rfl) (by intro W hSw; obtain ⟨rA, rB, -⟩ := hbx.out W hSw; obtain ⟨⟨j0, j1, j2⟩, -⟩ := c3_cells rA; obtain ⟨⟨k0, k1, k2⟩, -⟩ := c3_cells rB; clear rA rB hSw; go_simp) hqx.out ?_
        try simp only [List.setIfInBounds_toArray, List.set_cons_zero, List.set_cons_succ]
        refine takeH 5 33 (.int .i64 (max A.n B.n)) rfl rfl (by kernel_rfl) (by kernel_rfl) (by kernel_rfl) (fun _ _ _ h => h) (by rfl) (by intro W hSw; clear hSw; go_simp; split <;> omega) hqx.out ?_
        try simp only [List.setIfInBounds_toArray, List.set_cons_zero, List.set_cons_succ]
        refine takeH 6 34 (.pointer (some ⟨w.heap.size, 1, none⟩)) rfl rfl (by kernel_rfl) (by kernel_rfl) (by kernel_rfl) (fun _ _ _ h => h) (by rfl) (by intro W hSw; clear hSw; go_simp) hqx.out ?_
        try simp only [List.setIfInBounds_toArray, List.set_cons_zero, List.set_cons_succ]
        refine takeH 7 35 (.int .i64 A.n) rfl rfl (by kernel_rfl) (by kernel_rfl) (by kernel_rfl) (fun _ _ _ h => h) (by rfl) (by intro W hSw; obtain ⟨rA, rB, -⟩ := hbx.out W hSw; obtain ⟨⟨j0, j1, j2⟩, -⟩ := c3_cells rA; obtain ⟨⟨k0, k1, k2⟩, -⟩ := c3_cells rB; clear rA rB hSw; go_simp) hqx.out ?_
        try simp only [List.setIfInBounds_toArray, List.set_cons_zero, List.set_cons_succ]
        refine takeH 8 36 (.pointer (some ⟨w.heap.size + 1, 1, none⟩)) rfl rfl (by kernel_rfl) (by kernel_rfl) (by kernel_rfl) (fun _ _ _ h => h) (by rfl) (by intro W hSw; clear hSw; go_simp) hqx.out ?_
        try simp only [List.setIfInBounds_toArray, List.set_cons_zero, List.set_cons_succ]
        refine takeH 9 37 (.int .i64 B.n) rfl rfl (by kernel_rfl) (by kernel_rfl) (by kernel_rfl) (fun _ _ _ h => h) (by rfl) (by intro W hSw; obtain ⟨rA, rB, -⟩ := hbx.out W hSw; obtain ⟨⟨j0, j1, j2⟩, -⟩ := c3_cells rA; obtain ⟨⟨k0, k1, k2⟩, -⟩ := c3_cells rB; clear rA rB hSw; go_simp) hqx.out ?_
        try simp only [List.setIfInBounds_toArray, List.set_cons_zero, List.set_cons_succ]
        refine takeH 10 38 (.int .i64 (min A.n B.n)) rfl rfl (by kernel_rfl) (by kernel_rfl) (by kernel_rfl) (fun _ _ _ h => h) (by rfl) (by intro W hSw; clear hSw; go_simp; split <;> omega) hqx.out ?_
        try simp only [List.setIfInBounds_toArray, List.set_cons_zero, List.set_cons_succ]
        refine wpAnyH_ready (rs := [11]) (by kernel_rfl) (by simp) ?_
        refine AllReadyH.cons rfl (fun K5 hKc => ?_) AllReadyH.nil
        go_simp
        go_at_call 82
        refine (Var_mk _ _).mono ?_
        rintro e w3 ⟨rfl, hb3⟩
        have hq3 : Hid (Below wx.heap.size wx w3) := Lib.hid (Below.up hqx.out hb3)
        clear hb3
        refine hKc _ _ hq3.out (fun _ => ?_)
        clear hKc K5
        try simp only [Act.put, List.setIfInBounds_toArray, List.set_cons_zero, List.set_cons_succ]
        refine wpAnyH_ready (rs := [12]) (by kernel_rfl) (by simp) ?_
        refine AllReadyH.cons rfl (fun K5 hKc => ?_) AllReadyH.nil
        go_simp
        have hC : Hid (Calls Tryz.prog 116 #[.slice al L.length cl, .int .i64 (max A.n B.n), .agg #[.int .i64 1, .int .i64 (min A.n B.n), .slice none 0 0]] w3 fun e w' => ∃ va vl vc, e = .returned (.slice va vl vc) ∧ IsBinds w'.heap.size w' (solvedL L (max A.n B.n) (.mk 1 (min A.n B.n) [])) va vl vc ∧ Below w3.heap.size w3 w') := Lib.hid (by
          obtain ⟨-, -, -, -, hI, -⟩ := hbx.out w3 hq3.out
          exact rsolved_any L (max A.n B.n) (.mk 1 (min A.n B.n) []) w3.heap.size w3 al L.length cl none 0 0 hI (by omega) hS.out.vt (is_var _ _ _) (Nat.le_refl _))
        go_at_call 116
        refine (hC.out).mono ?_
        rintro e w4 ⟨va, vl, vc, rfl, hI4, hb4⟩
        have hq4 : Hid (Below wx.heap.size wx w4) := Lib.hid (Below.up hq3.out hb4)
        replace hI4 := Lib.hid hI4
        clear hb4 hC
        refine hKc _ _ hq4.out (fun _ => ?_)
        clear hKc K5
        try simp only [Act.put, List.setIfInBounds_toArray, List.set_cons_zero, List.set_cons_succ]
        refine takeH 13 6 (.slice va vl vc) rfl rfl (by kernel_rfl) (by kernel_rfl) (by kernel_rfl) (fun _ _ _ h => h) (by rfl) (by intro W hSw; clear hSw; go_simp) hq4.out ?_
        try simp only [List.setIfInBounds_toArray, List.set_cons_zero, List.set_cons_succ]
        refine takeH 14 7 (.bool true) rfl rfl (by kernel_rfl) (by kernel_rfl) (by kernel_rfl) (fun _ _ _ h => h) (by rfl) (by intro W hSw; clear hSw; go_simp) hq4.out ?_
        try simp only [List.setIfInBounds_toArray, List.set_cons_zero, List.set_cons_succ]
        refine wpAnyH_done (by kernel_rfl) ?_ _
        go_wp2_with fail
        obtain ⟨-, -, -, -, -, hbW⟩ := hbx.out w4 hq4.out
        exact bodyPost_ret (v := .tuple #[.slice va vl vc, .bool true]) (by simp [results, Tryz.f81, go_sem]) rfl ⟨va, vl, vc, true, rfl, hbW, fun _ => ⟨_, hI4.out, hU.out⟩, fun h => by cases h⟩
      · have o2 : (B.op == 1) = false := by simpa using h2
        replace h1 := Lib.hid h1
        replace h2 := Lib.hid h2
        go_upto_region 7 with fail
        refine region_named (S := fun W' => Below wx.heap.size wx W') (by kernel_rfl) (fun x hx => ?_)
        have hqx : Hid (Below wx.heap.size wx x) := Lib.hid (by rw [hx]; exact Below.up hq2.out ((Below.refl _ _).drew))
        clear hx p0 p1 p2 q0 q1 q2
        refine takeH 0 44 (.slice al L.length cl) rfl rfl (by kernel_rfl) (by kernel_rfl) (by kernel_rfl) (fun _ _ _ h => h) (by rfl) (by intro W hSw; clear hSw; go_simp) hqx.out ?_
        try simp only [List.setIfInBounds_toArray, List.set_cons_zero, List.set_cons_succ]
        refine takeH 1 45 (.pointer (some ⟨w.heap.size, 1, none⟩)) rfl rfl (by kernel_rfl) (by kernel_rfl) (by kernel_rfl) (fun _ _ _ h => h) (by rfl) (by intro W hSw; clear hSw; go_simp) hqx.out ?_
        try simp only [List.setIfInBounds_toArray, List.set_cons_zero, List.set_cons_succ]
        refine takeH 2 46 (.int .i64 A.n) rfl rfl (by kernel_rfl) (by kernel_rfl) (by kernel_rfl) (fun _ _ _ h => h) (by rfl) (by intro W hSw; obtain ⟨rA, rB, -⟩ := hbx.out W hSw; obtain ⟨⟨j0, j1, j2⟩, -⟩ := c3_cells rA; obtain ⟨⟨k0, k1, k2⟩, -⟩ := c3_cells rB; clear rA rB hSw; go_simp) hqx.out ?_
        try simp only [List.setIfInBounds_toArray, List.set_cons_zero, List.set_cons_succ]
        refine takeH 3 47 (.agg #[.int .i64 B.op, .int .i64 B.n, .slice ya B.kids.length yc]) rfl rfl (by kernel_rfl) (by kernel_rfl) (by kernel_rfl) (fun _ _ _ h => h) (by rfl) (by intro W hSw; obtain ⟨rA, rB, -⟩ := hbx.out W hSw; obtain ⟨⟨j0, j1, j2⟩, -⟩ := c3_cells rA; obtain ⟨⟨k0, k1, k2⟩, -⟩ := c3_cells rB; clear rA rB hSw; go_simp) hqx.out ?_
        try simp only [List.setIfInBounds_toArray, List.set_cons_zero, List.set_cons_succ]
        refine takeH 5 49 (.agg #[.int .i64 B.op, .int .i64 B.n, .slice ya B.kids.length yc]) rfl rfl (by kernel_rfl) (by kernel_rfl) (by kernel_rfl) (fun _ _ _ h => h) (by rfl) (by intro W hSw; obtain ⟨rA, rB, -⟩ := hbx.out W hSw; obtain ⟨⟨j0, j1, j2⟩, -⟩ := c3_cells rA; obtain ⟨⟨k0, k1, k2⟩, -⟩ := c3_cells rB; clear rA rB hSw; go_simp) hqx.out ?_
        try simp only [List.setIfInBounds_toArray, List.set_cons_zero, List.set_cons_succ]
        refine takeH 7 51 (.pointer (some ⟨w.heap.size, 1, none⟩)) rfl rfl (by kernel_rfl) (by kernel_rfl) (by kernel_rfl) (fun _ _ _ h => h) (by rfl) (by intro W hSw; clear hSw; go_simp) hqx.out ?_
        try simp only [List.setIfInBounds_toArray, List.set_cons_zero, List.set_cons_succ]
        refine takeH 8 52 (.int .i64 A.n) rfl rfl (by kernel_rfl) (by kernel_rfl) (by kernel_rfl) (fun _ _ _ h => h) (by rfl) (by intro W hSw; obtain ⟨rA, rB, -⟩ := hbx.out W hSw; obtain ⟨⟨j0, j1, j2⟩, -⟩ := c3_cells rA; obtain ⟨⟨k0, k1, k2⟩, -⟩ := c3_cells rB; clear rA rB hSw; go_simp) hqx.out ?_
        try simp only [List.setIfInBounds_toArray, List.set_cons_zero, List.set_cons_succ]
        refine wpAnyH_ready (rs := [4]) (by kernel_rfl) (by simp) ?_
        refine AllReadyH.cons rfl (fun K5 hKc => ?_) AllReadyH.nil
        go_simp
        have hC : Hid (Calls Tryz.prog 116 #[.slice al L.length cl, .int .i64 A.n, .agg #[.int .i64 B.op, .int .i64 B.n, .slice ya B.kids.length yc]] x fun e w' => ∃ va vl vc, e = .returned (.slice va vl vc) ∧ IsBinds w'.heap.size w' (solvedL L A.n B) va vl vc ∧ Below x.heap.size x w') := Lib.hid (by
          obtain ⟨-, -, -, tT, hI, -⟩ := hbx.out x hqx.out
          exact rsolved_any L A.n B x.heap.size x al L.length cl ya B.kids.length yc hI (by omega) hS.out.vt tT (Nat.le_refl _))
        go_at_call 116
        refine (hC.out).mono ?_
        rintro e w3 ⟨va, vl, vc, rfl, hI3, hb3⟩
        have hq3 : Hid (Below wx.heap.size wx w3) := Lib.hid (Below.up hqx.out hb3)
        replace hI3 := Lib.hid hI3
        clear hb3 hC
        refine hKc _ _ hq3.out (fun _ => ?_)
        clear hKc K5
        try simp only [Act.put, List.setIfInBounds_toArray, List.set_cons_zero, List.set_cons_succ]
        refine wpAnyH_ready (rs := [6]) (by kernel_rfl) (by simp) ?_
        refine AllReadyH.cons rfl (fun K5 hKc => ?_) AllReadyH.nil
        go_simp
        have hC : Hid (Calls Tryz.prog 24 #[.agg #[.int .i64 B.op, .int .i64 B.n, .slice ya B.kids.length yc]] w3 fun e w' => ∃ v, e = .returned v ∧ w'.ownsRow w3.heap.size 3 1 v (listTo (fvT B) 20).length (natVals (listTo (fvT B) 20)) ∧ Below w3.heap.size w3 w') := Lib.hid (by
          obtain ⟨-, -, -, tT, hI, -⟩ := hbx.out w3 hq3.out
          exact rVars_any B.size B w3.heap.size w3 ya B.kids.length yc (Nat.le_refl _) tT (vt_ok _ hB1.out) (Nat.le_refl _))
        go_at_call 24
        refine (hC.out).mono ?_
        rintro e w4 ⟨v4, rfl, hr4, hb4⟩
        obtain ⟨av, cv, rfl, hI4⟩ := row_intsM hr4
        obtain ⟨G, hG⟩ : ∃ G, G = listTo (fvT B) 20 := ⟨_, rfl⟩
        have hocc : Hid (decide (A.n ∈ intsM G) = occ A.n B) := Lib.hid (by rw [hG]; exact has_occ hB1.out ((vt_open hA1.out).2.1 h1.out).2)
        rw [← hG] at hI4 ⊢
        have hq4 : Hid (Below wx.heap.size wx w4) := Lib.hid (Below.up hq3.out hb4)
        replace hI3 := Lib.hid (binds_up hI3.out hb4)
        replace hI4 := Lib.hid hI4
        clear hb4 hC hr4 hG
        refine hKc _ _ hq4.out (fun _ => ?_)
        clear hKc K5
        try simp only [Act.put, List.setIfInBounds_toArray, List.set_cons_zero, List.set_cons_succ]
        refine wpAnyH_ready (rs := [9]) (by kernel_rfl) (by simp) ?_
        refine AllReadyH.cons rfl (fun K5 hKc => ?_) AllReadyH.nil
        go_simp
        have hC := Lib.hid (has_any (intsM G) A.n w4.heap.size w4 av G.length cv hI4.out)
        go_at_call 91
        refine (hC.out).mono ?_
        rintro e w5 ⟨rfl, rfl⟩
        obtain ⟨oc, hoc⟩ : ∃ oc, oc = decide (A.n ∈ intsM G) := ⟨_, rfl⟩
        rw [← hoc] at hocc ⊢
        clear hC hoc
        refine hKc _ _ hq4.out (fun _ => ?_)
        clear hKc K5
        try simp only [Act.put, List.setIfInBounds_toArray, List.set_cons_zero, List.set_cons_succ]
        refine takeH 10 54 (.bool (!oc)) rfl rfl (by kernel_rfl) (by kernel_rfl) (by kernel_rfl) (fun _ _ _ h => h) (by rfl) (by intro W hSw; clear hSw; go_simp) hq4.out ?_
        try simp only [List.setIfInBounds_toArray, List.set_cons_zero, List.set_cons_succ]
        refine takeH 11 6 (.slice va vl vc) rfl rfl (by kernel_rfl) (by kernel_rfl) (by kernel_rfl) (fun _ _ _ h => h) (by rfl) (by intro W hSw; clear hSw; go_simp) hq4.out ?_
        try simp only [List.setIfInBounds_toArray, List.set_cons_zero, List.set_cons_succ]
        refine takeH 12 7 (.bool (!oc)) rfl rfl (by kernel_rfl) (by kernel_rfl) (by kernel_rfl) (fun _ _ _ h => h) (by rfl) (by intro W hSw; clear hSw; go_simp) hq4.out ?_
        try simp only [List.setIfInBounds_toArray, List.set_cons_zero, List.set_cons_succ]
        refine wpAnyH_done (by kernel_rfl) ?_ _
        go_wp2_with fail
        obtain ⟨-, -, -, -, -, hbW⟩ := hbx.out _ hq4.out
        exact bodyPost_ret (v := .tuple #[.slice va vl vc, .bool (!oc)]) (by simp [results, Tryz.f81, go_sem]) rfl ⟨va, vl, vc, !oc, rfl, hbW, fun h => ⟨_, hI3.out, hbA.out h1.out h2.out (by rw [← hocc.out]; simpa using h)⟩, fun h => hoA.out h1.out h2.out (by rw [← hocc.out]; simpa using h)⟩
    · have o1 : (A.op == 1) = false := by simpa using h1
      by_cases h2 : B.op = 1
      · have o2 : (B.op == 1) = true := by simpa using h2
        have h3 := Lib.hid h1
        replace h1 := Lib.hid h2
        replace h2 := h3
        clear h3
        go_upto_region 9 with fail
        refine region_named (S := fun W' => Below wx.heap.size wx W') (by kernel_rfl) (fun x hx => ?_)
        have hqx : Hid (Below wx.heap.size wx x) := Lib.hid (by rw [hx]; exact Below.up hq2.out ((Below.refl _ _).drew))
        clear hx p0 p1 p2 q0 q1 q2
        refine takeH 0 58 (.slice al L.length cl) rfl rfl (by kernel_rfl) (by kernel_rfl) (by kernel_rfl) (fun _ _ _ h => h) (by rfl) (by intro W hSw; clear hSw; go_simp) hqx.out ?_
        try simp only [List.setIfInBounds_toArray, List.set_cons_zero, List.set_cons_succ]
        refine takeH 1 59 (.pointer (some ⟨w.heap.size + 1, 1, none⟩)) rfl rfl (by kernel_rfl) (by kernel_rfl) (by kernel_rfl) (fun _ _ _ h => h) (by rfl) (by intro W hSw; clear hSw; go_simp) hqx.out ?_
        try simp only [List.setIfInBounds_toArray, List.set_cons_zero, List.set_cons_succ]
        refine takeH 2 60 (.int .i64 B.n) rfl rfl (by kernel_rfl) (by kernel_rfl) (by kernel_rfl) (fun _ _ _ h => h) (by rfl) (by intro W hSw; obtain ⟨rA, rB, -⟩ := hbx.out W hSw; obtain ⟨⟨j0, j1, j2⟩, -⟩ := c3_cells rA; obtain ⟨⟨k0, k1, k2⟩, -⟩ := c3_cells rB; clear rA rB hSw; go_simp) hqx.out ?_
        try simp only [List.setIfInBounds_toArray, List.set_cons_zero, List.set_cons_succ]
        refine takeH 3 61 (.agg #[.int .i64 A.op, .int .i64 A.n, .slice xa A.kids.length xc]) rfl rfl (by kernel_rfl) (by kernel_rfl) (by kernel_rfl) (fun _ _ _ h => h) (by rfl) (by intro W hSw; obtain ⟨rA, rB, -⟩ := hbx.out W hSw; obtain ⟨⟨j0, j1, j2⟩, -⟩ := c3_cells rA; obtain ⟨⟨k0, k1, k2⟩, -⟩ := c3_cells rB; clear rA rB hSw; go_simp) hqx.out ?_
        try simp only [List.setIfInBounds_toArray, List.set_cons_zero, List.set_cons_succ]
        refine takeH 5 63 (.agg #[.int .i64 A.op, .int .i64 A.n, .slice xa A.kids.length xc]) rfl rfl (by kernel_rfl) (by kernel_rfl) (by kernel_rfl) (fun _ _ _ h => h) (by rfl) (by intro W hSw; obtain ⟨rA, rB, -⟩ := hbx.out W hSw; obtain ⟨⟨j0, j1, j2⟩, -⟩ := c3_cells rA; obtain ⟨⟨k0, k1, k2⟩, -⟩ := c3_cells rB; clear rA rB hSw; go_simp) hqx.out ?_
        try simp only [List.setIfInBounds_toArray, List.set_cons_zero, List.set_cons_succ]
        refine takeH 7 65 (.pointer (some ⟨w.heap.size + 1, 1, none⟩)) rfl rfl (by kernel_rfl) (by kernel_rfl) (by kernel_rfl) (fun _ _ _ h => h) (by rfl) (by intro W hSw; clear hSw; go_simp) hqx.out ?_
        try simp only [List.setIfInBounds_toArray, List.set_cons_zero, List.set_cons_succ]
        refine takeH 8 66 (.int .i64 B.n) rfl rfl (by kernel_rfl) (by kernel_rfl) (by kernel_rfl) (fun _ _ _ h => h) (by rfl) (by intro W hSw; obtain ⟨rA, rB, -⟩ := hbx.out W hSw; obtain ⟨⟨j0, j1, j2⟩, -⟩ := c3_cells rA; obtain ⟨⟨k0, k1, k2⟩, -⟩ := c3_cells rB; clear rA rB hSw; go_simp) hqx.out ?_
        try simp only [List.setIfInBounds_toArray, List.set_cons_zero, List.set_cons_succ]
        refine wpAnyH_ready (rs := [4]) (by kernel_rfl) (by simp) ?_
        refine AllReadyH.cons rfl (fun K5 hKc => ?_) AllReadyH.nil
        go_simp
        have hC : Hid (Calls Tryz.prog 116 #[.slice al L.length cl, .int .i64 B.n, .agg #[.int .i64 A.op, .int .i64 A.n, .slice xa A.kids.length xc]] x fun e w' => ∃ va vl vc, e = .returned (.slice va vl vc) ∧ IsBinds w'.heap.size w' (solvedL L B.n A) va vl vc ∧ Below x.heap.size x w') := Lib.hid (by
          obtain ⟨-, -, tT, -, hI, -⟩ := hbx.out x hqx.out
          exact rsolved_any L B.n A x.heap.size x al L.length cl xa A.kids.length xc hI (by omega) hS.out.vt tT (Nat.le_refl _))
        go_at_call 116
        refine (hC.out).mono ?_
        rintro e w3 ⟨va, vl, vc, rfl, hI3, hb3⟩
        have hq3 : Hid (Below wx.heap.size wx w3) := Lib.hid (Below.up hqx.out hb3)
        replace hI3 := Lib.hid hI3
        clear hb3 hC
        refine hKc _ _ hq3.out (fun _ => ?_)
        clear hKc K5
        try simp only [Act.put, List.setIfInBounds_toArray, List.set_cons_zero, List.set_cons_succ]
        refine wpAnyH_ready (rs := [6]) (by kernel_rfl) (by simp) ?_
        refine AllReadyH.cons rfl (fun K5 hKc => ?_) AllReadyH.nil
        go_simp
        have hC : Hid (Calls Tryz.prog 24 #[.agg #[.int .i64 A.op, .int .i64 A.n, .slice xa A.kids.length xc]] w3 fun e w' => ∃ v, e = .returned v ∧ w'.ownsRow w3.heap.size 3 1 v (listTo (fvT A) 20).length (natVals (listTo (fvT A) 20)) ∧ Below w3.heap.size w3 w') := Lib.hid (by
          obtain ⟨-, -, tT, -, hI, -⟩ := hbx.out w3 hq3.out
          exact rVars_any A.size A w3.heap.size w3 xa A.kids.length xc (Nat.le_refl _) tT (vt_ok _ hA1.out) (Nat.le_refl _))
        go_at_call 24
        refine (hC.out).mono ?_
        rintro e w4 ⟨v4, rfl, hr4, hb4⟩
        obtain ⟨av, cv, rfl, hI4⟩ := row_intsM hr4
        obtain ⟨G, hG⟩ : ∃ G, G = listTo (fvT A) 20 := ⟨_, rfl⟩
        have hocc : Hid (decide (B.n ∈ intsM G) = occ B.n A) := Lib.hid (by rw [hG]; exact has_occ hA1.out ((vt_open hB1.out).2.1 h1.out).2)
        rw [← hG] at hI4 ⊢
        have hq4 : Hid (Below wx.heap.size wx w4) := Lib.hid (Below.up hq3.out hb4)
        replace hI3 := Lib.hid (binds_up hI3.out hb4)
        replace hI4 := Lib.hid hI4
        clear hb4 hC hr4 hG
        refine hKc _ _ hq4.out (fun _ => ?_)
        clear hKc K5
        try simp only [Act.put, List.setIfInBounds_toArray, List.set_cons_zero, List.set_cons_succ]
        refine wpAnyH_ready (rs := [9]) (by kernel_rfl) (by simp) ?_
        refine AllReadyH.cons rfl (fun K5 hKc => ?_) AllReadyH.nil
        go_simp
        have hC := Lib.hid (has_any (intsM G) B.n w4.heap.size w4 av G.length cv hI4.out)
        go_at_call 91
        refine (hC.out).mono ?_
        rintro e w5 ⟨rfl, rfl⟩
        obtain ⟨oc, hoc⟩ : ∃ oc, oc = decide (B.n ∈ intsM G) := ⟨_, rfl⟩
        rw [← hoc] at hocc ⊢
        clear hC hoc
        refine hKc _ _ hq4.out (fun _ => ?_)
        clear hKc K5
        try simp only [Act.put, List.setIfInBounds_toArray, List.set_cons_zero, List.set_cons_succ]
        refine takeH 10 68 (.bool (!oc)) rfl rfl (by kernel_rfl) (by kernel_rfl) (by kernel_rfl) (fun _ _ _ h => h) (by rfl) (by intro W hSw; clear hSw; go_simp) hq4.out ?_
        try simp only [List.setIfInBounds_toArray, List.set_cons_zero, List.set_cons_succ]
        refine takeH 11 6 (.slice va vl vc) rfl rfl (by kernel_rfl) (by kernel_rfl) (by kernel_rfl) (fun _ _ _ h => h) (by rfl) (by intro W hSw; clear hSw; go_simp) hq4.out ?_
        try simp only [List.setIfInBounds_toArray, List.set_cons_zero, List.set_cons_succ]
        refine takeH 12 7 (.bool (!oc)) rfl rfl (by kernel_rfl) (by kernel_rfl) (by kernel_rfl) (fun _ _ _ h => h) (by rfl) (by intro W hSw; clear hSw; go_simp) hq4.out ?_
        try simp only [List.setIfInBounds_toArray, List.set_cons_zero, List.set_cons_succ]
        refine wpAnyH_done (by kernel_rfl) ?_ _
        go_wp2_with fail
        obtain ⟨-, -, -, -, -, hbW⟩ := hbx.out _ hq4.out
        exact bodyPost_ret (v := .tuple #[.slice va vl vc, .bool (!oc)]) (by simp [results, Tryz.f81, go_sem]) rfl ⟨va, vl, vc, !oc, rfl, hbW, fun h => ⟨_, hI3.out, hbB.out h1.out h2.out (by rw [← hocc.out]; simpa using h)⟩, fun h => hoB.out h1.out h2.out (by rw [← hocc.out]; simpa using h)⟩
      · have o2 : (B.op == 1) = false := by simpa using h2
        -- two nodes
        have hret : Hid ((A.op ≠ B.op ∨ A.n ≠ B.n ∨ A.kids.length ≠ B.kids.length) → UniEnd L a b w (.returned (.tuple #[.slice none 0 0, .bool false])) w2) := Lib.hid (fun h => by
          obtain ⟨-, -, -, -, -, hbW⟩ := hbx.out w2 hq2.out
          exact ⟨none, 0, 0, false, rfl, hbW, (fun h => (by cases h)), (fun _ => hcl.out h1 h2 h)⟩)
        by_cases ho : A.op = B.op
        rotate_left
        · have ho' : (A.op != B.op) = true := by simpa using ho
          have hr := Lib.hid (hret.out (.inl ho))
          clear ho h1 h2 hret
          go_wp2_with fail
          exact bodyPost_ret (v := .tuple #[.slice none 0 0, .bool false]) (by simp [results, Tryz.f81, go_sem]) rfl hr.out
        have ho' : (A.op != B.op) = false := by simpa using ho
        by_cases hnn : A.n = B.n
        rotate_left
        · have hn' : (A.n != B.n) = true := by simpa using hnn
          have hr := Lib.hid (hret.out (.inr (.inl hnn)))
          clear ho hnn h1 h2 hret
          go_wp2_with fail
          exact bodyPost_ret (v := .tuple #[.slice none 0 0, .bool false]) (by simp [results, Tryz.f81, go_sem]) rfl hr.out
        have hn' : (A.n != B.n) = false := by simpa using hnn
        by_cases hl : A.kids.length = B.kids.length
        rotate_left
        · have hl' : ((A.kids.length : Int) != (B.kids.length : Int)) = true := by simp; omega
          have hr := Lib.hid (hret.out (.inr (.inr hl)))
          clear ho hnn hl h1 h2 hret
          go_wp2_with fail
          exact bodyPost_ret (v := .tuple #[.slice none 0 0, .bool false]) (by simp [results, Tryz.f81, go_sem]) rfl hr.out
        have hl' : ((A.kids.length : Int) != (B.kids.length : Int)) = false := by simp; omega
        have hkl : B.kids.length ≤ A.kids.length := by omega
        have hkl' : A.kids.length ≤ B.kids.length := by omega
        have hkd' := Lib.hid (hkd.out h1 h2 ho hnn hl)
        obtain ⟨-, -, tA, tB, -, -⟩ := hbx.out wx hstx.out
        have hvt := (vt_open hA1.out).2.2.1
        have hK : Hid (∀ k (h : k < A.kids.length) (h' : k < B.kids.length), ∃ ba oa a1 l1 c1 bb ob a2 l2 c2, xa = some ⟨ba, oa, none⟩ ∧ ya = some ⟨bb, ob, none⟩ ∧ (∀ W, Below wx.heap.size wx W → Cells3 W ba (oa + k * 3) A.kids[k].op A.kids[k].n a1 l1 c1 ∧ Cells3 W bb (ob + k * 3) B.kids[k].op B.kids[k].n a2 l2 c2 ∧
            IsTm W.heap.size W A.kids[k] a1 l1 c1 ∧ IsTm W.heap.size W B.kids[k] a2 l2 c2)) := Lib.hid (fun k h h' => by
          rcases tA.open.2.2.2 with e | ⟨ba, oa, rfl, hba, hksa⟩
          · rw [e] at h; simp at h
          rcases tB.open.2.2.2 with e | ⟨bb, ob, rfl, hbb, hksb⟩
          · rw [e] at h'; simp at h'
          obtain ⟨a1, l1, c1, g1, g2⟩ := IsKids.get _ hksa k h
          obtain ⟨a2, l2, c2, g3, g4⟩ := IsKids.get _ hksb k h'
          exact ⟨ba, oa, a1, l1, c1, bb, ob, a2, l2, c2, rfl, rfl, fun W hW => ⟨g1.below hW hba, g3.below hW hbb, (IsTm.below hW _ g2).wider hW.size, (IsTm.below hW _ g4).wider hW.size⟩⟩)
        have hIH : Hid (∀ k (h : k < A.kids.length) (h' : k < B.kids.length) (W : World) (Lk : List (Int × Tm)) (va : Option Addr) (vl vc : Nat) (a1 : Option Addr) (l1 c1 : Nat) (a2 : Option Addr) (l2 c2 : Nat), Sol Lk → (Lk = L ∨ L.length < Lk.length) → IsTm W.heap.size W A.kids[k] a1 l1 c1 → IsTm W.heap.size W B.kids[k] a2 l2 c2 → IsBinds W.heap.size W Lk va vl vc →
            Calls Tryz.prog 81 #[.agg #[.int .i64 A.kids[k].op, .int .i64 A.kids[k].n, .slice a1 l1 c1], .agg #[.int .i64 B.kids[k].op, .int .i64 B.kids[k].n, .slice a2 l2 c2], .slice va vl vc] W (UniEnd Lk A.kids[k] B.kids[k] W)) := Lib.hid (fun k h h' W Lk va vl vc a1 l1 c1 a2 l2 c2 hSk hLk g1 g2 g3 => by
          have hvA := (vt_open hA1.out).2.2.2 _ (List.getElem_mem h)
          have hvB := (vt_open hB1.out).2.2.2 _ (List.getElem_mem h')
          rcases hLk with rfl | hlt
          · refine ihN.out _ _ _ W.heap.size W a1 l1 c1 a2 l2 c2 va vl vc hm ?_ hvA hvB hSk g1 g2 g3 (Nat.le_refl _)
            rw [Sol.keep hvA (fun y hy => by
              cases hq : occ y.1 A.kids[k]
              · rfl
              · have := hgA.out y hy
                rw [occ_iff.2 (.inr ⟨_, List.getElem_mem h, hq⟩)] at this; cases this)]
            have := sizes_mem (List.getElem_mem h)
            have := size_eq A
            have := hNA.out
            omega
          · have := hSk.len
            exact ihm.out (20 - Lk.length) (by omega) _ _ _ W.heap.size W a1 l1 c1 a2 l2 c2 va vl vc (Nat.le_refl _) hvA hvB hSk g1 g2 g3 (Nat.le_refl _))
        have hst0 : Hid (KInv L a b A B 0 true w2 al L.length cl) := Lib.hid (by
          obtain ⟨-, -, -, -, hI, -⟩ := hbx.out w2 hq2.out
          exact ⟨fun _ => ⟨L, hI, hS.out, fun θ => ⟨fun h => ⟨h, fun j _ _ h => by omega⟩, fun h => h.1⟩, .inl rfl⟩, fun h => by cases h⟩)
        clear ho hnn hl h1 h2 hret tA tB
        go_wp2_with fail
        clear p0 p1 p2 q0 q1 q2
        go_loopw [2, 8, 9] (fun lv sv iv W => ∃ k va vl vc is, k ≤ A.kids.length ∧ iv = .int .i64 (k : Nat) ∧ lv = .slice va vl vc ∧ sv = .bool is ∧ Hid (KInv L a b A B k is W va vl vc) ∧ Hid (Below wx.heap.size wx W)) (fun _ _ iv _ => A.kids.length - (intOf iv).toNat)
        case atStart => exact ⟨0, al, L.length, cl, true, by omega, rfl, rfl, rfl, hst0, hq2⟩
        case round =>
          obtain ⟨k, va, vl, vc, is, hk, rfl, rfl, rfl, hI, hb⟩ := hrel
          obtain ⟨rA, rB, -, -, -, hbW⟩ := hbx.out wr hb.out
          obtain ⟨⟨p0, p1, p2⟩, -⟩ := c3_cells rA
          replace hbW := Lib.hid hbW
          clear rA rB hst0
          by_cases hlt : k < A.kids.length
          · have o3 : (k : Int) < (A.kids.length : Int) := by omega
            have o4 : (k : Int) < (B.kids.length : Int) := by omega
            cases is
            · go_wp2_with fail
              exact bodyPost_ret (v := .tuple #[.slice va vl vc, .bool false]) (by simp [results, Tryz.f81, go_sem]) rfl ⟨va, vl, vc, false, rfl, hbW.out, fun h => (by cases h), fun _ => hI.out.2 rfl⟩
            · have hlt' : k < B.kids.length := by omega
              obtain ⟨Lk, hIk, hSk, hiff, hLk⟩ := hI.out.1 rfl
              obtain ⟨ba, oa, a1, l1, c1, bb, ob, a2, l2, c2, rfl, rfl, hkW⟩ := hK.out k hlt hlt'
              have hcall : Hid (∀ W, Below wr.heap.size wr W → Calls Tryz.prog 81 #[.agg #[.int .i64 A.kids[k].op, .int .i64 A.kids[k].n, .slice a1 l1 c1], .agg #[.int .i64 B.kids[k].op, .int .i64 B.kids[k].n, .slice a2 l2 c2], .slice va vl vc] W (UniEnd Lk A.kids[k] B.kids[k] W)) := Lib.hid (fun W hW => by
                obtain ⟨-, -, g1, g2⟩ := hkW W (Below.up hb.out hW)
                exact hIH.out k hlt hlt' W Lk va vl vc a1 l1 c1 a2 l2 c2 hSk hLk g1 g2 (binds_up hIk hW))
              have hstep : Hid (∀ is' W va' vl' vc', (is' = true → ∃ L', IsBinds W.heap.size W L' va' vl' vc' ∧ UOk Lk A.kids[k] B.kids[k] L') → (is' = false → ∀ θ, Sat θ Lk → sb θ A.kids[k] ≠ sb θ B.kids[k]) → KInv L a b A B (k + 1) is' W va' vl' vc') := Lib.hid (fun is' W va' vl' vc' g1 g2 => KInv.step hlt hlt' hkd'.out hiff hLk g1 g2)
              have hcel : Hid (∀ W, Below wx.heap.size wx W → Cells3 W ba (oa + k * 3) A.kids[k].op A.kids[k].n a1 l1 c1 ∧ Cells3 W bb (ob + k * 3) B.kids[k].op B.kids[k].n a2 l2 c2) := Lib.hid (fun W hW => ⟨(hkW W hW).1, (hkW W hW).2.1⟩)
              obtain ⟨ka, hka⟩ : ∃ t, t = A.kids[k] := ⟨_, rfl⟩
              obtain ⟨kb, hkb⟩ : ∃ t, t = B.kids[k] := ⟨_, rfl⟩
              rw [← hka, ← hkb] at hcall hstep hcel
              clear hkW hiff hSk hIk hLk hI hka hkb
              go_upto_region 16 with fail
              refine region_named (S := fun W' => Below wx.heap.size wx W') (by kernel_rfl) (fun x hx => ?_)
              have hxr : Hid (Below wr.heap.size wr x) := Lib.hid (by rw [hx]; exact (Below.refl _ _).drew)
              have hqx : Hid (Below wx.heap.size wx x) := Lib.hid (Below.up hb.out hxr.out)
              clear hx p0 p1 p2
              refine takeH 0 101 (.pointer (some ⟨w.heap.size, 2, none⟩)) rfl rfl (by kernel_rfl) (by kernel_rfl) (by kernel_rfl) (fun _ _ _ h => h) (by rfl) (by intro W hSw; clear hSw; go_simp) hqx.out ?_
              try simp only [List.setIfInBounds_toArray, List.set_cons_zero, List.set_cons_succ]
              refine takeH 1 102 (.slice (some ⟨ba, oa, none⟩) A.kids.length xc) rfl rfl (by kernel_rfl) (by kernel_rfl) (by kernel_rfl) (fun _ _ _ h => h) (by rfl) (by intro W hSw; obtain ⟨rA, rB, -⟩ := hbx.out W hSw; obtain ⟨⟨j0, j1, j2⟩, -⟩ := c3_cells rA; obtain ⟨⟨k0, k1, k2⟩, -⟩ := c3_cells rB; clear rA rB hSw; go_simp) hqx.out ?_
              try simp only [List.setIfInBounds_toArray, List.set_cons_zero, List.set_cons_succ]
              refine takeH 2 103 (.int .i64 (k : Nat)) rfl rfl (by kernel_rfl) (by kernel_rfl) (by kernel_rfl) (fun _ _ _ h => h) (by rfl) (by intro W hSw; clear hSw; go_simp) hqx.out ?_
              try simp only [List.setIfInBounds_toArray, List.set_cons_zero, List.set_cons_succ]
              refine takeH 3 104 (.pointer (some ⟨ba, oa + k * 3, none⟩)) rfl rfl (by kernel_rfl) (by kernel_rfl) (by kernel_rfl) (fun _ _ _ h => h) (by rfl) (by intro W hSw; clear hSw; go_simp) hqx.out ?_
              try simp only [List.setIfInBounds_toArray, List.set_cons_zero, List.set_cons_succ]
              refine takeH 4 105 (.agg #[.int .i64 ka.op, .int .i64 ka.n, .slice a1 l1 c1]) rfl rfl (by kernel_rfl) (by kernel_rfl) (by kernel_rfl) (fun _ _ _ h => h) (by rfl) (by intro W hSw; obtain ⟨j0, j1, j2⟩ := (hcel.out W hSw).1; clear hSw; go_simp) hqx.out ?_
              try simp only [List.setIfInBounds_toArray, List.set_cons_zero, List.set_cons_succ]
              refine takeH 5 106 (.pointer (some ⟨w.heap.size + 1, 2, none⟩)) rfl rfl (by kernel_rfl) (by kernel_rfl) (by kernel_rfl) (fun _ _ _ h => h) (by rfl) (by intro W hSw; clear hSw; go_simp) hqx.out ?_
              try simp only [List.setIfInBounds_toArray, List.set_cons_zero, List.set_cons_succ]
              refine takeH 6 107 (.slice (some ⟨bb, ob, none⟩) B.kids.length yc) rfl rfl (by kernel_rfl) (by kernel_rfl) (by kernel_rfl) (fun _ _ _ h => h) (by rfl) (by intro W hSw; obtain ⟨rA, rB, -⟩ := hbx.out W hSw; obtain ⟨⟨j0, j1, j2⟩, -⟩ := c3_cells rA; obtain ⟨⟨k0, k1, k2⟩, -⟩ := c3_cells rB; clear rA rB hSw; go_simp) hqx.out ?_
              try simp only [List.setIfInBounds_toArray, List.set_cons_zero, List.set_cons_succ]
              refine takeH 7 108 (.int .i64 (k : Nat)) rfl rfl (by kernel_rfl) (by kernel_rfl) (by kernel_rfl) (fun _ _ _ h => h) (by rfl) (by intro W hSw; clear hSw; go_simp) hqx.out ?_
              try simp only [List.setIfInBounds_toArray, List.set_cons_zero, List.set_cons_succ]
              refine takeH 8 109 (.pointer (some ⟨bb, ob + k * 3, none⟩)) rfl rfl (by kernel_rfl) (by kernel_rfl) (by kernel_rfl) (fun _ _ _ h => h) (by rfl) (by intro W hSw; clear hSw; go_simp) hqx.out ?_
              try simp only [List.setIfInBounds_toArray, List.set_cons_zero, List.set_cons_succ]
              refine takeH 9 110 (.agg #[.int .i64 kb.op, .int .i64 kb.n, .slice a2 l2 c2]) rfl rfl (by kernel_rfl) (by kernel_rfl) (by kernel_rfl) (fun _ _ _ h => h) (by rfl) (by intro W hSw; obtain ⟨j0, j1, j2⟩ := (hcel.out W hSw).2; clear hSw; go_simp) hqx.out ?_
              try simp only [List.setIfInBounds_toArray, List.set_cons_zero, List.set_cons_succ]
              refine takeH 10 111 (.slice va vl vc) rfl rfl (by kernel_rfl) (by kernel_rfl) (by kernel_rfl) (fun _ _ _ h => h) (by rfl) (by intro W hSw; clear hSw; go_simp) hqx.out ?_
              try simp only [List.setIfInBounds_toArray, List.set_cons_zero, List.set_cons_succ]
              refine wpAnyH_ready (rs := [11]) (by kernel_rfl) (by simp) ?_
              refine AllReadyH.cons rfl (fun K5 hKc => ?_) AllReadyH.nil
              go_simp
              have hC := Lib.hid (hcall.out x hxr.out)
              go_at_call 81
              refine (hC.out).mono ?_
              rintro e w4 ⟨va', vl', vc', is', rfl, hb4, g1, g2⟩
              have hq4 : Hid (Below wx.heap.size wx w4) := Lib.hid (Below.up hqx.out hb4)
              have hnew := Lib.hid (hstep.out is' w4 va' vl' vc' g1 g2)
              clear hb4 hC g1 g2 hstep hcall
              refine hKc _ _ hq4.out (fun _ => ?_)
              clear hKc K5
              try simp only [Act.put, List.setIfInBounds_toArray, List.set_cons_zero, List.set_cons_succ]
              refine takeH 12 100 (.tuple #[.slice va' vl' vc', .bool is']) rfl rfl (by kernel_rfl) (by kernel_rfl) (by kernel_rfl) (fun _ _ _ h => h) (by rfl) (by intro W hSw; clear hSw; go_simp) hq4.out ?_
              try simp only [List.setIfInBounds_toArray, List.set_cons_zero, List.set_cons_succ]
              refine takeH 13 113 (.slice va' vl' vc') rfl rfl (by kernel_rfl) (by kernel_rfl) (by kernel_rfl) (fun _ _ _ h => h) (by rfl) (by intro W hSw; clear hSw; go_simp) hq4.out ?_
              try simp only [List.setIfInBounds_toArray, List.set_cons_zero, List.set_cons_succ]
              refine takeH 14 114 (.bool is') rfl rfl (by kernel_rfl) (by kernel_rfl) (by kernel_rfl) (fun _ _ _ h => h) (by rfl) (by intro W hSw; clear hSw; go_simp) hq4.out ?_
              try simp only [List.setIfInBounds_toArray, List.set_cons_zero, List.set_cons_succ]
              refine takeH 15 2 (.slice va' vl' vc') rfl rfl (by kernel_rfl) (by kernel_rfl) (by kernel_rfl) (fun _ _ _ h => h) (by rfl) (by intro W hSw; clear hSw; go_simp) hq4.out ?_
              try simp only [List.setIfInBounds_toArray, List.set_cons_zero, List.set_cons_succ]
              refine takeH 16 8 (.bool is') rfl rfl (by kernel_rfl) (by kernel_rfl) (by kernel_rfl) (fun _ _ _ h => h) (by rfl) (by intro W hSw; clear hSw; go_simp) hq4.out ?_
              try simp only [List.setIfInBounds_toArray, List.set_cons_zero, List.set_cons_succ]
              refine wpAnyH_done (by kernel_rfl) ?_ _
              go_wp2_with fail
              go_roundw
              case rel => exact ⟨k + 1, _, _, _, is', by omega, by go_num, rfl, rfl, hnew, hq4⟩
              case measure => simp [intOf]; omega
          · obtain rfl : k = A.kids.length := by omega
            have o3 : ¬ (A.kids.length : Int) < (A.kids.length : Int) := by omega
            have hend : Hid ((is = true → ∃ L', IsBinds wr.heap.size wr L' va vl vc ∧ UOk L a b L') ∧ (is = false → ∀ θ, Sat θ L → sb θ a ≠ sb θ b)) := Lib.hid ⟨fun h => by
              obtain ⟨Lk, hIk, hSk, hiff, hLk⟩ := hI.out.1 h
              refine ⟨Lk, hIk, hSk, fun θ => ?_, hLk⟩
              rw [hiff]
              constructor
              · rintro ⟨e1, e2⟩; exact ⟨e1, (hkd'.out θ e1).2 fun j hj hj' => e2 j hj hj' hj⟩
              · rintro ⟨e1, e2⟩; exact ⟨e1, fun j hj hj' _ => (hkd'.out θ e1).1 e2 j hj hj'⟩, hI.out.2⟩
            clear hI
            go_wp2_with fail
            exact bodyPost_ret (v := .tuple #[.slice va vl vc, .bool is]) (by simp [results, Tryz.f81, go_sem]) rfl ⟨va, vl, vc, is, rfl, hbW.out, hend.out.1, hend.out.2⟩

end Go.Proofs.YthlegfegkopdkaaGreat

namespace Go.Proofs.YthlegfegkopdkaaGreat
open Go.RowKit Go.Shelf Go.Sort

theorem runified_any (m : Nat) : ∀ (N : Nat) (a b : Tm) (L : List (Int × Tm)) (n₀ : Nat) (w : World) (aa : Option Addr) (la ca : Nat) (ab : Option Addr) (lb cb : Nat) (al : Option Addr) (ll cl : Nat), 20 - L.length ≤ m → (sb (subL L) a).size ≤ N → vtB a = true → vtB b = true → Sol L → IsTm n₀ w a aa la ca → IsTm n₀ w b ab lb cb → IsBinds n₀ w L al ll cl → n₀ ≤ w.heap.size →
      Calls Tryz.prog 81 #[.agg #[.int .i64 a.op, .int .i64 a.n, .slice aa la ca], .agg #[.int .i64 b.op, .int .i64 b.n, .slice ab lb cb], .slice al ll cl] w (UniEnd L a b w) := by
  induction m using Nat.strongRecOn with
  | ind m ihm =>
    intro N
    induction N with
    | zero => intro a b L _ _ _ _ _ _ _ _ _ _ _ _ h; have := size_pos (sb (subL L) a); omega
    | succ N ihN =>
      intro a b L n₀ w aa la ca ab lb cb al ll cl h1 h2 h3 h4 h5 h6 h7 h8 h9
      exact unified_step m N (fun m' hm' a b L n₀ w aa la ca ab lb cb al ll cl g1 g2 g3 g4 g5 g6 g7 g8 => ihm m' hm' _ a b L n₀ w aa la ca ab lb cb al ll cl g1 (Nat.le_refl _) g2 g3 g4 g5 g6 g7 g8)
        ihN a b L n₀ w aa la ca ab lb cb al ll cl h1 h2 h3 h4 h5 h6 h7 h8 h9

/-- What the reference's 'Unify' comes to. -/
def RUni (a b : Tm) (w : World) (e : Ending) (w' : World) : Prop :=
  ∃ va vl vc is, e = .returned (.tuple #[.slice va vl vc, .bool is]) ∧ Below w.heap.size w w' ∧ (is = true → ∃ L', IsBinds w'.heap.size w' L' va vl vc ∧ Sol L' ∧ ∀ θ, Sat θ L' ↔ sb θ a = sb θ b) ∧ (is = false → ∀ θ, sb θ a ≠ sb θ b)

set_option maxRecDepth 100000 in
set_option maxHeartbeats 1000000 in
theorem runify_any (a b : Tm) (n₀ : Nat) (w : World) (aa : Option Addr) (la ca : Nat) (ab : Option Addr) (lb cb : Nat) (h1 : vtB a = true) (h2 : vtB b = true) (h3 : IsTm n₀ w a aa la ca) (h4 : IsTm n₀ w b ab lb cb) (hn : n₀ ≤ w.heap.size) :
    Calls Tryz.prog 44 #[.agg #[.int .i64 a.op, .int .i64 a.n, .slice aa la ca], .agg #[.int .i64 b.op, .int .i64 b.n, .slice ab lb cb]] w (RUni a b w) := by
  obtain ⟨w0, hw0⟩ : ∃ W, W = (w.alloc (.cells #[.int .i64 a.op, .int .i64 a.n, .slice aa la ca] 28)).alloc (.cells #[.int .i64 b.op, .int .i64 b.n, .slice ab lb cb] 28) := ⟨_, rfl⟩
  have hB0 : Below w.heap.size w w0 := by rw [hw0]; go_grown
  have hC := runified_any 20 _ a b [] n₀ w0 aa la ca ab lb cb none 0 0 (by simp) (Nat.le_refl _) h1 h2 Sol.nil (IsTm.below (hB0.mono hn) _ h3) (IsTm.below (hB0.mono hn) _ h4) ⟨rfl, by omega, by omega, .inl rfl⟩ (by have := hB0.size; omega)
  rw [hw0] at hC
  replace hC := Lib.hid hC
  replace hB0 := Lib.hid hB0
  have hw0' := Lib.hid hw0
  clear hw0 h1 h2 h3 h4
  go_enter Tryz.func44, Tryz.ntmps44
  go_upto_region 99 with fail
  refine (hC.out).mono ?_
  rintro e w' ⟨va, vl, vc, is, rfl, hb, g1, g2⟩
  rw [← hw0'.out] at hb
  have hend : Hid ((is = true → ∃ L', IsBinds w'.heap.size w' L' va vl vc ∧ Sol L' ∧ ∀ θ, Sat θ L' ↔ sb θ a = sb θ b) ∧ (is = false → ∀ θ, sb θ a ≠ sb θ b)) := Lib.hid ⟨fun h => by
    obtain ⟨L', k1, k2, k3, -⟩ := g1 h
    exact ⟨L', k1, k2, fun θ => by rw [k3]; exact ⟨fun h => h.2, fun h => ⟨(fun x hx => (by cases hx)), h⟩⟩⟩, fun h θ => g2 h θ (fun x hx => (by cases hx))⟩
  have hbw := Lib.hid (Below.up hB0.out hb)
  clear g1 g2 hb hC
  go_wp2_with fail
  exact bodyPost_ret (v := .tuple #[.slice va vl vc, .bool is]) (by simp [results, Tryz.f44, go_sem]) rfl ⟨va, vl, vc, is, rfl, hbw.out, hend.out.1, hend.out.2⟩

end Go.Proofs.YthlegfegkopdkaaGreat

namespace Go.Proofs.YthlegfegkopdkaaGreat
open Go.RowKit Go.Shelf Go.Sort

/-! The match of one value to another one, by lists -/
mutual
def mtT (L : List (Int × Tm)) : Tm → Tm → Bool × List (Int × Tm)
  | .mk op n ks, v =>
    if op = 1 then (if h : fnd L n < L.length then (sameB L[fnd L n].2 v, L) else (true, bindL L n v))
    else if op = v.op ∧ n = v.n ∧ ks.length = v.kids.length then mtTs L ks v.kids else (false, [])
def mtTs (L : List (Int × Tm)) : List Tm → List Tm → Bool × List (Int × Tm)
  | p :: ps, v :: vs => if (mtT L p v).1 = true then mtTs (mtT L p v).2 ps vs else (false, (mtT L p v).2)
  | _, _ => (true, L)
end
theorem mtT_eq (L : List (Int × Tm)) (p v : Tm) : mtT L p v = if p.op = 1 then (if h : fnd L p.n < L.length then (sameB L[fnd L p.n].2 v, L) else (true, bindL L p.n v))
    else if p.op = v.op ∧ p.n = v.n ∧ p.kids.length = v.kids.length then mtTs L p.kids v.kids else (false, []) := by
  cases p; rw [mtT]; rfl
theorem mtTs_snoc : ∀ (ps vs : List Tm) (L : List (Int × Tm)) (p v : Tm), ps.length = vs.length → mtTs L (ps ++ [p]) (vs ++ [v]) = if (mtTs L ps vs).1 = true then ((mtT (mtTs L ps vs).2 p v).1, (mtT (mtTs L ps vs).2 p v).2) else mtTs L ps vs
  | [], [], L, p, v, _ => by
    simp only [List.nil_append, mtTs]
    cases hq : (mtT L p v).1 <;> simp
  | q :: ps, u :: vs, L, p, v, h => by
    rw [List.cons_append, List.cons_append]
    by_cases hq : (mtT L q u).1 = true
    · have e1 : ∀ ps vs, mtTs L (q :: ps) (u :: vs) = mtTs (mtT L q u).2 ps vs := fun ps vs => by rw [mtTs, if_pos hq]
      rw [e1, e1]
      exact mtTs_snoc ps vs _ p v (by simpa using h)
    · have e1 : ∀ ps vs, mtTs L (q :: ps) (u :: vs) = (false, (mtT L q u).2) := fun ps vs => by rw [mtTs, if_neg hq]
      rw [e1, e1]
      simp
  | [], _ :: _, _, _, _, h => by simp at h
  | _ :: _, [], _, _, _, h => by simp at h
theorem mtTs_take (L : List (Int × Tm)) (ks vs : List Tm) (k : Nat) (h : k < ks.length) (h' : k < vs.length) :
    mtTs L (ks.take (k + 1)) (vs.take (k + 1)) = if (mtTs L (ks.take k) (vs.take k)).1 = true then ((mtT (mtTs L (ks.take k) (vs.take k)).2 ks[k] vs[k]).1, (mtT (mtTs L (ks.take k) (vs.take k)).2 ks[k] vs[k]).2) else mtTs L (ks.take k) (vs.take k) := by
  rw [List.take_succ_eq_append_getElem h, List.take_succ_eq_append_getElem h', mtTs_snoc _ _ _ _ _ (by simp; omega)]
theorem mtTs_stays (L : List (Int × Tm)) (ks vs : List Tm) (hl : ks.length = vs.length) (k : Nat) (h : (mtTs L (ks.take k) (vs.take k)).1 = false) : ∀ j, k ≤ j → (mtTs L (ks.take j) (vs.take j)).1 = false := by
  intro j hj
  induction j with
  | zero => have : k = 0 := by omega
            subst this; exact h
  | succ j ih =>
    by_cases e : k = j + 1
    · subst e; exact h
    · have hf := ih (by omega)
      by_cases hlt : j < ks.length
      · rw [mtTs_take L ks vs j hlt (by omega), if_neg (by rw [hf]; simp)]; exact hf
      · rw [List.take_of_length_le (by omega), List.take_of_length_le (by omega)] at hf ⊢; exact hf

/-- Variables that increase. -/
def Inc (L : List (Int × Tm)) : Prop := L.Pairwise (fun x y => x.1 < y.1) ∧ ∀ x ∈ L, 0 ≤ x.1 ∧ x.1 < 20
theorem Inc.len {L : List (Int × Tm)} (h : Inc L) : L.length ≤ 20 := by
  have := inc_len h.1 h.2 (by omega); omega
theorem Inc.nil : Inc [] := ⟨.nil, by simp⟩
theorem fnd_none {L : List (Int × Tm)} {n : Int} (h : ¬ fnd L n < L.length) : ∀ x ∈ L, x.1 ≠ n := fun x hx => by
  obtain ⟨k, hk, rfl⟩ := List.getElem_of_mem hx
  exact fnd_ne (n := n) (k := k) (by have := fnd_le L n; omega) hk
theorem Inc.bind {L : List (Int × Tm)} (h : Inc L) {n : Int} {t : Tm} (hn : 0 ≤ n ∧ n < 20) (hd : ∀ x ∈ L, x.1 ≠ n) : Inc (bindL L n t) :=
  ⟨bind_inc h.1 hd, fun x hx => by rcases mem_bind.1 hx with rfl | hx; exact hn; exact h.2 x hx⟩
theorem mt_inc : ∀ (p : Tm), ∀ (L : List (Int × Tm)) (v : Tm), Inc L → vtB p = true → (mtT L p v).1 = true → Inc (mtT L p v).2 := tm_ind fun p ih => by
  intro L v hL hp h
  obtain ⟨v1, v2, v3, v4⟩ := vt_open hp
  rw [mtT_eq] at h ⊢
  by_cases h1 : p.op = 1
  · rw [if_pos h1] at h ⊢
    by_cases hf : fnd L p.n < L.length
    · rw [dif_pos hf]; exact hL
    · rw [dif_neg hf]; exact hL.bind (v2 h1).2 (fnd_none hf)
  · rw [if_neg h1] at h ⊢
    split at h
    · rename_i hc
      rw [if_pos hc]
      have key : ∀ k, k ≤ p.kids.length → (mtTs L (p.kids.take k) (v.kids.take k)).1 = true → Inc (mtTs L (p.kids.take k) (v.kids.take k)).2 := by
        intro k
        induction k with
        | zero => intro _ _; simpa [mtTs] using hL
        | succ k ihk =>
          intro hk h
          rw [mtTs_take L p.kids v.kids k (by omega) (by omega)] at h ⊢
          by_cases hq : (mtTs L (p.kids.take k) (v.kids.take k)).1 = true
          rotate_left
          · rw [if_neg hq] at h; exact absurd h hq
          · rw [if_pos hq] at h ⊢
            exact ih _ (List.getElem_mem (by omega)) _ _ (ihk (by omega) hq) (v4 _ (List.getElem_mem (by omega))) h
      have := key p.kids.length (Nat.le_refl _)
      rw [List.take_length, hc.2.2, List.take_length] at this
      exact this h
    · cases h

theorem binds_wide {W : World} {n m : Nat} {M : List (Int × Tm)} {a : Option Addr} {l c : Nat} (hnm : n ≤ m) (h : IsBinds n W M a l c) : IsBinds m W M a l c := by
  obtain ⟨g1, g2, g3, g4⟩ := h
  exact ⟨g1, g2, g3, g4.imp id fun ⟨b, off, ga, gb, gk⟩ => ⟨b, off, ga, by omega, fun k hk => by
    obtain ⟨q0, a', l', c', q1, q2⟩ := gk k hk
    exact ⟨q0, a', l', c', q1, q2.wider hnm⟩⟩⟩

/-- What 'matched' comes to. -/
def MatEnd (L : List (Int × Tm)) (p v : Tm) (w : World) (e : Ending) (w' : World) : Prop :=
  ∃ va vl vc, e = .returned (.tuple #[.slice va vl vc, .bool (mtT L p v).1]) ∧ Below w.heap.size w w' ∧ ((mtT L p v).1 = true → IsBinds w'.heap.size w' (mtT L p v).2 va vl vc)

set_option maxRecDepth 100000 in
set_option maxHeartbeats 8000000 in
theorem rmatched_any (N : Nat) : ∀ (p v : Tm) (L : List (Int × Tm)) (n₀ : Nat) (w : World) (ap : Option Addr) (lp cp : Nat) (av : Option Addr) (lv cv : Nat) (al : Option Addr) (ll cl : Nat), p.size ≤ N → vtB p = true → Inc L → IsTm n₀ w p ap lp cp → IsTm n₀ w v av lv cv → IsBinds n₀ w L al ll cl → n₀ ≤ w.heap.size →
    Calls Tryz.prog 80 #[.agg #[.int .i64 p.op, .int .i64 p.n, .slice ap lp cp], .agg #[.int .i64 v.op, .int .i64 v.n, .slice av lv cv], .slice al ll cl] w (MatEnd L p v w) := by
  induction N with
  | zero => intro p _ _ _ _ _ _ _ _ _ _ _ _ _ h; have := size_pos p; omega
  | succ N ih =>
    intro p v L n₀ w ap lp cp av lv cv al ll cl hs hvp hInc htp htv hL hn
    replace ih := Lib.hid ih
    obtain ⟨v1, v2, v3, v4⟩ := vt_open hvp
    have hll : ll = L.length := hL.1
    subst hll
    have hlp := htp.open.1
    have hlv := htv.open.1
    subst hlp hlv
    obtain ⟨w0, hw0⟩ : ∃ W, W = (w.alloc (.cells #[.int .i64 p.op, .int .i64 p.n, .slice ap p.kids.length cp] 28)).alloc (.cells #[.int .i64 v.op, .int .i64 v.n, .slice av v.kids.length cv] 28) := ⟨_, rfl⟩
    have hz0 : w0.heap.size = w.heap.size + 1 + 1 := by rw [hw0]; simp
    have hB0 : Below w.heap.size w w0 := by rw [hw0]; go_grown
    have rA0 : w0.heap[w.heap.size]? = some (.cells #[.int .i64 p.op, .int .i64 p.n, .slice ap p.kids.length cp] 28 (0, 0)) := by rw [hw0]; exact heap_old (heap_new' _ rfl)
    have rB0 : w0.heap[w.heap.size + 1]? = some (.cells #[.int .i64 v.op, .int .i64 v.n, .slice av v.kids.length cv] 28 (0, 0)) := by rw [hw0]; exact heap_new' _ (by simp)
    have hbx : Hid (∀ W, Below w0.heap.size w0 W → W.heap[w.heap.size]? = some (.cells #[.int .i64 p.op, .int .i64 p.n, .slice ap p.kids.length cp] 28 (0, 0)) ∧ W.heap[w.heap.size + 1]? = some (.cells #[.int .i64 v.op, .int .i64 v.n, .slice av v.kids.length cv] 28 (0, 0)) ∧
        IsTm W.heap.size W v av v.kids.length cv ∧ IsBinds W.heap.size W L al L.length cl ∧ Below w.heap.size w W) := Lib.hid (fun W hW => by
      have hb : Below n₀ w W := (hB0.mono hn).trans (hW.mono (by omega))
      have hzw := hW.size
      refine ⟨(hW.block _ (by omega)).trans rA0, (hW.block _ (by omega)).trans rB0, (IsTm.below hb _ htv).wider (by omega), ?_, hB0.trans (hW.mono (by omega))⟩
      exact binds_wide (by omega) (hL.below hb))
    have hst : Hid (Below w0.heap.size w0 w0) := Lib.hid (Below.refl _ _)
    have hLlen := hInc.len
    by_cases h1 : p.op = 1
    · have o1 : (p.op == 1) = true := by simpa using h1
      have hF := rfind_any L p.n n₀ w0 al L.length cl (hL.below (hB0.mono hn))
      have hmt := mtT_eq L p v
      rw [if_pos h1] at hmt
      by_cases hlt : fnd L p.n < L.length
      · rw [if_pos hlt] at hF
        rw [dif_pos hlt] at hmt
        obtain ⟨q, hq⟩ : ∃ q, fnd L p.n = q := ⟨_, rfl⟩
        have hlq : q < L.length := by omega
        have hmt' : mtT L p v = (sameB L[q].2 v, L) := by subst hq; exact hmt
        rw [hq] at hF
        clear hmt hlt hq
        obtain ⟨-, b1, b2, b3⟩ := hL
        rcases b3 with b3 | ⟨b, off, rfl, hb, b3⟩
        · rw [b3] at hlq; simp at hlq
        obtain ⟨-, a', l', c', hc3, hTm⟩ := b3 q hlq
        obtain ⟨T, hT⟩ : ∃ T, T = L[q].2 := ⟨_, rfl⟩
        rw [← hT] at hc3 hTm hmt'
        have hcT : Hid (∀ W, Below w0.heap.size w0 W → Cells3 W b (off + q * 4 + 1) T.op T.n a' l' c' ∧ IsTm W.heap.size W T a' l' c') := Lib.hid (fun W hW => by
          have hbb : Below n₀ w W := (hB0.mono hn).trans (hW.mono (by omega))
          exact ⟨hc3.below hbb hb, (IsTm.below hbb _ hTm).wider (by have := hW.size; omega)⟩)
        have o2 : (q : Int) < (L.length : Int) := by omega
        have o3 : (0 : Int) ≤ (q : Int) := by omega
        unfold MatEnd
        rw [hmt']
        show Calls _ _ _ _ (fun e w' => ∃ va vl vc, e = .returned (.tuple #[.slice va vl vc, .bool (sameB T v)]) ∧ Below w.heap.size w w' ∧ (sameB T v = true → IsBinds w'.heap.size w' L va vl vc))
        obtain ⟨bs, hbs⟩ : ∃ bs, bs = sameB T v := ⟨_, rfl⟩
        have hbs' := Lib.hid hbs
        rw [← hbs]
        replace hF := Lib.hid hF
        clear hT b3 hTm hc3 hmt' hInc htp htv hvp v4 hs rA0 rB0 hbs
        replace h1 := Lib.hid h1
        replace v2 := Lib.hid v2
        have hzz := Lib.hid hz0
        clear hz0
        go_enter Tryz.func80, Tryz.ntmps80
        go_upto_region 2 with fail
        rw [← hw0]
        replace hw0 := Lib.hid hw0
        obtain ⟨rA, rB, -⟩ := hbx.out w0 hst.out
        obtain ⟨⟨p0, p1, p2⟩, -⟩ := c3_cells rA
        obtain ⟨⟨q0, q1, q2⟩, -⟩ := c3_cells rB
        clear rA rB
        go_upto_region 99 with fail
        refine (hF.out).mono ?_
        rintro e w' ⟨rfl, rfl⟩
        go_upto_region 4 with fail
        clear p0 p1 p2 q0 q1 q2
        refine region_named (S := fun W' => Below w0.heap.size w0 W') (by kernel_rfl) (fun x hx => ?_)
        have hqx : Hid (Below w0.heap.size w0 x) := Lib.hid (by rw [hx]; exact (Below.refl _ _).drew)
        clear hx
        refine takeH 0 20 (.slice (some ⟨b, off, none⟩) L.length cl) rfl rfl (by kernel_rfl) (by kernel_rfl) (by kernel_rfl) (fun _ _ _ h => h) (by rfl) (by intro W hSw; clear hSw; go_simp) hqx.out ?_
        try simp only [List.setIfInBounds_toArray, List.set_cons_zero, List.set_cons_succ]
        refine takeH 1 21 (.slice (some ⟨b, off, none⟩) L.length cl) rfl rfl (by kernel_rfl) (by kernel_rfl) (by kernel_rfl) (fun _ _ _ h => h) (by rfl) (by intro W hSw; clear hSw; go_simp) hqx.out ?_
        try simp only [List.setIfInBounds_toArray, List.set_cons_zero, List.set_cons_succ]
        refine takeH 2 22 (.int .i64 (q : Nat)) rfl rfl (by kernel_rfl) (by kernel_rfl) (by kernel_rfl) (fun _ _ _ h => h) (by rfl) (by intro W hSw; clear hSw; go_simp) hqx.out ?_
        try simp only [List.setIfInBounds_toArray, List.set_cons_zero, List.set_cons_succ]
        refine takeH 3 23 (.pointer (some ⟨b, off + q * 4, none⟩)) rfl rfl (by kernel_rfl) (by kernel_rfl) (by kernel_rfl) (fun _ _ _ h => h) (by rfl) (by intro W hSw; clear hSw; go_simp) hqx.out ?_
        try simp only [List.setIfInBounds_toArray, List.set_cons_zero, List.set_cons_succ]
        refine takeH 4 24 (.pointer (some ⟨b, off + q * 4 + 1, none⟩)) rfl rfl (by kernel_rfl) (by kernel_rfl) (by kernel_rfl) (fun _ _ _ h => h) (by rfl) (by intro W hSw; clear hSw; go_simp) hqx.out ?_
        try simp only [List.setIfInBounds_toArray, List.set_cons_zero, List.set_cons_succ]
        refine takeH 5 25 (.agg #[.int .i64 T.op, .int .i64 T.n, .slice a' l' c']) rfl rfl (by kernel_rfl) (by kernel_rfl) (by kernel_rfl) (fun _ _ _ h => h) (by rfl) (by intro W hSw; obtain ⟨j0, j1, j2⟩ := (hcT.out W hSw).1; clear hSw; go_simp) hqx.out ?_
        try simp only [List.setIfInBounds_toArray, List.set_cons_zero, List.set_cons_succ]
        refine takeH 6 26 (.agg #[.int .i64 v.op, .int .i64 v.n, .slice av v.kids.length cv]) rfl rfl (by kernel_rfl) (by kernel_rfl) (by kernel_rfl) (fun _ _ _ h => h) (by rfl) (by intro W hSw; obtain ⟨rA, rB, -⟩ := hbx.out W hSw; obtain ⟨⟨j0, j1, j2⟩, -⟩ := c3_cells rA; obtain ⟨⟨k0, k1, k2⟩, -⟩ := c3_cells rB; clear rA rB hSw; go_simp) hqx.out ?_
        try simp only [List.setIfInBounds_toArray, List.set_cons_zero, List.set_cons_succ]
        refine wpAnyH_ready (rs := [7]) (by kernel_rfl) (by simp) ?_
        refine AllReadyH.cons rfl (fun K5 hKc => ?_) AllReadyH.nil
        go_simp
        have hC := Lib.hid (Same_any T.size T v x.heap.size x a' l' c' av v.kids.length cv (Nat.le_refl _) (hcT.out x hqx.out).2 (hbx.out x hqx.out).2.2.1 (Nat.le_refl _))
        go_at_call 32
        refine (hC.out).mono ?_
        rw [← hbs'.out]
        rintro e w3 ⟨rfl, hb3⟩
        have hq3 : Hid (Below w0.heap.size w0 w3) := Lib.hid (Below.up hqx.out hb3)
        clear hb3 hC
        refine hKc _ _ hq3.out (fun _ => ?_)
        clear hKc K5
        try simp only [Act.put, List.setIfInBounds_toArray, List.set_cons_zero, List.set_cons_succ]
        refine takeH 8 6 (.slice (some ⟨b, off, none⟩) L.length cl) rfl rfl (by kernel_rfl) (by kernel_rfl) (by kernel_rfl) (fun _ _ _ h => h) (by rfl) (by intro W hSw; clear hSw; go_simp) hq3.out ?_
        try simp only [List.setIfInBounds_toArray, List.set_cons_zero, List.set_cons_succ]
        refine takeH 9 7 (.bool bs) rfl rfl (by kernel_rfl) (by kernel_rfl) (by kernel_rfl) (fun _ _ _ h => h) (by rfl) (by intro W hSw; clear hSw; go_simp) hq3.out ?_
        try simp only [List.setIfInBounds_toArray, List.set_cons_zero, List.set_cons_succ]
        refine wpAnyH_done (by kernel_rfl) ?_ _
        go_wp2_with fail
        obtain ⟨-, -, -, hI, hbW⟩ := hbx.out w3 hq3.out
        exact bodyPost_ret (v := .tuple #[.slice (some ⟨b, off, none⟩) L.length cl, .bool bs]) (by simp [results, Tryz.f80, go_sem]) rfl ⟨_, _, _, rfl, hbW, fun _ => hI⟩
      · rw [if_neg hlt] at hF
        rw [dif_neg hlt] at hmt
        unfold MatEnd
        rw [hmt]
        show Calls _ _ _ _ (fun e w' => ∃ va vl vc, e = .returned (.tuple #[.slice va vl vc, .bool true]) ∧ Below w.heap.size w w' ∧ (true = true → IsBinds w'.heap.size w' (bindL L p.n v) va vl vc))
        have hC : Hid (Calls Tryz.prog 115 #[.slice al L.length cl, .int .i64 p.n, .agg #[.int .i64 v.op, .int .i64 v.n, .slice av v.kids.length cv]] w0 fun e w' => ∃ va vl vc, e = .returned (.slice va vl vc) ∧ IsBinds w'.heap.size w' (bindL L p.n v) va vl vc ∧ Below w0.heap.size w0 w') := Lib.hid (by
          obtain ⟨-, -, g1, g2, -⟩ := hbx.out w0 hst.out
          exact rbind_any L p.n v w0.heap.size w0 al L.length cl av v.kids.length cv g2 (by omega) g1 (Nat.le_refl _))
        replace hF := Lib.hid hF
        clear hmt hInc htp htv hvp v4 hs rA0 rB0 hL hlt
        replace h1 := Lib.hid h1
        replace v2 := Lib.hid v2
        replace hz0 := Lib.hid hz0
        go_enter Tryz.func80, Tryz.ntmps80
        go_upto_region 2 with fail
        rw [← hw0]
        replace hw0 := Lib.hid hw0
        obtain ⟨rA, rB, -⟩ := hbx.out w0 hst.out
        obtain ⟨⟨p0, p1, p2⟩, -⟩ := c3_cells rA
        obtain ⟨⟨q0, q1, q2⟩, -⟩ := c3_cells rB
        clear rA rB
        go_upto_region 99 with fail
        refine (hF.out).mono ?_
        rintro e w' ⟨rfl, rfl⟩
        go_upto_region 99 with fail
        refine (hC.out).mono ?_
        rintro e w3 ⟨va, vl, vc, rfl, hI3, hb3⟩
        replace hI3 := Lib.hid hI3
        have hbW := Lib.hid (Below.up hB0 hb3)
        clear p0 p1 p2 q0 q1 q2 hC hF hb3
        go_wp2_with fail
        exact bodyPost_ret (v := .tuple #[.slice va vl vc, .bool true]) (by simp [results, Tryz.f80, go_sem]) rfl ⟨_, _, _, rfl, hbW.out, fun _ => hI3.out⟩
    · have o1 : (p.op == 1) = false := by simpa using h1
      have hmt := mtT_eq L p v
      rw [if_neg h1] at hmt
      have hzz := Lib.hid hz0
      have hret : Hid (¬ (p.op = v.op ∧ p.n = v.n ∧ p.kids.length = v.kids.length) → MatEnd L p v w (.returned (.tuple #[.slice none 0 0, .bool false])) w0) := Lib.hid (fun h => by
        unfold MatEnd
        rw [hmt, if_neg h]
        exact ⟨none, 0, 0, rfl, hB0, fun h => (by cases h)⟩)
      obtain ⟨rA, rB, -⟩ := hbx.out w0 hst.out
      obtain ⟨⟨p0, p1, p2⟩, -⟩ := c3_cells rA
      obtain ⟨⟨q0, q1, q2⟩, -⟩ := c3_cells rB
      clear rA rB rA0 rB0
      by_cases ho : p.op = v.op
      rotate_left
      · have ho' : (p.op != v.op) = true := by simpa using ho
        have hr := Lib.hid (hret.out (fun h => ho h.1))
        clear ho h1 hret hmt hz0 hInc htp htv hvp v2 v4 hL
        go_enter Tryz.func80, Tryz.ntmps80
        go_upto_region 1 with fail
        rw [← hw0]
        replace hw0 := Lib.hid hw0
        go_wp2_with fail
        exact bodyPost_ret (v := .tuple #[.slice none 0 0, .bool false]) (by simp [results, Tryz.f80, go_sem]) rfl hr.out
      have ho' : (p.op != v.op) = false := by simpa using ho
      by_cases hnn : p.n = v.n
      rotate_left
      · have hn' : (p.n != v.n) = true := by simpa using hnn
        have hr := Lib.hid (hret.out (fun h => hnn h.2.1))
        clear ho hnn h1 hret hmt hz0 hInc htp htv hvp v2 v4 hL
        go_enter Tryz.func80, Tryz.ntmps80
        go_upto_region 1 with fail
        rw [← hw0]
        replace hw0 := Lib.hid hw0
        go_wp2_with fail
        exact bodyPost_ret (v := .tuple #[.slice none 0 0, .bool false]) (by simp [results, Tryz.f80, go_sem]) rfl hr.out
      have hn' : (p.n != v.n) = false := by simpa using hnn
      by_cases hl : p.kids.length = v.kids.length
      rotate_left
      · have hl' : ((p.kids.length : Int) != (v.kids.length : Int)) = true := by simp; omega
        have hr := Lib.hid (hret.out (fun h => hl h.2.2))
        clear ho hnn hl h1 hret hmt hz0 hInc htp htv hvp v2 v4 hL
        go_enter Tryz.func80, Tryz.ntmps80
        go_upto_region 1 with fail
        rw [← hw0]
        replace hw0 := Lib.hid hw0
        go_wp2_with fail
        exact bodyPost_ret (v := .tuple #[.slice none 0 0, .bool false]) (by simp [results, Tryz.f80, go_sem]) rfl hr.out
      have hl' : ((p.kids.length : Int) != (v.kids.length : Int)) = false := by simp; omega
      have hkl : v.kids.length ≤ p.kids.length := by omega
      have hkl' : p.kids.length ≤ v.kids.length := by omega
      rw [if_pos ⟨ho, hnn, hl⟩] at hmt
      unfold MatEnd
      rw [hmt]
      have hK : Hid (∀ k (h : k < p.kids.length) (h' : k < v.kids.length), ∃ ba oa a1 l1 c1 bb ob a2 l2 c2, ap = some ⟨ba, oa, none⟩ ∧ av = some ⟨bb, ob, none⟩ ∧ (∀ W, Below w0.heap.size w0 W → Cells3 W ba (oa + k * 3) p.kids[k].op p.kids[k].n a1 l1 c1 ∧ Cells3 W bb (ob + k * 3) v.kids[k].op v.kids[k].n a2 l2 c2 ∧
          IsTm W.heap.size W p.kids[k] a1 l1 c1 ∧ IsTm W.heap.size W v.kids[k] a2 l2 c2)) := Lib.hid (fun k h h' => by
        rcases htp.open.2.2.2 with e | ⟨ba, oa, rfl, hba, hksa⟩
        · rw [e] at h; simp at h
        rcases htv.open.2.2.2 with e | ⟨bb, ob, rfl, hbb, hksb⟩
        · rw [e] at h'; simp at h'
        obtain ⟨a1, l1, c1, g1, g2⟩ := IsKids.get _ hksa k h
        obtain ⟨a2, l2, c2, g3, g4⟩ := IsKids.get _ hksb k h'
        refine ⟨ba, oa, a1, l1, c1, bb, ob, a2, l2, c2, rfl, rfl, fun W hW => ?_⟩
        have hb : Below n₀ w W := (hB0.mono hn).trans (hW.mono (by omega))
        have hzw := hW.size
        exact ⟨g1.below hb hba, g3.below hb hbb, (IsTm.below hb _ g2).wider (by omega), (IsTm.below hb _ g4).wider (by omega)⟩)
      have hIH : Hid (∀ k (h : k < p.kids.length) (h' : k < v.kids.length) (W : World) (Lk : List (Int × Tm)) (va : Option Addr) (vl vc : Nat) (a1 : Option Addr) (l1 c1 : Nat) (a2 : Option Addr) (l2 c2 : Nat), Inc Lk → IsTm W.heap.size W p.kids[k] a1 l1 c1 → IsTm W.heap.size W v.kids[k] a2 l2 c2 → IsBinds W.heap.size W Lk va vl vc →
          Calls Tryz.prog 80 #[.agg #[.int .i64 p.kids[k].op, .int .i64 p.kids[k].n, .slice a1 l1 c1], .agg #[.int .i64 v.kids[k].op, .int .i64 v.kids[k].n, .slice a2 l2 c2], .slice va vl vc] W (MatEnd Lk p.kids[k] v.kids[k] W)) := Lib.hid (fun k h h' W Lk va vl vc a1 l1 c1 a2 l2 c2 hI g1 g2 g3 => by
        have := sizes_mem (List.getElem_mem h)
        have := size_eq p
        exact ih.out _ _ _ W.heap.size W a1 l1 c1 a2 l2 c2 va vl vc (by omega) (v4 _ (List.getElem_mem h)) hI g1 g2 g3 (Nat.le_refl _))
      have hincK : Hid (∀ k, k ≤ p.kids.length → (mtTs L (p.kids.take k) (v.kids.take k)).1 = true → Inc (mtTs L (p.kids.take k) (v.kids.take k)).2) := Lib.hid (fun k => by
        induction k with
        | zero => intro _ _; simpa [mtTs] using hInc
        | succ k ihk =>
          intro hk h
          rw [mtTs_take L p.kids v.kids k (by omega) (by omega)] at h ⊢
          by_cases hq : (mtTs L (p.kids.take k) (v.kids.take k)).1 = true
          rotate_left
          · rw [if_neg hq] at h; exact absurd h hq
          · rw [if_pos hq] at h ⊢
            exact mt_inc _ _ _ (ihk (by omega) hq) (v4 _ (List.getElem_mem (by omega))) h)
      have hst0 : Hid ((mtTs L (p.kids.take 0) (v.kids.take 0)).1 = true ∧ ((mtTs L (p.kids.take 0) (v.kids.take 0)).1 = true → IsBinds w0.heap.size w0 (mtTs L (p.kids.take 0) (v.kids.take 0)).2 al L.length cl)) := Lib.hid (by
        obtain ⟨-, -, -, hI, -⟩ := hbx.out w0 hst.out
        simp only [List.take_zero, mtTs]
        exact ⟨trivial, fun _ => hI⟩)
      have hstay : Hid (∀ k, k ≤ p.kids.length → (mtTs L (p.kids.take k) (v.kids.take k)).1 = false → (mtTs L p.kids v.kids).1 = false) := Lib.hid (fun k hk h => by
        have := mtTs_stays L p.kids v.kids hl k h p.kids.length hk
        rw [List.take_length, hl, List.take_length] at this
        exact this)
      have htk := Lib.hid (mtTs_take L p.kids v.kids)
      have hwhole : Hid (mtTs L (p.kids.take p.kids.length) (v.kids.take p.kids.length) = mtTs L p.kids v.kids) := Lib.hid (by rw [List.take_length, hl, List.take_length])
      clear ho hnn hl h1 hret hmt hz0 hInc htp htv hvp v2 v4 hL hs
      go_enter Tryz.func80, Tryz.ntmps80
      go_upto_region 1 with fail
      rw [← hw0]
      replace hw0 := Lib.hid hw0
      replace hB0 := Lib.hid hB0
      go_wp2_with fail
      clear p0 p1 p2 q0 q1 q2
      go_loopw [2, 9, 10] (fun lv sv iv W => ∃ k va vl vc is, k ≤ p.kids.length ∧ iv = .int .i64 (k : Nat) ∧ lv = .slice va vl vc ∧ sv = .bool is ∧ Hid (is = (mtTs L (p.kids.take k) (v.kids.take k)).1 ∧ ((mtTs L (p.kids.take k) (v.kids.take k)).1 = true → IsBinds W.heap.size W (mtTs L (p.kids.take k) (v.kids.take k)).2 va vl vc)) ∧ Hid (Below w0.heap.size w0 W)) (fun _ _ iv _ => p.kids.length - (intOf iv).toNat)
      case atStart => exact ⟨0, al, L.length, cl, true, by omega, rfl, rfl, rfl, Lib.hid ⟨hst0.out.1.symm, hst0.out.2⟩, hst⟩
      case round =>
        obtain ⟨k, va, vl, vc, is, hk, rfl, rfl, rfl, hI, hb⟩ := hrel
        obtain ⟨rA, rB, -, -, hbW⟩ := hbx.out wr hb.out
        obtain ⟨⟨p0, p1, p2⟩, -⟩ := c3_cells rA
        replace hbW := Lib.hid hbW
        clear rA rB hst0
        by_cases hlt : k < p.kids.length
        · have o3 : (k : Int) < (p.kids.length : Int) := by omega
          have o4 : (k : Int) < (v.kids.length : Int) := by omega
          cases is
          · have hf := hstay.out k hk hI.out.1.symm
            replace hf := Lib.hid hf
            go_wp2_with fail
            exact bodyPost_ret (v := .tuple #[.slice va vl vc, .bool false]) (by simp [results, Tryz.f80, go_sem]) rfl ⟨va, vl, vc, by rw [hf.out], hbW.out, fun h => by rw [hf.out] at h; cases h⟩
          · have hlt' : k < v.kids.length := by omega
            obtain ⟨Lk, hLk⟩ : ∃ Lk, Lk = (mtTs L (p.kids.take k) (v.kids.take k)).2 := ⟨_, rfl⟩
            have hIk := hI.out.2 hI.out.1.symm
            have hIncK := hincK.out k hk hI.out.1.symm
            have hnext : Hid (∀ W va' vl' vc', ((mtT Lk p.kids[k] v.kids[k]).1 = true → IsBinds W.heap.size W (mtT Lk p.kids[k] v.kids[k]).2 va' vl' vc') → ((mtT Lk p.kids[k] v.kids[k]).1 = (mtTs L (p.kids.take (k + 1)) (v.kids.take (k + 1))).1 ∧ ((mtTs L (p.kids.take (k + 1)) (v.kids.take (k + 1))).1 = true → IsBinds W.heap.size W (mtTs L (p.kids.take (k + 1)) (v.kids.take (k + 1))).2 va' vl' vc'))) := Lib.hid (fun W va' vl' vc' h => by
              rw [htk.out k hlt hlt', if_pos hI.out.1.symm, ← hLk]
              exact ⟨rfl, h⟩)
            rw [← hLk] at hIk hIncK
            obtain ⟨ba, oa, a1, l1, c1, bb, ob, a2, l2, c2, rfl, rfl, hkW⟩ := hK.out k hlt hlt'
            have hcall : Hid (∀ W, Below wr.heap.size wr W → Calls Tryz.prog 80 #[.agg #[.int .i64 p.kids[k].op, .int .i64 p.kids[k].n, .slice a1 l1 c1], .agg #[.int .i64 v.kids[k].op, .int .i64 v.kids[k].n, .slice a2 l2 c2], .slice va vl vc] W (MatEnd Lk p.kids[k] v.kids[k] W)) := Lib.hid (fun W hW => by
              obtain ⟨-, -, g1, g2⟩ := hkW W (Below.up hb.out hW)
              exact hIH.out k hlt hlt' W Lk va vl vc a1 l1 c1 a2 l2 c2 hIncK g1 g2 (binds_up hIk hW))
            have hcel : Hid (∀ W, Below w0.heap.size w0 W → Cells3 W ba (oa + k * 3) p.kids[k].op p.kids[k].n a1 l1 c1 ∧ Cells3 W bb (ob + k * 3) v.kids[k].op v.kids[k].n a2 l2 c2) := Lib.hid (fun W hW => ⟨(hkW W hW).1, (hkW W hW).2.1⟩)
            obtain ⟨ka, hka⟩ : ∃ t, t = p.kids[k] := ⟨_, rfl⟩
            obtain ⟨kb, hkb⟩ : ∃ t, t = v.kids[k] := ⟨_, rfl⟩
            rw [← hka, ← hkb] at hcall hnext hcel
            clear hkW hIncK hIk hLk hI hka hkb
            go_upto_region 12 with fail
            refine region_named (S := fun W' => Below w0.heap.size w0 W') (by kernel_rfl) (fun x hx => ?_)
            have hxr : Hid (Below wr.heap.size wr x) := Lib.hid (by rw [hx]; exact (Below.refl _ _).drew)
            have hqx : Hid (Below w0.heap.size w0 x) := Lib.hid (Below.up hb.out hxr.out)
            clear hx p0 p1 p2
            refine takeH 0 65 (.pointer (some ⟨w.heap.size, 2, none⟩)) rfl rfl (by kernel_rfl) (by kernel_rfl) (by kernel_rfl) (fun _ _ _ h => h) (by rfl) (by intro W hSw; clear hSw; go_simp) hqx.out ?_
            try simp only [List.setIfInBounds_toArray, List.set_cons_zero, List.set_cons_succ]
            refine takeH 1 66 (.slice (some ⟨ba, oa, none⟩) p.kids.length cp) rfl rfl (by kernel_rfl) (by kernel_rfl) (by kernel_rfl) (fun _ _ _ h => h) (by rfl) (by intro W hSw; obtain ⟨rA, rB, -⟩ := hbx.out W hSw; obtain ⟨⟨j0, j1, j2⟩, -⟩ := c3_cells rA; obtain ⟨⟨k0, k1, k2⟩, -⟩ := c3_cells rB; clear rA rB hSw; go_simp) hqx.out ?_
            try simp only [List.setIfInBounds_toArray, List.set_cons_zero, List.set_cons_succ]
            refine takeH 2 67 (.int .i64 (k : Nat)) rfl rfl (by kernel_rfl) (by kernel_rfl) (by kernel_rfl) (fun _ _ _ h => h) (by rfl) (by intro W hSw; clear hSw; go_simp) hqx.out ?_
            try simp only [List.setIfInBounds_toArray, List.set_cons_zero, List.set_cons_succ]
            refine takeH 3 68 (.pointer (some ⟨ba, oa + k * 3, none⟩)) rfl rfl (by kernel_rfl) (by kernel_rfl) (by kernel_rfl) (fun _ _ _ h => h) (by rfl) (by intro W hSw; clear hSw; go_simp) hqx.out ?_
            try simp only [List.setIfInBounds_toArray, List.set_cons_zero, List.set_cons_succ]
            refine takeH 4 69 (.agg #[.int .i64 ka.op, .int .i64 ka.n, .slice a1 l1 c1]) rfl rfl (by kernel_rfl) (by kernel_rfl) (by kernel_rfl) (fun _ _ _ h => h) (by rfl) (by intro W hSw; obtain ⟨j0, j1, j2⟩ := (hcel.out W hSw).1; clear hSw; go_simp) hqx.out ?_
            try simp only [List.setIfInBounds_toArray, List.set_cons_zero, List.set_cons_succ]
            refine takeH 5 70 (.pointer (some ⟨w.heap.size + 1, 2, none⟩)) rfl rfl (by kernel_rfl) (by kernel_rfl) (by kernel_rfl) (fun _ _ _ h => h) (by rfl) (by intro W hSw; clear hSw; go_simp) hqx.out ?_
            try simp only [List.setIfInBounds_toArray, List.set_cons_zero, List.set_cons_succ]
            refine takeH 6 71 (.slice (some ⟨bb, ob, none⟩) v.kids.length cv) rfl rfl (by kernel_rfl) (by kernel_rfl) (by kernel_rfl) (fun _ _ _ h => h) (by rfl) (by intro W hSw; obtain ⟨rA, rB, -⟩ := hbx.out W hSw; obtain ⟨⟨j0, j1, j2⟩, -⟩ := c3_cells rA; obtain ⟨⟨k0, k1, k2⟩, -⟩ := c3_cells rB; clear rA rB hSw; go_simp) hqx.out ?_
            try simp only [List.setIfInBounds_toArray, List.set_cons_zero, List.set_cons_succ]
            refine takeH 7 72 (.int .i64 (k : Nat)) rfl rfl (by kernel_rfl) (by kernel_rfl) (by kernel_rfl) (fun _ _ _ h => h) (by rfl) (by intro W hSw; clear hSw; go_simp) hqx.out ?_
            try simp only [List.setIfInBounds_toArray, List.set_cons_zero, List.set_cons_succ]
            refine takeH 8 73 (.pointer (some ⟨bb, ob + k * 3, none⟩)) rfl rfl (by kernel_rfl) (by kernel_rfl) (by kernel_rfl) (fun _ _ _ h => h) (by rfl) (by intro W hSw; clear hSw; go_simp) hqx.out ?_
            try simp only [List.setIfInBounds_toArray, List.set_cons_zero, List.set_cons_succ]
            refine takeH 9 74 (.agg #[.int .i64 kb.op, .int .i64 kb.n, .slice a2 l2 c2]) rfl rfl (by kernel_rfl) (by kernel_rfl) (by kernel_rfl) (fun _ _ _ h => h) (by rfl) (by intro W hSw; obtain ⟨j0, j1, j2⟩ := (hcel.out W hSw).2; clear hSw; go_simp) hqx.out ?_
            try simp only [List.setIfInBounds_toArray, List.set_cons_zero, List.set_cons_succ]
            refine takeH 10 75 (.slice va vl vc) rfl rfl (by kernel_rfl) (by kernel_rfl) (by kernel_rfl) (fun _ _ _ h => h) (by rfl) (by intro W hSw; clear hSw; go_simp) hqx.out ?_
            try simp only [List.setIfInBounds_toArray, List.set_cons_zero, List.set_cons_succ]
            refine wpAnyH_ready (rs := [11]) (by kernel_rfl) (by simp) ?_
            refine AllReadyH.cons rfl (fun K5 hKc => ?_) AllReadyH.nil
            go_simp
            have hC := Lib.hid (hcall.out x hxr.out)
            go_at_call 80
            refine (hC.out).mono ?_
            rintro e w4 ⟨va', vl', vc', rfl, hb4, g1⟩
            have hq4 : Hid (Below w0.heap.size w0 w4) := Lib.hid (Below.up hqx.out hb4)
            have hnew := Lib.hid (hnext.out w4 va' vl' vc' g1)
            obtain ⟨is', his⟩ : ∃ is', is' = (mtT Lk ka kb).1 := ⟨_, rfl⟩
            rw [← his] at hnew ⊢
            clear hb4 hC g1 hnext hcall his
            refine hKc _ _ hq4.out (fun _ => ?_)
            clear hKc K5
            try simp only [Act.put, List.setIfInBounds_toArray, List.set_cons_zero, List.set_cons_succ]
            refine takeH 12 64 (.tuple #[.slice va' vl' vc', .bool is']) rfl rfl (by kernel_rfl) (by kernel_rfl) (by kernel_rfl) (fun _ _ _ h => h) (by rfl) (by intro W hSw; clear hSw; go_simp) hq4.out ?_
            try simp only [List.setIfInBounds_toArray, List.set_cons_zero, List.set_cons_succ]
            refine takeH 13 77 (.slice va' vl' vc') rfl rfl (by kernel_rfl) (by kernel_rfl) (by kernel_rfl) (fun _ _ _ h => h) (by rfl) (by intro W hSw; clear hSw; go_simp) hq4.out ?_
            try simp only [List.setIfInBounds_toArray, List.set_cons_zero, List.set_cons_succ]
            refine takeH 14 78 (.bool is') rfl rfl (by kernel_rfl) (by kernel_rfl) (by kernel_rfl) (fun _ _ _ h => h) (by rfl) (by intro W hSw; clear hSw; go_simp) hq4.out ?_
            try simp only [List.setIfInBounds_toArray, List.set_cons_zero, List.set_cons_succ]
            refine takeH 15 2 (.slice va' vl' vc') rfl rfl (by kernel_rfl) (by kernel_rfl) (by kernel_rfl) (fun _ _ _ h => h) (by rfl) (by intro W hSw; clear hSw; go_simp) hq4.out ?_
            try simp only [List.setIfInBounds_toArray, List.set_cons_zero, List.set_cons_succ]
            refine takeH 16 9 (.bool is') rfl rfl (by kernel_rfl) (by kernel_rfl) (by kernel_rfl) (fun _ _ _ h => h) (by rfl) (by intro W hSw; clear hSw; go_simp) hq4.out ?_
            try simp only [List.setIfInBounds_toArray, List.set_cons_zero, List.set_cons_succ]
            refine wpAnyH_done (by kernel_rfl) ?_ _
            go_wp2_with fail
            go_roundw
            case rel => exact ⟨k + 1, _, _, _, is', by omega, by go_num, rfl, rfl, hnew, hq4⟩
            case measure => simp [intOf]; omega
        · obtain rfl : k = p.kids.length := by omega
          have o3 : ¬ (p.kids.length : Int) < (p.kids.length : Int) := by omega
          have hfin := hI.out
          rw [hwhole.out] at hfin
          replace hfin := Lib.hid hfin
          clear hI
          go_wp2_with fail
          exact bodyPost_ret (v := .tuple #[.slice va vl vc, .bool is]) (by simp [results, Tryz.f80, go_sem]) rfl ⟨va, vl, vc, by rw [hfin.out.1], hbW.out, hfin.out.2⟩

end Go.Proofs.YthlegfegkopdkaaGreat
