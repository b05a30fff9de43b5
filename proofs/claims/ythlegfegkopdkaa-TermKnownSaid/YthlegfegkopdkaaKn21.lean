/- Own text, joined of: O4 S1 S2. 'order': a TermLet. · 'rename'. · 'rename': the TermLet that binds the variable. -/
import Derived.Deep.RegionHeld3
import Derived.Deep.Cut
import Derived.Deep.CutRange
import Derived.Test.YthlegfegkopdkaaKn20

namespace Go.Proofs.Ythlegfegkopdkaa
open Go.RowKit Go.Shelf

/-- What the rest of a TermLet's walk wants to read: the boxes of the scope and of the term, and a kid's cells. -/
def LetCells (w : World) (Bs bb : Nat) (d : DT) (k : DT) (b off : Nat) (W : World) : Prop :=
  (W.cell? ⟨w.heap.size, 0, none⟩ = some (.pointer (some ⟨Bs, 0, none⟩)) ∧ W.cell? ⟨w.heap.size, 1, none⟩ = some (.map (some bb))) ∧
  (W.cell? ⟨w.heap.size + 1, 1, none⟩ = some (.int .i64 d.n) ∧ W.cell? ⟨w.heap.size + 1, 2, none⟩ = some (.slice d.a d.l d.c)) ∧
  (W.cell? ⟨b, off, none⟩ = some (.int .i64 k.op) ∧ W.cell? ⟨b, off + 1, none⟩ = some (.int .i64 k.n) ∧ W.cell? ⟨b, off + 2, none⟩ = some (.slice k.a k.l k.c))

theorem heap_new'' (w : World) (o : Obj) : (w.alloc o).heap[w.heap.size]? = some o := heap_new' o rfl
theorem inner_good {R : Nat → Prop} {w w0 wc w1 : World} {Bs bf b bb' n : Nat} {s : OS} {f : Int → Option Int} (h : IMap w1 bb' n f ∧ w.heap.size ≤ bb' ∧ Turns R w0 w1 ∧ ScopeAt Bs bf s w1 ∧ Below wc.heap.size wc w1) (hz : w.heap.size + 3 ≤ wc.heap.size) (hb : b < w.heap.size) :
    Hid (IMap w1 bb' n f ∧ w.heap.size ≤ bb' ∧ Turns R w0 w1 ∧ ScopeAt Bs bf s w1 ∧ Below wc.heap.size wc w1) ∧
    Hid (∀ o, IMap (w1.alloc o) bb' n f ∧ w.heap.size ≤ bb' ∧ Turns R w0 (w1.alloc o) ∧ ScopeAt Bs bf s (w1.alloc o) ∧ Below wc.heap.size wc (w1.alloc o)) ∧ (¬ w.heap.size = w1.heap.size) ∧ (¬ w.heap.size + 1 = w1.heap.size) ∧ (¬ b = w1.heap.size) ∧ Hid (w.heap.size ≤ w1.heap.size) := by
  have hs := h.2.2.2.2.size
  refine ⟨h, fun o => ⟨h.1.same (Below.heap_alloc _ _ _ h.1.lt), h.2.1, h.2.2.1.alloc o, h.2.2.2.1.same (Below.heap_alloc _ _ _ h.2.2.2.1.lt.1) (Below.heap_alloc _ _ _ h.2.2.2.1.lt.2), h.2.2.2.2.alloc hs o⟩, by omega, by omega, by omega, ?_⟩
  exact (by omega : w.heap.size ≤ w1.heap.size)
theorem set3_cell {w : World} {B k o : Nat} (x' y' z' : Value) (h : ¬ k = B) : (((w.setCell ⟨B, 0, none⟩ x').setCell ⟨B, 1, none⟩ y').setCell ⟨B, 2, none⟩ z').cell? ⟨k, o, none⟩ = w.cell? ⟨k, o, none⟩ :=
  World.cell?_of_block (set3_other _ _ _ h)
theorem new_drew (w : World) (o : Obj) : (w.alloc o).drew.heap[w.heap.size]? = some o := heap_new' o rfl

set_option maxRecDepth 100000 in
set_option maxHeartbeats 1000000 in
theorem order_let (N : Nat) (ih : OrdSpec N) (d : DT) (n₀ : Nat) (w : World) (Bs bf bb nb : Nat) (fb : Int → Option Int) (s : OS) (hs : d.size ≤ N + 1) (hL : Lies n₀ w d) (hB1 : n₀ ≤ Bs) (hB2 : n₀ ≤ bf) (hn : n₀ ≤ w.heap.size) (hS : ScopeAt Bs bf s w) (hb : IMap w bb nb fb) (n1 : bb ≠ Bs) (n2 : bb ≠ bf)
    (c1 : nb + d.size ≤ 1000000) (c2 : s.count + d.size ≤ 1000000) (hO : OkV d.tm) (h8 : d.op = 8) :
    Calls Try.prog 51 #[oscope Bs bb, dv d] w (Makes (ordR Bs bf) w (ordT fb s d.tm).1 (ScopeAt Bs bf (ordT fb s d.tm).2)) := by
  obtain ⟨f1, f2, f3, f4, f5⟩ := ord0_facts w Bs bb d
  have hlt := hS.lt
  have hsz := dsize_eq d
  have hL0 := hL.below (f5.mono hn)
  obtain ⟨o1, -, o3, o4⟩ := hO.open
  rw [DT.tm_op] at o1 o3
  have hk2 : d.kids.length = 2 := by have := o3 h8; rwa [DT.tm_kids, List.length_map] at this
  obtain ⟨x, y, hxy⟩ : ∃ x y, d.kids = [x, y] := by
    match hd : d.kids with
    | [x, y] => exact ⟨x, y, rfl⟩
    | [] => rw [hd] at hk2; simp at hk2
    | [_] => rw [hd] at hk2; simp at hk2
    | _ :: _ :: _ :: _ => rw [hd] at hk2; simp at hk2
  have hdt : d.tm.kids = [x.tm, y.tm] := by rw [DT.tm_kids, hxy]; rfl
  rw [hdt] at o4
  have hsx : d.size = x.size + y.size + 1 := by rw [hsz, hxy]; simp only [dsizes]; omega
  obtain ⟨hl, hlc, hc, hk⟩ := hL0.open
  rw [hxy] at hk hl
  rcases hk with hk | ⟨b, off, ha, hbn, hks⟩
  · cases hk
  obtain ⟨g1, g2⟩ := LiesAll.get _ hks 0 (by simp)
  obtain ⟨g3, g4⟩ := LiesAll.get _ hks 1 (by simp)
  simp only [List.getElem_cons_zero, List.getElem_cons_succ, Nat.zero_mul, Nat.add_zero, Nat.one_mul] at g1 g2 g3 g4
  rw [DT.tm_n] at o1
  obtain ⟨hn0, hn20⟩ := o1 (.inr h8)
  have e1 : (d.op == 1) = false := by simp; omega
  have e8 : (d.op == 8) = true := by simpa using h8
  -- the contracts
  have hN := next_any (ord0 w Bs bb d) Bs bf bb s.count ((f5.block _ hlt.1).trans hS.1) (by omega)
  have hres : ordL fb (updI fb d.n s.count) s.next [x.tm, y.tm] = ([(ordT fb s.next x.tm).1, (ordT (updI fb d.n s.count) (ordT fb s.next x.tm).2 y.tm).1], (ordT (updI fb d.n s.count) (ordT fb s.next x.tm).2 y.tm).2) := by simp [ordL, ordTs]
  rw [ordT_eq, DT.tm_op, DT.tm_n, hdt, if_neg (by omega), if_pos h8, hres]
  have hcx : (ordT fb s.next x.tm).2.count ≤ s.count + 1 + x.size := by have := ordT_count fb x.tm s.next; rw [size_tm] at this; exact this
  have hX := fun (W : World) (hT : Turns (ordR Bs bf) (ord0 w Bs bb d) W) (hSW : ScopeAt Bs bf s.next W) => ih x n₀ W Bs bf bb nb fb s.next (by omega) (g2.below (hT.below (by omega) (fun j hj hr => by rcases hr with rfl | rfl <;> omega))) hB1 hB2 (by have := hT.size; omega) hSW (hb.same ((hT.block _ (by have := hb.lt; omega) (by rintro (h | h); exact n1 h; exact n2 h)).trans (f5.block _ hb.lt))) n1 n2 (by omega) (by simp only [OS.next]; omega) (by simp only [OkVs] at o4; exact o4.1)
  obtain ⟨r1, hr1⟩ : ∃ r1, r1 = ordT fb s.next x.tm := ⟨_, rfl⟩
  rw [← hr1] at hX hcx ⊢
  have hIn := fun (W : World) (hT : Turns (ordR Bs bf) (ord0 w Bs bb d) W) => inside_any W Bs bb nb fb d.n s.count ⟨hn0, hn20⟩ (hb.same ((hT.block _ (by have := hb.lt; omega) (by rintro (h | h); exact n1 h; exact n2 h)).trans (f5.block _ hb.lt))) (by omega)
  have hY := fun (W : World) (bb' : Nat) (hT : Turns (ordR Bs bf) (ord0 w Bs bb d) W) (hSW : ScopeAt Bs bf r1.2 W) (hm : IMap W bb' (nb + 1) (updI fb d.n s.count)) (hbb : w.heap.size ≤ bb') => ih y n₀ W Bs bf bb' (nb + 1) (updI fb d.n s.count) r1.2 (by omega) (g4.below (hT.below (by omega) (fun j hj hr => by rcases hr with rfl | rfl <;> omega))) hB1 hB2 (by have := hT.size; omega) hSW hm (by omega) (by omega) (by omega) (by omega) (by simp only [OkVs] at o4; exact o4.2.1)
  obtain ⟨r2, hr2⟩ : ∃ r2, r2 = ordT (updI fb d.n s.count) r1.2 y.tm := ⟨_, rfl⟩
  rw [← hr2] at hY ⊢
  obtain ⟨w0, hw0⟩ : ∃ w0, w0 = ord0 w Bs bb d := ⟨_, rfl⟩
  rw [← hw0] at hX hIn hY f1 f2 f3 f4 f5 g1 g3
  obtain ⟨⟨a0, a1⟩, -⟩ := c2_cells f1
  obtain ⟨⟨b0, b1, b2⟩, -⟩ := c3_cells f2
  obtain ⟨x0, x1, x2⟩ := g1
  obtain ⟨y0, y1, y2⟩ := g3
  have hbR : ¬ ordR Bs bf b := by rintro (h | h) <;> omega
  have hwR : ∀ k, w.heap.size ≤ k → ¬ ordR Bs bf k := by rintro k hk (h | h) <;> omega
  have kS := fun (W : World) (hT : Turns (ordR Bs bf) w0 W) => (⟨hT.cell (hwR _ (by omega)) a0, hT.cell (hwR _ (by omega)) a1⟩ : W.cell? ⟨w.heap.size, 0, none⟩ = some (.pointer (some ⟨Bs, 0, none⟩)) ∧ W.cell? ⟨w.heap.size, 1, none⟩ = some (.map (some bb)))
  have kT := fun (W : World) (hT : Turns (ordR Bs bf) w0 W) => (⟨hT.cell (hwR _ (by omega)) b1, by rw [← ha]; exact hT.cell (hwR _ (by omega)) b2⟩ : W.cell? ⟨w.heap.size + 1, 1, none⟩ = some (.int .i64 d.n) ∧ W.cell? ⟨w.heap.size + 1, 2, none⟩ = some (.slice (some ⟨b, off, none⟩) d.l d.c))
  have kX := fun (W : World) (hT : Turns (ordR Bs bf) w0 W) => (⟨hT.cell hbR x0, hT.cell hbR x1, hT.cell hbR x2⟩ : W.cell? ⟨b, off, none⟩ = some (.int .i64 x.op) ∧ W.cell? ⟨b, off + 1, none⟩ = some (.int .i64 x.n) ∧ W.cell? ⟨b, off + 2, none⟩ = some (.slice x.a x.l x.c))
  have kY := fun (W : World) (hT : Turns (ordR Bs bf) w0 W) => (⟨hT.cell hbR y0, hT.cell hbR y1, hT.cell hbR y2⟩ : W.cell? ⟨b, off + 3, none⟩ = some (.int .i64 y.op) ∧ W.cell? ⟨b, off + 3 + 1, none⟩ = some (.int .i64 y.n) ∧ W.cell? ⟨b, off + 3 + 2, none⟩ = some (.slice y.a y.l y.c))
  have hl2 : (1 : Int) < (d.l : Int) := by rw [hl]; simp
  have hl0 : 0 < d.l := by omega
  have hl1 : 1 < d.l := by omega
  replace hN := Lib.hid hN
  replace hX := Lib.hid hX
  replace hIn := Lib.hid hIn
  replace hY := Lib.hid hY
  replace kS := Lib.hid kS
  replace kT := Lib.hid kT
  replace kX := Lib.hid kX
  replace kY := Lib.hid kY
  replace f3 := Lib.hid f3
  replace f5 := Lib.hid f5
  replace hl := Lib.hid hl
  replace hw0 := Lib.hid hw0
  replace ha := Lib.hid ha
  replace hS := Lib.hid hS
  clear ih hr1 hr2 hres hks f1 f2 a0 a1 b0 b1 b2 x0 x1 x2 y0 y1 y2 hsz hL hL0 hb hO o1 o3 o4 hk2 hxy hdt h8 g2 g4
  change Calls _ _ _ _ (Makes (ordR Bs bf) w (Tm.mk 8 s.count [r1.1, r2.1]) (ScopeAt Bs bf r2.2))
  go_enter Try.func51, Try.ntmps51
  go_upto_region 6 with (refine (hN.out).mono ?_; rintro e wn ⟨rfl, hs1, ht⟩)
  rw [← hw0.out] at ht
  have htR : Turns (ordR Bs bf) w0 wn := ht.mono (fun k _ h => .inl h)
  have hsn : ScopeAt Bs bf s.next wn := by
    obtain ⟨-, nf, hnf, hm⟩ := hS.out
    have hne := hS.out.ne
    exact ⟨hs1, nf, by simp only [OS.next]; omega, hm.same ((ht.block bf (by omega) (fun e => hne e.symm)).trans (f5.out.block _ hlt.2))⟩
  have gdr := Lib.hid (show Turns (ordR Bs bf) w0 wn.drew ∧ ScopeAt Bs bf s.next wn.drew from ⟨htR.drew, hsn.same rfl rfl⟩)
  have gal := Lib.hid (show ∀ o, Turns (ordR Bs bf) w0 (wn.alloc o).drew ∧ ScopeAt Bs bf s.next (wn.alloc o).drew from fun o => ⟨(htR.alloc o).drew, hsn.same (Below.heap_alloc wn o Bs hsn.lt.1) (Below.heap_alloc wn o bf hsn.lt.2)⟩)
  obtain ⟨p0, p1⟩ := kS.out wn htR
  obtain ⟨p2, p3⟩ := kT.out wn htR
  obtain ⟨p4, p5, p6⟩ := kX.out wn htR
  have hwz : Hid (w.heap.size + 3 ≤ wn.heap.size) := by have := htR.size; rw [f4] at this; exact this
  have hwz' : Hid (w.heap.size ≤ wn.heap.size) := by have := hwz.out; exact (by omega : w.heap.size ≤ wn.heap.size)
  have q0 : ¬ w.heap.size = wn.heap.size := by have := hwz.out; omega
  have q1 : ¬ w.heap.size + 1 = wn.heap.size := by have := hwz.out; omega
  have q2 : ¬ b = wn.heap.size := by have := hwz.out; omega
  replace hs1 := Lib.hid hs1
  replace ht := Lib.hid ht
  replace htR := Lib.hid htR
  replace hsn := Lib.hid hsn
  have hXc := Lib.hid (show ∀ W, (Turns (ordR Bs bf) w0 W ∧ ScopeAt Bs bf s.next W) → Calls Try.prog 51 #[oscope Bs bb, dv x] W fun e w1 => ∃ a l c, e = .returned (.agg #[.int .i64 r1.1.op, .int .i64 r1.1.n, .slice a l c]) ∧
      Hid (Fresh W w1 r1.1 a l c ∧ ScopeAt Bs bf r1.2 w1 ∧ Turns (ordR Bs bf) W w1 ∧ Turns (ordR Bs bf) w0 w1) ∧ Hid (∀ B, w.heap.size ≤ B → W.heap[B]? = some zer3 → w1.heap[B]? = some zer3) ∧
      (w1.cell? ⟨w.heap.size, 0, none⟩ = some (.pointer (some ⟨Bs, 0, none⟩)) ∧ w1.cell? ⟨w.heap.size, 1, none⟩ = some (.map (some bb))) ∧ w1.cell? ⟨w.heap.size + 1, 2, none⟩ = some (.slice (some ⟨b, off, none⟩) d.l d.c) ∧
      (w1.cell? ⟨b, off, none⟩ = some (.int .i64 x.op) ∧ w1.cell? ⟨b, off + 1, none⟩ = some (.int .i64 x.n) ∧ w1.cell? ⟨b, off + 2, none⟩ = some (.slice x.a x.l x.c)) from fun W hW => (hX.out W hW.1 hW.2).mono (by
        rintro e w1 ⟨a, l, c, rfl, hF, hJ, hT⟩
        have hTT := hW.1.trans hT
        exact ⟨a, l, c, rfl, ⟨hF, hJ, hT, hTT⟩, fun B h1 h2 => (hT.block B (Array.getElem?_eq_some_iff.1 h2).1 (hwR B h1)).trans h2, kS.out w1 hTT, (kT.out w1 hTT).2, kX.out w1 hTT⟩))
  go_cut [6] from 21 to 26 (fun s6 W => Slot3 (w.heap.size + 3) r1.1 s6 W ∧ ScopeAt Bs bf r1.2 W ∧ Turns (ordR Bs bf) w0 W)
  case first =>
    go_region_held3 (fun W' => (W'.cell? ⟨w.heap.size, 0, none⟩ = some (.pointer (some ⟨Bs, 0, none⟩)) ∧ W'.cell? ⟨w.heap.size, 1, none⟩ = some (.map (some bb))) ∧ W'.cell? ⟨w.heap.size + 1, 2, none⟩ = some (.slice (some ⟨b, off, none⟩) d.l d.c) ∧
        (W'.cell? ⟨b, off, none⟩ = some (.int .i64 x.op) ∧ W'.cell? ⟨b, off + 1, none⟩ = some (.int .i64 x.n) ∧ W'.cell? ⟨b, off + 2, none⟩ = some (.slice x.a x.l x.c)))
      (first | go_keep | (refine ⟨⟨?_, ?_⟩, ?_, ?_, ?_, ?_⟩ <;> (rw [set3_cell _ _ _ (by first | exact q0 | exact q1 | exact q2)]; assumption)))
      ((go_at_call 51; refine (hXc.out _ (by first | with_reducible exact gdr.out | with_reducible exact gal.out _)).mono ?_; rintro e w1 ⟨a1, l1, k1, rfl, hF, hZ, ⟨t0, t1⟩, t3, ⟨t4, t5, t6⟩⟩; (first | (have zz := hZ.out wn.heap.size hwz'.out (new_drew wn zer3); obtain ⟨⟨z0, z1, z2⟩, z3, z4, z5⟩ := c3_cells zz; replace zz := Lib.hid zz) | skip)))
    · clear t0 t1 t3 t4 t5 t6
      obtain ⟨hF1, hJ1, hT1, hT2⟩ := hF.out
      have hs3 := Lib.hid (Slot3.behind (lo := w.heap.size + 3) rfl (by have := hwz.out; exact (this : w.heap.size + 3 ≤ wn.drew.heap.size)) hT1.size hF1)
      replace hJ1 := Lib.hid hJ1
      replace hT2 := Lib.hid hT2
      clear hF1 hT1
      go_wp2_with fail
      go_meet
      case rel => exact ⟨hs3.out, hJ1.out.same (Below.heap_alloc _ _ _ hJ1.out.lt.1) (Below.heap_alloc _ _ _ hJ1.out.lt.2), hT2.out.alloc _⟩
    · clear t0 t1 t3 t4 t5 t6 z0 z1 z2 z3 z4 z5
      obtain ⟨hF1, hJ1, hT1, hT2⟩ := hF.out
      have hs3 := Lib.hid (Slot3.before (lo := w.heap.size + 3) zz.out hwz.out (by simp [World.drew]) hF1)
      have hsO := Lib.hid (fun k (h : k ≠ wn.heap.size) => set3_other (w := w1) (.int .i64 r1.1.op) (.int .i64 r1.1.n) (.slice a1 l1 k1) h)
      have hsB := Lib.hid (set3_below (w := w1) (B := wn.heap.size) (n := w0.heap.size) (.int .i64 r1.1.op) (.int .i64 r1.1.n) (.slice a1 l1 k1) (by have := hwz.out; omega))
      replace hJ1 := Lib.hid hJ1
      replace hT2 := Lib.hid hT2
      clear hF1 hT1
      go_wp2_with fail
      go_meet
      case rel => exact ⟨hs3.out, hJ1.out.same (hsO.out _ (by have := hwz.out; omega)) (hsO.out _ (by have := hwz.out; omega)), hT2.out.then hsB.out⟩
  case rest =>
    obtain ⟨hx3, hsc, htc⟩ := hcut
    clear p0 p1 p2 p3 p4 p5 p6 gdr gal hs1 ht htR hsn hXc hwz hwz' q0 q1 q2 kX hX hN
    have hwz : Hid (w.heap.size + 3 ≤ wc.heap.size) := by have := htc.size; rw [f4] at this; exact this
    have q0 : ¬ w.heap.size = wc.heap.size := by have := hwz.out; omega
    have q1 : ¬ w.heap.size + 1 = wc.heap.size := by have := hwz.out; omega
    have q2 : ¬ b = wc.heap.size := by have := hwz.out; omega
    have hwz' : Hid (w.heap.size ≤ wc.heap.size) := by have := hwz.out; exact (by omega : w.heap.size ≤ wc.heap.size)
    obtain ⟨p0, p1⟩ := kS.out wc htc
    obtain ⟨p2, p3⟩ := kT.out wc htc
    obtain ⟨p4, p5, p6⟩ := kY.out wc htc
    -- the inner scope
    have hIc := Lib.hid (show ∀ W, (Turns (ordR Bs bf) w0 W ∧ ScopeAt Bs bf r1.2 W ∧ Below wc.heap.size wc W) → Calls Try.prog 78 #[oscope Bs bb, .int .i64 d.n, .int .i64 s.count] W fun e w1 => ∃ bb', e = .returned (oscope Bs bb') ∧
        Hid (IMap w1 bb' (nb + 1) (updI fb d.n s.count) ∧ w.heap.size ≤ bb' ∧ Turns (ordR Bs bf) w0 w1 ∧ ScopeAt Bs bf r1.2 w1 ∧ Below wc.heap.size wc w1) ∧ Hid (∀ B, W.heap[B]? = some zer3 → w1.heap[B]? = some zer3) ∧
        (w1.cell? ⟨w.heap.size, 0, none⟩ = some (.pointer (some ⟨Bs, 0, none⟩)) ∧ w1.cell? ⟨w.heap.size, 1, none⟩ = some (.map (some bb))) ∧ (w1.cell? ⟨w.heap.size + 1, 1, none⟩ = some (.int .i64 d.n) ∧ w1.cell? ⟨w.heap.size + 1, 2, none⟩ = some (.slice (some ⟨b, off, none⟩) d.l d.c)) ∧
        (w1.cell? ⟨b, off + 3, none⟩ = some (.int .i64 y.op) ∧ w1.cell? ⟨b, off + 3 + 1, none⟩ = some (.int .i64 y.n) ∧ w1.cell? ⟨b, off + 3 + 2, none⟩ = some (.slice y.a y.l y.c)) from fun W hW => (hIn.out W hW.1).mono (by
          rintro e w1 ⟨bb', rfl, hm, hle, hB⟩
          have hTT := hW.1.then (hB.mono hW.1.size)
          have hlt2 := hW.2.1.lt
          exact ⟨bb', rfl, ⟨hm, by have := hW.1.size; omega, hTT, hW.2.1.same (hB.block _ hlt2.1) (hB.block _ hlt2.2), hW.2.2.trans (hB.mono hW.2.2.size)⟩, fun B h2 => (hB.block B (Array.getElem?_eq_some_iff.1 h2).1).trans h2, kS.out w1 hTT, kT.out w1 hTT, kY.out w1 hTT⟩))
    have hYc := Lib.hid (show ∀ W bb', (IMap W bb' (nb + 1) (updI fb d.n s.count) ∧ w.heap.size ≤ bb' ∧ Turns (ordR Bs bf) w0 W ∧ ScopeAt Bs bf r1.2 W ∧ Below wc.heap.size wc W) → Calls Try.prog 51 #[oscope Bs bb', dv y] W fun e w1 => ∃ a l c, e = .returned (.agg #[.int .i64 r2.1.op, .int .i64 r2.1.n, .slice a l c]) ∧
        Hid (Fresh W w1 r2.1 a l c ∧ ScopeAt Bs bf r2.2 w1 ∧ Turns (ordR Bs bf) W w1 ∧ Turns (ordR Bs bf) w0 w1 ∧ (∀ j, w.heap.size ≤ j → j < wc.heap.size → w1.heap[j]? = wc.heap[j]?)) ∧ Hid (∀ B, w.heap.size ≤ B → W.heap[B]? = some zer3 → w1.heap[B]? = some zer3) ∧
        (w1.cell? ⟨w.heap.size, 0, none⟩ = some (.pointer (some ⟨Bs, 0, none⟩)) ∧ w1.cell? ⟨w.heap.size, 1, none⟩ = some (.map (some bb))) ∧ (w1.cell? ⟨w.heap.size + 1, 1, none⟩ = some (.int .i64 d.n) ∧ w1.cell? ⟨w.heap.size + 1, 2, none⟩ = some (.slice (some ⟨b, off, none⟩) d.l d.c)) ∧
        (w1.cell? ⟨b, off + 3, none⟩ = some (.int .i64 y.op) ∧ w1.cell? ⟨b, off + 3 + 1, none⟩ = some (.int .i64 y.n) ∧ w1.cell? ⟨b, off + 3 + 2, none⟩ = some (.slice y.a y.l y.c)) from fun W bb' hW => (hY.out W bb' hW.2.2.1 hW.2.2.2.1 hW.1 hW.2.1).mono (by
          rintro e w1 ⟨a, l, c, rfl, hF, hJ, hT⟩
          have hTT := hW.2.2.1.trans hT
          exact ⟨a, l, c, rfl, ⟨hF, hJ, hT, hTT, fun j h1 h2 => (hT.block j (by have := hW.2.2.2.2.size; omega) (hwR j h1)).trans (hW.2.2.2.2.block j h2)⟩, fun B h1 h2 => (hT.block B (Array.getElem?_eq_some_iff.1 h2).1 (hwR B h1)).trans h2, kS.out w1 hTT, kT.out w1 hTT, kY.out w1 hTT⟩))
    have gdr := Lib.hid (show Turns (ordR Bs bf) w0 wc.drew ∧ ScopeAt Bs bf r1.2 wc.drew ∧ Below wc.heap.size wc wc.drew from ⟨htc.drew, hsc.same rfl rfl, (Below.refl _ _).drew⟩)
    have gal := Lib.hid (show ∀ o, Turns (ordR Bs bf) w0 (wc.alloc o).drew ∧ ScopeAt Bs bf r1.2 (wc.alloc o).drew ∧ Below wc.heap.size wc (wc.alloc o).drew from fun o => ⟨(htc.alloc o).drew, hsc.same (Below.heap_alloc wc o Bs hsc.lt.1) (Below.heap_alloc wc o bf hsc.lt.2), ((Below.refl _ _).alloc (Nat.le_refl _) _).drew⟩)
    replace htc := Lib.hid htc
    replace hsc := Lib.hid hsc
    replace hx3 := Lib.hid hx3
    go_upto_region 7 with fail
    go_cut [7] from 27 to 36 (fun s7 W => Slot3 (w.heap.size + 3) r2.1 s7 W ∧ Slot3 (w.heap.size + 3) r1.1 u6 W ∧ ScopeAt Bs bf r2.2 W ∧ Turns (ordR Bs bf) w0 W)
    case first =>
      go_region_held3 (fun W' => (W'.cell? ⟨w.heap.size, 0, none⟩ = some (.pointer (some ⟨Bs, 0, none⟩)) ∧ W'.cell? ⟨w.heap.size, 1, none⟩ = some (.map (some bb))) ∧ (W'.cell? ⟨w.heap.size + 1, 1, none⟩ = some (.int .i64 d.n) ∧ W'.cell? ⟨w.heap.size + 1, 2, none⟩ = some (.slice (some ⟨b, off, none⟩) d.l d.c)) ∧
          (W'.cell? ⟨b, off + 3, none⟩ = some (.int .i64 y.op) ∧ W'.cell? ⟨b, off + 3 + 1, none⟩ = some (.int .i64 y.n) ∧ W'.cell? ⟨b, off + 3 + 2, none⟩ = some (.slice y.a y.l y.c)))
        (first | go_keep | (refine ⟨⟨?_, ?_⟩, ⟨?_, ?_⟩, ?_, ?_, ?_⟩ <;> (rw [set3_cell _ _ _ (by first | exact q0 | exact q1 | exact q2 | exact q3 | exact q4 | exact q5)]; assumption)))
        ((first
          | (go_at_call 78; refine (hIc.out _ (by first | with_reducible exact gdr.out | with_reducible exact gal.out _)).mono ?_; rintro e w1 ⟨bb', rfl, hI1, hZ1, ⟨t0, t1⟩, ⟨t2, t3⟩, ⟨t4, t5, t6⟩⟩
             obtain ⟨gd1, gd2, q3, q4, q5, q6⟩ := inner_good hI1.out hwz.out (by omega : b < w.heap.size)
             (first | (have zz1 := Lib.hid (hZ1.out wc.heap.size (new_drew wc zer3))) | skip))
          | (go_at_call 51; refine (hYc.out _ _ (by first | with_reducible exact gd1.out | with_reducible exact gd2.out _)).mono ?_; rintro e w2 ⟨a2, l2, k2, rfl, hF, hZ2, ⟨y0, y1⟩, ⟨y2, y3⟩, ⟨y4, y5, y6⟩⟩
             (first | (have zz := hZ2.out wc.heap.size hwz'.out zz1.out; obtain ⟨⟨z0, z1, z2⟩, z3, z4, z5⟩ := c3_cells zz; replace zz := Lib.hid zz) | (have zz := hZ2.out w1.heap.size q6.out (heap_new'' w1 zer3); obtain ⟨⟨z0, z1, z2⟩, z3, z4, z5⟩ := c3_cells zz; replace zz := Lib.hid zz) | skip))))
      all_goals
        clear t0 t1 t2 t3 t4 t5 t6 y0 y1 y2 y3 y4 y5 y6
        obtain ⟨hF1, hJ1, hT1, hT2, hT3⟩ := hF.out
        have hz12 := hI1.out.2.2.2.2.size
        have hfin : Hid (∀ W7 B7, (∀ k, k ≠ B7 → k < w2.heap.size → W7.heap[k]? = w2.heap[k]?) → wc.heap.size ≤ B7 → Below w0.heap.size w2 W7 → Slot3 (w.heap.size + 3) r1.1 u6 W7 ∧ ScopeAt Bs bf r2.2 W7 ∧ Turns (ordR Bs bf) w0 W7) := by
          intro W7 B7 h1 h2 h3
          have h4 := hT1.size
          have h5 := hwz.out
          have h6 : wc.heap.size ≤ w2.heap.size := by have := gd1.out.2.2.2.2.size; (try simp only [World.size_alloc] at h4); omega
          refine ⟨hx3.out.stays (fun k hk1 hk2 => (h1 k (by omega) (by omega)).trans (hT3 k (by omega) hk2)) (by have := h3.size; omega), hJ1.same (h1 _ (by omega) hJ1.lt.1) (h1 _ (by omega) hJ1.lt.2), hT2.then h3⟩
        have hzw : Hid (wc.heap.size ≤ w2.heap.size) := by have h4 := hT1.size; (try simp only [World.size_alloc] at h4); exact (by omega : wc.heap.size ≤ w2.heap.size)
        have hzv : Hid (w0.heap.size ≤ w2.heap.size) := hT2.size
      · have hs3 := Lib.hid (Slot3.behind (lo := w.heap.size + 3) rfl (by have := hwz.out; omega) hT1.size hF1)
        clear hF1 hT1 hT2 hT3 hJ1
        go_wp2_with fail
        go_meet
        case rel => exact ⟨hs3.out, hfin.out _ w2.heap.size (fun k _ hk => Below.heap_alloc _ _ k hk) hzw.out ((Below.refl _ _).alloc hzv.out _)⟩
      · have hs3 := Lib.hid (Slot3.before (lo := w.heap.size + 3) zz.out (by have := hwz.out; omega) (by simp) hF1)
        have hsO := Lib.hid (fun k (h : k ≠ w1.heap.size) => set3_other (w := w2) (.int .i64 r2.1.op) (.int .i64 r2.1.n) (.slice a2 l2 k2) h)
        have hsB := Lib.hid (set3_below (w := w2) (B := w1.heap.size) (n := w0.heap.size) (.int .i64 r2.1.op) (.int .i64 r2.1.n) (.slice a2 l2 k2) (by have := hwz.out; omega))
        have hwB : Hid (wc.heap.size ≤ w1.heap.size) := (by omega : wc.heap.size ≤ w1.heap.size)
        clear hF1 hT1 hT2 hT3 hJ1 z0 z1 z2 z3 z4 z5
        go_wp2_with fail
        go_meet
        case rel => exact ⟨hs3.out, hfin.out _ w1.heap.size (fun k hk _ => hsO.out k hk) hwB.out hsB.out⟩
      · have hs3 := Lib.hid (Slot3.before (lo := w.heap.size + 3) zz.out hwz.out (by have := gd1.out.2.2.1.size; have := hI1.out.2.2.2.2; have hq := (Array.getElem?_eq_some_iff.1 zz1.out).1; omega) hF1)
        have hsO := Lib.hid (fun k (h : k ≠ wc.heap.size) => set3_other (w := w2) (.int .i64 r2.1.op) (.int .i64 r2.1.n) (.slice a2 l2 k2) h)
        have hsB := Lib.hid (set3_below (w := w2) (B := wc.heap.size) (n := w0.heap.size) (.int .i64 r2.1.op) (.int .i64 r2.1.n) (.slice a2 l2 k2) (by have := hwz.out; omega))
        have hwB : Hid (wc.heap.size ≤ wc.heap.size) := (by omega : wc.heap.size ≤ wc.heap.size)
        clear hF1 hT1 hT2 hT3 hJ1 z0 z1 z2 z3 z4 z5
        go_wp2_with fail
        go_meet
        case rel => exact ⟨hs3.out, hfin.out _ wc.heap.size (fun k hk _ => hsO.out k hk) hwB.out hsB.out⟩
    case rest =>
      obtain ⟨hv3, hu3, hJ, hT⟩ := hcut
      obtain ⟨B6, a6, l6, k6, rfl, hc6, hb6, ht6⟩ := hu3
      obtain ⟨B7, a7, l7, k7, rfl, hc7, hb7, ht7⟩ := hv3
      obtain ⟨⟨u0, u1, u2⟩, -⟩ := c3_cells hc6
      obtain ⟨⟨v0, v1, v2⟩, -⟩ := c3_cells hc7
      have hq := (hT.block (w.heap.size + 1 + 1) (by omega) (hwR _ (by omega))).trans f3.out
      obtain ⟨wd, hwd⟩ : ∃ wd, wd = wc.alloc (.cells #[.int .i64 r1.1.op, .int .i64 r1.1.n, .slice a6 l6 k6, .int .i64 r2.1.op, .int .i64 r2.1.n, .slice a7 l7 k7] 32) := ⟨_, rfl⟩
      have hqd : wd.heap[w.heap.size + 1 + 1]? = some zer3 := by rw [hwd]; exact heap_old hq
      have hnd := heap_new'' wc (.cells #[.int .i64 r1.1.op, .int .i64 r1.1.n, .slice a6 l6 k6, .int .i64 r2.1.op, .int .i64 r2.1.n, .slice a7 l7 k7] 32)
      rw [← hwd] at hnd
      have hod : ∀ j, j < wc.heap.size → wd.heap[j]? = wc.heap[j]? := fun j hj => by rw [hwd]; exact Below.heap_alloc _ _ j hj
      have hzd : wd.heap.size = wc.heap.size + 1 := by rw [hwd]; simp
      have hTd : Turns (ordR Bs bf) w0 wd := by rw [hwd]; exact hT.alloc _
      obtain ⟨⟨q10, q11, q12⟩, q13, q14, q15⟩ := c3_cells hqd
      obtain ⟨W3, e3, -, ⟨g0, g1, g2⟩, s2, s3⟩ := stored3 (.int .i64 8) (.int .i64 (s.count : Nat)) (.slice (some ⟨wc.heap.size, 0, none⟩) 2 2) hqd
      rw [hwd] at q10 q11 q12 q13 q14 q15 e3
      have hzc := hT.size
      have hFr : Hid (Fresh w0 wd (.mk 8 s.count [r1.1, r2.1]) (some ⟨wc.heap.size, 0, none⟩) 2 2) := by
        simp only [Hid, Fresh, TmP, KidsP]
        refine ⟨rfl, by omega, by omega, .inr ⟨wc.heap.size, 0, rfl, ⟨by omega, by omega⟩, ⟨a6, l6, k6, ?_, ?_⟩, ⟨a7, l7, k7, ?_, ?_⟩, trivial⟩⟩
        · exact ⟨by rw [cell_of_row wd _ 0 _ 32 (0, 0) hnd]; rfl, by rw [cell_of_row wd _ 1 _ 32 (0, 0) hnd]; rfl, by rw [cell_of_row wd _ 2 _ 32 (0, 0) hnd]; rfl⟩
        · exact TmP.move (fun j hj hlt => ⟨⟨by omega, by omega⟩, hod j hlt⟩) _ ht6
        · exact ⟨by rw [cell_of_row wd _ 3 _ 32 (0, 0) hnd]; rfl, by rw [cell_of_row wd _ 4 _ 32 (0, 0) hnd]; rfl, by rw [cell_of_row wd _ 5 _ 32 (0, 0) hnd]; rfl⟩
        · exact TmP.move (fun j hj hlt => ⟨⟨by omega, by omega⟩, hod j hlt⟩) _ ht7
      have hlJ := hJ.lt
      have hJd : Hid (ScopeAt Bs bf r2.2 W3) := hJ.same ((s2 _ (by omega)).trans (hod _ hlJ.1)) ((s2 _ (by omega)).trans (hod _ hlJ.2))
      replace hJ := Lib.hid hJ
      replace hT := Lib.hid hT
      replace hTd := Lib.hid hTd
      replace e3 := Lib.hid e3
      replace g0 := Lib.hid g0
      replace g1 := Lib.hid g1
      replace g2 := Lib.hid g2
      replace hzd := Lib.hid hzd
      clear hqd hnd hod ht6 ht7 hc6 hc7 hq hwd p0 p1 p2 p3 p4 p5 p6
      go_wp2_with fail
      rw [← e3.out]
      have h0 := g0.out
      have h1 := g1.out
      have h2 := g2.out
      refine bodyPost_ret (v := .agg #[.int .i64 8, .int .i64 (s.count : Nat), .slice (some ⟨wc.heap.size, 0, none⟩) 2 2]) (by simp [results, Try.f51, go_sem, h0, h1, h2]) rfl ?_
      exact makes_end (t := .mk 8 s.count [r1.1, r2.1]) f5.out hTd.out hFr.out hJd.out (B := w.heap.size + 1 + 1) (by omega) s2 s3

theorem order_any (N : Nat) : OrdSpec N := by
  induction N with
  | zero => intro d _ _ _ _ _ _ _ _ h; have := dsize_pos d; omega
  | succ N ih =>
    intro d n₀ w Bs bf bb nb fb s hs hL hB1 hB2 hn hS hb n1 n2 c1 c2 hO
    by_cases h1 : d.op = 1
    · obtain ⟨o1, -⟩ := hO.open
      rw [DT.tm_op, DT.tm_n] at o1
      exact order_var d w Bs bf bb nb fb s hS hb (by omega) h1 (o1 (.inl h1))
    · by_cases h8 : d.op = 8
      · exact order_let N ih d n₀ w Bs bf bb nb fb s hs hL hB1 hB2 hn hS hb n1 n2 c1 c2 hO h8
      · exact order_node N ih d n₀ w Bs bf bb nb fb s hs hL hB1 hB2 hn hS hb n1 n2 c1 c2 hO h1 h8

end Go.Proofs.Ythlegfegkopdkaa

namespace Go.Proofs.Ythlegfegkopdkaa
open Go.RowKit Go.Shelf

mutual
def renT (u v : Int) : Tm → Tm
  | .mk op n ks => if op = 1 ∧ n = u then .mk 1 v [] else if op = 8 ∧ n = u then .mk op n (renH u v ks) else .mk op n (renTs u v ks)
def renTs (u v : Int) : List Tm → List Tm
  | [] => []
  | t :: ts => renT u v t :: renTs u v ts
def renH (u v : Int) : List Tm → List Tm
  | [] => []
  | t :: ts => renT u v t :: ts
end
theorem renT_eq (u v : Int) (t : Tm) : renT u v t = if t.op = 1 ∧ t.n = u then .mk 1 v [] else if t.op = 8 ∧ t.n = u then .mk t.op t.n (renH u v t.kids) else .mk t.op t.n (renTs u v t.kids) := by cases t; rw [renT]; rfl
theorem renTs_map (u v : Int) (ks : List Tm) : renTs u v ks = ks.map (renT u v) := by
  induction ks with
  | nil => rfl
  | cons t ts ih => simp [renTs, ih]

def RenSpec (N : Nat) : Prop := ∀ (d : DT) (n₀ : Nat) (w : World) (u v : Int), d.size ≤ N → Lies n₀ w d → n₀ ≤ w.heap.size → OkV d.tm → Calls Try.prog 92 #[dv d, .int .i64 u, .int .i64 v] w (Makes noR w (renT u v d.tm) (fun _ => True))

theorem c1_cell {w : World} {B ty : Nat} {x : Value} (h : w.heap[B]? = some (.cells #[x] ty (0, 0))) : w.cell? ⟨B, 0, none⟩ = some x := by rw [cell_of_row w B 0 _ ty (0, 0) h]; rfl

set_option maxRecDepth 100000 in
set_option maxHeartbeats 1000000 in
theorem ren1_any (N : Nat) (ih : RenSpec N) (_hN : N ≤ 1000000) (d : DT) (n₀ : Nat) (w : World) (u v : Int) (B1 B2 : Nat) (hs : d.size ≤ N) (hL : Lies n₀ w d) (hn : n₀ ≤ w.heap.size) (hO : OkV d.tm) (h1 : w.heap[B1]? = some (.cells #[.int .i64 u] 3 (0, 0))) (h2 : w.heap[B2]? = some (.cells #[.int .i64 v] 3 (0, 0))) :
    Calls Try.prog 99 #[dv d, .pointer (some ⟨B1, 0, none⟩), .pointer (some ⟨B2, 0, none⟩)] w (Makes noR w (renT u v d.tm) (fun _ => True)) := by
  obtain ⟨w0, hw0⟩ : ∃ w0, w0 = (w.alloc (bx d)).alloc zer3 := ⟨_, rfl⟩
  have hB0 : Below w.heap.size w w0 := by rw [hw0]; go_grown
  have hz0 : w0.heap.size = w.heap.size + 1 + 1 := by rw [hw0]; simp
  have hr0 : w0.heap[w.heap.size + 1]? = some zer3 := by rw [hw0]; exact heap_new' _ (by simp)
  have hC := ih d n₀ w0 u v hs (hL.below (hB0.mono hn)) (by omega) hO
  have k1 : ((w.alloc (bx d)).alloc zer3).cell? ⟨B1, 0, none⟩ = some (.int .i64 u) := c1_cell (heap_old (heap_old h1))
  have k2 : ((w.alloc (bx d)).alloc zer3).cell? ⟨B2, 0, none⟩ = some (.int .i64 v) := c1_cell (heap_old (heap_old h2))
  rw [hw0] at hC
  replace hC := Lib.hid hC
  replace h1 := Lib.hid h1
  replace h2 := Lib.hid h2
  clear ih hL
  go_enter Try.func99, Try.ntmps99
  go_wp2_with fail
  refine (hC.out).mono ?_
  rintro e w1 ⟨a, l, c, rfl, hF, -, hT⟩
  rw [← hw0] at hF hT
  have hr1 := (hT.block _ (by omega) id).trans hr0
  obtain ⟨⟨q0, q1, q2⟩, q3, q4, q5⟩ := c3_cells hr1
  obtain ⟨W3, e3, -, ⟨g0, g1, g2⟩, s2, s3⟩ := stored3 (.int .i64 (renT u v d.tm).op) (.int .i64 (renT u v d.tm).n) (.slice a l c) hr1
  replace hF := Lib.hid hF
  replace hT := Lib.hid hT
  clear hr1 hr0
  replace e3 := Lib.hid e3
  replace g0 := Lib.hid g0
  replace g1 := Lib.hid g1
  replace g2 := Lib.hid g2
  go_wp2_with fail
  rw [← e3.out]
  have h0 := g0.out
  have h1 := g1.out
  have h2 := g2.out
  refine bodyPost_ret (v := .agg #[.int .i64 (renT u v d.tm).op, .int .i64 (renT u v d.tm).n, .slice a l c]) (by simp [results, Try.f99, go_sem, h0, h1, h2]) rfl ?_
  exact makes_end hB0 hT.out hF.out trivial (B := w.heap.size + 1) (by omega) s2 s3

abbrev ren0 (w : World) (d : DT) (u v : Int) : World := (((w.alloc (bx d)).alloc (.cells #[.int .i64 u] 3)).alloc (.cells #[.int .i64 v] 3)).alloc zer3
theorem ren0_facts (w : World) (d : DT) (u v : Int) : (ren0 w d u v).heap[w.heap.size]? = some (bx d) ∧ (ren0 w d u v).heap[w.heap.size + 1]? = some (.cells #[.int .i64 u] 3 (0, 0)) ∧ (ren0 w d u v).heap[w.heap.size + 1 + 1]? = some (.cells #[.int .i64 v] 3 (0, 0)) ∧
    (ren0 w d u v).heap[w.heap.size + 1 + 1 + 1]? = some zer3 ∧ (ren0 w d u v).heap.size = w.heap.size + 4 ∧ Below w.heap.size w (ren0 w d u v) :=
  ⟨heap_old (heap_old (heap_old (heap_new' _ rfl))), heap_old (heap_old (heap_new' _ (by simp))), heap_old (heap_new' _ (by simp)), heap_new' _ (by simp), by simp, by go_grown⟩

set_option maxRecDepth 100000 in
set_option maxHeartbeats 1000000 in
/-- The plain node, and the node that is the variable. -/
theorem rename_node (N : Nat) (ih : RenSpec N) (hN : N ≤ 1000000) (d : DT) (n₀ : Nat) (w : World) (u v : Int) (hs : d.size ≤ N + 1) (hL : Lies n₀ w d) (hn : n₀ ≤ w.heap.size) (hO : OkV d.tm) (h8 : ¬ (d.op = 8 ∧ d.n = u)) :
    Calls Try.prog 92 #[dv d, .int .i64 u, .int .i64 v] w (Makes noR w (renT u v d.tm) (fun _ => True)) := by
  obtain ⟨f1, f2, f3, f4, f5, f6⟩ := ren0_facts w d u v
  have hsz := dsize_eq d
  have hL0 := hL.below (f6.mono hn)
  have hlen : d.kids.length ≤ dsizes d.kids := by
    have h1 := length_le_sizes (tms d.kids); rw [sizes_tms, tms_map, List.length_map] at h1; exact h1
  have hOk : OkVs d.tm.kids := hO.open.2.2.2
  by_cases h1 : d.op = 1 ∧ d.n = u
  · have hV := varTerm_any v (ren0 w d u v)
    rw [renT_eq, DT.tm_op, DT.tm_n, if_pos h1]
    have e1 : (d.op == 1) = true := by simpa using h1.1
    have e2 : (d.n == u) = true := by simpa using h1.2
    replace hV := Lib.hid hV
    replace f4 := Lib.hid f4
    replace f6 := Lib.hid f6
    replace h1 := Lib.hid h1
    clear f1 f2 f3 ih hL hL0 hO hOk h8
    go_enter Try.func92, Try.ntmps92
    go_wp2_with fail
    refine (hV.out).mono ?_
    rintro e w1 ⟨a, l, c, rfl, hF, -, hT⟩
    have hr1 := (hT.block (w.heap.size + 1 + 1 + 1) (by omega) id).trans f4.out
    obtain ⟨⟨q0, q1, q2⟩, q3, q4, q5⟩ := c3_cells hr1
    obtain ⟨W3, e3, -, ⟨g0, g1, g2⟩, s2, s3⟩ := stored3 (.int .i64 (Tm.mk 1 v []).op) (.int .i64 (Tm.mk 1 v []).n) (.slice a l c) hr1
    replace hF := Lib.hid hF
    replace hT := Lib.hid hT
    clear hr1
    replace e3 := Lib.hid e3
    replace g0 := Lib.hid g0
    replace g1 := Lib.hid g1
    replace g2 := Lib.hid g2
    go_wp2_with fail
    rw [← e3.out]
    have h0 := g0.out
    have h1 := g1.out
    have h2 := g2.out
    refine bodyPost_ret (v := .agg #[.int .i64 (Tm.mk 1 v []).op, .int .i64 (Tm.mk 1 v []).n, .slice a l c]) (by simp [results, Try.f92, go_sem, h0, h1, h2]) rfl ?_
    exact makes_end (t := Tm.mk 1 v []) f6.out hT.out hF.out trivial (B := w.heap.size + 1 + 1 + 1) (by omega) s2 s3
  · have hC := rebuild_any d 99 #[] #[.pointer (some ⟨w.heap.size + 1, 0, none⟩), .pointer (some ⟨w.heap.size + 1 + 1, 0, none⟩)] (enters_of Try.func99 (by kernel_rfl) rfl) noR (onKids d.kids (fun x => renT u v x.tm)) (fun _ W => Below (ren0 w d u v).heap.size (ren0 w d u v) W) n₀ (ren0 w d u v) (by omega) (by omega) hL0 (fun _ h => h.elim)
      (fun k W W' hI hBl => hI.trans hBl)
      (fun k hk W hI hT => by
        rcases (hL0.open).2.2.2 with h | ⟨b, off, ha, hb, hks⟩
        · rw [h] at hk; simp at hk
        · rw [onKids_at _ hk]
          have hsk := dsize_kid d.kids k hk
          have hOkk : OkV d.kids[k].tm := by
            have := OkVs_get _ k (by rw [DT.tm_kids, List.length_map]; exact hk) hOk
            simpa only [DT.tm_kids, List.getElem_map] using this
          refine (ren1_any N ih hN d.kids[k] n₀ W u v (w.heap.size + 1) (w.heap.size + 1 + 1) (by omega) (((LiesAll.get _ hks k hk).2).below (hI.mono (by omega))) (by have := hI.size; omega) hOkk ((hI.block _ (by omega)).trans f2) ((hI.block _ (by omega)).trans f3)).mono ?_
          rintro e W' ⟨a, l, c, rfl, hF, -, hT'⟩
          exact ⟨a, l, c, rfl, hF, hI.trans (hT'.b0.mono hI.size), hT'⟩)
      (Below.refl _ _)
    rw [onKids_map] at hC
    rw [renT_eq, DT.tm_op, DT.tm_n, if_neg h1, if_neg h8, renTs_map, DT.tm_kids, List.map_map]
    change Calls _ _ _ _ (Makes noR _ (Tm.mk d.op d.n (d.kids.map (fun x => renT u v x.tm))) _) 
    obtain ⟨T, hT0⟩ : ∃ T, T = Tm.mk d.op d.n (d.kids.map (fun x => renT u v x.tm)) := ⟨_, rfl⟩
    rw [← hT0] at hC ⊢
    replace hT0 := Lib.hid hT0
    replace hC := Lib.hid hC
    replace f4 := Lib.hid f4
    replace f6 := Lib.hid f6
    replace hsz := Lib.hid hsz
    clear f1 f2 f3 ih hL hL0 hO hOk hlen
    have e3 : ((d.op == 1) = true ∧ (d.n == u) = false) ∨ (d.op == 1) = false := by
      by_cases h : d.op = 1
      · exact .inl ⟨by simpa using h, by simp; exact fun h' => h1 ⟨h, h'⟩⟩
      · exact .inr (by simpa using h)
    have e4 : ((d.op == 8) = true ∧ (d.n == u) = false) ∨ (d.op == 8) = false := by
      by_cases h : d.op = 8
      · exact .inl ⟨by simpa using h, by simp; exact fun h' => h8 ⟨h, h'⟩⟩
      · exact .inr (by simpa using h)
    clear h1 h8
    rcases e3 with ⟨e3, e5⟩ | e3
    · have e6 : (d.op == 8) = false := by have : d.op = 1 := by simpa using e3
                                          simp [this]
      clear e4
      go_enter Try.func92, Try.ntmps92
      go_wp2_with fail
      refine (hC.out).mono ?_
      rintro e w1 ⟨a, l, c, rfl, hF, -, hT⟩
      have hr1 := (hT.block (w.heap.size + 1 + 1 + 1) (by omega) id).trans f4.out
      obtain ⟨⟨q0, q1, q2⟩, q3, q4, q5⟩ := c3_cells hr1
      obtain ⟨W3, e3, -, ⟨g0, g1, g2⟩, s2, s3⟩ := stored3 (.int .i64 (T).op) (.int .i64 (T).n) (.slice a l c) hr1
      replace hF := Lib.hid hF
      replace hT := Lib.hid hT
      clear hr1
      replace e3 := Lib.hid e3
      replace g0 := Lib.hid g0
      replace g1 := Lib.hid g1
      replace g2 := Lib.hid g2
      go_wp2_with fail
      rw [← e3.out]
      have h0 := g0.out
      have h1 := g1.out
      have h2 := g2.out
      refine bodyPost_ret (v := .agg #[.int .i64 (T).op, .int .i64 (T).n, .slice a l c]) (by simp [results, Try.f92, go_sem, h0, h1, h2]) rfl ?_
      exact makes_end (t := T) f6.out hT.out hF.out trivial (B := w.heap.size + 1 + 1 + 1) (by omega) s2 s3
    · rcases e4 with ⟨e4, e5⟩ | e4
      · go_enter Try.func92, Try.ntmps92
        go_wp2_with fail
        refine (hC.out).mono ?_
        rintro e w1 ⟨a, l, c, rfl, hF, -, hT⟩
        have hr1 := (hT.block (w.heap.size + 1 + 1 + 1) (by omega) id).trans f4.out
        obtain ⟨⟨q0, q1, q2⟩, q3, q4, q5⟩ := c3_cells hr1
        obtain ⟨W3, e3, -, ⟨g0, g1, g2⟩, s2, s3⟩ := stored3 (.int .i64 (T).op) (.int .i64 (T).n) (.slice a l c) hr1
        replace hF := Lib.hid hF
        replace hT := Lib.hid hT
        clear hr1
        replace e3 := Lib.hid e3
        replace g0 := Lib.hid g0
        replace g1 := Lib.hid g1
        replace g2 := Lib.hid g2
        go_wp2_with fail
        rw [← e3.out]
        have h0 := g0.out
        have h1 := g1.out
        have h2 := g2.out
        refine bodyPost_ret (v := .agg #[.int .i64 (T).op, .int .i64 (T).n, .slice a l c]) (by simp [results, Try.f92, go_sem, h0, h1, h2]) rfl ?_
        exact makes_end (t := T) f6.out hT.out hF.out trivial (B := w.heap.size + 1 + 1 + 1) (by omega) s2 s3
      · go_enter Try.func92, Try.ntmps92
        go_wp2_with fail
        refine (hC.out).mono ?_
        rintro e w1 ⟨a, l, c, rfl, hF, -, hT⟩
        have hr1 := (hT.block (w.heap.size + 1 + 1 + 1) (by omega) id).trans f4.out
        obtain ⟨⟨q0, q1, q2⟩, q3, q4, q5⟩ := c3_cells hr1
        obtain ⟨W3, e3, -, ⟨g0, g1, g2⟩, s2, s3⟩ := stored3 (.int .i64 (T).op) (.int .i64 (T).n) (.slice a l c) hr1
        replace hF := Lib.hid hF
        replace hT := Lib.hid hT
        clear hr1
        replace e3 := Lib.hid e3
        replace g0 := Lib.hid g0
        replace g1 := Lib.hid g1
        replace g2 := Lib.hid g2
        go_wp2_with fail
        rw [← e3.out]
        have h0 := g0.out
        have h1 := g1.out
        have h2 := g2.out
        refine bodyPost_ret (v := .agg #[.int .i64 (T).op, .int .i64 (T).n, .slice a l c]) (by simp [results, Try.f92, go_sem, h0, h1, h2]) rfl ?_
        exact makes_end (t := T) f6.out hT.out hF.out trivial (B := w.heap.size + 1 + 1 + 1) (by omega) s2 s3

end Go.Proofs.Ythlegfegkopdkaa

namespace Go.Proofs.Ythlegfegkopdkaa
open Go.RowKit Go.Shelf

/-- A node of two kids that are laid into one new block. -/
theorem fresh_two {w w2 : World} {op n : Int} {t u : Tm} {a a' : Option Addr} {l c l' c' : Nat} {wd : World} (hwd : wd = w2.alloc (.cells #[.int .i64 t.op, .int .i64 t.n, .slice a l c, .int .i64 u.op, .int .i64 u.n, .slice a' l' c'] 32)) (hz : w.heap.size ≤ w2.heap.size)
    (h1 : TmP (fun b => w.heap.size ≤ b ∧ b < w2.heap.size) w2 t a l c) (h2 : TmP (fun b => w.heap.size ≤ b ∧ b < w2.heap.size) w2 u a' l' c') : Fresh w wd (.mk op n [t, u]) (some ⟨w2.heap.size, 0, none⟩) 2 2 := by
  have hnd := heap_new'' w2 (.cells #[.int .i64 t.op, .int .i64 t.n, .slice a l c, .int .i64 u.op, .int .i64 u.n, .slice a' l' c'] 32)
  rw [← hwd] at hnd
  have hod : ∀ j, j < w2.heap.size → wd.heap[j]? = w2.heap[j]? := fun j hj => by rw [hwd]; exact Below.heap_alloc _ _ j hj
  have hzd : wd.heap.size = w2.heap.size + 1 := by rw [hwd]; simp
  simp only [Fresh, TmP, KidsP]
  refine ⟨rfl, by omega, by omega, .inr ⟨w2.heap.size, 0, rfl, ⟨by omega, by omega⟩, ⟨a, l, c, ?_, ?_⟩, ⟨a', l', c', ?_, ?_⟩, trivial⟩⟩
  · exact ⟨by rw [cell_of_row wd _ 0 _ 32 (0, 0) hnd]; rfl, by rw [cell_of_row wd _ 1 _ 32 (0, 0) hnd]; rfl, by rw [cell_of_row wd _ 2 _ 32 (0, 0) hnd]; rfl⟩
  · exact TmP.move (fun j hj hlt => ⟨⟨by omega, by omega⟩, hod j hlt⟩) _ h1
  · exact ⟨by rw [cell_of_row wd _ 3 _ 32 (0, 0) hnd]; rfl, by rw [cell_of_row wd _ 4 _ 32 (0, 0) hnd]; rfl, by rw [cell_of_row wd _ 5 _ 32 (0, 0) hnd]; rfl⟩
  · exact TmP.move (fun j hj hlt => ⟨⟨by omega, by omega⟩, hod j hlt⟩) _ h2

theorem alloc_cell {w : World} {o : Obj} {k j : Nat} {v : Value} (h : w.cell? ⟨k, j, none⟩ = some v) : (w.alloc o).cell? ⟨k, j, none⟩ = some v := by
  rw [World.cell?_alloc_lt _ _ _ (World.block_lt_of_cell? w _ h)]; exact h
theorem zer_alloc {w1 : World} {B : Nat} (h : w1.heap[B]? = some zer3) : (∀ o, (w1.alloc o).cell? ⟨B, 0, none⟩ = some (.int .i64 0)) ∧ (∀ o, (w1.alloc o).cell? ⟨B, 1, none⟩ = some (.int .i64 0)) ∧ (∀ o, (w1.alloc o).cell? ⟨B, 2, none⟩ = some (.slice none 0 0)) ∧ (∀ o, (w1.alloc o).frozen? ⟨B, 0, none⟩ = false) ∧ (∀ o, (w1.alloc o).frozen? ⟨B, 1, none⟩ = false) ∧ (∀ o, (w1.alloc o).frozen? ⟨B, 2, none⟩ = false) :=
  ⟨fun o => (c3_cells (heap_old (o := o) h)).1.1, fun o => (c3_cells (heap_old (o := o) h)).1.2.1, fun o => (c3_cells (heap_old (o := o) h)).1.2.2, fun o => (c3_cells (heap_old (o := o) h)).2.1, fun o => (c3_cells (heap_old (o := o) h)).2.2.1, fun o => (c3_cells (heap_old (o := o) h)).2.2.2⟩

theorem two_kids {n₀ : Nat} {w : World} {d : DT} (hL : Lies n₀ w d) (h2 : d.kids.length = 2) : ∃ x y b off, d.kids = [x, y] ∧ d.size = x.size + y.size + 1 ∧ d.l = 2 ∧ d.a = some ⟨b, off, none⟩ ∧ b < n₀ ∧ (Cells3 w b off x.op x.n x.a x.l x.c ∧ Lies n₀ w x) ∧ (Cells3 w b (off + 3) y.op y.n y.a y.l y.c ∧ Lies n₀ w y) := by
  have hsz := dsize_eq d
  obtain ⟨hl, hlc, hc, hk⟩ := hL.open
  match hd : d.kids with
  | [x, y] =>
    rw [hd] at hk hl hsz
    rcases hk with hk | ⟨b, off, ha, hbn, hks⟩
    · cases hk
    · obtain ⟨g1, g2⟩ := LiesAll.get _ hks 0 (by simp)
      obtain ⟨g3, g4⟩ := LiesAll.get _ hks 1 (by simp)
      simp only [List.getElem_cons_zero, List.getElem_cons_succ, Nat.zero_mul, Nat.add_zero, Nat.one_mul] at g1 g2 g3 g4
      exact ⟨x, y, b, off, rfl, by simp only [dsizes] at hsz; omega, by rw [hl]; rfl, ha, hbn, ⟨g1, g2⟩, ⟨g3, g4⟩⟩
  | [] => rw [hd] at h2; simp at h2
  | [_] => rw [hd] at h2; simp at h2
  | _ :: _ :: _ :: _ => rw [hd] at h2; simp at h2

set_option maxRecDepth 100000 in
set_option maxHeartbeats 1000000 in
theorem rename_let (N : Nat) (ih : RenSpec N) (hN : N ≤ 1000000) (d : DT) (n₀ : Nat) (w : World) (u v : Int) (hs : d.size ≤ N + 1) (hL : Lies n₀ w d) (hn : n₀ ≤ w.heap.size) (hO : OkV d.tm) (h8 : d.op = 8) (hu : d.n = u) :
    Calls Try.prog 92 #[dv d, .int .i64 u, .int .i64 v] w (Makes noR w (renT u v d.tm) (fun _ => True)) := by
  subst hu
  obtain ⟨f1, f2, f3, f4, f5, f6⟩ := ren0_facts w d d.n v
  obtain ⟨o1, -, o3, o4⟩ := hO.open
  rw [DT.tm_op] at o3
  obtain ⟨x, y, b, off, hxy, hsx, hl, ha, hbn, ⟨g1, g2⟩, ⟨g3, g4⟩⟩ := two_kids (hL.below (f6.mono hn)) (by have := o3 h8; rwa [DT.tm_kids, List.length_map] at this)
  have hdt : d.tm.kids = [x.tm, y.tm] := by rw [DT.tm_kids, hxy]; rfl
  rw [hdt] at o4
  simp only [OkVs] at o4
  have e1 : (d.op == 1) = false := by simp; omega
  have e8 : (d.op == 8) = true := by simpa using h8
  have eu : (d.n == d.n) = true := by simp
  rw [renT_eq, DT.tm_op, DT.tm_n, if_neg (by omega), if_pos ⟨h8, rfl⟩, hdt]
  change Calls _ _ _ _ (Makes noR w (Tm.mk d.op d.n [renT d.n v x.tm, y.tm]) _)
  obtain ⟨w0, hw0⟩ : ∃ w0, w0 = ren0 w d d.n v := ⟨_, rfl⟩
  rw [← hw0] at f1 f2 f3 f4 f5 f6 g1 g2 g3 g4
  have hX := fun (W : World) (hb : Below w0.heap.size w0 W) => ren1_any N ih hN x n₀ W d.n v (w.heap.size + 1) (w.heap.size + 1 + 1) (by omega) (g2.below (hb.mono (by omega))) (by have := hb.size; omega) o4.1 ((hb.block _ (by omega)).trans f2) ((hb.block _ (by omega)).trans f3)
  have hY := fun (W : World) (hb : Below w0.heap.size w0 W) => clone_any N hN y n₀ W (by omega) (g4.below (hb.mono (by omega))) (by have := hb.size; omega)
  obtain ⟨T, hT0⟩ : ∃ T, T = renT d.n v x.tm := ⟨_, rfl⟩
  obtain ⟨U, hU0⟩ : ∃ U, U = y.tm := ⟨_, rfl⟩
  rw [← hT0] at hX ⊢
  rw [← hU0] at hY ⊢
  have kA := Lib.hid (show ∀ W, Below w0.heap.size w0 W → (W.cell? ⟨w.heap.size, 0, none⟩ = some (.int .i64 d.op) ∧ W.cell? ⟨w.heap.size, 1, none⟩ = some (.int .i64 d.n) ∧ W.cell? ⟨w.heap.size, 2, none⟩ = some (.slice (some ⟨b, off, none⟩) d.l d.c)) ∧
      (W.cell? ⟨b, off, none⟩ = some (.int .i64 x.op) ∧ W.cell? ⟨b, off + 1, none⟩ = some (.int .i64 x.n) ∧ W.cell? ⟨b, off + 2, none⟩ = some (.slice x.a x.l x.c)) ∧
      (W.cell? ⟨b, off + 3, none⟩ = some (.int .i64 y.op) ∧ W.cell? ⟨b, off + 3 + 1, none⟩ = some (.int .i64 y.n) ∧ W.cell? ⟨b, off + 3 + 2, none⟩ = some (.slice y.a y.l y.c)) from fun W hb => by
    obtain ⟨⟨c0, c1, c2⟩, -⟩ := c3_cells ((hb.block w.heap.size (by omega)).trans f1)
    obtain ⟨x0, x1, x2⟩ := g1.below hb (by omega)
    obtain ⟨y0, y1, y2⟩ := g3.below hb (by omega)
    rw [ha] at c2
    exact ⟨⟨c0, c1, c2⟩, ⟨x0, x1, x2⟩, ⟨y0, y1, y2⟩⟩)
  have kR := Lib.hid (show ∀ W, Below w0.heap.size w0 W → W.heap[w.heap.size + 1 + 1 + 1]? = some zer3 from fun W hb => (hb.block _ (by omega)).trans f4)
  have hXc := Lib.hid (show ∀ W, Below w0.heap.size w0 W → Calls Try.prog 99 #[dv x, .pointer (some ⟨w.heap.size + 1, 0, none⟩), .pointer (some ⟨w.heap.size + 1 + 1, 0, none⟩)] W fun e w1 => ∃ a l c, e = .returned (.agg #[.int .i64 T.op, .int .i64 T.n, .slice a l c]) ∧ Hid (Fresh W w1 T a l c ∧ Below w0.heap.size w0 w1 ∧ Below w0.heap.size w0 W) ∧ Hid (Below w0.heap.size w0 w1) ∧
      (w1.cell? ⟨w.heap.size, 0, none⟩ = some (.int .i64 d.op) ∧ w1.cell? ⟨w.heap.size, 1, none⟩ = some (.int .i64 d.n) ∧ w1.cell? ⟨w.heap.size, 2, none⟩ = some (.slice (some ⟨b, off, none⟩) d.l d.c)) ∧
      (w1.cell? ⟨b, off, none⟩ = some (.int .i64 x.op) ∧ w1.cell? ⟨b, off + 1, none⟩ = some (.int .i64 x.n) ∧ w1.cell? ⟨b, off + 2, none⟩ = some (.slice x.a x.l x.c)) ∧
      (w1.cell? ⟨b, off + 3, none⟩ = some (.int .i64 y.op) ∧ w1.cell? ⟨b, off + 3 + 1, none⟩ = some (.int .i64 y.n) ∧ w1.cell? ⟨b, off + 3 + 2, none⟩ = some (.slice y.a y.l y.c)) from fun W hb => (hX W hb).mono (by
        rintro e w1 ⟨a, l, c, rfl, hF, -, hT⟩
        have hbb := hb.trans (hT.b0.mono hb.size)
        exact ⟨a, l, c, rfl, ⟨hF, hbb, hb⟩, hbb, kA.out w1 hbb⟩))
  have hYc := Lib.hid (show ∀ W, Below w0.heap.size w0 W → Calls Try.prog 53 #[dv y] W fun e w1 => ∃ a l c, e = .returned (.agg #[.int .i64 U.op, .int .i64 U.n, .slice a l c]) ∧ Hid (Fresh W w1 U a l c ∧ Below W.heap.size W w1 ∧ Below w0.heap.size w0 w1) ∧
      ((∀ o, (w1.alloc o).cell? ⟨w.heap.size + 1 + 1 + 1, 0, none⟩ = some (.int .i64 0)) ∧ (∀ o, (w1.alloc o).cell? ⟨w.heap.size + 1 + 1 + 1, 1, none⟩ = some (.int .i64 0)) ∧ (∀ o, (w1.alloc o).cell? ⟨w.heap.size + 1 + 1 + 1, 2, none⟩ = some (.slice none 0 0)) ∧ (∀ o, (w1.alloc o).frozen? ⟨w.heap.size + 1 + 1 + 1, 0, none⟩ = false) ∧ (∀ o, (w1.alloc o).frozen? ⟨w.heap.size + 1 + 1 + 1, 1, none⟩ = false) ∧ (∀ o, (w1.alloc o).frozen? ⟨w.heap.size + 1 + 1 + 1, 2, none⟩ = false)) ∧
      (w1.cell? ⟨w.heap.size, 0, none⟩ = some (.int .i64 d.op) ∧ w1.cell? ⟨w.heap.size, 1, none⟩ = some (.int .i64 d.n) ∧ w1.cell? ⟨w.heap.size, 2, none⟩ = some (.slice (some ⟨b, off, none⟩) d.l d.c)) ∧
      (w1.cell? ⟨b, off, none⟩ = some (.int .i64 x.op) ∧ w1.cell? ⟨b, off + 1, none⟩ = some (.int .i64 x.n) ∧ w1.cell? ⟨b, off + 2, none⟩ = some (.slice x.a x.l x.c)) ∧
      (w1.cell? ⟨b, off + 3, none⟩ = some (.int .i64 y.op) ∧ w1.cell? ⟨b, off + 3 + 1, none⟩ = some (.int .i64 y.n) ∧ w1.cell? ⟨b, off + 3 + 2, none⟩ = some (.slice y.a y.l y.c)) ∧ w.heap.size + 4 ≤ w1.heap.size from fun W hb => (hY W hb).mono (by
        rintro e w1 ⟨a, l, c, rfl, hF, -, hT⟩
        have hbb := hb.trans (hT.b0.mono hb.size)
        obtain ⟨k1, k2, k3⟩ := kA.out w1 hbb
        exact ⟨a, l, c, rfl, ⟨hF, hT.b0, hbb⟩, zer_alloc (kR.out w1 hbb), k1, k2, k3, by have := hbb.size; omega⟩))
  have hl0 : 0 < d.l := by omega
  have hl1 : 1 < d.l := by omega
  have hl2 : (1 : Int) < (d.l : Int) := by omega
  have gdr := Lib.hid (show Below w0.heap.size w0 (ren0 w d d.n v).drew from by rw [hw0]; exact (Below.refl _ _).drew)
  obtain ⟨⟨p0, p1, p2⟩, ⟨p3, p4, p5⟩, ⟨p6, p7, p8⟩⟩ := kA.out w0 (Below.refl _ _)
  have hbz : b < w.heap.size := by omega
  have q0 : ¬ w.heap.size = w.heap.size + 1 + 1 + 1 := by omega
  have q1 : ¬ b = w.heap.size + 1 + 1 + 1 := by omega
  rw [hw0] at p0 p1 p2 p3 p4 p5 p6 p7 p8
  replace f6 := Lib.hid f6
  replace hw0 := Lib.hid hw0
  replace ha := Lib.hid ha
  replace hl := Lib.hid hl
  replace h8 := Lib.hid h8
  clear ih hL hX hY f1 f2 f3 f4 g1 g2 g3 g4 hO o1 o3 o4 hxy hdt hT0 hU0
  go_enter Try.func92, Try.ntmps92
  go_wp2_with fail
  go_region_held3 (fun W' => (W'.cell? ⟨w.heap.size, 0, none⟩ = some (.int .i64 d.op) ∧ W'.cell? ⟨w.heap.size, 1, none⟩ = some (.int .i64 d.n) ∧ W'.cell? ⟨w.heap.size, 2, none⟩ = some (.slice (some ⟨b, off, none⟩) d.l d.c)) ∧
      (W'.cell? ⟨b, off, none⟩ = some (.int .i64 x.op) ∧ W'.cell? ⟨b, off + 1, none⟩ = some (.int .i64 x.n) ∧ W'.cell? ⟨b, off + 2, none⟩ = some (.slice x.a x.l x.c)) ∧
      (W'.cell? ⟨b, off + 3, none⟩ = some (.int .i64 y.op) ∧ W'.cell? ⟨b, off + 3 + 1, none⟩ = some (.int .i64 y.n) ∧ W'.cell? ⟨b, off + 3 + 2, none⟩ = some (.slice y.a y.l y.c)))
    (first | (refine ⟨⟨?_, ?_, ?_⟩, ⟨?_, ?_, ?_⟩, ?_, ?_, ?_⟩ <;> (rw [set3_cell _ _ _ (by first | exact q0 | exact q1)]; first | assumption | (refine alloc_cell ?_; assumption))) | go_keep)
    ((first
      | (go_at_call 99; refine (hXc.out _ gdr.out).mono ?_; rintro e w1 ⟨a1, l1, k1, rfl, hF1, hb1, ⟨s0, s1, s2⟩, ⟨s3, s4, s5⟩, ⟨s6, s7, s8⟩⟩)
      | (go_at_call 53; refine (hYc.out _ hb1.out).mono ?_; rintro e w2 ⟨a2, l2, k2, rfl, hF2, ⟨z0, z1, z2, z3, z4, z5⟩, ⟨t0, t1, t2⟩, ⟨t3, t4, t5⟩, ⟨t6, t7, t8⟩, hz2⟩)))
  clear s0 s1 s2 s3 s4 s5 s6 s7 s8 z0 z1 z2 z3 z4 z5 t0 t1 t2 t3 t4 t5 t6 t7 t8
  obtain ⟨hFx, hb1', hbW⟩ := hF1.out
  obtain ⟨hFy, hb12, hb2⟩ := hF2.out
  obtain ⟨wd, hwd⟩ : ∃ wd, wd = w2.alloc (.cells #[.int .i64 T.op, .int .i64 T.n, .slice a1 l1 k1, .int .i64 U.op, .int .i64 U.n, .slice a2 l2 k2] 32) := ⟨_, rfl⟩
  have hqd : wd.heap[w.heap.size + 1 + 1 + 1]? = some zer3 := by rw [hwd]; exact heap_old (kR.out w2 hb2)
  have hz1 := hb1'.size
  have hz12 := hb12.size
  have hdz : (ren0 w d d.n v).drew.heap.size = w0.heap.size := by rw [hw0.out]; rfl
  have hFr := Lib.hid (fresh_two (w := w0) (op := d.op) (n := d.n) hwd hb2.size (TmP.move (fun j hj hlt => ⟨⟨by have := hj.1; rw [hdz] at this; omega, by have := hj.2; omega⟩, hb12.block j (by have := hj.2; omega)⟩) _ hFx) (TmP.move (fun j hj _ => ⟨⟨by have := hj.1; omega, hj.2⟩, rfl⟩) _ hFy))
  have hBd : Hid (Below w0.heap.size w0 wd) := by rw [hwd]; exact hb2.alloc hb2.size _
  obtain ⟨W3, e3, -, ⟨g0, g1, g2⟩, s2, s3⟩ := stored3 (.int .i64 d.op) (.int .i64 d.n) (.slice (some ⟨w2.heap.size, 0, none⟩) 2 2) hqd
  rw [hwd] at e3
  replace e3 := Lib.hid e3
  replace g0 := Lib.hid g0
  replace g1 := Lib.hid g1
  replace g2 := Lib.hid g2
  replace hwd := Lib.hid hwd
  clear hqd hFx hFy hb1' hbW hb12 hb2
  go_wp2_with fail
  rw [← e3.out]
  have h0 := g0.out
  have h1 := g1.out
  have h2 := g2.out
  refine bodyPost_ret (v := .agg #[.int .i64 d.op, .int .i64 d.n, .slice (some ⟨w2.heap.size, 0, none⟩) 2 2]) (by simp [results, Try.f92, go_sem, h0, h1, h2]) rfl ?_
  exact makes_end (t := .mk d.op d.n [T, U]) f6.out (Turns.of0 hBd.out) hFr.out trivial (B := w.heap.size + 1 + 1 + 1) (by omega) s2 s3

theorem rename_any (N : Nat) (hN : N ≤ 1000000) : RenSpec N := by
  induction N with
  | zero => intro d _ _ _ _ h; have := dsize_pos d; omega
  | succ N ih =>
    intro d n₀ w u v hs hL hn hO
    by_cases h8 : d.op = 8 ∧ d.n = u
    · exact rename_let N (ih (by omega)) (by omega) d n₀ w u v hs hL hn hO h8.1 h8.2
    · exact rename_node N (ih (by omega)) (by omega) d n₀ w u v hs hL hn hO h8

end Go.Proofs.Ythlegfegkopdkaa
