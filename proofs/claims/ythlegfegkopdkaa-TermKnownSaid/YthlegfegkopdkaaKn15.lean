/- Own text, joined of: D4 A1 D5 D6 D7 D8.  -/
import Derived.Test.YthlegfegkopdkaaKn08
import Derived.Test.YthlegfegkopdkaaKn14

namespace Go.Proofs.Ythlegfegkopdkaa
open Go.RowKit Go.Shelf

/-- A slice of terms. -/
abbrev LiesL (n₀ : Nat) (w : World) (ds : List DT) (a : Option Addr) (l c : Nat) : Prop := Lies n₀ w (.mk 0 0 a l c ds)
theorem LiesL.open {n₀ : Nat} {w : World} {ds : List DT} {a : Option Addr} {l c : Nat} (h : LiesL n₀ w ds a l c) :
    l = ds.length ∧ l ≤ c ∧ c ≤ 9223372036854775807 ∧ (ds = [] ∨ ∃ b off, a = some ⟨b, off, none⟩ ∧ b < n₀ ∧ LiesAll n₀ w ds b off) := Lies.open (d := .mk 0 0 a l c ds) h

set_option maxHeartbeats 1000000 in
theorem check1_any (s : Sg) (d : DT) (n₀ Bs : Nat) (w : World) (ac : Option Addr) (lc cc : Nat) (af : Option Addr) (lf cf : Nat) (hs : 1 + d.size ≤ 1000000) (hn : n₀ ≤ w.heap.size) (hS : IsSg n₀ w s ac lc cc af lf cf) (hL : Lies n₀ w d)
    (c0 : w.cell? ⟨Bs, 0, none⟩ = some (.slice ac lc cc)) (c1 : w.cell? ⟨Bs, 1, none⟩ = some (.slice af lf cf)) :
    Calls Try.prog 48 #[.agg #[.int .i64 d.op, .int .i64 d.n, .slice d.a d.l d.c], .pointer (some ⟨Bs, 0, none⟩)] w fun e w' => e = .returned (.bool (formedB s d.tm)) ∧ Below w.heap.size w w' := by
  have hb1 : Below w.heap.size w (w.alloc (bx d)) := (Below.refl _ _).alloc (Nat.le_refl _) _
  have hC := Lib.hid (formed_any s d n₀ (w.alloc (bx d)) ac lc cc af lf cf hs (by simp; omega) (hS.below (hb1.mono hn)) (hL.below (hb1.mono hn)))
  have hlt := lt_cell c0
  go_enter Try.func48, Try.ntmps48
  go_wp2_with (go_at_call 25; refine (hC.out).mono ?_; rintro e w1 ⟨rfl, hbe⟩)
  go_ret
  exact ⟨rfl, hb1.trans (hbe.mono (by simp))⟩

noncomputable def checkB (s : Sg) (ds : List DT) : Bool := sigB s && ds.all (fun d => formedB s d.tm)
def errOf (b : Bool) : Int := if b then 0 else 2

set_option maxHeartbeats 1000000 in
theorem checkAll_any (s : Sg) (ds : List DT) (n₀ : Nat) (w : World) (ac : Option Addr) (lc cc : Nat) (af : Option Addr) (lf cf : Nat) (a : Option Addr) (l c : Nat) (hsz : ∀ d ∈ ds, 1 + d.size ≤ 1000000) (hn : n₀ ≤ w.heap.size) (hS : IsSg n₀ w s ac lc cc af lf cf) (hL : LiesL n₀ w ds a l c) :
    Calls Try.prog 26 #[.agg #[.slice ac lc cc, .slice af lf cf], .slice a l c] w fun e w' => e = .returned (.int .i64 (errOf (checkB s ds))) ∧ Below w.heap.size w w' := by
  obtain ⟨rfl, h1, h2, hk⟩ := hL.open
  have hb1 : Below w.heap.size w (w.alloc (bs 27 ac lc cc af lf cf)) := (Below.refl _ _).alloc (Nat.le_refl _) _
  have hSig := sigFormed_any s n₀ (w.alloc (bs 27 ac lc cc af lf cf)) ac lc cc af lf cf (hS.below (hb1.mono hn)) (by simp; omega)
  cases hsb : sigB s
  · have hv : Hid (checkB s ds = false) := Lib.hid (by unfold checkB; rw [hsb]; rfl)
    rw [hsb] at hSig
    replace hSig := Lib.hid hSig
    replace hsb := Lib.hid hsb
    clear hk hL hS
    go_enter Try.func26, Try.ntmps26
    go_wp2_with (go_at_call 49; refine (hSig.out).mono ?_; rintro e w1 ⟨rfl, hbe⟩)
    go_ret
    exact ⟨by rw [hv.out]; rfl, hb1.trans (hbe.mono (by simp))⟩
  · have hv : Hid (checkB s ds = ds.all (fun d => formedB s d.tm)) := Lib.hid (by unfold checkB; rw [hsb]; rfl)
    rw [hsb] at hSig
    have hAll := fun (W1 : World) (hbe : Below (w.heap.size + 1) (w.alloc (bs 27 ac lc cc af lf cf)) W1) =>
      all_any 48 #[.pointer (some ⟨w.heap.size, 0, none⟩)] (enters_of Try.func48 (by kernel_rfl) rfl) ds a c h1 h2
        (fun k W => Below (w.heap.size + 1) (w.alloc (bs 27 ac lc cc af lf cf)) W ∧ ∀ d ∈ ds.take k, formedB s d.tm = true)
        (fun W => Below (w.heap.size + 1) (w.alloc (bs 27 ac lc cc af lf cf)) W ∧ ds.all (fun d => formedB s d.tm) = false)
        (fun k W o h => ⟨h.1.alloc (by have := h.1.size; simpa using this) o, h.2⟩)
        (fun k W hlt h => by
          rcases hk with hk | ⟨b, off, ha, hb, hks⟩
          · rw [hk] at hlt; simp at hlt
          · exact ⟨b, off, ha, ((LiesAll.get _ hks k hlt).1).below (hb1.trans (h.1.mono (Nat.le_succ _))) (by omega)⟩)
        (fun k hlt W h => by
          rcases hk with hk | ⟨b, off, ha, hb, hks⟩
          · rw [hk] at hlt; simp at hlt
          · have hbw := hb1.trans (h.1.mono (Nat.le_succ _))
            have hzz := h.1.size
            rw [World.size_alloc] at hzz
            refine (check1_any s ds[k] n₀ w.heap.size W ac lc cc af lf cf (hsz _ (List.getElem_mem hlt)) (by omega) (hS.below (hbw.mono hn)) (((LiesAll.get _ hks k hlt).2).below (hbw.mono hn))
              (by rw [h.1.cell (by simp)]; go_cell) (by rw [h.1.cell (by simp)]; go_cell)).mono ?_
            rintro e W' ⟨rfl, hbe⟩
            cases hfo : formedB s ds[k].tm
            · exact .inr ⟨rfl, h.1.trans (hbe.mono hzz), List.all_eq_false.2 ⟨ds[k], List.getElem_mem hlt, by simp [hfo]⟩⟩
            · refine .inl ⟨rfl, h.1.trans (hbe.mono hzz), fun d hd => ?_⟩
              rw [List.take_succ_eq_append_getElem hlt] at hd
              rcases List.mem_append.1 hd with hd | hd
              · exact h.2 d hd
              · simp at hd; subst hd; exact hfo)
        W1 ⟨hbe, by simp⟩
    replace hSig := Lib.hid hSig
    replace hsb := Lib.hid hsb
    replace hAll := Lib.hid hAll
    clear hk hL hS
    go_enter Try.func26, Try.ntmps26
    go_wp2_with (go_at_call 49; refine (hSig.out).mono ?_; rintro e w1 ⟨rfl, hbe⟩)
    refine (hAll.out _ (by simpa using hbe)).mono ?_
    rintro e W2 (⟨rfl, hbe2, hall⟩ | ⟨rfl, hbe2, hall⟩)
    · have hv' : Hid (checkB s ds = true) := Lib.hid (by rw [hv.out, List.all_eq_true]; rw [List.take_length] at hall; exact hall)
      replace hall := Lib.hid hall
      go_wp2_with fail
      go_ret
      exact ⟨by rw [hv'.out]; rfl, hb1.trans (hbe2.mono (by omega))⟩
    · have hv' : Hid (checkB s ds = false) := Lib.hid (by rw [hv.out, hall])
      replace hall := Lib.hid hall
      go_wp2_with fail
      go_ret
      exact ⟨by rw [hv'.out]; rfl, hb1.trans (hbe2.mono (by omega))⟩

end Go.Proofs.Ythlegfegkopdkaa

namespace Go.Proofs.Ythlegfegkopdkaa
open Go.RowKit

def sgn (a b : Int) : Int := if a < b then -1 else if b < a then 1 else 0

/-! Value -/
mutual
def isVal : Tm → Bool
  | .mk op _ ks => isVals ks && ((decide (1 ≤ op) && decide (op ≤ 3)) || op == 5)
def isVals : List Tm → Bool
  | [] => true
  | t :: ts => isVal t && isVals ts
end
end Go.Proofs.Ythlegfegkopdkaa

namespace Go.Proofs.Ythlegfegkopdkaa
open Go.RowKit Go.Shelf Go.Sort

theorem cmpInan_any (a : Int) (w : World) : Calls Try.prog 97 #[.int .i64 a] w fun e w' => e = .returned (.bool false) ∧ w = w' := by
  have h : (a != a) = false := by simp
  go_enter Try.func97, Try.ntmps97
  go_wp2
  go_ret
  exact ⟨rfl, rfl⟩
theorem cmpI_any (a b : Int) (w : World) : Calls Try.prog 84 #[.int .i64 a, .int .i64 b] w fun e w' => e = .returned (.int .i64 (sgn a b)) ∧ w = w' := by
  by_cases h : a < b
  · have e : Hid (sgn a b = -1) := by unfold sgn; exact if_pos h
    go_enter Try.func84, Try.ntmps84
    go_wp2_with (go_at_call 97; refine (cmpInan_any _ _).mono ?_; rintro e w' ⟨rfl, rfl⟩)
    go_ret
    exact ⟨by rw [e.out]; rfl, rfl⟩
  · by_cases h2 : b < a
    · have e : Hid (sgn a b = 1) := by unfold sgn; rw [if_neg h, if_pos h2]; trivial
      go_enter Try.func84, Try.ntmps84
      go_wp2_with (go_at_call 97; refine (cmpInan_any _ _).mono ?_; rintro e w' ⟨rfl, rfl⟩)
      go_ret
      exact ⟨by rw [e.out]; rfl, rfl⟩
    · have e : Hid (sgn a b = 0) := by unfold sgn; rw [if_neg h, if_neg h2]; trivial
      go_enter Try.func84, Try.ntmps84
      go_wp2_with (go_at_call 97; refine (cmpInan_any _ _).mono ?_; rintro e w' ⟨rfl, rfl⟩)
      go_ret
      exact ⟨by rw [e.out]; rfl, rfl⟩

theorem cmpOnan_any (a : Int) (w : World) : Calls Try.prog 98 #[.int .i64 a] w fun e w' => e = .returned (.bool false) ∧ w = w' := by
  have h : (a != a) = false := by simp
  go_enter Try.func98, Try.ntmps98
  go_wp2
  go_ret
  exact ⟨rfl, rfl⟩
theorem cmpO_any (a b : Int) (w : World) : Calls Try.prog 86 #[.int .i64 a, .int .i64 b] w fun e w' => e = .returned (.int .i64 (sgn a b)) ∧ w = w' := by
  by_cases h : a < b
  · have e : Hid (sgn a b = -1) := by unfold sgn; exact if_pos h
    go_enter Try.func86, Try.ntmps86
    go_wp2_with (go_at_call 98; refine (cmpOnan_any _ _).mono ?_; rintro e w' ⟨rfl, rfl⟩)
    go_ret
    exact ⟨by rw [e.out]; rfl, rfl⟩
  · by_cases h2 : b < a
    · have e : Hid (sgn a b = 1) := by unfold sgn; rw [if_neg h, if_pos h2]; trivial
      go_enter Try.func86, Try.ntmps86
      go_wp2_with (go_at_call 98; refine (cmpOnan_any _ _).mono ?_; rintro e w' ⟨rfl, rfl⟩)
      go_ret
      exact ⟨by rw [e.out]; rfl, rfl⟩
    · have e : Hid (sgn a b = 0) := by unfold sgn; rw [if_neg h, if_neg h2]; trivial
      go_enter Try.func86, Try.ntmps86
      go_wp2_with (go_at_call 98; refine (cmpOnan_any _ _).mono ?_; rintro e w' ⟨rfl, rfl⟩)
      go_ret
      exact ⟨by rw [e.out]; rfl, rfl⟩


noncomputable def checkV (s : Sg) (ds : List DT) : Bool := checkB s ds && ds.all (fun d => valueB d.tm)

set_option maxRecDepth 100000 in
set_option maxHeartbeats 1000000 in
theorem checkValues_any (s : Sg) (ds : List DT) (n₀ : Nat) (w : World) (ac : Option Addr) (lc cc : Nat) (af : Option Addr) (lf cf : Nat) (a : Option Addr) (l c : Nat) (hsz : ∀ d ∈ ds, 1 + d.size ≤ 1000000) (hn : n₀ ≤ w.heap.size) (hS : IsSg n₀ w s ac lc cc af lf cf) (hL : LiesL n₀ w ds a l c) :
    Calls Try.prog 29 #[.agg #[.slice ac lc cc, .slice af lf cf], .slice a l c] w fun e w' => e = .returned (.int .i64 (errOf (checkV s ds))) ∧ Below w.heap.size w w' := by
  obtain ⟨hl, h1, h2, hk⟩ := hL.open
  have hb1 : Below w.heap.size w (w.alloc (bs 27 ac lc cc af lf cf)) := (Below.refl _ _).alloc (Nat.le_refl _) _
  have hChk := checkAll_any s ds n₀ (w.alloc (bs 27 ac lc cc af lf cf)) ac lc cc af lf cf a l c hsz (by simp; omega) (hS.below (hb1.mono hn)) (hL.below (hb1.mono hn))
  cases hsb : checkB s ds
  · have hv : Hid (checkV s ds = false) := Lib.hid (by unfold checkV; rw [hsb]; rfl)
    rw [hsb] at hChk
    replace hChk := Lib.hid hChk
    replace hsb := Lib.hid hsb
    clear hk hL hS hl
    have he : errOf false = 2 := rfl
    go_enter Try.func29, Try.ntmps29
    go_wp2_with (go_at_call 26; refine (hChk.out).mono ?_; rintro e w1 ⟨rfl, hbe⟩)
    go_ret
    exact ⟨by rw [hv.out]; rfl, hb1.trans (hbe.mono (by simp))⟩
  · have hv : Hid (checkV s ds = ds.all (fun d => valueB d.tm)) := Lib.hid (by unfold checkV; rw [hsb]; rfl)
    rw [hsb] at hChk
    have hAll := fun (W1 : World) (hbe : Below w.heap.size w W1) =>
      all_any 20 #[] (enters_of Try.func20 (by kernel_rfl) rfl) ds a c (by omega) h2
        (fun k W => Below w.heap.size w W ∧ ∀ d ∈ ds.take k, valueB d.tm = true)
        (fun W => Below w.heap.size w W ∧ ds.all (fun d => valueB d.tm) = false)
        (fun k W o h => ⟨h.1.alloc h.1.size o, h.2⟩)
        (fun k W hlt h => by
          rcases hk with hk | ⟨b, off, ha, hb, hks⟩
          · rw [hk] at hlt; simp at hlt
          · exact ⟨b, off, ha, ((LiesAll.get _ hks k hlt).1).below h.1 (by omega)⟩)
        (fun k hlt W h => by
          rcases hk with hk | ⟨b, off, ha, hb, hks⟩
          · rw [hk] at hlt; simp at hlt
          · have hzz := h.1.size
            refine (isValue_any ds[k] n₀ W (hsz _ (List.getElem_mem hlt)) (by omega) (((LiesAll.get _ hks k hlt).2).below (h.1.mono hn))).mono ?_
            rintro e W' ⟨rfl, hbe⟩
            cases hfo : valueB ds[k].tm
            · exact .inr ⟨rfl, h.1.trans (hbe.mono hzz), List.all_eq_false.2 ⟨ds[k], List.getElem_mem hlt, by simp [hfo]⟩⟩
            · refine .inl ⟨rfl, h.1.trans (hbe.mono hzz), fun d hd => ?_⟩
              rw [List.take_succ_eq_append_getElem hlt] at hd
              rcases List.mem_append.1 hd with hd | hd
              · exact h.2 d hd
              · simp at hd; subst hd; exact hfo)
        W1 ⟨hbe, by simp⟩
    replace hChk := Lib.hid hChk
    replace hsb := Lib.hid hsb
    rw [← hl] at hAll
    replace hAll := Lib.hid hAll
    clear hk hL hS
    have he : errOf true = 0 := rfl
    replace hl := Lib.hid hl
    go_enter Try.func29, Try.ntmps29
    go_wp2_with (go_at_call 26; refine (hChk.out).mono ?_; rintro e w1 ⟨rfl, hbe⟩)
    refine (hAll.out _ (hb1.trans (hbe.mono (by simp)))).mono ?_
    rintro e W2 (⟨rfl, hbe2, hall⟩ | ⟨rfl, hbe2, hall⟩)
    · have hv' : Hid (checkV s ds = true) := Lib.hid (by rw [hv.out, List.all_eq_true]; rw [hl.out, List.take_length] at hall; exact hall)
      replace hall := Lib.hid hall
      go_wp2_with fail
      go_ret
      exact ⟨by rw [hv'.out]; rfl, hbe2⟩
    · have hv' : Hid (checkV s ds = false) := Lib.hid (by rw [hv.out, hall])
      replace hall := Lib.hid hall
      go_wp2_with fail
      go_ret
      exact ⟨by rw [hv'.out]; rfl, hbe2⟩

end Go.Proofs.Ythlegfegkopdkaa

namespace Go.Proofs.Ythlegfegkopdkaa
open Go.RowKit Go.Shelf Go.Sort

def orElse0 (a b : Int) : Int := if a = 0 then b else a
mutual
def cmpT : Tm → Tm → Int
  | .mk o n ks, .mk o' n' ks' => orElse0 (sgn (Tm.mk o n ks).size (Tm.mk o' n' ks').size) (orElse0 (sgn o o') (orElse0 (sgn n n') (cmpKs ks ks')))
def cmpKs : List Tm → List Tm → Int
  | t :: ts, u :: us => orElse0 (cmpT t u) (cmpKs ts us)
  | _, _ => 0
end
theorem cmpT_eq (t u : Tm) : cmpT t u = orElse0 (sgn t.size u.size) (orElse0 (sgn t.op u.op) (orElse0 (sgn t.n u.n) (cmpKs t.kids u.kids))) := by cases t; cases u; rfl
theorem cmpKs_drop (a b : List Tm) (k : Nat) (h : k < a.length) (h' : k < b.length) : cmpKs (a.drop k) (b.drop k) = orElse0 (cmpT a[k] b[k]) (cmpKs (a.drop (k + 1)) (b.drop (k + 1))) := by
  rw [List.drop_eq_getElem_cons h, List.drop_eq_getElem_cons h', cmpKs]
theorem cmpKs_end (a b : List Tm) (k : Nat) (h : a.length ≤ k ∨ b.length ≤ k) : cmpKs (a.drop k) (b.drop k) = 0 := by
  rcases h with h | h
  · rw [List.drop_eq_nil_of_le h]; simp [cmpKs]
  · rw [List.drop_eq_nil_of_le h]; cases List.drop k a <;> simp [cmpKs]

/-- What is left to compare at a rank. -/
def cmpFrom (t u : Tm) (r : Int) : Int :=
  if r = 0 then cmpT t u else if r = 1 then orElse0 (sgn t.op u.op) (orElse0 (sgn t.n u.n) (cmpKs t.kids u.kids)) else if r = 2 then orElse0 (sgn t.n u.n) (cmpKs t.kids u.kids) else if r = 3 then cmpKs t.kids u.kids else 0

set_option maxRecDepth 100000 in
set_option maxHeartbeats 1500000 in
theorem compare_any (N : Nat) : ∀ (d x : DT) (n₀ : Nat) (w : World), d.size ≤ N → 1 + d.size ≤ 1000000 → 1 + x.size ≤ 1000000 → n₀ ≤ w.heap.size → Lies n₀ w d → Lies n₀ w x →
    Calls Try.prog 60 #[.agg #[.int .i64 d.op, .int .i64 d.n, .slice d.a d.l d.c], .agg #[.int .i64 x.op, .int .i64 x.n, .slice x.a x.l x.c]] w fun e w' => e = .returned (.int .i64 (cmpT d.tm x.tm)) ∧ Below w.heap.size w w' := by
  induction N with
  | zero => intro d _ _ _ h; have := dsize_pos d; omega
  | succ N ih =>
    intro d x n₀ w hN hs1 hs2 hn hL1 hL2
    replace ih := Lib.hid ih
    obtain ⟨hl, hlc, hc, hk⟩ := hL1.open
    obtain ⟨hl2, hlc2, hcc2, hk2⟩ := hL2.open
    have hsz := Lib.hid (dsize_eq d)
    have hw2 := two_boxes w (bx d) (bx x)
    have hcmp := Lib.hid (cmpT_eq d.tm x.tm)
    replace hl := Lib.hid hl
    replace hl2 := Lib.hid hl2
    go_enter Try.func60, Try.ntmps60
    go_wp2_with fail
    go_step3
    go_wp2_with fail
    go_step3
    go_wp2_with fail
    go_loopw [5, 6, 7, 8] (fun o _ _ r wr => ∃ k : Int, 0 ≤ k ∧ k ≤ 4 ∧ r = .int .i64 k ∧ o = .int .i64 0 ∧ Hid (cmpT d.tm x.tm = cmpFrom d.tm x.tm k) ∧ Below (w.heap.size + 2) ((w.alloc (bx d)).alloc (bx x)) wr) (fun _ _ _ r _ => 4 - (intOf r).toNat)
    case atStart => exact ⟨0, by omega, by omega, rfl, rfl, Lib.hid (by simp [cmpFrom]), Below.refl _ _⟩
    case round =>
      obtain ⟨k, hk0, hk4, rfl, rfl, hfr, hb⟩ := hrel
      have hbw := hw2.trans (hb.mono (by omega))
      have hz := hb.size
      rw [World.size_alloc, World.size_alloc] at hz
      have a0 : wr.cell? ⟨w.heap.size, 0, none⟩ = some (.int .i64 d.op) := by rw [hb.cell (by simp)]; go_cell
      have a1 : wr.cell? ⟨w.heap.size, 1, none⟩ = some (.int .i64 d.n) := by rw [hb.cell (by simp)]; go_cell
      have a2 : wr.cell? ⟨w.heap.size, 2, none⟩ = some (.slice d.a d.l d.c) := by rw [hb.cell (by simp)]; go_cell
      have b0 : wr.cell? ⟨w.heap.size + 1, 0, none⟩ = some (.int .i64 x.op) := by rw [hb.cell (by simp)]; go_cell
      have b1 : wr.cell? ⟨w.heap.size + 1, 1, none⟩ = some (.int .i64 x.n) := by rw [hb.cell (by simp)]; go_cell
      have b2 : wr.cell? ⟨w.heap.size + 1, 2, none⟩ = some (.slice x.a x.l x.c) := by rw [hb.cell (by simp)]; go_cell
      have hk5 : k = 4 ∨ k = 0 ∨ k = 1 ∨ k = 2 ∨ k = 3 := by omega
      rcases hk5 with rfl | rfl | rfl | rfl | rfl
      · have hv : Hid (cmpT d.tm x.tm = 0) := Lib.hid (by rw [hfr.out]; simp [cmpFrom])
        clear hk hk2 hL1 hL2
        go_wp2_with fail
        rw [Exit.noGoto_ret]
        go_ret
        exact ⟨by rw [hv.out]; rfl, hbw⟩
      · have hv : Hid (cmpT d.tm x.tm = orElse0 (sgn d.size x.size) (cmpFrom d.tm x.tm 1)) := Lib.hid (by rw [hcmp.out, size_tm, size_tm]; simp [cmpFrom])
        obtain ⟨r, hr⟩ : ∃ r, r = sgn (d.size : Nat) (x.size : Nat) := ⟨_, rfl⟩
        have hC := fun dd os => (Calls.mono (cmpI_any (d.size : Nat) (x.size : Nat) (grow (redrawn wr dd) os)) (fun e w' h => (⟨h.1, by rw [← h.2]; exact Below.refl _ _⟩ : e = .returned (.int .i64 (sgn (d.size : Nat) (x.size : Nat))) ∧ Below (grow (redrawn wr dd) os).heap.size (grow (redrawn wr dd) os) w'))).regrown_of
        have hSa := fun dd os => (size_any d n₀ (grow (redrawn wr dd) os) hs1 (by have := (below_regrown wr dd os).size; omega) (hL1.below ((hbw.trans ((below_regrown wr dd os).mono (by omega))).mono hn))).regrown_of
        have hSb := fun dd os => (size_any x n₀ (grow (redrawn wr dd) os) hs2 (by have := (below_regrown wr dd os).size; omega) (hL2.below ((hbw.trans ((below_regrown wr dd os).mono (by omega))).mono hn))).regrown_of
        rw [← hr] at hv hC
        clear hr hk hk2 hL1 hL2
        replace hC := Lib.hid hC
        replace hSa := Lib.hid hSa
        replace hSb := Lib.hid hSb
        have d0 := fun dd os => cell_regrown a0 dd os
        have d1 := fun dd os => cell_regrown a1 dd os
        have d2 := fun dd os => cell_regrown a2 dd os
        have e0 := fun dd os => cell_regrown b0 dd os
        have e1 := fun dd os => cell_regrown b1 dd os
        have e2 := fun dd os => cell_regrown b2 dd os
        go_wp2_with fail
        refine wp_region_quiet_below (by kernel_rfl) (by kernel_rfl) ?_
        quiet_step (fail)
        quiet_step (exact hSa.out _ _)
        quiet_step (fail)
        quiet_step (exact hSb.out _ _)
        quiet_step (exact hC.out _ _)
        quiet_step (fail)
        refine wpQuiet_nil ?_
        rintro _ ⟨⟨dq, osq⟩, rfl⟩
        have hb3 := below_regrown wr dq osq
        clear d0 d1 d2 e0 e1 e2
        by_cases h0 : r = 0
        · subst h0
          go_wp2_with fail
          go_roundw
          case rel => exact ⟨1, by omega, by omega, rfl, rfl, Lib.hid (by rw [hv.out]; simp [orElse0]), hb.trans (hb3.mono hz)⟩
          case measure => simp [intOf]
        · have h1 : (r != 0) = true := by simpa using h0
          have hv' : Hid (cmpT d.tm x.tm = r) := Lib.hid (by rw [hv.out]; simp [orElse0, h0])
          clear h0 hv hfr
          go_wp2_with fail
          rw [Exit.noGoto_ret]
          go_ret
          exact ⟨by rw [hv'.out]; rfl, hbw.trans (hb3.mono (by omega))⟩
      · have hv : Hid (cmpT d.tm x.tm = orElse0 (sgn d.op x.op) (cmpFrom d.tm x.tm 2)) := Lib.hid (by rw [hfr.out]; simp [cmpFrom, DT.tm_op])
        obtain ⟨r, hr⟩ : ∃ r, r = sgn d.op x.op := ⟨_, rfl⟩
        have hC := fun W => cmpO_any d.op x.op W
        rw [← hr] at hv hC
        clear hr hk hk2 hL1 hL2
        replace hC := Lib.hid hC
        by_cases h0 : r = 0
        · subst h0
          go_wp2_with (go_at_call 86; refine (hC.out _).mono ?_; rintro e w' ⟨rfl, rfl⟩)
          go_roundw
          case rel => exact ⟨2, by omega, by omega, rfl, rfl, Lib.hid (by rw [hv.out]; simp [orElse0]), hb⟩
          case measure => simp [intOf]
        · have h1 : (r != 0) = true := by simpa using h0
          have hv' : Hid (cmpT d.tm x.tm = r) := Lib.hid (by rw [hv.out]; simp [orElse0, h0])
          clear h0 hv hfr
          go_wp2_with (go_at_call 86; refine (hC.out _).mono ?_; rintro e w' ⟨rfl, rfl⟩)
          rw [Exit.noGoto_ret]
          go_ret
          exact ⟨by rw [hv'.out]; rfl, hbw⟩
      · have hv : Hid (cmpT d.tm x.tm = orElse0 (sgn d.n x.n) (cmpFrom d.tm x.tm 3)) := Lib.hid (by rw [hfr.out]; simp [cmpFrom, DT.tm_n])
        obtain ⟨r, hr⟩ : ∃ r, r = sgn d.n x.n := ⟨_, rfl⟩
        have hC := fun W => cmpI_any d.n x.n W
        rw [← hr] at hv hC
        clear hr hk hk2 hL1 hL2
        replace hC := Lib.hid hC
        by_cases h0 : r = 0
        · subst h0
          go_wp2_with (go_at_call 84; refine (hC.out _).mono ?_; rintro e w' ⟨rfl, rfl⟩)
          go_roundw
          case rel => exact ⟨3, by omega, by omega, rfl, rfl, Lib.hid (by rw [hv.out]; simp [orElse0]), hb⟩
          case measure => simp [intOf]
        · have h1 : (r != 0) = true := by simpa using h0
          have hv' : Hid (cmpT d.tm x.tm = r) := Lib.hid (by rw [hv.out]; simp [orElse0, h0])
          clear h0 hv hfr
          go_wp2_with (go_at_call 84; refine (hC.out _).mono ?_; rintro e w' ⟨rfl, rfl⟩)
          rw [Exit.noGoto_ret]
          go_ret
          exact ⟨by rw [hv'.out]; rfl, hbw⟩
      · have hv : Hid (cmpT d.tm x.tm = cmpKs d.tm.kids x.tm.kids) := Lib.hid (by rw [hfr.out]; simp [cmpFrom])
        have hll : d.l ≤ 9223372036854775807 := by omega
        have hll2 : x.l ≤ 9223372036854775807 := by omega
        clear hcmp hfr
        obtain ⟨wo, rfl⟩ : ∃ wo : World, wo = wr := ⟨_, rfl⟩
        rcases Nat.lt_or_ge x.l d.l with hle | hle
        · go_wp2_with fail
          go_loopw [5, 7, 42] (fun o _ i wi => ∃ k : Nat, k ≤ x.l ∧ i = .int .i64 k ∧ o = .int .i64 0 ∧ Hid (cmpT d.tm x.tm = cmpKs (d.tm.kids.drop k) (x.tm.kids.drop k)) ∧ Below (w.heap.size + 2) ((w.alloc (bx d)).alloc (bx x)) wi) (fun _ _ i _ => x.l - (intOf i).toNat)
          case atStart => exact ⟨0, by omega, rfl, rfl, Lib.hid (by rw [hv.out]; rfl), hb⟩
          case round =>
            obtain ⟨k, hk1, rfl, rfl, hvk, hb'⟩ := hrel
            clear hb hbw hz a0 a1 a2 b0 b1 b2
            have hbw := hw2.trans (hb'.mono (by omega))
            have hz := hb'.size
            rw [World.size_alloc, World.size_alloc] at hz
            by_cases hlt : k < x.l
            · have hkd : k < d.kids.length := by have := hl.out; omega
              have hkx : k < x.kids.length := by have := hl2.out; omega
              rcases hk with hk | ⟨b, off, ha, hbn, hks⟩
              · rw [hk] at hkd; simp at hkd
              rcases hk2 with hk2 | ⟨bb, off2, ha2, hbn2, hks2⟩
              · rw [hk2] at hkx; simp at hkx
              obtain ⟨g1, g2⟩ := LiesAll.get _ hks k hkd
              obtain ⟨g3, g4⟩ := LiesAll.get _ hks2 k hkx
              obtain ⟨p0, p1, p2⟩ := g1.below (hbw.mono hn) hbn
              obtain ⟨s0, s1, s2⟩ := g3.below (hbw.mono hn) hbn2
              have a2 : wr.cell? ⟨w.heap.size, 2, none⟩ = some (.slice (some ⟨b, off, none⟩) d.l d.c) := by rw [hb'.cell (by simp)]; rw [← ha]; go_cell
              have b2 : wr.cell? ⟨w.heap.size + 1, 2, none⟩ = some (.slice (some ⟨bb, off2, none⟩) x.l x.c) := by rw [hb'.cell (by simp)]; rw [← ha2]; go_cell
              have hsk := dsize_kid d.kids k hkd
              have hsk2 := dsize_kid x.kids k hkx
              have hx1 := dsize_eq x
              have hC := fun dd os => (ih.out d.kids[k] x.kids[k] n₀ (grow (redrawn wr dd) os) (by have := hsz.out; omega) (by have := hsz.out; omega) (by omega) (by have := (below_regrown wr dd os).size; omega)
                (g2.below ((hbw.trans ((below_regrown wr dd os).mono (by omega))).mono hn)) (g4.below ((hbw.trans ((below_regrown wr dd os).mono (by omega))).mono hn))).regrown_of
              have hstep : Hid (cmpT d.tm x.tm = orElse0 (cmpT d.kids[k].tm x.kids[k].tm) (cmpKs (d.tm.kids.drop (k + 1)) (x.tm.kids.drop (k + 1)))) := Lib.hid (by
                rw [hvk.out, cmpKs_drop _ _ k (by rw [DT.tm_kids, List.length_map]; exact hkd) (by rw [DT.tm_kids, List.length_map]; exact hkx)]
                simp only [DT.tm_kids, List.getElem_map])
              obtain ⟨r, hr⟩ : ∃ r, r = cmpT d.kids[k].tm x.kids[k].tm := ⟨_, rfl⟩
              rw [← hr] at hstep hC
              have o1 : (k : Int) < (d.l : Int) := by omega
              have o2 : (k : Int) < (x.l : Int) := by omega
              clear hr hL1 hL2 g1 g2 g3 g4 hks hks2 hx1 hvk ha ha2
              replace hC := Lib.hid hC
              have y1 := fun dd os => cell_regrown a2 dd os
              have y2 := fun dd os => cell_regrown b2 dd os
              have y3 := fun dd os => cell_regrown p0 dd os
              have y4 := fun dd os => cell_regrown p1 dd os
              have y5 := fun dd os => cell_regrown p2 dd os
              have y6 := fun dd os => cell_regrown s0 dd os
              have y7 := fun dd os => cell_regrown s1 dd os
              have y8 := fun dd os => cell_regrown s2 dd os
              go_wp2_with fail
              refine wp_region_quiet_below (by kernel_rfl) (by kernel_rfl) ?_
              repeat (quiet_step (exact hC.out _ _))
              refine wpQuiet_nil ?_
              rintro _ ⟨⟨dq, osq⟩, rfl⟩
              have hb3 := below_regrown wr dq osq
              clear y1 y2 y3 y4 y5 y6 y7 y8
              by_cases h0 : r = 0
              · subst h0
                go_wp2_with fail
                go_roundw
                case rel => exact ⟨k + 1, by omega, by go_num, rfl, Lib.hid (by rw [hstep.out]; simp [orElse0]), hb'.trans (hb3.mono hz)⟩
                case measure => simp [intOf]; omega
              · have h1 : (r != 0) = true := by simpa using h0
                have hv' : Hid (cmpT d.tm x.tm = r) := Lib.hid (by rw [hstep.out]; simp [orElse0, h0])
                clear h0 hstep
                go_wp2_with fail
                rw [Exit.noGoto_ret]
                go_ret
                exact ⟨by rw [hv'.out]; rfl, hbw.trans (hb3.mono (by omega))⟩
            · have hend : Hid (cmpT d.tm x.tm = 0) := Lib.hid (by
                rw [hvk.out, cmpKs_end _ _ k (by rw [DT.tm_kids, DT.tm_kids, List.length_map, List.length_map]; have := hl.out; have := hl2.out; omega)])
              clear hk hk2 hL1 hL2 hvk hv
              go_wp2_with fail
              go_roundw
              case rel => exact ⟨4, by omega, by omega, rfl, rfl, Lib.hid (by rw [hend.out]; simp [cmpFrom]), hb'⟩
              case measure => simp [intOf]
        · go_wp2_with fail
          go_loopw [5, 7, 42] (fun o _ i wi => ∃ k : Nat, k ≤ d.l ∧ i = .int .i64 k ∧ o = .int .i64 0 ∧ Hid (cmpT d.tm x.tm = cmpKs (d.tm.kids.drop k) (x.tm.kids.drop k)) ∧ Below (w.heap.size + 2) ((w.alloc (bx d)).alloc (bx x)) wi) (fun _ _ i _ => d.l - (intOf i).toNat)
          case atStart => exact ⟨0, by omega, rfl, rfl, Lib.hid (by rw [hv.out]; rfl), hb⟩
          case round =>
            obtain ⟨k, hk1, rfl, rfl, hvk, hb'⟩ := hrel
            clear hb hbw hz a0 a1 a2 b0 b1 b2
            have hbw := hw2.trans (hb'.mono (by omega))
            have hz := hb'.size
            rw [World.size_alloc, World.size_alloc] at hz
            by_cases hlt : k < d.l
            · have hkd : k < d.kids.length := by have := hl.out; omega
              have hkx : k < x.kids.length := by have := hl2.out; omega
              rcases hk with hk | ⟨b, off, ha, hbn, hks⟩
              · rw [hk] at hkd; simp at hkd
              rcases hk2 with hk2 | ⟨bb, off2, ha2, hbn2, hks2⟩
              · rw [hk2] at hkx; simp at hkx
              obtain ⟨g1, g2⟩ := LiesAll.get _ hks k hkd
              obtain ⟨g3, g4⟩ := LiesAll.get _ hks2 k hkx
              obtain ⟨p0, p1, p2⟩ := g1.below (hbw.mono hn) hbn
              obtain ⟨s0, s1, s2⟩ := g3.below (hbw.mono hn) hbn2
              have a2 : wr.cell? ⟨w.heap.size, 2, none⟩ = some (.slice (some ⟨b, off, none⟩) d.l d.c) := by rw [hb'.cell (by simp)]; rw [← ha]; go_cell
              have b2 : wr.cell? ⟨w.heap.size + 1, 2, none⟩ = some (.slice (some ⟨bb, off2, none⟩) x.l x.c) := by rw [hb'.cell (by simp)]; rw [← ha2]; go_cell
              have hsk := dsize_kid d.kids k hkd
              have hsk2 := dsize_kid x.kids k hkx
              have hx1 := dsize_eq x
              have hC := fun dd os => (ih.out d.kids[k] x.kids[k] n₀ (grow (redrawn wr dd) os) (by have := hsz.out; omega) (by have := hsz.out; omega) (by omega) (by have := (below_regrown wr dd os).size; omega)
                (g2.below ((hbw.trans ((below_regrown wr dd os).mono (by omega))).mono hn)) (g4.below ((hbw.trans ((below_regrown wr dd os).mono (by omega))).mono hn))).regrown_of
              have hstep : Hid (cmpT d.tm x.tm = orElse0 (cmpT d.kids[k].tm x.kids[k].tm) (cmpKs (d.tm.kids.drop (k + 1)) (x.tm.kids.drop (k + 1)))) := Lib.hid (by
                rw [hvk.out, cmpKs_drop _ _ k (by rw [DT.tm_kids, List.length_map]; exact hkd) (by rw [DT.tm_kids, List.length_map]; exact hkx)]
                simp only [DT.tm_kids, List.getElem_map])
              obtain ⟨r, hr⟩ : ∃ r, r = cmpT d.kids[k].tm x.kids[k].tm := ⟨_, rfl⟩
              rw [← hr] at hstep hC
              have o1 : (k : Int) < (d.l : Int) := by omega
              have o2 : (k : Int) < (x.l : Int) := by omega
              clear hr hL1 hL2 g1 g2 g3 g4 hks hks2 hx1 hvk ha ha2
              replace hC := Lib.hid hC
              have y1 := fun dd os => cell_regrown a2 dd os
              have y2 := fun dd os => cell_regrown b2 dd os
              have y3 := fun dd os => cell_regrown p0 dd os
              have y4 := fun dd os => cell_regrown p1 dd os
              have y5 := fun dd os => cell_regrown p2 dd os
              have y6 := fun dd os => cell_regrown s0 dd os
              have y7 := fun dd os => cell_regrown s1 dd os
              have y8 := fun dd os => cell_regrown s2 dd os
              go_wp2_with fail
              refine wp_region_quiet_below (by kernel_rfl) (by kernel_rfl) ?_
              repeat (quiet_step (exact hC.out _ _))
              refine wpQuiet_nil ?_
              rintro _ ⟨⟨dq, osq⟩, rfl⟩
              have hb3 := below_regrown wr dq osq
              clear y1 y2 y3 y4 y5 y6 y7 y8
              by_cases h0 : r = 0
              · subst h0
                go_wp2_with fail
                go_roundw
                case rel => exact ⟨k + 1, by omega, by go_num, rfl, Lib.hid (by rw [hstep.out]; simp [orElse0]), hb'.trans (hb3.mono hz)⟩
                case measure => simp [intOf]; omega
              · have h1 : (r != 0) = true := by simpa using h0
                have hv' : Hid (cmpT d.tm x.tm = r) := Lib.hid (by rw [hstep.out]; simp [orElse0, h0])
                clear h0 hstep
                go_wp2_with fail
                rw [Exit.noGoto_ret]
                go_ret
                exact ⟨by rw [hv'.out]; rfl, hbw.trans (hb3.mono (by omega))⟩
            · have hend : Hid (cmpT d.tm x.tm = 0) := Lib.hid (by
                rw [hvk.out, cmpKs_end _ _ k (by rw [DT.tm_kids, DT.tm_kids, List.length_map, List.length_map]; have := hl.out; have := hl2.out; omega)])
              clear hk hk2 hL1 hL2 hvk hv
              go_wp2_with fail
              go_roundw
              case rel => exact ⟨4, by omega, by omega, rfl, rfl, Lib.hid (by rw [hend.out]; simp [cmpFrom]), hb'⟩
              case measure => simp [intOf]

end Go.Proofs.Ythlegfegkopdkaa

namespace Go.Proofs.Ythlegfegkopdkaa
open Go.RowKit Go.Shelf Go.Sort

abbrev two (d x : DT) : Obj := .cells #[.int .i64 d.op, .int .i64 d.n, .slice d.a d.l d.c, .int .i64 x.op, .int .i64 x.n, .slice x.a x.l x.c] 32
theorem two_lies {n₀ : Nat} {w : World} {d x : DT} (h1 : Lies n₀ w d) (h2 : Lies n₀ w x) (hn : n₀ ≤ w.heap.size) : LiesL (w.heap.size + 1) (w.alloc (two d x)) [d, x] (some ⟨w.heap.size, 0, none⟩) 2 2 := by
  have hb : Below n₀ w (w.alloc (two d x)) := (Below.refl _ _).alloc hn _
  simp only [LiesL, Lies]
  refine ⟨rfl, by omega, by omega, .inr ⟨w.heap.size, 0, rfl, by omega, ?_⟩⟩
  simp only [LiesAll]
  exact ⟨⟨⟨by go_cell, by go_cell, by go_cell⟩, (h1.below hb).wider (by omega)⟩, ⟨⟨by go_cell, by go_cell, by go_cell⟩, (h2.below hb).wider (by omega)⟩, trivial⟩
abbrev one (d : DT) : Obj := .cells #[.int .i64 d.op, .int .i64 d.n, .slice d.a d.l d.c] 32
theorem one_lies {n₀ : Nat} {w : World} {d : DT} (h1 : Lies n₀ w d) (hn : n₀ ≤ w.heap.size) : LiesL (w.heap.size + 1) (w.alloc (one d)) [d] (some ⟨w.heap.size, 0, none⟩) 1 1 := by
  have hb : Below n₀ w (w.alloc (one d)) := (Below.refl _ _).alloc hn _
  simp only [LiesL, Lies]
  refine ⟨rfl, by omega, by omega, .inr ⟨w.heap.size, 0, rfl, by omega, ?_⟩⟩
  simp only [LiesAll]
  exact ⟨⟨⟨by go_cell, by go_cell, by go_cell⟩, (h1.below hb).wider (by omega)⟩, trivial⟩

noncomputable def cmpV (s : Sg) (d x : DT) : Int := if checkV s [d, x] = true then cmpT d.tm x.tm else 0

set_option maxRecDepth 100000 in
set_option maxHeartbeats 1000000 in
theorem Compare_any (s : Sg) (d x : DT) (n₀ : Nat) (w : World) (ac : Option Addr) (lc cc : Nat) (af : Option Addr) (lf cf : Nat) (hs1 : 1 + d.size ≤ 1000000) (hs2 : 1 + x.size ≤ 1000000) (hn : n₀ ≤ w.heap.size) (hS : IsSg n₀ w s ac lc cc af lf cf) (hL1 : Lies n₀ w d) (hL2 : Lies n₀ w x) :
    Calls Try.prog 37 #[.agg #[.slice ac lc cc, .slice af lf cf], .agg #[.int .i64 d.op, .int .i64 d.n, .slice d.a d.l d.c], .agg #[.int .i64 x.op, .int .i64 x.n, .slice x.a x.l x.c]] w fun e w' =>
      e = .returned (.tuple #[.int .i64 (cmpV s d x), .int .i64 (errOf (checkV s [d, x]))]) ∧ Below w.heap.size w w' := by
  obtain ⟨W0, hW0⟩ : ∃ W0, W0 = ((w.alloc (bs 27 ac lc cc af lf cf)).alloc (bx d)).alloc (bx x) := ⟨_, rfl⟩
  have hB0 : Below w.heap.size w W0 := by rw [hW0]; go_grown
  have hz0 : W0.heap.size = w.heap.size + 1 + 1 + 1 := by rw [hW0]; simp
  have hl1 := hL1.below (hB0.mono hn)
  have hl2 := hL2.below (hB0.mono hn)
  have hB1 : Below W0.heap.size W0 (W0.alloc (two d x)) := (Below.refl _ _).alloc (Nat.le_refl _) _
  have hC := checkValues_any s [d, x] (W0.heap.size + 1) (W0.alloc (two d x)) ac lc cc af lf cf (some ⟨W0.heap.size, 0, none⟩) 2 2 (by intro y hy; simp at hy; rcases hy with rfl | rfl <;> assumption) (by simp) ((hS.below ((hB0.trans (hB1.mono hB0.size)).mono hn)).wider (by omega)) (two_lies hl1 hl2 (by omega))
  have a0 : W0.cell? ⟨w.heap.size + 1, 0, none⟩ = some (.int .i64 d.op) := by rw [hW0]; go_cell
  have a1 : W0.cell? ⟨w.heap.size + 1, 1, none⟩ = some (.int .i64 d.n) := by rw [hW0]; go_cell
  have a2 : W0.cell? ⟨w.heap.size + 1, 2, none⟩ = some (.slice d.a d.l d.c) := by rw [hW0]; go_cell
  have b0 : W0.cell? ⟨w.heap.size + 1 + 1, 0, none⟩ = some (.int .i64 x.op) := by rw [hW0]; go_cell
  have b1 : W0.cell? ⟨w.heap.size + 1 + 1, 1, none⟩ = some (.int .i64 x.n) := by rw [hW0]; go_cell
  have b2 : W0.cell? ⟨w.heap.size + 1 + 1, 2, none⟩ = some (.slice x.a x.l x.c) := by rw [hW0]; go_cell
  have hCmp := fun (W : World) (hb : Below W0.heap.size W0 W) => compare_any d.size d x n₀ W (Nat.le_refl _) hs1 hs2 (by have := hb.size; omega) (hl1.below (hb.mono (by omega))) (hl2.below (hb.mono (by omega)))
  rw [hz0] at hC
  cases hv : checkV s [d, x]
  · rw [hv] at hC
    have hv2 : Hid (cmpV s d x = 0) := Lib.hid (by unfold cmpV; rw [hv]; rfl)
    rw [hW0] at hC
    replace hC := Lib.hid hC
    have he : errOf false = 2 := rfl
    clear a0 a1 a2 b0 b1 b2 hCmp hl1 hl2 hL1 hL2 hS hv
    go_enter Try.func37, Try.ntmps37
    go_wp2_with (go_at_call 29; refine (hC.out).mono ?_; rintro e w1 ⟨rfl, hbe⟩)
    go_ret2
    rw [hW0] at hB0 hB1
    exact ⟨by rw [hv2.out]; rfl, hB0.trans ((hB1.mono (by simp; omega)).trans (hbe.mono (by simp; omega)))⟩
  · rw [hv] at hC
    have hv2 : Hid (cmpV s d x = cmpT d.tm x.tm) := Lib.hid (by unfold cmpV; rw [hv]; rfl)
    rw [hW0] at hC
    replace hC := Lib.hid hC
    replace hCmp := Lib.hid hCmp
    have he : errOf true = 0 := rfl
    clear hl1 hl2 hL1 hL2 hS hv
    go_enter Try.func37, Try.ntmps37
    go_wp2_with (first
      | (go_at_call 29; refine (hC.out).mono ?_; rintro e w1 ⟨rfl, hbe⟩
         have hb2 := Lib.hid (hB1.trans ((show Below (W0.alloc (two d x)).heap.size (W0.alloc (two d x)) w1 from by rw [hW0]; exact hbe).mono hB1.size))
         have a0' := (hb2.out.cell (p := ⟨w.heap.size + 1, 0, none⟩) (by simp; omega)).trans a0
         have a1' := (hb2.out.cell (p := ⟨w.heap.size + 1, 1, none⟩) (by simp; omega)).trans a1
         have a2' := (hb2.out.cell (p := ⟨w.heap.size + 1, 2, none⟩) (by simp; omega)).trans a2
         have b0' := (hb2.out.cell (p := ⟨w.heap.size + 1 + 1, 0, none⟩) (by simp; omega)).trans b0
         have b1' := (hb2.out.cell (p := ⟨w.heap.size + 1 + 1, 1, none⟩) (by simp; omega)).trans b1
         have b2' := (hb2.out.cell (p := ⟨w.heap.size + 1 + 1, 2, none⟩) (by simp; omega)).trans b2)
      | (go_at_call 60; refine (hCmp.out _ hb2.out).mono ?_; rintro e w2 ⟨rfl, hbe2⟩))
    go_ret2
    exact ⟨by rw [hv2.out]; rfl, hB0.trans ((hb2.out.mono (by omega)).trans (hbe2.mono (by have := hb2.out.size; omega)))⟩

end Go.Proofs.Ythlegfegkopdkaa

namespace Go.Proofs.Ythlegfegkopdkaa
open Go.RowKit Go.Shelf

set_option maxHeartbeats 1000000 in
/-- 'Check'. -/
theorem Check_any (s : Sg) (d : DT) (n₀ : Nat) (w : World) (ac : Option Addr) (lc cc : Nat) (af : Option Addr) (lf cf : Nat) (hs1 : 1 + d.size ≤ 1000000) (hn : n₀ ≤ w.heap.size) (hS : IsSg n₀ w s ac lc cc af lf cf) (hL1 : Lies n₀ w d) :
    Calls Try.prog 19 #[.agg #[.slice ac lc cc, .slice af lf cf], .agg #[.int .i64 d.op, .int .i64 d.n, .slice d.a d.l d.c]] w fun e w' =>
      e = .returned (.int .i64 (errOf (checkB s [d]))) ∧ Below w.heap.size w w' := by
  obtain ⟨W0, hW0⟩ : ∃ W0, W0 = (w.alloc (bs 27 ac lc cc af lf cf)).alloc (bx d) := ⟨_, rfl⟩
  have hB0 : Below w.heap.size w W0 := by rw [hW0]; go_grown
  have hz0 : W0.heap.size = w.heap.size + 1 + 1 := by rw [hW0]; simp
  have hl1 := hL1.below (hB0.mono hn)
  have hB1 : Below W0.heap.size W0 (W0.alloc (one d)) := (Below.refl _ _).alloc (Nat.le_refl _) _
  have hC := checkAll_any s [d] (W0.heap.size + 1) (W0.alloc (one d)) ac lc cc af lf cf (some ⟨W0.heap.size, 0, none⟩) 1 1 (by intro y hy; simp at hy; rcases hy with rfl; assumption) (by simp) ((hS.below ((hB0.trans (hB1.mono hB0.size)).mono hn)).wider (by omega)) (one_lies hl1 (by omega))
  rw [hz0] at hC
  rw [hW0] at hC
  replace hC := Lib.hid hC
  clear hl1 hL1 hS
  go_enter Try.func19, Try.ntmps19
  go_wp2_with (go_at_call 26; refine (hC.out).mono ?_; rintro e w1 ⟨rfl, hbe⟩)
  go_ret
  rw [hW0] at hB0 hB1
  exact ⟨rfl, hB0.trans ((hB1.mono (by simp; omega)).trans (hbe.mono (by simp; omega)))⟩

noncomputable def isValA (s : Sg) (d : DT) : Bool := checkB s [d] && valueB d.tm
noncomputable def isValB (s : Sg) (d : DT) : Bool := isValA s d && groundB d.tm

set_option maxRecDepth 100000 in
set_option maxHeartbeats 2000000 in
/-- 'IsValue'. -/
theorem IsValue_any (s : Sg) (d : DT) (n₀ : Nat) (w : World) (ac : Option Addr) (lc cc : Nat) (af : Option Addr) (lf cf : Nat) (hs1 : 1 + d.size ≤ 1000000) (hn : n₀ ≤ w.heap.size) (hS : IsSg n₀ w s ac lc cc af lf cf) (hL1 : Lies n₀ w d) :
    Calls Try.prog 4 #[.agg #[.slice ac lc cc, .slice af lf cf], .agg #[.int .i64 d.op, .int .i64 d.n, .slice d.a d.l d.c]] w fun e w' =>
      e = .returned (.tuple #[.bool (isValA s d), .bool (isValB s d), .int .i64 (errOf (checkB s [d]))]) ∧ Below w.heap.size w w' := by
  obtain ⟨W0, hW0⟩ : ∃ W0, W0 = (w.alloc (bs 27 ac lc cc af lf cf)).alloc (bx d) := ⟨_, rfl⟩
  have hB0 : Below w.heap.size w W0 := by rw [hW0]; go_grown
  have hz0 : W0.heap.size = w.heap.size + 1 + 1 := by rw [hW0]; simp
  have hl1 := hL1.below (hB0.mono hn)
  have hC := Check_any s d n₀ W0 ac lc cc af lf cf hs1 (by omega) (hS.below (hB0.mono hn)) hl1
  have a0 : W0.cell? ⟨w.heap.size + 1, 0, none⟩ = some (.int .i64 d.op) := by rw [hW0]; go_cell
  have a1 : W0.cell? ⟨w.heap.size + 1, 1, none⟩ = some (.int .i64 d.n) := by rw [hW0]; go_cell
  have a2 : W0.cell? ⟨w.heap.size + 1, 2, none⟩ = some (.slice d.a d.l d.c) := by rw [hW0]; go_cell
  have hV := fun (W : World) (hb : Below W0.heap.size W0 W) => isValue_any d n₀ W hs1 (by have := hb.size; omega) (hl1.below (hb.mono (by omega)))
  have hG := fun (W : World) (hb : Below W0.heap.size W0 W) => isGround_any d n₀ W hs1 (by have := hb.size; omega) (hl1.below (hb.mono (by omega)))
  cases hv : checkB s [d]
  · rw [hv] at hC
    have hv1 : Hid (isValA s d = false) := Lib.hid (by unfold isValA; rw [hv]; rfl)
    have hv2 : Hid (isValB s d = false) := Lib.hid (by unfold isValB; rw [hv1.out]; rfl)
    rw [hW0] at hC
    replace hC := Lib.hid hC
    have he : errOf false = 2 := rfl
    clear a0 a1 a2 hV hG hl1 hL1 hS hv
    go_enter Try.func4, Try.ntmps4
    go_wp2_with (go_at_call 19; refine (hC.out).mono ?_; rintro e w1 ⟨rfl, hbe⟩)
    go_ret3
    rw [hW0] at hB0
    exact ⟨by rw [hv1.out, hv2.out]; rfl, hB0.trans (hbe.mono (by simp; omega))⟩
  · rw [hv] at hC
    rw [hW0] at hC
    replace hC := Lib.hid hC
    replace hV := Lib.hid hV
    replace hG := Lib.hid hG
    have he : errOf true = 0 := rfl
    have hv1 : Hid (isValA s d = valueB d.tm) := Lib.hid (by unfold isValA; rw [hv]; rfl)
    clear hl1 hL1 hS hv
    cases hb : valueB d.tm
    · have hVf := hV.out
      rw [hb] at hVf hv1
      replace hVf := Lib.hid hVf
      have hv2 : Hid (isValB s d = false) := Lib.hid (by unfold isValB; rw [hv1.out]; rfl)
      clear hb
      go_enter Try.func4, Try.ntmps4
      go_wp2_with (first
        | (go_at_call 19; refine (hC.out).mono ?_; rintro e w1 ⟨rfl, hbe⟩
           have hb2 := Lib.hid (show Below W0.heap.size W0 w1 from by rw [hW0]; exact hbe)
           have a0' := (hb2.out.cell (p := ⟨w.heap.size + 1, 0, none⟩) (by simp; omega)).trans a0
           have a1' := (hb2.out.cell (p := ⟨w.heap.size + 1, 1, none⟩) (by simp; omega)).trans a1
           have a2' := (hb2.out.cell (p := ⟨w.heap.size + 1, 2, none⟩) (by simp; omega)).trans a2)
        | (go_at_call 20; refine (hVf.out _ hb2.out).mono ?_; rintro e w2 ⟨rfl, hbe2⟩))
      go_ret3
      exact ⟨by rw [hv1.out, hv2.out]; rfl, hB0.trans ((hb2.out.mono (by omega)).trans (hbe2.mono (by have := hb2.out.size; omega)))⟩
    · have hVf := hV.out
      rw [hb] at hVf hv1
      replace hVf := Lib.hid hVf
      have hv2 : Hid (isValB s d = groundB d.tm) := Lib.hid (by unfold isValB; rw [hv1.out]; rfl)
      clear hb
      go_enter Try.func4, Try.ntmps4
      go_wp2_with (first
        | (go_at_call 19; refine (hC.out).mono ?_; rintro e w1 ⟨rfl, hbe⟩
           have hb2 := Lib.hid (show Below W0.heap.size W0 w1 from by rw [hW0]; exact hbe)
           have a0' := (hb2.out.cell (p := ⟨w.heap.size + 1, 0, none⟩) (by simp; omega)).trans a0
           have a1' := (hb2.out.cell (p := ⟨w.heap.size + 1, 1, none⟩) (by simp; omega)).trans a1
           have a2' := (hb2.out.cell (p := ⟨w.heap.size + 1, 2, none⟩) (by simp; omega)).trans a2)
        | (go_at_call 20; refine (hVf.out _ hb2.out).mono ?_; rintro e w2 ⟨rfl, hbe2⟩
           have hb3 := Lib.hid (hb2.out.trans (hbe2.mono hb2.out.size))
           have a0' := (hb3.out.cell (p := ⟨w.heap.size + 1, 0, none⟩) (by simp; omega)).trans a0
           have a1' := (hb3.out.cell (p := ⟨w.heap.size + 1, 1, none⟩) (by simp; omega)).trans a1
           have a2' := (hb3.out.cell (p := ⟨w.heap.size + 1, 2, none⟩) (by simp; omega)).trans a2)
        | (go_at_call 21; refine (hG.out _ hb3.out).mono ?_; rintro e w3 ⟨rfl, hbe3⟩))
      go_ret3
      exact ⟨by rw [hv1.out, hv2.out]; rfl, hB0.trans ((hb3.out.mono (by omega)).trans (hbe3.mono (by have := hb3.out.size; omega)))⟩

end Go.Proofs.Ythlegfegkopdkaa
