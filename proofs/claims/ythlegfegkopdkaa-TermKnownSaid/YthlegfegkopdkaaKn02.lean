/- Own text, joined of: C1.  -/
import Derived.Test.YthlegfegkopdkaaProg
import Derived.BigQuiet
import Derived.Deep.QuietTactic
import Derived.Outline
import Derived.LoopTactic
import Derived.IntWalk
import Derived.Handy
import Derived.StillTailTactics
import Derived.Test.YthlegfegkopdkaaKn00

namespace Go.Proofs.Ythlegfegkopdkaa
open Go.RowKit

set_option maxRecDepth 100000 in
set_option maxHeartbeats 1000000 in
theorem all_any (g : Nat) (cap : Array Value) (eg : ∀ args w, (callFunc g args).run Try.prog w = .ok (.enter g args) w)
    (ds : List DT) (a : Option Addr) (c : Nat) (hc1 : ds.length ≤ c) (hc2 : c ≤ 9223372036854775807)
    (Inv : Nat → World → Prop) (Stop : World → Prop) (hal : ∀ k W o, Inv k W → Inv k (W.alloc o))
    (hcell : ∀ k W (h : k < ds.length), Inv k W → ∃ b off, a = some ⟨b, off, none⟩ ∧ Cells3 W b (off + k * 3) ds[k].op ds[k].n ds[k].a ds[k].l ds[k].c)
    (hf : ∀ k (h : k < ds.length) W, Inv k W → Calls Try.prog g (#[.agg #[.int .i64 ds[k].op, .int .i64 ds[k].n, .slice ds[k].a ds[k].l ds[k].c]] ++ cap) W fun e W' => (e = .returned (.bool true) ∧ Inv (k + 1) W') ∨ (e = .returned (.bool false) ∧ Stop W'))
    (W : World) (h0 : Inv 0 W) :
    Calls Try.prog 50 #[.slice a ds.length c, .func (.func g) #[] cap] W fun e W' => (e = .returned (.bool true) ∧ Inv ds.length W') ∨ (e = .returned (.bool false) ∧ Stop W') := by
  replace hf := Lib.hid hf
  replace hcell := Lib.hid hcell
  replace h0 := Lib.hid h0
  replace hal := Lib.hid hal
  go_enter Try.func50, Try.ntmps50
  go_wp2_with fail
  go_loopw [6, 9] (fun _ i wr => ∃ k : Nat, k ≤ ds.length ∧ i = .int .i64 k ∧ Hid (Inv k wr)) (fun _ i _ => ds.length - (intOf i).toNat)
  case atStart => exact ⟨0, by omega, rfl, h0⟩
  case round =>
    obtain ⟨k, hk1, rfl, hI⟩ := hrel
    by_cases hlt : k < ds.length
    · obtain ⟨b, off, rfl, d0, d1, d2⟩ := hcell.out k wr hlt hI.out
      have hC := Lib.hid (hf.out k hlt _ (hal.out k wr (.cells #[.int .i64 ds[k].op, .int .i64 ds[k].n, .slice ds[k].a ds[k].l ds[k].c] 32) hI.out))
      go_wp2_with fail
      refine (hC.out).mono ?_
      rintro e W' (⟨rfl, hI'⟩ | ⟨rfl, hS'⟩)
      · replace hI' := Lib.hid hI'
        go_wp2_with fail
        go_roundw
        case rel => exact ⟨k + 1, by omega, by go_num, hI'⟩
        case measure => simp [intOf]; omega
      · replace hS' := Lib.hid hS'
        go_wp2_with fail
        go_ret
        exact .inr ⟨rfl, hS'.out⟩
    · have : k = ds.length := by omega
      subst this
      go_wp2_with fail
      go_ret
      exact .inl ⟨rfl, hI.out⟩

end Go.Proofs.Ythlegfegkopdkaa
