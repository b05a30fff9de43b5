/- Own text, joined of: K5 K6 K7. The chapter's examples are as they say: the walk of 'known'. · The chapter's other examples: the calls' contracts at them. · The chapter's other examples are as they say: the walk of 'TermKnown'. -/
import Derived.Test.YthlegfegkopdkaaKn27

namespace Go.Proofs.Ythlegfegkopdkaa
open Go.RowKit Go.Shelf Go.Sort

theorem region_named {P : Program} {ops : Array Oper} {Q : Exit → Act → World → Prop} {S : World → Prop} {id : Nat} {a : Act} {w : World} (hm : P.follows .mixedOrders = true)
    (h : ∀ w1, w1 = w.drew → wpAnyH P .any ops Q S ops.size (Array.replicate ops.size false) a w1) : (Code.region id ops true).wp P Q a w := wp_region_held hm (h _ rfl)

set_option maxRecDepth 100000 in
set_option maxHeartbeats 16000000 in
theorem known_any (w : World) : Calls Try.prog 18 #[] w fun e w' => e = .returned (.bool true) ∧ Below w.heap.size w w' := by
  have hb : Hid (Below w.heap.size w w) := Below.refl _ _
  go_enter Try.func18, Try.ntmps18
  go_wp2_with fail
  refine (kS _).mono ?_
  rintro e w1 ⟨A0, B0, rfl, hS', hn⟩
  replace hb := Lib.hid (Below.up hb.out hn.out)
  clear hn
  have hS := hS'
  clear hS'
  go_wp2_with fail
  refine (kv 0 _).mono ?_
  rintro e w2 ⟨rfl, hn⟩
  replace hS := Lib.hid (hS.out.up hn.out)
  replace hb := Lib.hid (Below.up hb.out hn.out)
  clear hn
  go_wp2_with fail
  refine (kv 1 _).mono ?_
  rintro e w3 ⟨rfl, hn⟩
  replace hS := Lib.hid (hS.out.up hn.out)
  replace hb := Lib.hid (Below.up hb.out hn.out)
  clear hn
  have hL : Hid (Liv (w3.alloc (.cells #[.int .i64 1, .int .i64 0, .slice none 0 0, .int .i64 1, .int .i64 1, .slice none 0 0] 32)) (dP 3 5 w3.heap.size (dN 1 0) (dN 1 1))) := Lib.hid (Liv.P 3 5 (Liv.N _ 1 0) (Liv.N _ 1 1))
  replace hS := Lib.hid (hS.out.up (bal w3 (.cells #[.int .i64 1, .int .i64 0, .slice none 0 0, .int .i64 1, .int .i64 1, .slice none 0 0] 32)))
  replace hb := Lib.hid (Below.up hb.out (bal w3 (.cells #[.int .i64 1, .int .i64 0, .slice none 0 0, .int .i64 1, .int .i64 1, .slice none 0 0] 32)))
  go_wp2_with fail
  refine (kcon 5 (some ⟨w3.heap.size, 0, none⟩) 2 2 _).mono ?_
  rintro e w4 ⟨rfl, hn⟩
  replace hS := Lib.hid (hS.out.up hn.out)
  replace hL := Lib.hid (hL.out.up hn.out)
  replace hb := Lib.hid (Below.up hb.out hn.out)
  clear hn
  go_wp2_with fail
  refine (kCheck (dP 3 5 w3.heap.size (dN 1 0) (dN 1 1)) (by simp [DT.size, dsizes]) hS hL 0 rfl).mono ?_
  rintro e w5 ⟨rfl, hn⟩
  replace hS := Lib.hid (hS.out.up hn.out)
  replace hL := Lib.hid (hL.out.up hn.out)
  replace hb := Lib.hid (Below.up hb.out hn.out)
  clear hn
  clear hS hL
  go_wp2_with fail
  refine (kS _).mono ?_
  rintro e w6 ⟨A5, B5, rfl, hS', hn⟩
  replace hb := Lib.hid (Below.up hb.out hn.out)
  clear hn
  have hS := hS'
  clear hS'
  go_wp2_with fail
  refine (kv 0 _).mono ?_
  rintro e w7 ⟨rfl, hn⟩
  replace hS := Lib.hid (hS.out.up hn.out)
  replace hb := Lib.hid (Below.up hb.out hn.out)
  clear hn
  have hL : Hid (Liv (w7.alloc (.cells #[.int .i64 1, .int .i64 0, .slice none 0 0] 32)) (dS 3 5 w7.heap.size (dN 1 0))) := Lib.hid (Liv.S 3 5 (Liv.N _ 1 0))
  replace hS := Lib.hid (hS.out.up (bal w7 (.cells #[.int .i64 1, .int .i64 0, .slice none 0 0] 32)))
  replace hb := Lib.hid (Below.up hb.out (bal w7 (.cells #[.int .i64 1, .int .i64 0, .slice none 0 0] 32)))
  go_wp2_with fail
  refine (kcon 5 (some ⟨w7.heap.size, 0, none⟩) 1 1 _).mono ?_
  rintro e w8 ⟨rfl, hn⟩
  replace hS := Lib.hid (hS.out.up hn.out)
  replace hL := Lib.hid (hL.out.up hn.out)
  replace hb := Lib.hid (Below.up hb.out hn.out)
  clear hn
  go_wp2_with fail
  refine (kCheck (dS 3 5 w7.heap.size (dN 1 0)) (by simp [DT.size, dsizes]) hS hL 2 rfl).mono ?_
  rintro e w9 ⟨rfl, hn⟩
  replace hS := Lib.hid (hS.out.up hn.out)
  replace hL := Lib.hid (hL.out.up hn.out)
  replace hb := Lib.hid (Below.up hb.out hn.out)
  clear hn
  clear hS hL
  go_wp2_with fail
  refine (kS _).mono ?_
  rintro e w10 ⟨A9, B9, rfl, hS', hn⟩
  replace hb := Lib.hid (Below.up hb.out hn.out)
  clear hn
  have hS := hS'
  clear hS'
  go_wp2_with fail
  refine (knode 5 1 none 0 0 _).mono ?_
  rintro e w11 ⟨rfl, hn⟩
  replace hS := Lib.hid (hS.out.up hn.out)
  replace hb := Lib.hid (Below.up hb.out hn.out)
  clear hn
  have hL := Lib.hid (Liv.N w11 5 1)
  go_wp2_with fail
  refine (kCheck (dN 5 1) (by simp [DT.size, dsizes]) hS hL 2 rfl).mono ?_
  rintro e w12 ⟨rfl, hn⟩
  replace hS := Lib.hid (hS.out.up hn.out)
  replace hL := Lib.hid (hL.out.up hn.out)
  replace hb := Lib.hid (Below.up hb.out hn.out)
  clear hn
  clear hS hL
  go_wp2_with fail
  refine (kS _).mono ?_
  rintro e w13 ⟨A12, B12, rfl, hS', hn⟩
  replace hb := Lib.hid (Below.up hb.out hn.out)
  clear hn
  have hS := hS'
  clear hS'
  go_wp2_with fail
  refine (kv 1 _).mono ?_
  rintro e w14 ⟨rfl, hn⟩
  replace hS := Lib.hid (hS.out.up hn.out)
  replace hb := Lib.hid (Below.up hb.out hn.out)
  clear hn
  go_wp2_with fail
  refine (kv 0 _).mono ?_
  rintro e w15 ⟨rfl, hn⟩
  replace hS := Lib.hid (hS.out.up hn.out)
  replace hb := Lib.hid (Below.up hb.out hn.out)
  clear hn
  go_wp2_with fail
  refine (kv 2 _).mono ?_
  rintro e w16 ⟨rfl, hn⟩
  replace hS := Lib.hid (hS.out.up hn.out)
  replace hb := Lib.hid (Below.up hb.out hn.out)
  clear hn
  have hL1 : Hid (Liv (w16.alloc (.cells #[.int .i64 1, .int .i64 0, .slice none 0 0, .int .i64 1, .int .i64 2, .slice none 0 0] 32)) (dP 3 5 w16.heap.size (dN 1 0) (dN 1 2))) := Lib.hid (Liv.P 3 5 (Liv.N _ 1 0) (Liv.N _ 1 2))
  replace hS := Lib.hid (hS.out.up (bal w16 (.cells #[.int .i64 1, .int .i64 0, .slice none 0 0, .int .i64 1, .int .i64 2, .slice none 0 0] 32)))
  replace hb := Lib.hid (Below.up hb.out (bal w16 (.cells #[.int .i64 1, .int .i64 0, .slice none 0 0, .int .i64 1, .int .i64 2, .slice none 0 0] 32)))
  go_wp2_with fail
  refine (kcon 5 (some ⟨w16.heap.size, 0, none⟩) 2 2 _).mono ?_
  rintro e w17 ⟨rfl, hn⟩
  replace hS := Lib.hid (hS.out.up hn.out)
  replace hL1 := Lib.hid (hL1.out.up hn.out)
  replace hb := Lib.hid (Below.up hb.out hn.out)
  clear hn
  have hL : Hid (Liv (w17.alloc (.cells #[.int .i64 1, .int .i64 1, .slice none 0 0, .int .i64 3, .int .i64 5, .slice (some ⟨w16.heap.size, 0, none⟩) 2 2] 32)) (dP 8 0 w17.heap.size (dN 1 1) (dP 3 5 w16.heap.size (dN 1 0) (dN 1 2)))) := Lib.hid (Liv.P 8 0 (Liv.N _ 1 1) hL1.out)
  clear hL1
  replace hS := Lib.hid (hS.out.up (bal w17 (.cells #[.int .i64 1, .int .i64 1, .slice none 0 0, .int .i64 3, .int .i64 5, .slice (some ⟨w16.heap.size, 0, none⟩) 2 2] 32)))
  replace hb := Lib.hid (Below.up hb.out (bal w17 (.cells #[.int .i64 1, .int .i64 1, .slice none 0 0, .int .i64 3, .int .i64 5, .slice (some ⟨w16.heap.size, 0, none⟩) 2 2] 32)))
  go_wp2_with fail
  refine (knode 8 0 (some ⟨w17.heap.size, 0, none⟩) 2 2 _).mono ?_
  rintro e w18 ⟨rfl, hn⟩
  replace hS := Lib.hid (hS.out.up hn.out)
  replace hL := Lib.hid (hL.out.up hn.out)
  replace hb := Lib.hid (Below.up hb.out hn.out)
  clear hn
  go_wp2_with fail
  refine (kVars (w16.heap.size) (w17.heap.size) hS hL).mono ?_
  rintro e w19 ⟨va1, vl1, vc1, rfl, hI1, hn⟩
  replace hS := Lib.hid (hS.out.up hn.out)
  replace hL := Lib.hid (hL.out.up hn.out)
  replace hb := Lib.hid (Below.up hb.out hn.out)
  clear hn
  clear hS hL
  replace hI1 : Hid (Iv w19 [1, 2] va1 vl1 vc1) := hI1
  go_wp2_with fail
  refine (kS _).mono ?_
  rintro e w20 ⟨A19, B19, rfl, hS', hn⟩
  replace hI1 := Lib.hid (hI1.out.up hn.out)
  replace hb := Lib.hid (Below.up hb.out hn.out)
  clear hn
  have hS := hS'
  clear hS'
  go_wp2_with fail
  refine (kv 1 _).mono ?_
  rintro e w21 ⟨rfl, hn⟩
  replace hI1 := Lib.hid (hI1.out.up hn.out)
  replace hS := Lib.hid (hS.out.up hn.out)
  replace hb := Lib.hid (Below.up hb.out hn.out)
  clear hn
  go_wp2_with fail
  refine (kv 0 _).mono ?_
  rintro e w22 ⟨rfl, hn⟩
  replace hI1 := Lib.hid (hI1.out.up hn.out)
  replace hS := Lib.hid (hS.out.up hn.out)
  replace hb := Lib.hid (Below.up hb.out hn.out)
  clear hn
  go_wp2_with fail
  refine (kv 2 _).mono ?_
  rintro e w23 ⟨rfl, hn⟩
  replace hI1 := Lib.hid (hI1.out.up hn.out)
  replace hS := Lib.hid (hS.out.up hn.out)
  replace hb := Lib.hid (Below.up hb.out hn.out)
  clear hn
  have hL1 : Hid (Liv (w23.alloc (.cells #[.int .i64 1, .int .i64 0, .slice none 0 0, .int .i64 1, .int .i64 2, .slice none 0 0] 32)) (dP 3 5 w23.heap.size (dN 1 0) (dN 1 2))) := Lib.hid (Liv.P 3 5 (Liv.N _ 1 0) (Liv.N _ 1 2))
  replace hI1 := Lib.hid (hI1.out.up (bal w23 (.cells #[.int .i64 1, .int .i64 0, .slice none 0 0, .int .i64 1, .int .i64 2, .slice none 0 0] 32)))
  replace hS := Lib.hid (hS.out.up (bal w23 (.cells #[.int .i64 1, .int .i64 0, .slice none 0 0, .int .i64 1, .int .i64 2, .slice none 0 0] 32)))
  replace hb := Lib.hid (Below.up hb.out (bal w23 (.cells #[.int .i64 1, .int .i64 0, .slice none 0 0, .int .i64 1, .int .i64 2, .slice none 0 0] 32)))
  go_wp2_with fail
  refine (kcon 5 (some ⟨w23.heap.size, 0, none⟩) 2 2 _).mono ?_
  rintro e w24 ⟨rfl, hn⟩
  replace hI1 := Lib.hid (hI1.out.up hn.out)
  replace hS := Lib.hid (hS.out.up hn.out)
  replace hL1 := Lib.hid (hL1.out.up hn.out)
  replace hb := Lib.hid (Below.up hb.out hn.out)
  clear hn
  have hL : Hid (Liv (w24.alloc (.cells #[.int .i64 1, .int .i64 1, .slice none 0 0, .int .i64 3, .int .i64 5, .slice (some ⟨w23.heap.size, 0, none⟩) 2 2] 32)) (dP 8 0 w24.heap.size (dN 1 1) (dP 3 5 w23.heap.size (dN 1 0) (dN 1 2)))) := Lib.hid (Liv.P 8 0 (Liv.N _ 1 1) hL1.out)
  clear hL1
  replace hI1 := Lib.hid (hI1.out.up (bal w24 (.cells #[.int .i64 1, .int .i64 1, .slice none 0 0, .int .i64 3, .int .i64 5, .slice (some ⟨w23.heap.size, 0, none⟩) 2 2] 32)))
  replace hS := Lib.hid (hS.out.up (bal w24 (.cells #[.int .i64 1, .int .i64 1, .slice none 0 0, .int .i64 3, .int .i64 5, .slice (some ⟨w23.heap.size, 0, none⟩) 2 2] 32)))
  replace hb := Lib.hid (Below.up hb.out (bal w24 (.cells #[.int .i64 1, .int .i64 1, .slice none 0 0, .int .i64 3, .int .i64 5, .slice (some ⟨w23.heap.size, 0, none⟩) 2 2] 32)))
  go_wp2_with fail
  refine (knode 8 0 (some ⟨w24.heap.size, 0, none⟩) 2 2 _).mono ?_
  rintro e w25 ⟨rfl, hn⟩
  replace hI1 := Lib.hid (hI1.out.up hn.out)
  replace hS := Lib.hid (hS.out.up hn.out)
  replace hL := Lib.hid (hL.out.up hn.out)
  replace hb := Lib.hid (Below.up hb.out hn.out)
  clear hn
  go_wp2_with fail
  refine (kv 0 _).mono ?_
  rintro e w26 ⟨rfl, hn⟩
  replace hI1 := Lib.hid (hI1.out.up hn.out)
  replace hS := Lib.hid (hS.out.up hn.out)
  replace hL := Lib.hid (hL.out.up hn.out)
  replace hb := Lib.hid (Below.up hb.out hn.out)
  clear hn
  have hM : Hid (Liv (w26.alloc (.cells #[.int .i64 1, .int .i64 0, .slice none 0 0] 32)) (dS 3 3 w26.heap.size (dN 1 0))) := Lib.hid (Liv.S 3 3 (Liv.N _ 1 0))
  replace hI1 := Lib.hid (hI1.out.up (bal w26 (.cells #[.int .i64 1, .int .i64 0, .slice none 0 0] 32)))
  replace hS := Lib.hid (hS.out.up (bal w26 (.cells #[.int .i64 1, .int .i64 0, .slice none 0 0] 32)))
  replace hL := Lib.hid (hL.out.up (bal w26 (.cells #[.int .i64 1, .int .i64 0, .slice none 0 0] 32)))
  replace hb := Lib.hid (Below.up hb.out (bal w26 (.cells #[.int .i64 1, .int .i64 0, .slice none 0 0] 32)))
  go_wp2_with fail
  refine (kcon 3 (some ⟨w26.heap.size, 0, none⟩) 1 1 _).mono ?_
  rintro e w27 ⟨rfl, hn⟩
  replace hI1 := Lib.hid (hI1.out.up hn.out)
  replace hS := Lib.hid (hS.out.up hn.out)
  replace hL := Lib.hid (hL.out.up hn.out)
  replace hM := Lib.hid (hM.out.up hn.out)
  replace hb := Lib.hid (Below.up hb.out hn.out)
  clear hn
  have hP : Hid (LbV (w27.alloc (.cells #[.int .i64 2, .int .i64 3, .int .i64 3, .slice (some ⟨w26.heap.size, 0, none⟩) 1 1] 38)) (b4 w26.heap.size) (some ⟨w27.heap.size, 0, none⟩) 1 1) := Lib.hid (LbV.one 2 hM.out)
  clear hM
  replace hI1 := Lib.hid (hI1.out.up (bal w27 (.cells #[.int .i64 2, .int .i64 3, .int .i64 3, .slice (some ⟨w26.heap.size, 0, none⟩) 1 1] 38)))
  replace hS := Lib.hid (hS.out.up (bal w27 (.cells #[.int .i64 2, .int .i64 3, .int .i64 3, .slice (some ⟨w26.heap.size, 0, none⟩) 1 1] 38)))
  replace hL := Lib.hid (hL.out.up (bal w27 (.cells #[.int .i64 2, .int .i64 3, .int .i64 3, .slice (some ⟨w26.heap.size, 0, none⟩) 1 1] 38)))
  replace hb := Lib.hid (Below.up hb.out (bal w27 (.cells #[.int .i64 2, .int .i64 3, .int .i64 3, .slice (some ⟨w26.heap.size, 0, none⟩) 1 1] 38)))
  go_wp2_with fail
  refine (kSubst (w23.heap.size) (w24.heap.size) (w27.heap.size) (w26.heap.size) hS hL hP).mono ?_
  rintro e w28 ⟨a4, l4, c4, rfl, hT4, hn⟩
  replace hI1 := Lib.hid (hI1.out.up hn.out)
  replace hS := Lib.hid (hS.out.up hn.out)
  replace hL := Lib.hid (hL.out.up hn.out)
  replace hP := Lib.hid (hP.out.up hn.out)
  replace hb := Lib.hid (Below.up hb.out hn.out)
  clear hn
  clear hS hL hP
  have hA4 : Hid (BxV (w28.alloc (.cells #[.int .i64 8, .int .i64 3, .slice a4 l4 c4] 32)) (w28.heap.size) (.int .i64 8) (.int .i64 3) (.slice a4 l4 c4)) := Lib.hid (heap_new' _ rfl)
  replace hI1 := Lib.hid (hI1.out.up (bal w28 (.cells #[.int .i64 8, .int .i64 3, .slice a4 l4 c4] 32)))
  replace hT4 := Lib.hid (hT4.out.up (bal w28 (.cells #[.int .i64 8, .int .i64 3, .slice a4 l4 c4] 32)))
  replace hb := Lib.hid (Below.up hb.out (bal w28 (.cells #[.int .i64 8, .int .i64 3, .slice a4 l4 c4] 32)))
  go_wp2_with fail
  refine (kS _).mono ?_
  rintro e w29 ⟨A28, B28, rfl, hS', hn⟩
  replace hI1 := Lib.hid (hI1.out.up hn.out)
  replace hT4 := Lib.hid (hT4.out.up hn.out)
  replace hA4 := Lib.hid (hA4.out.up hn.out)
  replace hb := Lib.hid (Below.up hb.out hn.out)
  clear hn
  have hS := hS'
  clear hS'
  go_wp2_with fail
  refine (kv 5 _).mono ?_
  rintro e w30 ⟨rfl, hn⟩
  replace hI1 := Lib.hid (hI1.out.up hn.out)
  replace hT4 := Lib.hid (hT4.out.up hn.out)
  replace hA4 := Lib.hid (hA4.out.up hn.out)
  replace hS := Lib.hid (hS.out.up hn.out)
  replace hb := Lib.hid (Below.up hb.out hn.out)
  clear hn
  go_wp2_with fail
  refine (kv 2 _).mono ?_
  rintro e w31 ⟨rfl, hn⟩
  replace hI1 := Lib.hid (hI1.out.up hn.out)
  replace hT4 := Lib.hid (hT4.out.up hn.out)
  replace hA4 := Lib.hid (hA4.out.up hn.out)
  replace hS := Lib.hid (hS.out.up hn.out)
  replace hb := Lib.hid (Below.up hb.out hn.out)
  clear hn
  go_wp2_with fail
  refine (kv 5 _).mono ?_
  rintro e w32 ⟨rfl, hn⟩
  replace hI1 := Lib.hid (hI1.out.up hn.out)
  replace hT4 := Lib.hid (hT4.out.up hn.out)
  replace hA4 := Lib.hid (hA4.out.up hn.out)
  replace hS := Lib.hid (hS.out.up hn.out)
  replace hb := Lib.hid (Below.up hb.out hn.out)
  clear hn
  have hL1 : Hid (Liv (w32.alloc (.cells #[.int .i64 1, .int .i64 2, .slice none 0 0, .int .i64 1, .int .i64 5, .slice none 0 0] 32)) (dP 8 5 w32.heap.size (dN 1 2) (dN 1 5))) := Lib.hid (Liv.P 8 5 (Liv.N _ 1 2) (Liv.N _ 1 5))
  replace hI1 := Lib.hid (hI1.out.up (bal w32 (.cells #[.int .i64 1, .int .i64 2, .slice none 0 0, .int .i64 1, .int .i64 5, .slice none 0 0] 32)))
  replace hT4 := Lib.hid (hT4.out.up (bal w32 (.cells #[.int .i64 1, .int .i64 2, .slice none 0 0, .int .i64 1, .int .i64 5, .slice none 0 0] 32)))
  replace hA4 := Lib.hid (hA4.out.up (bal w32 (.cells #[.int .i64 1, .int .i64 2, .slice none 0 0, .int .i64 1, .int .i64 5, .slice none 0 0] 32)))
  replace hS := Lib.hid (hS.out.up (bal w32 (.cells #[.int .i64 1, .int .i64 2, .slice none 0 0, .int .i64 1, .int .i64 5, .slice none 0 0] 32)))
  replace hb := Lib.hid (Below.up hb.out (bal w32 (.cells #[.int .i64 1, .int .i64 2, .slice none 0 0, .int .i64 1, .int .i64 5, .slice none 0 0] 32)))
  go_wp2_with fail
  refine (knode 8 5 (some ⟨w32.heap.size, 0, none⟩) 2 2 _).mono ?_
  rintro e w33 ⟨rfl, hn⟩
  replace hI1 := Lib.hid (hI1.out.up hn.out)
  replace hT4 := Lib.hid (hT4.out.up hn.out)
  replace hA4 := Lib.hid (hA4.out.up hn.out)
  replace hS := Lib.hid (hS.out.up hn.out)
  replace hL1 := Lib.hid (hL1.out.up hn.out)
  replace hb := Lib.hid (Below.up hb.out hn.out)
  clear hn
  have hL : Hid (Liv (w33.alloc (.cells #[.int .i64 1, .int .i64 5, .slice none 0 0, .int .i64 8, .int .i64 5, .slice (some ⟨w32.heap.size, 0, none⟩) 2 2] 32)) (dP 3 5 w33.heap.size (dN 1 5) (dP 8 5 w32.heap.size (dN 1 2) (dN 1 5)))) := Lib.hid (Liv.P 3 5 (Liv.N _ 1 5) hL1.out)
  clear hL1
  replace hI1 := Lib.hid (hI1.out.up (bal w33 (.cells #[.int .i64 1, .int .i64 5, .slice none 0 0, .int .i64 8, .int .i64 5, .slice (some ⟨w32.heap.size, 0, none⟩) 2 2] 32)))
  replace hT4 := Lib.hid (hT4.out.up (bal w33 (.cells #[.int .i64 1, .int .i64 5, .slice none 0 0, .int .i64 8, .int .i64 5, .slice (some ⟨w32.heap.size, 0, none⟩) 2 2] 32)))
  replace hA4 := Lib.hid (hA4.out.up (bal w33 (.cells #[.int .i64 1, .int .i64 5, .slice none 0 0, .int .i64 8, .int .i64 5, .slice (some ⟨w32.heap.size, 0, none⟩) 2 2] 32)))
  replace hS := Lib.hid (hS.out.up (bal w33 (.cells #[.int .i64 1, .int .i64 5, .slice none 0 0, .int .i64 8, .int .i64 5, .slice (some ⟨w32.heap.size, 0, none⟩) 2 2] 32)))
  replace hb := Lib.hid (Below.up hb.out (bal w33 (.cells #[.int .i64 1, .int .i64 5, .slice none 0 0, .int .i64 8, .int .i64 5, .slice (some ⟨w32.heap.size, 0, none⟩) 2 2] 32)))
  go_wp2_with fail
  refine (kcon 5 (some ⟨w33.heap.size, 0, none⟩) 2 2 _).mono ?_
  rintro e w34 ⟨rfl, hn⟩
  replace hI1 := Lib.hid (hI1.out.up hn.out)
  replace hT4 := Lib.hid (hT4.out.up hn.out)
  replace hA4 := Lib.hid (hA4.out.up hn.out)
  replace hS := Lib.hid (hS.out.up hn.out)
  replace hL := Lib.hid (hL.out.up hn.out)
  replace hb := Lib.hid (Below.up hb.out hn.out)
  clear hn
  go_wp2_with fail
  refine (kOrder (w32.heap.size) (w33.heap.size) hS hL).mono ?_
  rintro e w35 ⟨a5, l5, c5, rfl, hT5, hn⟩
  replace hI1 := Lib.hid (hI1.out.up hn.out)
  replace hT4 := Lib.hid (hT4.out.up hn.out)
  replace hA4 := Lib.hid (hA4.out.up hn.out)
  replace hS := Lib.hid (hS.out.up hn.out)
  replace hL := Lib.hid (hL.out.up hn.out)
  replace hb := Lib.hid (Below.up hb.out hn.out)
  clear hn
  clear hS hL
  have hA5 : Hid (BxV (w35.alloc (.cells #[.int .i64 3, .int .i64 5, .slice a5 l5 c5] 32)) (w35.heap.size) (.int .i64 3) (.int .i64 5) (.slice a5 l5 c5)) := Lib.hid (heap_new' _ rfl)
  replace hI1 := Lib.hid (hI1.out.up (bal w35 (.cells #[.int .i64 3, .int .i64 5, .slice a5 l5 c5] 32)))
  replace hT4 := Lib.hid (hT4.out.up (bal w35 (.cells #[.int .i64 3, .int .i64 5, .slice a5 l5 c5] 32)))
  replace hA4 := Lib.hid (hA4.out.up (bal w35 (.cells #[.int .i64 3, .int .i64 5, .slice a5 l5 c5] 32)))
  replace hT5 := Lib.hid (hT5.out.up (bal w35 (.cells #[.int .i64 3, .int .i64 5, .slice a5 l5 c5] 32)))
  replace hb := Lib.hid (Below.up hb.out (bal w35 (.cells #[.int .i64 3, .int .i64 5, .slice a5 l5 c5] 32)))
  go_wp2_with fail
  refine (kS _).mono ?_
  rintro e w36 ⟨A35, B35, rfl, hS', hn⟩
  replace hI1 := Lib.hid (hI1.out.up hn.out)
  replace hT4 := Lib.hid (hT4.out.up hn.out)
  replace hA4 := Lib.hid (hA4.out.up hn.out)
  replace hT5 := Lib.hid (hT5.out.up hn.out)
  replace hA5 := Lib.hid (hA5.out.up hn.out)
  replace hb := Lib.hid (Below.up hb.out hn.out)
  clear hn
  have hS := hS'
  clear hS'
  go_wp2_with fail
  refine (kv 0 _).mono ?_
  rintro e w37 ⟨rfl, hn⟩
  replace hI1 := Lib.hid (hI1.out.up hn.out)
  replace hT4 := Lib.hid (hT4.out.up hn.out)
  replace hA4 := Lib.hid (hA4.out.up hn.out)
  replace hT5 := Lib.hid (hT5.out.up hn.out)
  replace hA5 := Lib.hid (hA5.out.up hn.out)
  replace hS := Lib.hid (hS.out.up hn.out)
  replace hb := Lib.hid (Below.up hb.out hn.out)
  clear hn
  go_wp2_with fail
  refine (kv 1 _).mono ?_
  rintro e w38 ⟨rfl, hn⟩
  replace hI1 := Lib.hid (hI1.out.up hn.out)
  replace hT4 := Lib.hid (hT4.out.up hn.out)
  replace hA4 := Lib.hid (hA4.out.up hn.out)
  replace hT5 := Lib.hid (hT5.out.up hn.out)
  replace hA5 := Lib.hid (hA5.out.up hn.out)
  replace hS := Lib.hid (hS.out.up hn.out)
  replace hb := Lib.hid (Below.up hb.out hn.out)
  clear hn
  have hL : Hid (Liv (w38.alloc (.cells #[.int .i64 1, .int .i64 0, .slice none 0 0, .int .i64 1, .int .i64 1, .slice none 0 0] 32)) (dP 3 5 w38.heap.size (dN 1 0) (dN 1 1))) := Lib.hid (Liv.P 3 5 (Liv.N _ 1 0) (Liv.N _ 1 1))
  replace hI1 := Lib.hid (hI1.out.up (bal w38 (.cells #[.int .i64 1, .int .i64 0, .slice none 0 0, .int .i64 1, .int .i64 1, .slice none 0 0] 32)))
  replace hT4 := Lib.hid (hT4.out.up (bal w38 (.cells #[.int .i64 1, .int .i64 0, .slice none 0 0, .int .i64 1, .int .i64 1, .slice none 0 0] 32)))
  replace hA4 := Lib.hid (hA4.out.up (bal w38 (.cells #[.int .i64 1, .int .i64 0, .slice none 0 0, .int .i64 1, .int .i64 1, .slice none 0 0] 32)))
  replace hT5 := Lib.hid (hT5.out.up (bal w38 (.cells #[.int .i64 1, .int .i64 0, .slice none 0 0, .int .i64 1, .int .i64 1, .slice none 0 0] 32)))
  replace hA5 := Lib.hid (hA5.out.up (bal w38 (.cells #[.int .i64 1, .int .i64 0, .slice none 0 0, .int .i64 1, .int .i64 1, .slice none 0 0] 32)))
  replace hS := Lib.hid (hS.out.up (bal w38 (.cells #[.int .i64 1, .int .i64 0, .slice none 0 0, .int .i64 1, .int .i64 1, .slice none 0 0] 32)))
  replace hb := Lib.hid (Below.up hb.out (bal w38 (.cells #[.int .i64 1, .int .i64 0, .slice none 0 0, .int .i64 1, .int .i64 1, .slice none 0 0] 32)))
  go_wp2_with fail
  refine (kcon 5 (some ⟨w38.heap.size, 0, none⟩) 2 2 _).mono ?_
  rintro e w39 ⟨rfl, hn⟩
  replace hI1 := Lib.hid (hI1.out.up hn.out)
  replace hT4 := Lib.hid (hT4.out.up hn.out)
  replace hA4 := Lib.hid (hA4.out.up hn.out)
  replace hT5 := Lib.hid (hT5.out.up hn.out)
  replace hA5 := Lib.hid (hA5.out.up hn.out)
  replace hS := Lib.hid (hS.out.up hn.out)
  replace hL := Lib.hid (hL.out.up hn.out)
  replace hb := Lib.hid (Below.up hb.out hn.out)
  clear hn
  go_wp2_with fail
  refine (kcon 2 none 0 0 _).mono ?_
  rintro e w40 ⟨rfl, hn⟩
  replace hI1 := Lib.hid (hI1.out.up hn.out)
  replace hT4 := Lib.hid (hT4.out.up hn.out)
  replace hA4 := Lib.hid (hA4.out.up hn.out)
  replace hT5 := Lib.hid (hT5.out.up hn.out)
  replace hA5 := Lib.hid (hA5.out.up hn.out)
  replace hS := Lib.hid (hS.out.up hn.out)
  replace hL := Lib.hid (hL.out.up hn.out)
  replace hb := Lib.hid (Below.up hb.out hn.out)
  clear hn
  go_wp2_with fail
  refine (kcon 4 none 0 0 _).mono ?_
  rintro e w41 ⟨rfl, hn⟩
  replace hI1 := Lib.hid (hI1.out.up hn.out)
  replace hT4 := Lib.hid (hT4.out.up hn.out)
  replace hA4 := Lib.hid (hA4.out.up hn.out)
  replace hT5 := Lib.hid (hT5.out.up hn.out)
  replace hA5 := Lib.hid (hA5.out.up hn.out)
  replace hS := Lib.hid (hS.out.up hn.out)
  replace hL := Lib.hid (hL.out.up hn.out)
  replace hb := Lib.hid (Below.up hb.out hn.out)
  clear hn
  have hM : Hid (Liv (w41.alloc (.cells #[.int .i64 3, .int .i64 2, .slice none 0 0, .int .i64 3, .int .i64 4, .slice none 0 0] 32)) (dP 3 5 w41.heap.size (dN 3 2) (dN 3 4))) := Lib.hid (Liv.P 3 5 (Liv.N _ 3 2) (Liv.N _ 3 4))
  replace hI1 := Lib.hid (hI1.out.up (bal w41 (.cells #[.int .i64 3, .int .i64 2, .slice none 0 0, .int .i64 3, .int .i64 4, .slice none 0 0] 32)))
  replace hT4 := Lib.hid (hT4.out.up (bal w41 (.cells #[.int .i64 3, .int .i64 2, .slice none 0 0, .int .i64 3, .int .i64 4, .slice none 0 0] 32)))
  replace hA4 := Lib.hid (hA4.out.up (bal w41 (.cells #[.int .i64 3, .int .i64 2, .slice none 0 0, .int .i64 3, .int .i64 4, .slice none 0 0] 32)))
  replace hT5 := Lib.hid (hT5.out.up (bal w41 (.cells #[.int .i64 3, .int .i64 2, .slice none 0 0, .int .i64 3, .int .i64 4, .slice none 0 0] 32)))
  replace hA5 := Lib.hid (hA5.out.up (bal w41 (.cells #[.int .i64 3, .int .i64 2, .slice none 0 0, .int .i64 3, .int .i64 4, .slice none 0 0] 32)))
  replace hS := Lib.hid (hS.out.up (bal w41 (.cells #[.int .i64 3, .int .i64 2, .slice none 0 0, .int .i64 3, .int .i64 4, .slice none 0 0] 32)))
  replace hL := Lib.hid (hL.out.up (bal w41 (.cells #[.int .i64 3, .int .i64 2, .slice none 0 0, .int .i64 3, .int .i64 4, .slice none 0 0] 32)))
  replace hb := Lib.hid (Below.up hb.out (bal w41 (.cells #[.int .i64 3, .int .i64 2, .slice none 0 0, .int .i64 3, .int .i64 4, .slice none 0 0] 32)))
  go_wp2_with fail
  refine (kcon 5 (some ⟨w41.heap.size, 0, none⟩) 2 2 _).mono ?_
  rintro e w42 ⟨rfl, hn⟩
  replace hI1 := Lib.hid (hI1.out.up hn.out)
  replace hT4 := Lib.hid (hT4.out.up hn.out)
  replace hA4 := Lib.hid (hA4.out.up hn.out)
  replace hT5 := Lib.hid (hT5.out.up hn.out)
  replace hA5 := Lib.hid (hA5.out.up hn.out)
  replace hS := Lib.hid (hS.out.up hn.out)
  replace hL := Lib.hid (hL.out.up hn.out)
  replace hM := Lib.hid (hM.out.up hn.out)
  replace hb := Lib.hid (Below.up hb.out hn.out)
  clear hn
  go_wp2_with fail
  refine (kMatch (w38.heap.size) (w41.heap.size) hS hL hM).mono ?_
  rintro e w43 ⟨va6, vl6, vc6, rfl, hB6, hn⟩
  replace hI1 := Lib.hid (hI1.out.up hn.out)
  replace hT4 := Lib.hid (hT4.out.up hn.out)
  replace hA4 := Lib.hid (hA4.out.up hn.out)
  replace hT5 := Lib.hid (hT5.out.up hn.out)
  replace hA5 := Lib.hid (hA5.out.up hn.out)
  replace hS := Lib.hid (hS.out.up hn.out)
  replace hL := Lib.hid (hL.out.up hn.out)
  replace hM := Lib.hid (hM.out.up hn.out)
  replace hb := Lib.hid (Below.up hb.out hn.out)
  clear hn
  clear hS hL hM
  go_wp2_with fail
  refine (kS _).mono ?_
  rintro e w44 ⟨A43, B43, rfl, hS', hn⟩
  replace hI1 := Lib.hid (hI1.out.up hn.out)
  replace hT4 := Lib.hid (hT4.out.up hn.out)
  replace hA4 := Lib.hid (hA4.out.up hn.out)
  replace hT5 := Lib.hid (hT5.out.up hn.out)
  replace hA5 := Lib.hid (hA5.out.up hn.out)
  replace hB6 := Lib.hid (hB6.out.up hn.out)
  replace hb := Lib.hid (Below.up hb.out hn.out)
  clear hn
  have hS := hS'
  clear hS'
  go_wp2_with fail
  refine (kv 0 _).mono ?_
  rintro e w45 ⟨rfl, hn⟩
  replace hI1 := Lib.hid (hI1.out.up hn.out)
  replace hT4 := Lib.hid (hT4.out.up hn.out)
  replace hA4 := Lib.hid (hA4.out.up hn.out)
  replace hT5 := Lib.hid (hT5.out.up hn.out)
  replace hA5 := Lib.hid (hA5.out.up hn.out)
  replace hB6 := Lib.hid (hB6.out.up hn.out)
  replace hS := Lib.hid (hS.out.up hn.out)
  replace hb := Lib.hid (Below.up hb.out hn.out)
  clear hn
  go_wp2_with fail
  refine (kv 1 _).mono ?_
  rintro e w46 ⟨rfl, hn⟩
  replace hI1 := Lib.hid (hI1.out.up hn.out)
  replace hT4 := Lib.hid (hT4.out.up hn.out)
  replace hA4 := Lib.hid (hA4.out.up hn.out)
  replace hT5 := Lib.hid (hT5.out.up hn.out)
  replace hA5 := Lib.hid (hA5.out.up hn.out)
  replace hB6 := Lib.hid (hB6.out.up hn.out)
  replace hS := Lib.hid (hS.out.up hn.out)
  replace hb := Lib.hid (Below.up hb.out hn.out)
  clear hn
  have hL : Hid (Liv (w46.alloc (.cells #[.int .i64 1, .int .i64 0, .slice none 0 0, .int .i64 1, .int .i64 1, .slice none 0 0] 32)) (dP 3 5 w46.heap.size (dN 1 0) (dN 1 1))) := Lib.hid (Liv.P 3 5 (Liv.N _ 1 0) (Liv.N _ 1 1))
  replace hI1 := Lib.hid (hI1.out.up (bal w46 (.cells #[.int .i64 1, .int .i64 0, .slice none 0 0, .int .i64 1, .int .i64 1, .slice none 0 0] 32)))
  replace hT4 := Lib.hid (hT4.out.up (bal w46 (.cells #[.int .i64 1, .int .i64 0, .slice none 0 0, .int .i64 1, .int .i64 1, .slice none 0 0] 32)))
  replace hA4 := Lib.hid (hA4.out.up (bal w46 (.cells #[.int .i64 1, .int .i64 0, .slice none 0 0, .int .i64 1, .int .i64 1, .slice none 0 0] 32)))
  replace hT5 := Lib.hid (hT5.out.up (bal w46 (.cells #[.int .i64 1, .int .i64 0, .slice none 0 0, .int .i64 1, .int .i64 1, .slice none 0 0] 32)))
  replace hA5 := Lib.hid (hA5.out.up (bal w46 (.cells #[.int .i64 1, .int .i64 0, .slice none 0 0, .int .i64 1, .int .i64 1, .slice none 0 0] 32)))
  replace hB6 := Lib.hid (hB6.out.up (bal w46 (.cells #[.int .i64 1, .int .i64 0, .slice none 0 0, .int .i64 1, .int .i64 1, .slice none 0 0] 32)))
  replace hS := Lib.hid (hS.out.up (bal w46 (.cells #[.int .i64 1, .int .i64 0, .slice none 0 0, .int .i64 1, .int .i64 1, .slice none 0 0] 32)))
  replace hb := Lib.hid (Below.up hb.out (bal w46 (.cells #[.int .i64 1, .int .i64 0, .slice none 0 0, .int .i64 1, .int .i64 1, .slice none 0 0] 32)))
  go_wp2_with fail
  refine (kcon 5 (some ⟨w46.heap.size, 0, none⟩) 2 2 _).mono ?_
  rintro e w47 ⟨rfl, hn⟩
  replace hI1 := Lib.hid (hI1.out.up hn.out)
  replace hT4 := Lib.hid (hT4.out.up hn.out)
  replace hA4 := Lib.hid (hA4.out.up hn.out)
  replace hT5 := Lib.hid (hT5.out.up hn.out)
  replace hA5 := Lib.hid (hA5.out.up hn.out)
  replace hB6 := Lib.hid (hB6.out.up hn.out)
  replace hS := Lib.hid (hS.out.up hn.out)
  replace hL := Lib.hid (hL.out.up hn.out)
  replace hb := Lib.hid (Below.up hb.out hn.out)
  clear hn
  go_wp2_with fail
  refine (kv 1 _).mono ?_
  rintro e w48 ⟨rfl, hn⟩
  replace hI1 := Lib.hid (hI1.out.up hn.out)
  replace hT4 := Lib.hid (hT4.out.up hn.out)
  replace hA4 := Lib.hid (hA4.out.up hn.out)
  replace hT5 := Lib.hid (hT5.out.up hn.out)
  replace hA5 := Lib.hid (hA5.out.up hn.out)
  replace hB6 := Lib.hid (hB6.out.up hn.out)
  replace hS := Lib.hid (hS.out.up hn.out)
  replace hL := Lib.hid (hL.out.up hn.out)
  replace hb := Lib.hid (Below.up hb.out hn.out)
  clear hn
  go_wp2_with fail
  refine (kcon 4 none 0 0 _).mono ?_
  rintro e w49 ⟨rfl, hn⟩
  replace hI1 := Lib.hid (hI1.out.up hn.out)
  replace hT4 := Lib.hid (hT4.out.up hn.out)
  replace hA4 := Lib.hid (hA4.out.up hn.out)
  replace hT5 := Lib.hid (hT5.out.up hn.out)
  replace hA5 := Lib.hid (hA5.out.up hn.out)
  replace hB6 := Lib.hid (hB6.out.up hn.out)
  replace hS := Lib.hid (hS.out.up hn.out)
  replace hL := Lib.hid (hL.out.up hn.out)
  replace hb := Lib.hid (Below.up hb.out hn.out)
  clear hn
  have hM : Hid (Liv (w49.alloc (.cells #[.int .i64 1, .int .i64 1, .slice none 0 0, .int .i64 3, .int .i64 4, .slice none 0 0] 32)) (dP 3 5 w49.heap.size (dN 1 1) (dN 3 4))) := Lib.hid (Liv.P 3 5 (Liv.N _ 1 1) (Liv.N _ 3 4))
  replace hI1 := Lib.hid (hI1.out.up (bal w49 (.cells #[.int .i64 1, .int .i64 1, .slice none 0 0, .int .i64 3, .int .i64 4, .slice none 0 0] 32)))
  replace hT4 := Lib.hid (hT4.out.up (bal w49 (.cells #[.int .i64 1, .int .i64 1, .slice none 0 0, .int .i64 3, .int .i64 4, .slice none 0 0] 32)))
  replace hA4 := Lib.hid (hA4.out.up (bal w49 (.cells #[.int .i64 1, .int .i64 1, .slice none 0 0, .int .i64 3, .int .i64 4, .slice none 0 0] 32)))
  replace hT5 := Lib.hid (hT5.out.up (bal w49 (.cells #[.int .i64 1, .int .i64 1, .slice none 0 0, .int .i64 3, .int .i64 4, .slice none 0 0] 32)))
  replace hA5 := Lib.hid (hA5.out.up (bal w49 (.cells #[.int .i64 1, .int .i64 1, .slice none 0 0, .int .i64 3, .int .i64 4, .slice none 0 0] 32)))
  replace hB6 := Lib.hid (hB6.out.up (bal w49 (.cells #[.int .i64 1, .int .i64 1, .slice none 0 0, .int .i64 3, .int .i64 4, .slice none 0 0] 32)))
  replace hS := Lib.hid (hS.out.up (bal w49 (.cells #[.int .i64 1, .int .i64 1, .slice none 0 0, .int .i64 3, .int .i64 4, .slice none 0 0] 32)))
  replace hL := Lib.hid (hL.out.up (bal w49 (.cells #[.int .i64 1, .int .i64 1, .slice none 0 0, .int .i64 3, .int .i64 4, .slice none 0 0] 32)))
  replace hb := Lib.hid (Below.up hb.out (bal w49 (.cells #[.int .i64 1, .int .i64 1, .slice none 0 0, .int .i64 3, .int .i64 4, .slice none 0 0] 32)))
  go_wp2_with fail
  refine (kcon 5 (some ⟨w49.heap.size, 0, none⟩) 2 2 _).mono ?_
  rintro e w50 ⟨rfl, hn⟩
  replace hI1 := Lib.hid (hI1.out.up hn.out)
  replace hT4 := Lib.hid (hT4.out.up hn.out)
  replace hA4 := Lib.hid (hA4.out.up hn.out)
  replace hT5 := Lib.hid (hT5.out.up hn.out)
  replace hA5 := Lib.hid (hA5.out.up hn.out)
  replace hB6 := Lib.hid (hB6.out.up hn.out)
  replace hS := Lib.hid (hS.out.up hn.out)
  replace hL := Lib.hid (hL.out.up hn.out)
  replace hM := Lib.hid (hM.out.up hn.out)
  replace hb := Lib.hid (Below.up hb.out hn.out)
  clear hn
  go_wp2_with fail
  refine (kUnify (dP 3 5 w46.heap.size (dN 1 0) (dN 1 1)) (dP 3 5 w49.heap.size (dN 1 1) (dN 3 4)) [(0, tc 4), (1, tc 4)] 0 (by simp [DT.size, dsizes]) (by simp [DT.size, dsizes]) hS hL hM (by rw [chkV]; rfl) (u7 (w46.heap.size) (w49.heap.size))).mono ?_
  rintro e w51 ⟨va7, vl7, vc7, rfl, hB7, hn⟩
  replace hI1 := Lib.hid (hI1.out.up hn.out)
  replace hT4 := Lib.hid (hT4.out.up hn.out)
  replace hA4 := Lib.hid (hA4.out.up hn.out)
  replace hT5 := Lib.hid (hT5.out.up hn.out)
  replace hA5 := Lib.hid (hA5.out.up hn.out)
  replace hB6 := Lib.hid (hB6.out.up hn.out)
  replace hS := Lib.hid (hS.out.up hn.out)
  replace hL := Lib.hid (hL.out.up hn.out)
  replace hM := Lib.hid (hM.out.up hn.out)
  replace hb := Lib.hid (Below.up hb.out hn.out)
  clear hn
  clear hS hL hM
  go_wp2_with fail
  refine (kS _).mono ?_
  rintro e w52 ⟨A51, B51, rfl, hS', hn⟩
  replace hI1 := Lib.hid (hI1.out.up hn.out)
  replace hT4 := Lib.hid (hT4.out.up hn.out)
  replace hA4 := Lib.hid (hA4.out.up hn.out)
  replace hT5 := Lib.hid (hT5.out.up hn.out)
  replace hA5 := Lib.hid (hA5.out.up hn.out)
  replace hB6 := Lib.hid (hB6.out.up hn.out)
  replace hB7 := Lib.hid (hB7.out.up hn.out)
  replace hb := Lib.hid (Below.up hb.out hn.out)
  clear hn
  have hS := hS'
  clear hS'
  go_wp2_with fail
  refine (kv 0 _).mono ?_
  rintro e w53 ⟨rfl, hn⟩
  replace hI1 := Lib.hid (hI1.out.up hn.out)
  replace hT4 := Lib.hid (hT4.out.up hn.out)
  replace hA4 := Lib.hid (hA4.out.up hn.out)
  replace hT5 := Lib.hid (hT5.out.up hn.out)
  replace hA5 := Lib.hid (hA5.out.up hn.out)
  replace hB6 := Lib.hid (hB6.out.up hn.out)
  replace hB7 := Lib.hid (hB7.out.up hn.out)
  replace hS := Lib.hid (hS.out.up hn.out)
  replace hb := Lib.hid (Below.up hb.out hn.out)
  clear hn
  go_wp2_with fail
  refine (kv 0 _).mono ?_
  rintro e w54 ⟨rfl, hn⟩
  replace hI1 := Lib.hid (hI1.out.up hn.out)
  replace hT4 := Lib.hid (hT4.out.up hn.out)
  replace hA4 := Lib.hid (hA4.out.up hn.out)
  replace hT5 := Lib.hid (hT5.out.up hn.out)
  replace hA5 := Lib.hid (hA5.out.up hn.out)
  replace hB6 := Lib.hid (hB6.out.up hn.out)
  replace hB7 := Lib.hid (hB7.out.up hn.out)
  replace hS := Lib.hid (hS.out.up hn.out)
  replace hb := Lib.hid (Below.up hb.out hn.out)
  clear hn
  have hM : Hid (Liv (w54.alloc (.cells #[.int .i64 1, .int .i64 0, .slice none 0 0] 32)) (dS 3 3 w54.heap.size (dN 1 0))) := Lib.hid (Liv.S 3 3 (Liv.N _ 1 0))
  replace hI1 := Lib.hid (hI1.out.up (bal w54 (.cells #[.int .i64 1, .int .i64 0, .slice none 0 0] 32)))
  replace hT4 := Lib.hid (hT4.out.up (bal w54 (.cells #[.int .i64 1, .int .i64 0, .slice none 0 0] 32)))
  replace hA4 := Lib.hid (hA4.out.up (bal w54 (.cells #[.int .i64 1, .int .i64 0, .slice none 0 0] 32)))
  replace hT5 := Lib.hid (hT5.out.up (bal w54 (.cells #[.int .i64 1, .int .i64 0, .slice none 0 0] 32)))
  replace hA5 := Lib.hid (hA5.out.up (bal w54 (.cells #[.int .i64 1, .int .i64 0, .slice none 0 0] 32)))
  replace hB6 := Lib.hid (hB6.out.up (bal w54 (.cells #[.int .i64 1, .int .i64 0, .slice none 0 0] 32)))
  replace hB7 := Lib.hid (hB7.out.up (bal w54 (.cells #[.int .i64 1, .int .i64 0, .slice none 0 0] 32)))
  replace hS := Lib.hid (hS.out.up (bal w54 (.cells #[.int .i64 1, .int .i64 0, .slice none 0 0] 32)))
  replace hb := Lib.hid (Below.up hb.out (bal w54 (.cells #[.int .i64 1, .int .i64 0, .slice none 0 0] 32)))
  go_wp2_with fail
  refine (kcon 3 (some ⟨w54.heap.size, 0, none⟩) 1 1 _).mono ?_
  rintro e w55 ⟨rfl, hn⟩
  replace hI1 := Lib.hid (hI1.out.up hn.out)
  replace hT4 := Lib.hid (hT4.out.up hn.out)
  replace hA4 := Lib.hid (hA4.out.up hn.out)
  replace hT5 := Lib.hid (hT5.out.up hn.out)
  replace hA5 := Lib.hid (hA5.out.up hn.out)
  replace hB6 := Lib.hid (hB6.out.up hn.out)
  replace hB7 := Lib.hid (hB7.out.up hn.out)
  replace hS := Lib.hid (hS.out.up hn.out)
  replace hM := Lib.hid (hM.out.up hn.out)
  replace hb := Lib.hid (Below.up hb.out hn.out)
  clear hn
  go_wp2_with fail
  refine (kUnify (dN 1 0) (dS 3 3 w54.heap.size (dN 1 0)) [] 5 (by simp [DT.size, dsizes]) (by simp [DT.size, dsizes]) hS (Liv.N _ 1 0) hM (by rw [chkV]; rfl) (u8 (w54.heap.size))).mono ?_
  rintro e w56 ⟨va8, vl8, vc8, rfl, hB8, hn⟩
  replace hI1 := Lib.hid (hI1.out.up hn.out)
  replace hT4 := Lib.hid (hT4.out.up hn.out)
  replace hA4 := Lib.hid (hA4.out.up hn.out)
  replace hT5 := Lib.hid (hT5.out.up hn.out)
  replace hA5 := Lib.hid (hA5.out.up hn.out)
  replace hB6 := Lib.hid (hB6.out.up hn.out)
  replace hB7 := Lib.hid (hB7.out.up hn.out)
  replace hS := Lib.hid (hS.out.up hn.out)
  replace hM := Lib.hid (hM.out.up hn.out)
  replace hb := Lib.hid (Below.up hb.out hn.out)
  clear hn
  clear hS hM
  clear hB8
  go_wp2_with fail
  refine (kS _).mono ?_
  rintro e w57 ⟨A56, B56, rfl, hS', hn⟩
  replace hI1 := Lib.hid (hI1.out.up hn.out)
  replace hT4 := Lib.hid (hT4.out.up hn.out)
  replace hA4 := Lib.hid (hA4.out.up hn.out)
  replace hT5 := Lib.hid (hT5.out.up hn.out)
  replace hA5 := Lib.hid (hA5.out.up hn.out)
  replace hB6 := Lib.hid (hB6.out.up hn.out)
  replace hB7 := Lib.hid (hB7.out.up hn.out)
  replace hb := Lib.hid (Below.up hb.out hn.out)
  clear hn
  have hS := hS'
  clear hS'
  go_wp2_with fail
  refine (kcon 2 none 0 0 _).mono ?_
  rintro e w58 ⟨rfl, hn⟩
  replace hI1 := Lib.hid (hI1.out.up hn.out)
  replace hT4 := Lib.hid (hT4.out.up hn.out)
  replace hA4 := Lib.hid (hA4.out.up hn.out)
  replace hT5 := Lib.hid (hT5.out.up hn.out)
  replace hA5 := Lib.hid (hA5.out.up hn.out)
  replace hB6 := Lib.hid (hB6.out.up hn.out)
  replace hB7 := Lib.hid (hB7.out.up hn.out)
  replace hS := Lib.hid (hS.out.up hn.out)
  replace hb := Lib.hid (Below.up hb.out hn.out)
  clear hn
  go_wp2_with fail
  refine (knode 2 7 none 0 0 _).mono ?_
  rintro e w59 ⟨rfl, hn⟩
  replace hI1 := Lib.hid (hI1.out.up hn.out)
  replace hT4 := Lib.hid (hT4.out.up hn.out)
  replace hA4 := Lib.hid (hA4.out.up hn.out)
  replace hT5 := Lib.hid (hT5.out.up hn.out)
  replace hA5 := Lib.hid (hA5.out.up hn.out)
  replace hB6 := Lib.hid (hB6.out.up hn.out)
  replace hB7 := Lib.hid (hB7.out.up hn.out)
  replace hS := Lib.hid (hS.out.up hn.out)
  replace hb := Lib.hid (Below.up hb.out hn.out)
  clear hn
  go_wp2_with fail
  refine (kCompare (dN 3 2) (dN 2 7) 1 (by simp [DT.size, dsizes]) (by simp [DT.size, dsizes]) hS (Liv.N _ 3 2) (Liv.N _ 2 7) (by rw [chkV]; rfl) rfl).mono ?_
  rintro e w60 ⟨rfl, hn⟩
  replace hI1 := Lib.hid (hI1.out.up hn.out)
  replace hT4 := Lib.hid (hT4.out.up hn.out)
  replace hA4 := Lib.hid (hA4.out.up hn.out)
  replace hT5 := Lib.hid (hT5.out.up hn.out)
  replace hA5 := Lib.hid (hA5.out.up hn.out)
  replace hB6 := Lib.hid (hB6.out.up hn.out)
  replace hB7 := Lib.hid (hB7.out.up hn.out)
  replace hS := Lib.hid (hS.out.up hn.out)
  replace hb := Lib.hid (Below.up hb.out hn.out)
  clear hn
  clear hS
  go_upto_region 12 with fail
  have hK : Hid (∀ W, Below w60.heap.size w60 W → (W.cell? ⟨w28.heap.size, 0, none⟩ = some (.int .i64 8) ∧ W.cell? ⟨w28.heap.size, 1, none⟩ = some (.int .i64 3) ∧ W.cell? ⟨w28.heap.size, 2, none⟩ = some (.slice a4 l4 c4)) ∧ (W.cell? ⟨w35.heap.size, 0, none⟩ = some (.int .i64 3) ∧ W.cell? ⟨w35.heap.size, 1, none⟩ = some (.int .i64 5) ∧ W.cell? ⟨w35.heap.size, 2, none⟩ = some (.slice a5 l5 c5))) := Lib.hid (fun W h => ⟨(c3_cells (hA4.out.up h)).1, (c3_cells (hA5.out.up h)).1⟩)
  clear hA4 hA5
  refine region_named (S := fun W' => Below w60.heap.size w60 W') (by kernel_rfl) (fun w61 hw61 => ?_)
  have hq : Hid (Below w60.heap.size w60 w60.drew) := Lib.hid ((Below.refl _ _).drew)
  have hdr : Hid (Below w60.heap.size w60 w60.drew) := hq
  replace hI1 := Lib.hid (hI1.out.up hdr.out)
  replace hT4 := Lib.hid (hT4.out.up hdr.out)
  replace hT5 := Lib.hid (hT5.out.up hdr.out)
  replace hB6 := Lib.hid (hB6.out.up hdr.out)
  replace hB7 := Lib.hid (hB7.out.up hdr.out)
  replace hb := Lib.hid (Below.up hb.out hdr.out)
  clear hdr
  rw [← hw61] at hI1
  rw [← hw61] at hT4
  rw [← hw61] at hT5
  rw [← hw61] at hB6
  rw [← hw61] at hB7
  rw [← hw61] at hb
  rw [← hw61] at hq
  clear hw61
  refine takeH 0 149 (.slice va1 vl1 vc1) rfl rfl (by kernel_rfl) (by kernel_rfl) (by kernel_rfl) (fun _ _ _ h => h) (by rfl) (by intro W hSw; clear hSw; go_simp) hq.out ?_
  try simp only [List.setIfInBounds_toArray, List.set_cons_zero, List.set_cons_succ]
  refine wpAnyH_ready (rs := [1]) (by kernel_rfl) (by simp) ?_
  refine AllReadyH.cons rfl (fun K hKc => ?_) AllReadyH.nil
  go_simp
  have hI2 : Hid (Iv (w61.alloc (.cells #[.int .i64 1, .int .i64 2] 3)) [1, 2] (some ⟨w61.heap.size, 0, none⟩) 2 2) := Lib.hid (Iv.two _ 1 2)
  replace hI1 := Lib.hid (hI1.out.up (bal w61 (.cells #[.int .i64 1, .int .i64 2] 3)))
  replace hT4 := Lib.hid (hT4.out.up (bal w61 (.cells #[.int .i64 1, .int .i64 2] 3)))
  replace hT5 := Lib.hid (hT5.out.up (bal w61 (.cells #[.int .i64 1, .int .i64 2] 3)))
  replace hB6 := Lib.hid (hB6.out.up (bal w61 (.cells #[.int .i64 1, .int .i64 2] 3)))
  replace hB7 := Lib.hid (hB7.out.up (bal w61 (.cells #[.int .i64 1, .int .i64 2] 3)))
  replace hb := Lib.hid (Below.up hb.out (bal w61 (.cells #[.int .i64 1, .int .i64 2] 3)))
  replace hq := Lib.hid (Below.up hq.out (bal w61 (.cells #[.int .i64 1, .int .i64 2] 3)))
  obtain ⟨w62, hw62⟩ : ∃ w62, w62 = w61.alloc (.cells #[.int .i64 1, .int .i64 2] 3) := ⟨_, rfl⟩
  rw [← hw62]
  rw [← hw62] at hI1
  rw [← hw62] at hT4
  rw [← hw62] at hT5
  rw [← hw62] at hB6
  rw [← hw62] at hB7
  rw [← hw62] at hI2
  rw [← hw62] at hb
  rw [← hw62] at hq
  clear hw62
  refine hKc _ _ hq.out (fun _ => ?_)
  clear hKc K
  try simp only [List.setIfInBounds_toArray, List.set_cons_zero, List.set_cons_succ]
  refine wpAnyH_ready (rs := [2]) (by kernel_rfl) (by simp) ?_
  refine AllReadyH.cons rfl (fun K hKc => ?_) AllReadyH.nil
  go_simp
  refine (kSameInts hI1 hI2 rfl).mono ?_
  rintro e w63 ⟨rfl, hn⟩
  replace hI1 := Lib.hid (hI1.out.up hn.out)
  replace hT4 := Lib.hid (hT4.out.up hn.out)
  replace hT5 := Lib.hid (hT5.out.up hn.out)
  replace hB6 := Lib.hid (hB6.out.up hn.out)
  replace hB7 := Lib.hid (hB7.out.up hn.out)
  replace hI2 := Lib.hid (hI2.out.up hn.out)
  replace hb := Lib.hid (Below.up hb.out hn.out)
  replace hq := Lib.hid (Below.up hq.out hn.out)
  refine hKc _ _ hq.out (fun _ => ?_)
  clear hKc K hn
  try simp only [List.setIfInBounds_toArray, List.set_cons_zero, List.set_cons_succ]
  clear hI1 hI2
  refine takeH 3 152 (.bool true) rfl rfl (by kernel_rfl) (by kernel_rfl) (by kernel_rfl) (fun _ _ _ h => h) (by rfl) (by intro W hSw; clear hSw; go_simp) hq.out ?_
  try simp only [List.setIfInBounds_toArray, List.set_cons_zero, List.set_cons_succ]
  refine takeH 4 153 (.agg #[.int .i64 8, .int .i64 3, .slice a4 l4 c4]) rfl rfl (by kernel_rfl) (by kernel_rfl) (by kernel_rfl) (fun _ _ _ h => h) (by rfl) (by intro W hSw; obtain ⟨⟨j1, j2, j3⟩, ⟨j4, j5, j6⟩⟩ := hK.out W hSw; clear hSw; go_simp) hq.out ?_
  try simp only [List.setIfInBounds_toArray, List.set_cons_zero, List.set_cons_succ]
  refine wpAnyH_ready (rs := [5]) (by kernel_rfl) (by simp) ?_
  refine AllReadyH.cons rfl (fun K hKc => ?_) AllReadyH.nil
  go_simp
  refine (kSmall hT4 rfl).mono ?_
  rintro e w64 ⟨rfl, hn⟩
  replace hT4 := Lib.hid (hT4.out.up hn.out)
  replace hT5 := Lib.hid (hT5.out.up hn.out)
  replace hB6 := Lib.hid (hB6.out.up hn.out)
  replace hB7 := Lib.hid (hB7.out.up hn.out)
  replace hb := Lib.hid (Below.up hb.out hn.out)
  replace hq := Lib.hid (Below.up hq.out hn.out)
  refine hKc _ _ hq.out (fun _ => ?_)
  clear hKc K hn
  try simp only [List.setIfInBounds_toArray, List.set_cons_zero, List.set_cons_succ]
  refine takeH 6 155 (.bool true) rfl rfl (by kernel_rfl) (by kernel_rfl) (by kernel_rfl) (fun _ _ _ h => h) (by rfl) (by intro W hSw; clear hSw; go_simp) hq.out ?_
  try simp only [List.setIfInBounds_toArray, List.set_cons_zero, List.set_cons_succ]
  refine takeH 7 156 (.bool true) rfl rfl (by kernel_rfl) (by kernel_rfl) (by kernel_rfl) (fun _ _ _ h => h) (by rfl) (by intro W hSw; clear hSw; go_simp) hq.out ?_
  try simp only [List.setIfInBounds_toArray, List.set_cons_zero, List.set_cons_succ]
  refine takeH 8 157 (.agg #[.int .i64 8, .int .i64 3, .slice a4 l4 c4]) rfl rfl (by kernel_rfl) (by kernel_rfl) (by kernel_rfl) (fun _ _ _ h => h) (by rfl) (by intro W hSw; obtain ⟨⟨j1, j2, j3⟩, ⟨j4, j5, j6⟩⟩ := hK.out W hSw; clear hSw; go_simp) hq.out ?_
  try simp only [List.setIfInBounds_toArray, List.set_cons_zero, List.set_cons_succ]
  refine wpAnyH_ready (rs := [9]) (by kernel_rfl) (by simp) ?_
  refine AllReadyH.cons rfl (fun K hKc => ?_) AllReadyH.nil
  go_simp
  refine (kv 1 _).mono ?_
  rintro e w65 ⟨rfl, hn⟩
  replace hT4 := Lib.hid (hT4.out.up hn.out)
  replace hT5 := Lib.hid (hT5.out.up hn.out)
  replace hB6 := Lib.hid (hB6.out.up hn.out)
  replace hB7 := Lib.hid (hB7.out.up hn.out)
  replace hb := Lib.hid (Below.up hb.out hn.out)
  replace hq := Lib.hid (Below.up hq.out hn.out)
  refine hKc _ _ hq.out (fun _ => ?_)
  clear hKc K hn
  try simp only [List.setIfInBounds_toArray, List.set_cons_zero, List.set_cons_succ]
  refine wpAnyH_ready (rs := [10]) (by kernel_rfl) (by simp) ?_
  refine AllReadyH.cons rfl (fun K hKc => ?_) AllReadyH.nil
  go_simp
  refine (kv 3 _).mono ?_
  rintro e w66 ⟨rfl, hn⟩
  replace hT4 := Lib.hid (hT4.out.up hn.out)
  replace hT5 := Lib.hid (hT5.out.up hn.out)
  replace hB6 := Lib.hid (hB6.out.up hn.out)
  replace hB7 := Lib.hid (hB7.out.up hn.out)
  replace hb := Lib.hid (Below.up hb.out hn.out)
  replace hq := Lib.hid (Below.up hq.out hn.out)
  refine hKc _ _ hq.out (fun _ => ?_)
  clear hKc K hn
  try simp only [List.setIfInBounds_toArray, List.set_cons_zero, List.set_cons_succ]
  refine wpAnyH_ready (rs := [11]) (by kernel_rfl) (by simp) ?_
  refine AllReadyH.cons rfl (fun K hKc => ?_) AllReadyH.nil
  go_simp
  refine (kv 0 _).mono ?_
  rintro e w67 ⟨rfl, hn⟩
  replace hT4 := Lib.hid (hT4.out.up hn.out)
  replace hT5 := Lib.hid (hT5.out.up hn.out)
  replace hB6 := Lib.hid (hB6.out.up hn.out)
  replace hB7 := Lib.hid (hB7.out.up hn.out)
  replace hb := Lib.hid (Below.up hb.out hn.out)
  replace hq := Lib.hid (Below.up hq.out hn.out)
  refine hKc _ _ hq.out (fun _ => ?_)
  clear hKc K hn
  try simp only [List.setIfInBounds_toArray, List.set_cons_zero, List.set_cons_succ]
  refine wpAnyH_ready (rs := [12]) (by kernel_rfl) (by simp) ?_
  refine AllReadyH.cons rfl (fun K hKc => ?_) AllReadyH.nil
  go_simp
  have hL1 : Hid (Liv (w67.alloc (.cells #[.int .i64 1, .int .i64 0, .slice none 0 0] 32)) (dS 3 3 w67.heap.size (dN 1 0))) := Lib.hid (Liv.S 3 3 (Liv.N _ 1 0))
  replace hT4 := Lib.hid (hT4.out.up (bal w67 (.cells #[.int .i64 1, .int .i64 0, .slice none 0 0] 32)))
  replace hT5 := Lib.hid (hT5.out.up (bal w67 (.cells #[.int .i64 1, .int .i64 0, .slice none 0 0] 32)))
  replace hB6 := Lib.hid (hB6.out.up (bal w67 (.cells #[.int .i64 1, .int .i64 0, .slice none 0 0] 32)))
  replace hB7 := Lib.hid (hB7.out.up (bal w67 (.cells #[.int .i64 1, .int .i64 0, .slice none 0 0] 32)))
  replace hb := Lib.hid (Below.up hb.out (bal w67 (.cells #[.int .i64 1, .int .i64 0, .slice none 0 0] 32)))
  replace hq := Lib.hid (Below.up hq.out (bal w67 (.cells #[.int .i64 1, .int .i64 0, .slice none 0 0] 32)))
  obtain ⟨w68, hw68⟩ : ∃ w68, w68 = w67.alloc (.cells #[.int .i64 1, .int .i64 0, .slice none 0 0] 32) := ⟨_, rfl⟩
  rw [← hw68]
  rw [← hw68] at hT4
  rw [← hw68] at hT5
  rw [← hw68] at hB6
  rw [← hw68] at hB7
  rw [← hw68] at hL1
  rw [← hw68] at hb
  rw [← hw68] at hq
  clear hw68
  refine hKc _ _ hq.out (fun _ => ?_)
  clear hKc K
  try simp only [List.setIfInBounds_toArray, List.set_cons_zero, List.set_cons_succ]
  refine wpAnyH_ready (rs := [13]) (by kernel_rfl) (by simp) ?_
  refine AllReadyH.cons rfl (fun K hKc => ?_) AllReadyH.nil
  go_simp
  refine (kcon 3 (some ⟨w67.heap.size, 0, none⟩) 1 1 _).mono ?_
  rintro e w69 ⟨rfl, hn⟩
  replace hT4 := Lib.hid (hT4.out.up hn.out)
  replace hT5 := Lib.hid (hT5.out.up hn.out)
  replace hB6 := Lib.hid (hB6.out.up hn.out)
  replace hB7 := Lib.hid (hB7.out.up hn.out)
  replace hL1 := Lib.hid (hL1.out.up hn.out)
  replace hb := Lib.hid (Below.up hb.out hn.out)
  replace hq := Lib.hid (Below.up hq.out hn.out)
  refine hKc _ _ hq.out (fun _ => ?_)
  clear hKc K hn
  try simp only [List.setIfInBounds_toArray, List.set_cons_zero, List.set_cons_succ]
  refine wpAnyH_ready (rs := [14]) (by kernel_rfl) (by simp) ?_
  refine AllReadyH.cons rfl (fun K hKc => ?_) AllReadyH.nil
  go_simp
  have hL2 : Hid (Liv (w69.alloc (.cells #[.int .i64 1, .int .i64 3, .slice none 0 0, .int .i64 3, .int .i64 3, .slice (some ⟨w67.heap.size, 0, none⟩) 1 1] 32)) (dP 3 5 w69.heap.size (dN 1 3) (dS 3 3 w67.heap.size (dN 1 0)))) := Lib.hid (Liv.P 3 5 (Liv.N _ 1 3) hL1.out)
  clear hL1
  replace hT4 := Lib.hid (hT4.out.up (bal w69 (.cells #[.int .i64 1, .int .i64 3, .slice none 0 0, .int .i64 3, .int .i64 3, .slice (some ⟨w67.heap.size, 0, none⟩) 1 1] 32)))
  replace hT5 := Lib.hid (hT5.out.up (bal w69 (.cells #[.int .i64 1, .int .i64 3, .slice none 0 0, .int .i64 3, .int .i64 3, .slice (some ⟨w67.heap.size, 0, none⟩) 1 1] 32)))
  replace hB6 := Lib.hid (hB6.out.up (bal w69 (.cells #[.int .i64 1, .int .i64 3, .slice none 0 0, .int .i64 3, .int .i64 3, .slice (some ⟨w67.heap.size, 0, none⟩) 1 1] 32)))
  replace hB7 := Lib.hid (hB7.out.up (bal w69 (.cells #[.int .i64 1, .int .i64 3, .slice none 0 0, .int .i64 3, .int .i64 3, .slice (some ⟨w67.heap.size, 0, none⟩) 1 1] 32)))
  replace hb := Lib.hid (Below.up hb.out (bal w69 (.cells #[.int .i64 1, .int .i64 3, .slice none 0 0, .int .i64 3, .int .i64 3, .slice (some ⟨w67.heap.size, 0, none⟩) 1 1] 32)))
  replace hq := Lib.hid (Below.up hq.out (bal w69 (.cells #[.int .i64 1, .int .i64 3, .slice none 0 0, .int .i64 3, .int .i64 3, .slice (some ⟨w67.heap.size, 0, none⟩) 1 1] 32)))
  obtain ⟨w70, hw70⟩ : ∃ w70, w70 = w69.alloc (.cells #[.int .i64 1, .int .i64 3, .slice none 0 0, .int .i64 3, .int .i64 3, .slice (some ⟨w67.heap.size, 0, none⟩) 1 1] 32) := ⟨_, rfl⟩
  rw [← hw70]
  rw [← hw70] at hT4
  rw [← hw70] at hT5
  rw [← hw70] at hB6
  rw [← hw70] at hB7
  rw [← hw70] at hL2
  rw [← hw70] at hb
  rw [← hw70] at hq
  clear hw70
  refine hKc _ _ hq.out (fun _ => ?_)
  clear hKc K
  try simp only [List.setIfInBounds_toArray, List.set_cons_zero, List.set_cons_succ]
  refine wpAnyH_ready (rs := [15]) (by kernel_rfl) (by simp) ?_
  refine AllReadyH.cons rfl (fun K hKc => ?_) AllReadyH.nil
  go_simp
  refine (kcon 5 (some ⟨w69.heap.size, 0, none⟩) 2 2 _).mono ?_
  rintro e w71 ⟨rfl, hn⟩
  replace hT4 := Lib.hid (hT4.out.up hn.out)
  replace hT5 := Lib.hid (hT5.out.up hn.out)
  replace hB6 := Lib.hid (hB6.out.up hn.out)
  replace hB7 := Lib.hid (hB7.out.up hn.out)
  replace hL2 := Lib.hid (hL2.out.up hn.out)
  replace hb := Lib.hid (Below.up hb.out hn.out)
  replace hq := Lib.hid (Below.up hq.out hn.out)
  refine hKc _ _ hq.out (fun _ => ?_)
  clear hKc K hn
  try simp only [List.setIfInBounds_toArray, List.set_cons_zero, List.set_cons_succ]
  refine wpAnyH_ready (rs := [16]) (by kernel_rfl) (by simp) ?_
  refine AllReadyH.cons rfl (fun K hKc => ?_) AllReadyH.nil
  go_simp
  have hL3 : Hid (Liv (w71.alloc (.cells #[.int .i64 1, .int .i64 1, .slice none 0 0, .int .i64 3, .int .i64 5, .slice (some ⟨w69.heap.size, 0, none⟩) 2 2] 32)) (dP 8 3 w71.heap.size (dN 1 1) (dP 3 5 w69.heap.size (dN 1 3) (dS 3 3 w67.heap.size (dN 1 0))))) := Lib.hid (Liv.P 8 3 (Liv.N _ 1 1) hL2.out)
  clear hL2
  replace hT4 := Lib.hid (hT4.out.up (bal w71 (.cells #[.int .i64 1, .int .i64 1, .slice none 0 0, .int .i64 3, .int .i64 5, .slice (some ⟨w69.heap.size, 0, none⟩) 2 2] 32)))
  replace hT5 := Lib.hid (hT5.out.up (bal w71 (.cells #[.int .i64 1, .int .i64 1, .slice none 0 0, .int .i64 3, .int .i64 5, .slice (some ⟨w69.heap.size, 0, none⟩) 2 2] 32)))
  replace hB6 := Lib.hid (hB6.out.up (bal w71 (.cells #[.int .i64 1, .int .i64 1, .slice none 0 0, .int .i64 3, .int .i64 5, .slice (some ⟨w69.heap.size, 0, none⟩) 2 2] 32)))
  replace hB7 := Lib.hid (hB7.out.up (bal w71 (.cells #[.int .i64 1, .int .i64 1, .slice none 0 0, .int .i64 3, .int .i64 5, .slice (some ⟨w69.heap.size, 0, none⟩) 2 2] 32)))
  replace hb := Lib.hid (Below.up hb.out (bal w71 (.cells #[.int .i64 1, .int .i64 1, .slice none 0 0, .int .i64 3, .int .i64 5, .slice (some ⟨w69.heap.size, 0, none⟩) 2 2] 32)))
  replace hq := Lib.hid (Below.up hq.out (bal w71 (.cells #[.int .i64 1, .int .i64 1, .slice none 0 0, .int .i64 3, .int .i64 5, .slice (some ⟨w69.heap.size, 0, none⟩) 2 2] 32)))
  obtain ⟨w72, hw72⟩ : ∃ w72, w72 = w71.alloc (.cells #[.int .i64 1, .int .i64 1, .slice none 0 0, .int .i64 3, .int .i64 5, .slice (some ⟨w69.heap.size, 0, none⟩) 2 2] 32) := ⟨_, rfl⟩
  rw [← hw72]
  rw [← hw72] at hT4
  rw [← hw72] at hT5
  rw [← hw72] at hB6
  rw [← hw72] at hB7
  rw [← hw72] at hL3
  rw [← hw72] at hb
  rw [← hw72] at hq
  clear hw72
  refine hKc _ _ hq.out (fun _ => ?_)
  clear hKc K
  try simp only [List.setIfInBounds_toArray, List.set_cons_zero, List.set_cons_succ]
  refine wpAnyH_ready (rs := [17]) (by kernel_rfl) (by simp) ?_
  refine AllReadyH.cons rfl (fun K hKc => ?_) AllReadyH.nil
  go_simp
  refine (knode 8 3 (some ⟨w71.heap.size, 0, none⟩) 2 2 _).mono ?_
  rintro e w73 ⟨rfl, hn⟩
  replace hT4 := Lib.hid (hT4.out.up hn.out)
  replace hT5 := Lib.hid (hT5.out.up hn.out)
  replace hB6 := Lib.hid (hB6.out.up hn.out)
  replace hB7 := Lib.hid (hB7.out.up hn.out)
  replace hL3 := Lib.hid (hL3.out.up hn.out)
  replace hb := Lib.hid (Below.up hb.out hn.out)
  replace hq := Lib.hid (Below.up hq.out hn.out)
  refine hKc _ _ hq.out (fun _ => ?_)
  clear hKc K hn
  try simp only [List.setIfInBounds_toArray, List.set_cons_zero, List.set_cons_succ]
  refine wpAnyH_ready (rs := [18]) (by kernel_rfl) (by simp) ?_
  refine AllReadyH.cons rfl (fun K hKc => ?_) AllReadyH.nil
  go_simp
  refine (kSame (dP 8 3 w71.heap.size (dN 1 1) (dP 3 5 w69.heap.size (dN 1 3) (dS 3 3 w67.heap.size (dN 1 0)))) hT4 hL3 rfl).mono ?_
  rintro e w74 ⟨rfl, hn⟩
  replace hT4 := Lib.hid (hT4.out.up hn.out)
  replace hT5 := Lib.hid (hT5.out.up hn.out)
  replace hB6 := Lib.hid (hB6.out.up hn.out)
  replace hB7 := Lib.hid (hB7.out.up hn.out)
  replace hL3 := Lib.hid (hL3.out.up hn.out)
  replace hb := Lib.hid (Below.up hb.out hn.out)
  replace hq := Lib.hid (Below.up hq.out hn.out)
  refine hKc _ _ hq.out (fun _ => ?_)
  clear hKc K hn
  try simp only [List.setIfInBounds_toArray, List.set_cons_zero, List.set_cons_succ]
  clear hT4 hL3
  refine takeH 19 168 (.bool true) rfl rfl (by kernel_rfl) (by kernel_rfl) (by kernel_rfl) (fun _ _ _ h => h) (by rfl) (by intro W hSw; clear hSw; go_simp) hq.out ?_
  try simp only [List.setIfInBounds_toArray, List.set_cons_zero, List.set_cons_succ]
  refine takeH 20 169 (.bool true) rfl rfl (by kernel_rfl) (by kernel_rfl) (by kernel_rfl) (fun _ _ _ h => h) (by rfl) (by intro W hSw; clear hSw; go_simp) hq.out ?_
  try simp only [List.setIfInBounds_toArray, List.set_cons_zero, List.set_cons_succ]
  refine takeH 21 170 (.agg #[.int .i64 3, .int .i64 5, .slice a5 l5 c5]) rfl rfl (by kernel_rfl) (by kernel_rfl) (by kernel_rfl) (fun _ _ _ h => h) (by rfl) (by intro W hSw; obtain ⟨⟨j1, j2, j3⟩, ⟨j4, j5, j6⟩⟩ := hK.out W hSw; clear hSw; go_simp) hq.out ?_
  try simp only [List.setIfInBounds_toArray, List.set_cons_zero, List.set_cons_succ]
  refine wpAnyH_ready (rs := [22]) (by kernel_rfl) (by simp) ?_
  refine AllReadyH.cons rfl (fun K hKc => ?_) AllReadyH.nil
  go_simp
  refine (kSmall hT5 rfl).mono ?_
  rintro e w75 ⟨rfl, hn⟩
  replace hT5 := Lib.hid (hT5.out.up hn.out)
  replace hB6 := Lib.hid (hB6.out.up hn.out)
  replace hB7 := Lib.hid (hB7.out.up hn.out)
  replace hb := Lib.hid (Below.up hb.out hn.out)
  replace hq := Lib.hid (Below.up hq.out hn.out)
  refine hKc _ _ hq.out (fun _ => ?_)
  clear hKc K hn
  try simp only [List.setIfInBounds_toArray, List.set_cons_zero, List.set_cons_succ]
  refine takeH 23 172 (.bool true) rfl rfl (by kernel_rfl) (by kernel_rfl) (by kernel_rfl) (fun _ _ _ h => h) (by rfl) (by intro W hSw; clear hSw; go_simp) hq.out ?_
  try simp only [List.setIfInBounds_toArray, List.set_cons_zero, List.set_cons_succ]
  refine takeH 24 173 (.bool true) rfl rfl (by kernel_rfl) (by kernel_rfl) (by kernel_rfl) (fun _ _ _ h => h) (by rfl) (by intro W hSw; clear hSw; go_simp) hq.out ?_
  try simp only [List.setIfInBounds_toArray, List.set_cons_zero, List.set_cons_succ]
  refine takeH 25 174 (.agg #[.int .i64 3, .int .i64 5, .slice a5 l5 c5]) rfl rfl (by kernel_rfl) (by kernel_rfl) (by kernel_rfl) (fun _ _ _ h => h) (by rfl) (by intro W hSw; obtain ⟨⟨j1, j2, j3⟩, ⟨j4, j5, j6⟩⟩ := hK.out W hSw; clear hSw; go_simp) hq.out ?_
  try simp only [List.setIfInBounds_toArray, List.set_cons_zero, List.set_cons_succ]
  refine wpAnyH_ready (rs := [26]) (by kernel_rfl) (by simp) ?_
  refine AllReadyH.cons rfl (fun K hKc => ?_) AllReadyH.nil
  go_simp
  refine (kv 0 _).mono ?_
  rintro e w76 ⟨rfl, hn⟩
  replace hT5 := Lib.hid (hT5.out.up hn.out)
  replace hB6 := Lib.hid (hB6.out.up hn.out)
  replace hB7 := Lib.hid (hB7.out.up hn.out)
  replace hb := Lib.hid (Below.up hb.out hn.out)
  replace hq := Lib.hid (Below.up hq.out hn.out)
  refine hKc _ _ hq.out (fun _ => ?_)
  clear hKc K hn
  try simp only [List.setIfInBounds_toArray, List.set_cons_zero, List.set_cons_succ]
  refine wpAnyH_ready (rs := [27]) (by kernel_rfl) (by simp) ?_
  refine AllReadyH.cons rfl (fun K hKc => ?_) AllReadyH.nil
  go_simp
  refine (kv 2 _).mono ?_
  rintro e w77 ⟨rfl, hn⟩
  replace hT5 := Lib.hid (hT5.out.up hn.out)
  replace hB6 := Lib.hid (hB6.out.up hn.out)
  replace hB7 := Lib.hid (hB7.out.up hn.out)
  replace hb := Lib.hid (Below.up hb.out hn.out)
  replace hq := Lib.hid (Below.up hq.out hn.out)
  refine hKc _ _ hq.out (fun _ => ?_)
  clear hKc K hn
  try simp only [List.setIfInBounds_toArray, List.set_cons_zero, List.set_cons_succ]
  refine wpAnyH_ready (rs := [28]) (by kernel_rfl) (by simp) ?_
  refine AllReadyH.cons rfl (fun K hKc => ?_) AllReadyH.nil
  go_simp
  refine (kv 1 _).mono ?_
  rintro e w78 ⟨rfl, hn⟩
  replace hT5 := Lib.hid (hT5.out.up hn.out)
  replace hB6 := Lib.hid (hB6.out.up hn.out)
  replace hB7 := Lib.hid (hB7.out.up hn.out)
  replace hb := Lib.hid (Below.up hb.out hn.out)
  replace hq := Lib.hid (Below.up hq.out hn.out)
  refine hKc _ _ hq.out (fun _ => ?_)
  clear hKc K hn
  try simp only [List.setIfInBounds_toArray, List.set_cons_zero, List.set_cons_succ]
  refine wpAnyH_ready (rs := [29]) (by kernel_rfl) (by simp) ?_
  refine AllReadyH.cons rfl (fun K hKc => ?_) AllReadyH.nil
  go_simp
  have hL1 : Hid (Liv (w78.alloc (.cells #[.int .i64 1, .int .i64 2, .slice none 0 0, .int .i64 1, .int .i64 1, .slice none 0 0] 32)) (dP 8 1 w78.heap.size (dN 1 2) (dN 1 1))) := Lib.hid (Liv.P 8 1 (Liv.N _ 1 2) (Liv.N _ 1 1))
  replace hT5 := Lib.hid (hT5.out.up (bal w78 (.cells #[.int .i64 1, .int .i64 2, .slice none 0 0, .int .i64 1, .int .i64 1, .slice none 0 0] 32)))
  replace hB6 := Lib.hid (hB6.out.up (bal w78 (.cells #[.int .i64 1, .int .i64 2, .slice none 0 0, .int .i64 1, .int .i64 1, .slice none 0 0] 32)))
  replace hB7 := Lib.hid (hB7.out.up (bal w78 (.cells #[.int .i64 1, .int .i64 2, .slice none 0 0, .int .i64 1, .int .i64 1, .slice none 0 0] 32)))
  replace hb := Lib.hid (Below.up hb.out (bal w78 (.cells #[.int .i64 1, .int .i64 2, .slice none 0 0, .int .i64 1, .int .i64 1, .slice none 0 0] 32)))
  replace hq := Lib.hid (Below.up hq.out (bal w78 (.cells #[.int .i64 1, .int .i64 2, .slice none 0 0, .int .i64 1, .int .i64 1, .slice none 0 0] 32)))
  obtain ⟨w79, hw79⟩ : ∃ w79, w79 = w78.alloc (.cells #[.int .i64 1, .int .i64 2, .slice none 0 0, .int .i64 1, .int .i64 1, .slice none 0 0] 32) := ⟨_, rfl⟩
  rw [← hw79]
  rw [← hw79] at hT5
  rw [← hw79] at hB6
  rw [← hw79] at hB7
  rw [← hw79] at hL1
  rw [← hw79] at hb
  rw [← hw79] at hq
  clear hw79
  refine hKc _ _ hq.out (fun _ => ?_)
  clear hKc K
  try simp only [List.setIfInBounds_toArray, List.set_cons_zero, List.set_cons_succ]
  refine wpAnyH_ready (rs := [30]) (by kernel_rfl) (by simp) ?_
  refine AllReadyH.cons rfl (fun K hKc => ?_) AllReadyH.nil
  go_simp
  refine (knode 8 1 (some ⟨w78.heap.size, 0, none⟩) 2 2 _).mono ?_
  rintro e w80 ⟨rfl, hn⟩
  replace hT5 := Lib.hid (hT5.out.up hn.out)
  replace hB6 := Lib.hid (hB6.out.up hn.out)
  replace hB7 := Lib.hid (hB7.out.up hn.out)
  replace hL1 := Lib.hid (hL1.out.up hn.out)
  replace hb := Lib.hid (Below.up hb.out hn.out)
  replace hq := Lib.hid (Below.up hq.out hn.out)
  refine hKc _ _ hq.out (fun _ => ?_)
  clear hKc K hn
  try simp only [List.setIfInBounds_toArray, List.set_cons_zero, List.set_cons_succ]
  refine wpAnyH_ready (rs := [31]) (by kernel_rfl) (by simp) ?_
  refine AllReadyH.cons rfl (fun K hKc => ?_) AllReadyH.nil
  go_simp
  have hL2 : Hid (Liv (w80.alloc (.cells #[.int .i64 1, .int .i64 0, .slice none 0 0, .int .i64 8, .int .i64 1, .slice (some ⟨w78.heap.size, 0, none⟩) 2 2] 32)) (dP 3 5 w80.heap.size (dN 1 0) (dP 8 1 w78.heap.size (dN 1 2) (dN 1 1)))) := Lib.hid (Liv.P 3 5 (Liv.N _ 1 0) hL1.out)
  clear hL1
  replace hT5 := Lib.hid (hT5.out.up (bal w80 (.cells #[.int .i64 1, .int .i64 0, .slice none 0 0, .int .i64 8, .int .i64 1, .slice (some ⟨w78.heap.size, 0, none⟩) 2 2] 32)))
  replace hB6 := Lib.hid (hB6.out.up (bal w80 (.cells #[.int .i64 1, .int .i64 0, .slice none 0 0, .int .i64 8, .int .i64 1, .slice (some ⟨w78.heap.size, 0, none⟩) 2 2] 32)))
  replace hB7 := Lib.hid (hB7.out.up (bal w80 (.cells #[.int .i64 1, .int .i64 0, .slice none 0 0, .int .i64 8, .int .i64 1, .slice (some ⟨w78.heap.size, 0, none⟩) 2 2] 32)))
  replace hb := Lib.hid (Below.up hb.out (bal w80 (.cells #[.int .i64 1, .int .i64 0, .slice none 0 0, .int .i64 8, .int .i64 1, .slice (some ⟨w78.heap.size, 0, none⟩) 2 2] 32)))
  replace hq := Lib.hid (Below.up hq.out (bal w80 (.cells #[.int .i64 1, .int .i64 0, .slice none 0 0, .int .i64 8, .int .i64 1, .slice (some ⟨w78.heap.size, 0, none⟩) 2 2] 32)))
  obtain ⟨w81, hw81⟩ : ∃ w81, w81 = w80.alloc (.cells #[.int .i64 1, .int .i64 0, .slice none 0 0, .int .i64 8, .int .i64 1, .slice (some ⟨w78.heap.size, 0, none⟩) 2 2] 32) := ⟨_, rfl⟩
  rw [← hw81]
  rw [← hw81] at hT5
  rw [← hw81] at hB6
  rw [← hw81] at hB7
  rw [← hw81] at hL2
  rw [← hw81] at hb
  rw [← hw81] at hq
  clear hw81
  refine hKc _ _ hq.out (fun _ => ?_)
  clear hKc K
  try simp only [List.setIfInBounds_toArray, List.set_cons_zero, List.set_cons_succ]
  refine wpAnyH_ready (rs := [32]) (by kernel_rfl) (by simp) ?_
  refine AllReadyH.cons rfl (fun K hKc => ?_) AllReadyH.nil
  go_simp
  refine (kcon 5 (some ⟨w80.heap.size, 0, none⟩) 2 2 _).mono ?_
  rintro e w82 ⟨rfl, hn⟩
  replace hT5 := Lib.hid (hT5.out.up hn.out)
  replace hB6 := Lib.hid (hB6.out.up hn.out)
  replace hB7 := Lib.hid (hB7.out.up hn.out)
  replace hL2 := Lib.hid (hL2.out.up hn.out)
  replace hb := Lib.hid (Below.up hb.out hn.out)
  replace hq := Lib.hid (Below.up hq.out hn.out)
  refine hKc _ _ hq.out (fun _ => ?_)
  clear hKc K hn
  try simp only [List.setIfInBounds_toArray, List.set_cons_zero, List.set_cons_succ]
  refine wpAnyH_ready (rs := [33]) (by kernel_rfl) (by simp) ?_
  refine AllReadyH.cons rfl (fun K hKc => ?_) AllReadyH.nil
  go_simp
  refine (kSame (dP 3 5 w80.heap.size (dN 1 0) (dP 8 1 w78.heap.size (dN 1 2) (dN 1 1))) hT5 hL2 rfl).mono ?_
  rintro e w83 ⟨rfl, hn⟩
  replace hT5 := Lib.hid (hT5.out.up hn.out)
  replace hB6 := Lib.hid (hB6.out.up hn.out)
  replace hB7 := Lib.hid (hB7.out.up hn.out)
  replace hL2 := Lib.hid (hL2.out.up hn.out)
  replace hb := Lib.hid (Below.up hb.out hn.out)
  replace hq := Lib.hid (Below.up hq.out hn.out)
  refine hKc _ _ hq.out (fun _ => ?_)
  clear hKc K hn
  try simp only [List.setIfInBounds_toArray, List.set_cons_zero, List.set_cons_succ]
  clear hT5 hL2
  refine takeH 34 183 (.bool true) rfl rfl (by kernel_rfl) (by kernel_rfl) (by kernel_rfl) (fun _ _ _ h => h) (by rfl) (by intro W hSw; clear hSw; go_simp) hq.out ?_
  try simp only [List.setIfInBounds_toArray, List.set_cons_zero, List.set_cons_succ]
  refine takeH 35 184 (.bool true) rfl rfl (by kernel_rfl) (by kernel_rfl) (by kernel_rfl) (fun _ _ _ h => h) (by rfl) (by intro W hSw; clear hSw; go_simp) hq.out ?_
  try simp only [List.setIfInBounds_toArray, List.set_cons_zero, List.set_cons_succ]
  refine takeH 36 185 (.slice va6 vl6 vc6) rfl rfl (by kernel_rfl) (by kernel_rfl) (by kernel_rfl) (fun _ _ _ h => h) (by rfl) (by intro W hSw; clear hSw; go_simp) hq.out ?_
  try simp only [List.setIfInBounds_toArray, List.set_cons_zero, List.set_cons_succ]
  refine wpAnyH_ready (rs := [37]) (by kernel_rfl) (by simp) ?_
  refine AllReadyH.cons rfl (fun K hKc => ?_) AllReadyH.nil
  go_simp
  refine (kSmallBinds hB6 rfl).mono ?_
  rintro e w84 ⟨rfl, hn⟩
  replace hB6 := Lib.hid (hB6.out.up hn.out)
  replace hB7 := Lib.hid (hB7.out.up hn.out)
  replace hb := Lib.hid (Below.up hb.out hn.out)
  replace hq := Lib.hid (Below.up hq.out hn.out)
  refine hKc _ _ hq.out (fun _ => ?_)
  clear hKc K hn
  try simp only [List.setIfInBounds_toArray, List.set_cons_zero, List.set_cons_succ]
  refine takeH 38 187 (.bool true) rfl rfl (by kernel_rfl) (by kernel_rfl) (by kernel_rfl) (fun _ _ _ h => h) (by rfl) (by intro W hSw; clear hSw; go_simp) hq.out ?_
  try simp only [List.setIfInBounds_toArray, List.set_cons_zero, List.set_cons_succ]
  refine takeH 39 188 (.bool true) rfl rfl (by kernel_rfl) (by kernel_rfl) (by kernel_rfl) (fun _ _ _ h => h) (by rfl) (by intro W hSw; clear hSw; go_simp) hq.out ?_
  try simp only [List.setIfInBounds_toArray, List.set_cons_zero, List.set_cons_succ]
  refine takeH 40 189 (.slice va6 vl6 vc6) rfl rfl (by kernel_rfl) (by kernel_rfl) (by kernel_rfl) (fun _ _ _ h => h) (by rfl) (by intro W hSw; clear hSw; go_simp) hq.out ?_
  try simp only [List.setIfInBounds_toArray, List.set_cons_zero, List.set_cons_succ]
  refine wpAnyH_ready (rs := [41]) (by kernel_rfl) (by simp) ?_
  refine AllReadyH.cons rfl (fun K hKc => ?_) AllReadyH.nil
  go_simp
  refine (kcon 2 none 0 0 _).mono ?_
  rintro e w85 ⟨rfl, hn⟩
  replace hB6 := Lib.hid (hB6.out.up hn.out)
  replace hB7 := Lib.hid (hB7.out.up hn.out)
  replace hb := Lib.hid (Below.up hb.out hn.out)
  replace hq := Lib.hid (Below.up hq.out hn.out)
  refine hKc _ _ hq.out (fun _ => ?_)
  clear hKc K hn
  try simp only [List.setIfInBounds_toArray, List.set_cons_zero, List.set_cons_succ]
  refine takeH 42 191 (.agg #[.int .i64 0, .int .i64 3, .int .i64 2, .slice none 0 0]) rfl rfl (by kernel_rfl) (by kernel_rfl) (by kernel_rfl) (fun _ _ _ h => h) (by rfl) (by intro W hSw; clear hSw; go_simp) hq.out ?_
  try simp only [List.setIfInBounds_toArray, List.set_cons_zero, List.set_cons_succ]
  refine wpAnyH_ready (rs := [43]) (by kernel_rfl) (by simp) ?_
  refine AllReadyH.cons rfl (fun K hKc => ?_) AllReadyH.nil
  go_simp
  refine (kcon 4 none 0 0 _).mono ?_
  rintro e w86 ⟨rfl, hn⟩
  replace hB6 := Lib.hid (hB6.out.up hn.out)
  replace hB7 := Lib.hid (hB7.out.up hn.out)
  replace hb := Lib.hid (Below.up hb.out hn.out)
  replace hq := Lib.hid (Below.up hq.out hn.out)
  refine hKc _ _ hq.out (fun _ => ?_)
  clear hKc K hn
  try simp only [List.setIfInBounds_toArray, List.set_cons_zero, List.set_cons_succ]
  refine takeH 44 193 (.agg #[.int .i64 1, .int .i64 3, .int .i64 4, .slice none 0 0]) rfl rfl (by kernel_rfl) (by kernel_rfl) (by kernel_rfl) (fun _ _ _ h => h) (by rfl) (by intro W hSw; clear hSw; go_simp) hq.out ?_
  try simp only [List.setIfInBounds_toArray, List.set_cons_zero, List.set_cons_succ]
  refine wpAnyH_ready (rs := [45]) (by kernel_rfl) (by simp) ?_
  refine AllReadyH.cons rfl (fun K hKc => ?_) AllReadyH.nil
  go_simp
  have hM6 : Hid (Bv (w86.alloc (.cells #[.int .i64 0, .int .i64 3, .int .i64 2, .slice none 0 0, .int .i64 1, .int .i64 3, .int .i64 4, .slice none 0 0] 38)) [(0, tc 2), (1, tc 4)] (some ⟨w86.heap.size, 0, none⟩) 2 2) := Lib.hid (Bv.two (x := dN 3 2) (y := dN 3 4) 0 1 (Liv.N _ 3 2) (Liv.N _ 3 4))
  replace hB6 := Lib.hid (hB6.out.up (bal w86 (.cells #[.int .i64 0, .int .i64 3, .int .i64 2, .slice none 0 0, .int .i64 1, .int .i64 3, .int .i64 4, .slice none 0 0] 38)))
  replace hB7 := Lib.hid (hB7.out.up (bal w86 (.cells #[.int .i64 0, .int .i64 3, .int .i64 2, .slice none 0 0, .int .i64 1, .int .i64 3, .int .i64 4, .slice none 0 0] 38)))
  replace hb := Lib.hid (Below.up hb.out (bal w86 (.cells #[.int .i64 0, .int .i64 3, .int .i64 2, .slice none 0 0, .int .i64 1, .int .i64 3, .int .i64 4, .slice none 0 0] 38)))
  replace hq := Lib.hid (Below.up hq.out (bal w86 (.cells #[.int .i64 0, .int .i64 3, .int .i64 2, .slice none 0 0, .int .i64 1, .int .i64 3, .int .i64 4, .slice none 0 0] 38)))
  obtain ⟨w87, hw87⟩ : ∃ w87, w87 = w86.alloc (.cells #[.int .i64 0, .int .i64 3, .int .i64 2, .slice none 0 0, .int .i64 1, .int .i64 3, .int .i64 4, .slice none 0 0] 38) := ⟨_, rfl⟩
  rw [← hw87]
  rw [← hw87] at hB6
  rw [← hw87] at hB7
  rw [← hw87] at hM6
  rw [← hw87] at hb
  rw [← hw87] at hq
  clear hw87
  refine hKc _ _ hq.out (fun _ => ?_)
  clear hKc K
  try simp only [List.setIfInBounds_toArray, List.set_cons_zero, List.set_cons_succ]
  refine wpAnyH_ready (rs := [46]) (by kernel_rfl) (by simp) ?_
  refine AllReadyH.cons rfl (fun K hKc => ?_) AllReadyH.nil
  go_simp
  refine (kSameBinds hB6 hM6 rfl).mono ?_
  rintro e w88 ⟨rfl, hn⟩
  replace hB6 := Lib.hid (hB6.out.up hn.out)
  replace hB7 := Lib.hid (hB7.out.up hn.out)
  replace hM6 := Lib.hid (hM6.out.up hn.out)
  replace hb := Lib.hid (Below.up hb.out hn.out)
  replace hq := Lib.hid (Below.up hq.out hn.out)
  refine hKc _ _ hq.out (fun _ => ?_)
  clear hKc K hn
  try simp only [List.setIfInBounds_toArray, List.set_cons_zero, List.set_cons_succ]
  clear hB6 hM6
  refine takeH 47 196 (.bool true) rfl rfl (by kernel_rfl) (by kernel_rfl) (by kernel_rfl) (fun _ _ _ h => h) (by rfl) (by intro W hSw; clear hSw; go_simp) hq.out ?_
  try simp only [List.setIfInBounds_toArray, List.set_cons_zero, List.set_cons_succ]
  refine takeH 48 197 (.bool true) rfl rfl (by kernel_rfl) (by kernel_rfl) (by kernel_rfl) (fun _ _ _ h => h) (by rfl) (by intro W hSw; clear hSw; go_simp) hq.out ?_
  try simp only [List.setIfInBounds_toArray, List.set_cons_zero, List.set_cons_succ]
  refine takeH 49 198 (.slice va7 vl7 vc7) rfl rfl (by kernel_rfl) (by kernel_rfl) (by kernel_rfl) (fun _ _ _ h => h) (by rfl) (by intro W hSw; clear hSw; go_simp) hq.out ?_
  try simp only [List.setIfInBounds_toArray, List.set_cons_zero, List.set_cons_succ]
  refine wpAnyH_ready (rs := [50]) (by kernel_rfl) (by simp) ?_
  refine AllReadyH.cons rfl (fun K hKc => ?_) AllReadyH.nil
  go_simp
  refine (kSmallBinds hB7 rfl).mono ?_
  rintro e w89 ⟨rfl, hn⟩
  replace hB7 := Lib.hid (hB7.out.up hn.out)
  replace hb := Lib.hid (Below.up hb.out hn.out)
  replace hq := Lib.hid (Below.up hq.out hn.out)
  refine hKc _ _ hq.out (fun _ => ?_)
  clear hKc K hn
  try simp only [List.setIfInBounds_toArray, List.set_cons_zero, List.set_cons_succ]
  refine takeH 51 200 (.bool true) rfl rfl (by kernel_rfl) (by kernel_rfl) (by kernel_rfl) (fun _ _ _ h => h) (by rfl) (by intro W hSw; clear hSw; go_simp) hq.out ?_
  try simp only [List.setIfInBounds_toArray, List.set_cons_zero, List.set_cons_succ]
  refine takeH 52 201 (.bool true) rfl rfl (by kernel_rfl) (by kernel_rfl) (by kernel_rfl) (fun _ _ _ h => h) (by rfl) (by intro W hSw; clear hSw; go_simp) hq.out ?_
  try simp only [List.setIfInBounds_toArray, List.set_cons_zero, List.set_cons_succ]
  refine takeH 53 202 (.slice va7 vl7 vc7) rfl rfl (by kernel_rfl) (by kernel_rfl) (by kernel_rfl) (fun _ _ _ h => h) (by rfl) (by intro W hSw; clear hSw; go_simp) hq.out ?_
  try simp only [List.setIfInBounds_toArray, List.set_cons_zero, List.set_cons_succ]
  refine wpAnyH_ready (rs := [54]) (by kernel_rfl) (by simp) ?_
  refine AllReadyH.cons rfl (fun K hKc => ?_) AllReadyH.nil
  go_simp
  refine (kcon 4 none 0 0 _).mono ?_
  rintro e w90 ⟨rfl, hn⟩
  replace hB7 := Lib.hid (hB7.out.up hn.out)
  replace hb := Lib.hid (Below.up hb.out hn.out)
  replace hq := Lib.hid (Below.up hq.out hn.out)
  refine hKc _ _ hq.out (fun _ => ?_)
  clear hKc K hn
  try simp only [List.setIfInBounds_toArray, List.set_cons_zero, List.set_cons_succ]
  refine takeH 55 204 (.agg #[.int .i64 0, .int .i64 3, .int .i64 4, .slice none 0 0]) rfl rfl (by kernel_rfl) (by kernel_rfl) (by kernel_rfl) (fun _ _ _ h => h) (by rfl) (by intro W hSw; clear hSw; go_simp) hq.out ?_
  try simp only [List.setIfInBounds_toArray, List.set_cons_zero, List.set_cons_succ]
  refine wpAnyH_ready (rs := [56]) (by kernel_rfl) (by simp) ?_
  refine AllReadyH.cons rfl (fun K hKc => ?_) AllReadyH.nil
  go_simp
  refine (kcon 4 none 0 0 _).mono ?_
  rintro e w91 ⟨rfl, hn⟩
  replace hB7 := Lib.hid (hB7.out.up hn.out)
  replace hb := Lib.hid (Below.up hb.out hn.out)
  replace hq := Lib.hid (Below.up hq.out hn.out)
  refine hKc _ _ hq.out (fun _ => ?_)
  clear hKc K hn
  try simp only [List.setIfInBounds_toArray, List.set_cons_zero, List.set_cons_succ]
  refine takeH 57 206 (.agg #[.int .i64 1, .int .i64 3, .int .i64 4, .slice none 0 0]) rfl rfl (by kernel_rfl) (by kernel_rfl) (by kernel_rfl) (fun _ _ _ h => h) (by rfl) (by intro W hSw; clear hSw; go_simp) hq.out ?_
  try simp only [List.setIfInBounds_toArray, List.set_cons_zero, List.set_cons_succ]
  refine wpAnyH_ready (rs := [58]) (by kernel_rfl) (by simp) ?_
  refine AllReadyH.cons rfl (fun K hKc => ?_) AllReadyH.nil
  go_simp
  have hM7 : Hid (Bv (w91.alloc (.cells #[.int .i64 0, .int .i64 3, .int .i64 4, .slice none 0 0, .int .i64 1, .int .i64 3, .int .i64 4, .slice none 0 0] 38)) [(0, tc 4), (1, tc 4)] (some ⟨w91.heap.size, 0, none⟩) 2 2) := Lib.hid (Bv.two (x := dN 3 4) (y := dN 3 4) 0 1 (Liv.N _ 3 4) (Liv.N _ 3 4))
  replace hB7 := Lib.hid (hB7.out.up (bal w91 (.cells #[.int .i64 0, .int .i64 3, .int .i64 4, .slice none 0 0, .int .i64 1, .int .i64 3, .int .i64 4, .slice none 0 0] 38)))
  replace hb := Lib.hid (Below.up hb.out (bal w91 (.cells #[.int .i64 0, .int .i64 3, .int .i64 4, .slice none 0 0, .int .i64 1, .int .i64 3, .int .i64 4, .slice none 0 0] 38)))
  replace hq := Lib.hid (Below.up hq.out (bal w91 (.cells #[.int .i64 0, .int .i64 3, .int .i64 4, .slice none 0 0, .int .i64 1, .int .i64 3, .int .i64 4, .slice none 0 0] 38)))
  obtain ⟨w92, hw92⟩ : ∃ w92, w92 = w91.alloc (.cells #[.int .i64 0, .int .i64 3, .int .i64 4, .slice none 0 0, .int .i64 1, .int .i64 3, .int .i64 4, .slice none 0 0] 38) := ⟨_, rfl⟩
  rw [← hw92]
  rw [← hw92] at hB7
  rw [← hw92] at hM7
  rw [← hw92] at hb
  rw [← hw92] at hq
  clear hw92
  refine hKc _ _ hq.out (fun _ => ?_)
  clear hKc K
  try simp only [List.setIfInBounds_toArray, List.set_cons_zero, List.set_cons_succ]
  refine wpAnyH_ready (rs := [59]) (by kernel_rfl) (by simp) ?_
  refine AllReadyH.cons rfl (fun K hKc => ?_) AllReadyH.nil
  go_simp
  refine (kSameBinds hB7 hM7 rfl).mono ?_
  rintro e w93 ⟨rfl, hn⟩
  replace hB7 := Lib.hid (hB7.out.up hn.out)
  replace hM7 := Lib.hid (hM7.out.up hn.out)
  replace hb := Lib.hid (Below.up hb.out hn.out)
  replace hq := Lib.hid (Below.up hq.out hn.out)
  refine hKc _ _ hq.out (fun _ => ?_)
  clear hKc K hn
  try simp only [List.setIfInBounds_toArray, List.set_cons_zero, List.set_cons_succ]
  clear hB7 hM7
  refine takeH 60 209 (.bool true) rfl rfl (by kernel_rfl) (by kernel_rfl) (by kernel_rfl) (fun _ _ _ h => h) (by rfl) (by intro W hSw; clear hSw; go_simp) hq.out ?_
  try simp only [List.setIfInBounds_toArray, List.set_cons_zero, List.set_cons_succ]
  refine takeH 61 0 (.bool true) rfl rfl (by kernel_rfl) (by kernel_rfl) (by kernel_rfl) (fun _ _ _ h => h) (by rfl) (by intro W hSw; clear hSw; go_simp) hq.out ?_
  try simp only [List.setIfInBounds_toArray, List.set_cons_zero]
  refine wpAnyH_done (by kernel_rfl) ?_ _
  go_wp2_with fail
  go_ret
  exact ⟨rfl, hb.out⟩

end Go.Proofs.Ythlegfegkopdkaa

namespace Go.Proofs.Ythlegfegkopdkaa
open Go.RowKit Go.Shelf Go.Sort

theorem LbV.two {w : World} {x y : DT} (v u : Int) (h : Liv w x) (h2 : Liv w y) : LbV (w.alloc (.cells #[.int .i64 v, .int .i64 x.op, .int .i64 x.n, .slice x.a x.l x.c, .int .i64 u, .int .i64 y.op, .int .i64 y.n, .slice y.a y.l y.c] 38)) [⟨v, x⟩, ⟨u, y⟩] (some ⟨w.heap.size, 0, none⟩) 2 2 := by
  refine ⟨rfl, by omega, by omega, .inr ⟨w.heap.size, 0, rfl, by simp, fun k hk => ?_⟩⟩
  have : k = 0 ∨ k = 1 := by simp at hk; omega
  rcases this with rfl | rfl
  · exact ⟨⟨by go_cell, by go_cell, by go_cell, by go_cell⟩, (Liv.up h (bal _ _))⟩
  · exact ⟨⟨by go_cell, by go_cell, by go_cell, by go_cell⟩, (Liv.up h2 (bal _ _))⟩
theorem Bv.one {w : World} {x : DT} (v : Int) (h : Liv w x) : Bv (w.alloc (.cells #[.int .i64 v, .int .i64 x.op, .int .i64 x.n, .slice x.a x.l x.c] 38)) [(v, x.tm)] (some ⟨w.heap.size, 0, none⟩) 1 1 := by
  refine ⟨rfl, by omega, by omega, .inr ⟨w.heap.size, 0, rfl, by simp, fun k hk => ?_⟩⟩
  have h1' := Lies.isTm x (Liv.up h (bal w (.cells #[.int .i64 v, .int .i64 x.op, .int .i64 x.n, .slice x.a x.l x.c] 38)))
  have : k = 0 := by simp at hk; omega
  subst this
  exact ⟨by go_cell, x.a, x.l, x.c, ⟨by simp only [List.getElem_cons_zero, DT.tm_op]; go_cell, by simp only [List.getElem_cons_zero, DT.tm_n]; go_cell, by go_cell⟩, h1'⟩

theorem kIsValue {w : World} {A B : Option Addr} (k : Nat) (hS : Hid (SgV w A B)) (hL : Hid (Liv w (dS 3 3 k (dN 1 0)))) :
    Calls Try.prog 4 #[.agg #[.slice A 6 6, .slice B 2 2], .agg #[.int .i64 3, .int .i64 3, .slice (some ⟨k, 0, none⟩) 1 1]] w fun e w' => e = .returned (.tuple #[.bool true, .bool false, .int .i64 0]) ∧ Hid (Below w.heap.size w w') :=
  (IsValue_any sgS (dS 3 3 k (dN 1 0)) _ w A 6 6 B 2 2 (by simp [DT.size, dsizes]) (Nat.le_refl _) hS.out hL.out).mono fun e w' ⟨he, hb⟩ => by
    unfold isValB isValA at he
    rw [chk1, show formedB sgS (dS 3 3 k (dN 1 0)).tm = true from rfl] at he
    exact ⟨he, hb⟩

abbrev dA (k : Nat) : DT := dP 3 5 k (dN 1 0) (dN 1 1)
abbrev bA : List PB := [⟨0, dN 1 1⟩, ⟨1, dN 1 0⟩]
abbrev TA : Tm := .mk 3 5 [tv 1, tv 0]
theorem pA (k : Nat) : putF (bindK bA 2) (stK bA 2) 5 (fun _ => false) (dA k).tm = some TA := by rfl
theorem lA : lfB sgS (-1) (pbs bA) = true := by
  unfold bA pbs
  simp only [List.map_cons, List.map_nil, lfB]
  rfl
theorem sA (k : Nat) : substA sgS (dA k) bA TA = (TA, 0) := by
  unfold substA
  rw [chk1, show formedB sgS (dA k).tm = true from rfl, if_pos rfl, lA, if_pos rfl, if_pos (by rfl)]
theorem kSubstA {w : World} {A B : Option Addr} (k k3 : Nat) (hS : Hid (SgV w A B)) (hL : Hid (Liv w (dA k))) (hB : Hid (LbV w bA (some ⟨k3, 0, none⟩) 2 2)) :
    Calls Try.prog 8 #[.agg #[.slice A 6 6, .slice B 2 2], .agg #[.int .i64 3, .int .i64 5, .slice (some ⟨k, 0, none⟩) 2 2], .slice (some ⟨k3, 0, none⟩) 2 2] w fun e w' => ∃ a l c, e = .returned (.tuple #[.agg #[.int .i64 3, .int .i64 5, .slice a l c], .int .i64 0]) ∧ Hid (Tv w' TA a l c) ∧ Hid (Below w.heap.size w w') :=
  (Subst_any sgS (dA k) bA TA _ w A 6 6 B 2 2 _ 2 2 (by simp [DT.size, dsizes]) (by intro x hx; simp at hx; rcases hx with rfl | rfl <;> simp [DT.size, dsizes]) (Nat.le_refl _) hS.out hL.out hB.out (fun _ _ => ⟨5, pA k⟩)).mono fun e w' ⟨a, l, c, he, hF, hb⟩ => by
    rw [sA] at he hF
    exact ⟨a, l, c, he, hF.is, hb⟩
abbrev dB (k : Nat) : DT := dP 8 0 k (dN 1 0) (dN 1 0)
abbrev bB : List PB := [⟨0, dN 3 2⟩]
abbrev TB : Tm := .mk 8 0 [tc 2, tv 0]
theorem pB (k : Nat) : putF (bindK bB 1) (stK bB 1) 5 (fun _ => false) (dB k).tm = some TB := by rfl
theorem lB : lfB sgS (-1) (pbs bB) = true := by
  unfold bB pbs
  simp only [List.map_cons, List.map_nil, lfB]
  rfl
theorem sB (k : Nat) : substA sgS (dB k) bB TB = (TB, 0) := by
  unfold substA
  rw [chk1, show formedB sgS (dB k).tm = true from rfl, if_pos rfl, lB, if_pos rfl, if_pos (by rfl)]
theorem kSubstB {w : World} {A B : Option Addr} (k k3 : Nat) (hS : Hid (SgV w A B)) (hL : Hid (Liv w (dB k))) (hB : Hid (LbV w bB (some ⟨k3, 0, none⟩) 1 1)) :
    Calls Try.prog 8 #[.agg #[.slice A 6 6, .slice B 2 2], .agg #[.int .i64 8, .int .i64 0, .slice (some ⟨k, 0, none⟩) 2 2], .slice (some ⟨k3, 0, none⟩) 1 1] w fun e w' => ∃ a l c, e = .returned (.tuple #[.agg #[.int .i64 8, .int .i64 0, .slice a l c], .int .i64 0]) ∧ Hid (Tv w' TB a l c) ∧ Hid (Below w.heap.size w w') :=
  (Subst_any sgS (dB k) bB TB _ w A 6 6 B 2 2 _ 1 1 (by simp [DT.size, dsizes]) (by intro x hx; simp at hx; subst hx; simp [DT.size, dsizes]) (Nat.le_refl _) hS.out hL.out hB.out (fun _ _ => ⟨5, pB k⟩)).mono fun e w' ⟨a, l, c, he, hF, hb⟩ => by
    rw [sB] at he hF
    exact ⟨a, l, c, he, hF.is, hb⟩
abbrev dC (k1 k2 : Nat) : DT := dP 3 5 k2 (dN 1 0) (dP 8 1 k1 (dN 1 3) (dN 1 1))
theorem vC (k1 k2 k3 k4 : Nat) : variantA sgS (d5 k1 k2) (dC k3 k4) = true := by
  unfold variantA
  rw [chk2, show formedB sgS (d5 k1 k2).tm = true from rfl, show formedB sgS (dC k3 k4).tm = true from rfl]
  rfl
theorem kVariant {w : World} {A B : Option Addr} (k1 k2 k3 k4 : Nat) (hS : Hid (SgV w A B)) (hL : Hid (Liv w (d5 k1 k2))) (hL2 : Hid (Liv w (dC k3 k4))) :
    Calls Try.prog 10 #[.agg #[.slice A 6 6, .slice B 2 2], .agg #[.int .i64 3, .int .i64 5, .slice (some ⟨k2, 0, none⟩) 2 2], .agg #[.int .i64 3, .int .i64 5, .slice (some ⟨k4, 0, none⟩) 2 2]] w fun e w' => e = .returned (.tuple #[.bool true, .int .i64 0]) ∧ Hid (Below w.heap.size w w') :=
  (Variant_any sgS (d5 k1 k2) (dC k3 k4) _ w A 6 6 B 2 2 (by simp [DT.size, dsizes]) (by simp [DT.size, dsizes]) (Nat.le_refl _) hS.out hL.out hL2.out).mono fun e w' ⟨he, hb⟩ => by
    rw [vC, chk2, show formedB sgS (d5 k1 k2).tm = true from rfl, show formedB sgS (dC k3 k4).tm = true from rfl] at he
    exact ⟨he, hb⟩
theorem mN (k1 k2 : Nat) : matchA sgS (dP 3 5 k1 (dN 1 0) (dN 1 0)) (dP 3 5 k2 (dN 3 2) (dN 3 4)) = ([], 5) := by
  unfold matchA
  rw [chkV]
  rfl
theorem kMatchN {w : World} {A B : Option Addr} (k1 k2 : Nat) (hS : Hid (SgV w A B)) (hL : Hid (Liv w (dP 3 5 k1 (dN 1 0) (dN 1 0)))) (hL2 : Hid (Liv w (dP 3 5 k2 (dN 3 2) (dN 3 4)))) :
    Calls Try.prog 11 #[.agg #[.slice A 6 6, .slice B 2 2], .agg #[.int .i64 3, .int .i64 5, .slice (some ⟨k1, 0, none⟩) 2 2], .agg #[.int .i64 3, .int .i64 5, .slice (some ⟨k2, 0, none⟩) 2 2]] w fun e w' => ∃ va vl vc, e = .returned (.tuple #[.slice va vl vc, .int .i64 5]) ∧ Hid (Below w.heap.size w w') :=
  (Match_any sgS (dP 3 5 k1 (dN 1 0) (dN 1 0)) (dP 3 5 k2 (dN 3 2) (dN 3 4)) _ w A 6 6 B 2 2 (by simp [DT.size, dsizes]) (by simp [DT.size, dsizes]) (Nat.le_refl _) hS.out hL.out hL2.out).mono fun e w' ⟨a, l, c, he, hF, hb⟩ => by
    rw [mN] at he
    exact ⟨a, l, c, he, hb⟩
theorem u9 : UniAns (dN 1 3) (dN 1 1) [(3, tv 1)] 0 := by
  refine ⟨6, .inr ⟨updI noB 3 (vD 1), fun _ => tv 1, by rfl, fun v hv hne => ?_, by rfl, rfl⟩⟩
  by_cases h0 : v = 3
  · subst h0; exact ⟨1, by rfl⟩
  · exfalso; apply hne
    unfold updI noB
    rw [if_neg (by omega)]
theorem kIsPattern {w : World} {A B : Option Addr} (k : Nat) (hS : Hid (SgV w A B)) (hL : Hid (Liv w (dP 3 5 k (dN 1 0) (dN 1 0)))) :
    Calls Try.prog 13 #[.agg #[.slice A 6 6, .slice B 2 2], .agg #[.int .i64 3, .int .i64 5, .slice (some ⟨k, 0, none⟩) 2 2]] w fun e w' => e = .returned (.tuple #[.bool false, .int .i64 0]) ∧ Hid (Below w.heap.size w w') :=
  (IsPattern_any sgS (dP 3 5 k (dN 1 0) (dN 1 0)) _ w A 6 6 B 2 2 (by simp [DT.size, dsizes]) (Nat.le_refl _) hS.out hL.out).mono fun e w' ⟨he, hb⟩ => by
    unfold patA at he
    rw [chk1, show formedB sgS (dP 3 5 k (dN 1 0) (dN 1 0)).tm = true from rfl] at he
    exact ⟨he, hb⟩

end Go.Proofs.Ythlegfegkopdkaa

namespace Go.Proofs.Ythlegfegkopdkaa
open Go.RowKit Go.Shelf Go.Sort

theorem kKn (w : World) : Calls Try.prog 18 #[] w fun e w' => e = .returned (.bool true) ∧ Hid (Below w.heap.size w w') := known_any w

set_option maxRecDepth 100000 in
set_option maxHeartbeats 16000000 in
theorem TermKnown_any (w : World) : Calls Try.prog 3 #[] w fun e w' => e = .returned (.bool true) ∧ Below w.heap.size w w' := by
  have hb : Hid (Below w.heap.size w w) := Below.refl _ _
  go_enter Try.func3, Try.ntmps3
  go_wp2_with fail
  refine (kS _).mono ?_
  rintro e w1 ⟨A0, B0, rfl, hS', hn⟩
  replace hb := Lib.hid (Below.up hb.out hn.out)
  clear hn
  have hS := hS'
  clear hS'
  go_wp2_with fail
  refine (kv 0 _).mono ?_
  rintro e w2 ⟨rfl, hn⟩
  replace hS := Lib.hid (hS.out.up hn.out)
  replace hb := Lib.hid (Below.up hb.out hn.out)
  clear hn
  have hL : Hid (Liv (w2.alloc (.cells #[.int .i64 1, .int .i64 0, .slice none 0 0] 32)) (dS 3 3 w2.heap.size (dN 1 0))) := Lib.hid (Liv.S 3 3 (Liv.N _ 1 0))
  replace hS := Lib.hid (hS.out.up (bal w2 (.cells #[.int .i64 1, .int .i64 0, .slice none 0 0] 32)))
  replace hb := Lib.hid (Below.up hb.out (bal w2 (.cells #[.int .i64 1, .int .i64 0, .slice none 0 0] 32)))
  go_wp2_with fail
  refine (kcon 3 (some ⟨w2.heap.size, 0, none⟩) 1 1 _).mono ?_
  rintro e w3 ⟨rfl, hn⟩
  replace hS := Lib.hid (hS.out.up hn.out)
  replace hL := Lib.hid (hL.out.up hn.out)
  replace hb := Lib.hid (Below.up hb.out hn.out)
  clear hn
  go_wp2_with fail
  refine (kIsValue (w2.heap.size) hS hL).mono ?_
  rintro e w4 ⟨rfl, hn⟩
  replace hS := Lib.hid (hS.out.up hn.out)
  replace hL := Lib.hid (hL.out.up hn.out)
  replace hb := Lib.hid (Below.up hb.out hn.out)
  clear hn
  clear hS hL
  go_wp2_with fail
  refine (kS _).mono ?_
  rintro e w5 ⟨A4, B4, rfl, hS', hn⟩
  replace hb := Lib.hid (Below.up hb.out hn.out)
  clear hn
  have hS := hS'
  clear hS'
  go_wp2_with fail
  refine (kv 0 _).mono ?_
  rintro e w6 ⟨rfl, hn⟩
  replace hS := Lib.hid (hS.out.up hn.out)
  replace hb := Lib.hid (Below.up hb.out hn.out)
  clear hn
  go_wp2_with fail
  refine (kv 1 _).mono ?_
  rintro e w7 ⟨rfl, hn⟩
  replace hS := Lib.hid (hS.out.up hn.out)
  replace hb := Lib.hid (Below.up hb.out hn.out)
  clear hn
  have hL : Hid (Liv (w7.alloc (.cells #[.int .i64 1, .int .i64 0, .slice none 0 0, .int .i64 1, .int .i64 1, .slice none 0 0] 32)) (dP 3 5 w7.heap.size (dN 1 0) (dN 1 1))) := Lib.hid (Liv.P 3 5 (Liv.N _ 1 0) (Liv.N _ 1 1))
  replace hS := Lib.hid (hS.out.up (bal w7 (.cells #[.int .i64 1, .int .i64 0, .slice none 0 0, .int .i64 1, .int .i64 1, .slice none 0 0] 32)))
  replace hb := Lib.hid (Below.up hb.out (bal w7 (.cells #[.int .i64 1, .int .i64 0, .slice none 0 0, .int .i64 1, .int .i64 1, .slice none 0 0] 32)))
  go_wp2_with fail
  refine (kcon 5 (some ⟨w7.heap.size, 0, none⟩) 2 2 _).mono ?_
  rintro e w8 ⟨rfl, hn⟩
  replace hS := Lib.hid (hS.out.up hn.out)
  replace hL := Lib.hid (hL.out.up hn.out)
  replace hb := Lib.hid (Below.up hb.out hn.out)
  clear hn
  go_wp2_with fail
  refine (kv 1 _).mono ?_
  rintro e w9 ⟨rfl, hn⟩
  replace hS := Lib.hid (hS.out.up hn.out)
  replace hL := Lib.hid (hL.out.up hn.out)
  replace hb := Lib.hid (Below.up hb.out hn.out)
  clear hn
  go_wp2_with fail
  refine (kv 0 _).mono ?_
  rintro e w10 ⟨rfl, hn⟩
  replace hS := Lib.hid (hS.out.up hn.out)
  replace hL := Lib.hid (hL.out.up hn.out)
  replace hb := Lib.hid (Below.up hb.out hn.out)
  clear hn
  have hP : Hid (LbV (w10.alloc (.cells #[.int .i64 0, .int .i64 1, .int .i64 1, .slice none 0 0, .int .i64 1, .int .i64 1, .int .i64 0, .slice none 0 0] 38)) bA (some ⟨w10.heap.size, 0, none⟩) 2 2) := Lib.hid (LbV.two 0 1 (Liv.N _ 1 1) (Liv.N _ 1 0))
  replace hS := Lib.hid (hS.out.up (bal w10 (.cells #[.int .i64 0, .int .i64 1, .int .i64 1, .slice none 0 0, .int .i64 1, .int .i64 1, .int .i64 0, .slice none 0 0] 38)))
  replace hL := Lib.hid (hL.out.up (bal w10 (.cells #[.int .i64 0, .int .i64 1, .int .i64 1, .slice none 0 0, .int .i64 1, .int .i64 1, .int .i64 0, .slice none 0 0] 38)))
  replace hb := Lib.hid (Below.up hb.out (bal w10 (.cells #[.int .i64 0, .int .i64 1, .int .i64 1, .slice none 0 0, .int .i64 1, .int .i64 1, .int .i64 0, .slice none 0 0] 38)))
  go_wp2_with fail
  refine (kSubstA (w7.heap.size) (w10.heap.size) hS hL hP).mono ?_
  rintro e w11 ⟨a4, l4, c4, rfl, hT4, hn⟩
  replace hS := Lib.hid (hS.out.up hn.out)
  replace hL := Lib.hid (hL.out.up hn.out)
  replace hP := Lib.hid (hP.out.up hn.out)
  replace hb := Lib.hid (Below.up hb.out hn.out)
  clear hn
  clear hS hL hP
  have hA4 : Hid (BxV (w11.alloc (.cells #[.int .i64 3, .int .i64 5, .slice a4 l4 c4] 32)) (w11.heap.size) (.int .i64 3) (.int .i64 5) (.slice a4 l4 c4)) := Lib.hid (heap_new' _ rfl)
  replace hT4 := Lib.hid (hT4.out.up (bal w11 (.cells #[.int .i64 3, .int .i64 5, .slice a4 l4 c4] 32)))
  replace hb := Lib.hid (Below.up hb.out (bal w11 (.cells #[.int .i64 3, .int .i64 5, .slice a4 l4 c4] 32)))
  go_wp2_with fail
  refine (kS _).mono ?_
  rintro e w12 ⟨A11, B11, rfl, hS', hn⟩
  replace hT4 := Lib.hid (hT4.out.up hn.out)
  replace hA4 := Lib.hid (hA4.out.up hn.out)
  replace hb := Lib.hid (Below.up hb.out hn.out)
  clear hn
  have hS := hS'
  clear hS'
  go_wp2_with fail
  refine (kv 0 _).mono ?_
  rintro e w13 ⟨rfl, hn⟩
  replace hT4 := Lib.hid (hT4.out.up hn.out)
  replace hA4 := Lib.hid (hA4.out.up hn.out)
  replace hS := Lib.hid (hS.out.up hn.out)
  replace hb := Lib.hid (Below.up hb.out hn.out)
  clear hn
  go_wp2_with fail
  refine (kv 0 _).mono ?_
  rintro e w14 ⟨rfl, hn⟩
  replace hT4 := Lib.hid (hT4.out.up hn.out)
  replace hA4 := Lib.hid (hA4.out.up hn.out)
  replace hS := Lib.hid (hS.out.up hn.out)
  replace hb := Lib.hid (Below.up hb.out hn.out)
  clear hn
  have hL : Hid (Liv (w14.alloc (.cells #[.int .i64 1, .int .i64 0, .slice none 0 0, .int .i64 1, .int .i64 0, .slice none 0 0] 32)) (dP 8 0 w14.heap.size (dN 1 0) (dN 1 0))) := Lib.hid (Liv.P 8 0 (Liv.N _ 1 0) (Liv.N _ 1 0))
  replace hT4 := Lib.hid (hT4.out.up (bal w14 (.cells #[.int .i64 1, .int .i64 0, .slice none 0 0, .int .i64 1, .int .i64 0, .slice none 0 0] 32)))
  replace hA4 := Lib.hid (hA4.out.up (bal w14 (.cells #[.int .i64 1, .int .i64 0, .slice none 0 0, .int .i64 1, .int .i64 0, .slice none 0 0] 32)))
  replace hS := Lib.hid (hS.out.up (bal w14 (.cells #[.int .i64 1, .int .i64 0, .slice none 0 0, .int .i64 1, .int .i64 0, .slice none 0 0] 32)))
  replace hb := Lib.hid (Below.up hb.out (bal w14 (.cells #[.int .i64 1, .int .i64 0, .slice none 0 0, .int .i64 1, .int .i64 0, .slice none 0 0] 32)))
  go_wp2_with fail
  refine (knode 8 0 (some ⟨w14.heap.size, 0, none⟩) 2 2 _).mono ?_
  rintro e w15 ⟨rfl, hn⟩
  replace hT4 := Lib.hid (hT4.out.up hn.out)
  replace hA4 := Lib.hid (hA4.out.up hn.out)
  replace hS := Lib.hid (hS.out.up hn.out)
  replace hL := Lib.hid (hL.out.up hn.out)
  replace hb := Lib.hid (Below.up hb.out hn.out)
  clear hn
  go_wp2_with fail
  refine (kcon 2 none 0 0 _).mono ?_
  rintro e w16 ⟨rfl, hn⟩
  replace hT4 := Lib.hid (hT4.out.up hn.out)
  replace hA4 := Lib.hid (hA4.out.up hn.out)
  replace hS := Lib.hid (hS.out.up hn.out)
  replace hL := Lib.hid (hL.out.up hn.out)
  replace hb := Lib.hid (Below.up hb.out hn.out)
  clear hn
  have hP : Hid (LbV (w16.alloc (.cells #[.int .i64 0, .int .i64 3, .int .i64 2, .slice none 0 0] 38)) bB (some ⟨w16.heap.size, 0, none⟩) 1 1) := Lib.hid (LbV.one 0 (Liv.N _ 3 2))
  replace hT4 := Lib.hid (hT4.out.up (bal w16 (.cells #[.int .i64 0, .int .i64 3, .int .i64 2, .slice none 0 0] 38)))
  replace hA4 := Lib.hid (hA4.out.up (bal w16 (.cells #[.int .i64 0, .int .i64 3, .int .i64 2, .slice none 0 0] 38)))
  replace hS := Lib.hid (hS.out.up (bal w16 (.cells #[.int .i64 0, .int .i64 3, .int .i64 2, .slice none 0 0] 38)))
  replace hL := Lib.hid (hL.out.up (bal w16 (.cells #[.int .i64 0, .int .i64 3, .int .i64 2, .slice none 0 0] 38)))
  replace hb := Lib.hid (Below.up hb.out (bal w16 (.cells #[.int .i64 0, .int .i64 3, .int .i64 2, .slice none 0 0] 38)))
  go_wp2_with fail
  refine (kSubstB (w14.heap.size) (w16.heap.size) hS hL hP).mono ?_
  rintro e w17 ⟨a5, l5, c5, rfl, hT5, hn⟩
  replace hT4 := Lib.hid (hT4.out.up hn.out)
  replace hA4 := Lib.hid (hA4.out.up hn.out)
  replace hS := Lib.hid (hS.out.up hn.out)
  replace hL := Lib.hid (hL.out.up hn.out)
  replace hP := Lib.hid (hP.out.up hn.out)
  replace hb := Lib.hid (Below.up hb.out hn.out)
  clear hn
  clear hS hL hP
  have hA5 : Hid (BxV (w17.alloc (.cells #[.int .i64 8, .int .i64 0, .slice a5 l5 c5] 32)) (w17.heap.size) (.int .i64 8) (.int .i64 0) (.slice a5 l5 c5)) := Lib.hid (heap_new' _ rfl)
  replace hT4 := Lib.hid (hT4.out.up (bal w17 (.cells #[.int .i64 8, .int .i64 0, .slice a5 l5 c5] 32)))
  replace hA4 := Lib.hid (hA4.out.up (bal w17 (.cells #[.int .i64 8, .int .i64 0, .slice a5 l5 c5] 32)))
  replace hT5 := Lib.hid (hT5.out.up (bal w17 (.cells #[.int .i64 8, .int .i64 0, .slice a5 l5 c5] 32)))
  replace hb := Lib.hid (Below.up hb.out (bal w17 (.cells #[.int .i64 8, .int .i64 0, .slice a5 l5 c5] 32)))
  go_wp2_with fail
  refine (kS _).mono ?_
  rintro e w18 ⟨A17, B17, rfl, hS', hn⟩
  replace hT4 := Lib.hid (hT4.out.up hn.out)
  replace hA4 := Lib.hid (hA4.out.up hn.out)
  replace hT5 := Lib.hid (hT5.out.up hn.out)
  replace hA5 := Lib.hid (hA5.out.up hn.out)
  replace hb := Lib.hid (Below.up hb.out hn.out)
  clear hn
  have hS := hS'
  clear hS'
  go_wp2_with fail
  refine (kv 5 _).mono ?_
  rintro e w19 ⟨rfl, hn⟩
  replace hT4 := Lib.hid (hT4.out.up hn.out)
  replace hA4 := Lib.hid (hA4.out.up hn.out)
  replace hT5 := Lib.hid (hT5.out.up hn.out)
  replace hA5 := Lib.hid (hA5.out.up hn.out)
  replace hS := Lib.hid (hS.out.up hn.out)
  replace hb := Lib.hid (Below.up hb.out hn.out)
  clear hn
  go_wp2_with fail
  refine (kv 2 _).mono ?_
  rintro e w20 ⟨rfl, hn⟩
  replace hT4 := Lib.hid (hT4.out.up hn.out)
  replace hA4 := Lib.hid (hA4.out.up hn.out)
  replace hT5 := Lib.hid (hT5.out.up hn.out)
  replace hA5 := Lib.hid (hA5.out.up hn.out)
  replace hS := Lib.hid (hS.out.up hn.out)
  replace hb := Lib.hid (Below.up hb.out hn.out)
  clear hn
  go_wp2_with fail
  refine (kv 5 _).mono ?_
  rintro e w21 ⟨rfl, hn⟩
  replace hT4 := Lib.hid (hT4.out.up hn.out)
  replace hA4 := Lib.hid (hA4.out.up hn.out)
  replace hT5 := Lib.hid (hT5.out.up hn.out)
  replace hA5 := Lib.hid (hA5.out.up hn.out)
  replace hS := Lib.hid (hS.out.up hn.out)
  replace hb := Lib.hid (Below.up hb.out hn.out)
  clear hn
  have hL1 : Hid (Liv (w21.alloc (.cells #[.int .i64 1, .int .i64 2, .slice none 0 0, .int .i64 1, .int .i64 5, .slice none 0 0] 32)) (dP 8 5 w21.heap.size (dN 1 2) (dN 1 5))) := Lib.hid (Liv.P 8 5 (Liv.N _ 1 2) (Liv.N _ 1 5))
  replace hT4 := Lib.hid (hT4.out.up (bal w21 (.cells #[.int .i64 1, .int .i64 2, .slice none 0 0, .int .i64 1, .int .i64 5, .slice none 0 0] 32)))
  replace hA4 := Lib.hid (hA4.out.up (bal w21 (.cells #[.int .i64 1, .int .i64 2, .slice none 0 0, .int .i64 1, .int .i64 5, .slice none 0 0] 32)))
  replace hT5 := Lib.hid (hT5.out.up (bal w21 (.cells #[.int .i64 1, .int .i64 2, .slice none 0 0, .int .i64 1, .int .i64 5, .slice none 0 0] 32)))
  replace hA5 := Lib.hid (hA5.out.up (bal w21 (.cells #[.int .i64 1, .int .i64 2, .slice none 0 0, .int .i64 1, .int .i64 5, .slice none 0 0] 32)))
  replace hS := Lib.hid (hS.out.up (bal w21 (.cells #[.int .i64 1, .int .i64 2, .slice none 0 0, .int .i64 1, .int .i64 5, .slice none 0 0] 32)))
  replace hb := Lib.hid (Below.up hb.out (bal w21 (.cells #[.int .i64 1, .int .i64 2, .slice none 0 0, .int .i64 1, .int .i64 5, .slice none 0 0] 32)))
  go_wp2_with fail
  refine (knode 8 5 (some ⟨w21.heap.size, 0, none⟩) 2 2 _).mono ?_
  rintro e w22 ⟨rfl, hn⟩
  replace hT4 := Lib.hid (hT4.out.up hn.out)
  replace hA4 := Lib.hid (hA4.out.up hn.out)
  replace hT5 := Lib.hid (hT5.out.up hn.out)
  replace hA5 := Lib.hid (hA5.out.up hn.out)
  replace hS := Lib.hid (hS.out.up hn.out)
  replace hL1 := Lib.hid (hL1.out.up hn.out)
  replace hb := Lib.hid (Below.up hb.out hn.out)
  clear hn
  have hL : Hid (Liv (w22.alloc (.cells #[.int .i64 1, .int .i64 5, .slice none 0 0, .int .i64 8, .int .i64 5, .slice (some ⟨w21.heap.size, 0, none⟩) 2 2] 32)) (dP 3 5 w22.heap.size (dN 1 5) (dP 8 5 w21.heap.size (dN 1 2) (dN 1 5)))) := Lib.hid (Liv.P 3 5 (Liv.N _ 1 5) hL1.out)
  clear hL1
  replace hT4 := Lib.hid (hT4.out.up (bal w22 (.cells #[.int .i64 1, .int .i64 5, .slice none 0 0, .int .i64 8, .int .i64 5, .slice (some ⟨w21.heap.size, 0, none⟩) 2 2] 32)))
  replace hA4 := Lib.hid (hA4.out.up (bal w22 (.cells #[.int .i64 1, .int .i64 5, .slice none 0 0, .int .i64 8, .int .i64 5, .slice (some ⟨w21.heap.size, 0, none⟩) 2 2] 32)))
  replace hT5 := Lib.hid (hT5.out.up (bal w22 (.cells #[.int .i64 1, .int .i64 5, .slice none 0 0, .int .i64 8, .int .i64 5, .slice (some ⟨w21.heap.size, 0, none⟩) 2 2] 32)))
  replace hA5 := Lib.hid (hA5.out.up (bal w22 (.cells #[.int .i64 1, .int .i64 5, .slice none 0 0, .int .i64 8, .int .i64 5, .slice (some ⟨w21.heap.size, 0, none⟩) 2 2] 32)))
  replace hS := Lib.hid (hS.out.up (bal w22 (.cells #[.int .i64 1, .int .i64 5, .slice none 0 0, .int .i64 8, .int .i64 5, .slice (some ⟨w21.heap.size, 0, none⟩) 2 2] 32)))
  replace hb := Lib.hid (Below.up hb.out (bal w22 (.cells #[.int .i64 1, .int .i64 5, .slice none 0 0, .int .i64 8, .int .i64 5, .slice (some ⟨w21.heap.size, 0, none⟩) 2 2] 32)))
  go_wp2_with fail
  refine (kcon 5 (some ⟨w22.heap.size, 0, none⟩) 2 2 _).mono ?_
  rintro e w23 ⟨rfl, hn⟩
  replace hT4 := Lib.hid (hT4.out.up hn.out)
  replace hA4 := Lib.hid (hA4.out.up hn.out)
  replace hT5 := Lib.hid (hT5.out.up hn.out)
  replace hA5 := Lib.hid (hA5.out.up hn.out)
  replace hS := Lib.hid (hS.out.up hn.out)
  replace hL := Lib.hid (hL.out.up hn.out)
  replace hb := Lib.hid (Below.up hb.out hn.out)
  clear hn
  go_wp2_with fail
  refine (kv 0 _).mono ?_
  rintro e w24 ⟨rfl, hn⟩
  replace hT4 := Lib.hid (hT4.out.up hn.out)
  replace hA4 := Lib.hid (hA4.out.up hn.out)
  replace hT5 := Lib.hid (hT5.out.up hn.out)
  replace hA5 := Lib.hid (hA5.out.up hn.out)
  replace hS := Lib.hid (hS.out.up hn.out)
  replace hL := Lib.hid (hL.out.up hn.out)
  replace hb := Lib.hid (Below.up hb.out hn.out)
  clear hn
  go_wp2_with fail
  refine (kv 3 _).mono ?_
  rintro e w25 ⟨rfl, hn⟩
  replace hT4 := Lib.hid (hT4.out.up hn.out)
  replace hA4 := Lib.hid (hA4.out.up hn.out)
  replace hT5 := Lib.hid (hT5.out.up hn.out)
  replace hA5 := Lib.hid (hA5.out.up hn.out)
  replace hS := Lib.hid (hS.out.up hn.out)
  replace hL := Lib.hid (hL.out.up hn.out)
  replace hb := Lib.hid (Below.up hb.out hn.out)
  clear hn
  go_wp2_with fail
  refine (kv 1 _).mono ?_
  rintro e w26 ⟨rfl, hn⟩
  replace hT4 := Lib.hid (hT4.out.up hn.out)
  replace hA4 := Lib.hid (hA4.out.up hn.out)
  replace hT5 := Lib.hid (hT5.out.up hn.out)
  replace hA5 := Lib.hid (hA5.out.up hn.out)
  replace hS := Lib.hid (hS.out.up hn.out)
  replace hL := Lib.hid (hL.out.up hn.out)
  replace hb := Lib.hid (Below.up hb.out hn.out)
  clear hn
  have hM1 : Hid (Liv (w26.alloc (.cells #[.int .i64 1, .int .i64 3, .slice none 0 0, .int .i64 1, .int .i64 1, .slice none 0 0] 32)) (dP 8 1 w26.heap.size (dN 1 3) (dN 1 1))) := Lib.hid (Liv.P 8 1 (Liv.N _ 1 3) (Liv.N _ 1 1))
  replace hT4 := Lib.hid (hT4.out.up (bal w26 (.cells #[.int .i64 1, .int .i64 3, .slice none 0 0, .int .i64 1, .int .i64 1, .slice none 0 0] 32)))
  replace hA4 := Lib.hid (hA4.out.up (bal w26 (.cells #[.int .i64 1, .int .i64 3, .slice none 0 0, .int .i64 1, .int .i64 1, .slice none 0 0] 32)))
  replace hT5 := Lib.hid (hT5.out.up (bal w26 (.cells #[.int .i64 1, .int .i64 3, .slice none 0 0, .int .i64 1, .int .i64 1, .slice none 0 0] 32)))
  replace hA5 := Lib.hid (hA5.out.up (bal w26 (.cells #[.int .i64 1, .int .i64 3, .slice none 0 0, .int .i64 1, .int .i64 1, .slice none 0 0] 32)))
  replace hS := Lib.hid (hS.out.up (bal w26 (.cells #[.int .i64 1, .int .i64 3, .slice none 0 0, .int .i64 1, .int .i64 1, .slice none 0 0] 32)))
  replace hL := Lib.hid (hL.out.up (bal w26 (.cells #[.int .i64 1, .int .i64 3, .slice none 0 0, .int .i64 1, .int .i64 1, .slice none 0 0] 32)))
  replace hb := Lib.hid (Below.up hb.out (bal w26 (.cells #[.int .i64 1, .int .i64 3, .slice none 0 0, .int .i64 1, .int .i64 1, .slice none 0 0] 32)))
  go_wp2_with fail
  refine (knode 8 1 (some ⟨w26.heap.size, 0, none⟩) 2 2 _).mono ?_
  rintro e w27 ⟨rfl, hn⟩
  replace hT4 := Lib.hid (hT4.out.up hn.out)
  replace hA4 := Lib.hid (hA4.out.up hn.out)
  replace hT5 := Lib.hid (hT5.out.up hn.out)
  replace hA5 := Lib.hid (hA5.out.up hn.out)
  replace hS := Lib.hid (hS.out.up hn.out)
  replace hL := Lib.hid (hL.out.up hn.out)
  replace hM1 := Lib.hid (hM1.out.up hn.out)
  replace hb := Lib.hid (Below.up hb.out hn.out)
  clear hn
  have hM : Hid (Liv (w27.alloc (.cells #[.int .i64 1, .int .i64 0, .slice none 0 0, .int .i64 8, .int .i64 1, .slice (some ⟨w26.heap.size, 0, none⟩) 2 2] 32)) (dP 3 5 w27.heap.size (dN 1 0) (dP 8 1 w26.heap.size (dN 1 3) (dN 1 1)))) := Lib.hid (Liv.P 3 5 (Liv.N _ 1 0) hM1.out)
  clear hM1
  replace hT4 := Lib.hid (hT4.out.up (bal w27 (.cells #[.int .i64 1, .int .i64 0, .slice none 0 0, .int .i64 8, .int .i64 1, .slice (some ⟨w26.heap.size, 0, none⟩) 2 2] 32)))
  replace hA4 := Lib.hid (hA4.out.up (bal w27 (.cells #[.int .i64 1, .int .i64 0, .slice none 0 0, .int .i64 8, .int .i64 1, .slice (some ⟨w26.heap.size, 0, none⟩) 2 2] 32)))
  replace hT5 := Lib.hid (hT5.out.up (bal w27 (.cells #[.int .i64 1, .int .i64 0, .slice none 0 0, .int .i64 8, .int .i64 1, .slice (some ⟨w26.heap.size, 0, none⟩) 2 2] 32)))
  replace hA5 := Lib.hid (hA5.out.up (bal w27 (.cells #[.int .i64 1, .int .i64 0, .slice none 0 0, .int .i64 8, .int .i64 1, .slice (some ⟨w26.heap.size, 0, none⟩) 2 2] 32)))
  replace hS := Lib.hid (hS.out.up (bal w27 (.cells #[.int .i64 1, .int .i64 0, .slice none 0 0, .int .i64 8, .int .i64 1, .slice (some ⟨w26.heap.size, 0, none⟩) 2 2] 32)))
  replace hL := Lib.hid (hL.out.up (bal w27 (.cells #[.int .i64 1, .int .i64 0, .slice none 0 0, .int .i64 8, .int .i64 1, .slice (some ⟨w26.heap.size, 0, none⟩) 2 2] 32)))
  replace hb := Lib.hid (Below.up hb.out (bal w27 (.cells #[.int .i64 1, .int .i64 0, .slice none 0 0, .int .i64 8, .int .i64 1, .slice (some ⟨w26.heap.size, 0, none⟩) 2 2] 32)))
  go_wp2_with fail
  refine (kcon 5 (some ⟨w27.heap.size, 0, none⟩) 2 2 _).mono ?_
  rintro e w28 ⟨rfl, hn⟩
  replace hT4 := Lib.hid (hT4.out.up hn.out)
  replace hA4 := Lib.hid (hA4.out.up hn.out)
  replace hT5 := Lib.hid (hT5.out.up hn.out)
  replace hA5 := Lib.hid (hA5.out.up hn.out)
  replace hS := Lib.hid (hS.out.up hn.out)
  replace hL := Lib.hid (hL.out.up hn.out)
  replace hM := Lib.hid (hM.out.up hn.out)
  replace hb := Lib.hid (Below.up hb.out hn.out)
  clear hn
  go_wp2_with fail
  refine (kVariant (w21.heap.size) (w22.heap.size) (w26.heap.size) (w27.heap.size) hS hL hM).mono ?_
  rintro e w29 ⟨rfl, hn⟩
  replace hT4 := Lib.hid (hT4.out.up hn.out)
  replace hA4 := Lib.hid (hA4.out.up hn.out)
  replace hT5 := Lib.hid (hT5.out.up hn.out)
  replace hA5 := Lib.hid (hA5.out.up hn.out)
  replace hS := Lib.hid (hS.out.up hn.out)
  replace hL := Lib.hid (hL.out.up hn.out)
  replace hM := Lib.hid (hM.out.up hn.out)
  replace hb := Lib.hid (Below.up hb.out hn.out)
  clear hn
  clear hS hL hM
  go_wp2_with fail
  refine (kS _).mono ?_
  rintro e w30 ⟨A29, B29, rfl, hS', hn⟩
  replace hT4 := Lib.hid (hT4.out.up hn.out)
  replace hA4 := Lib.hid (hA4.out.up hn.out)
  replace hT5 := Lib.hid (hT5.out.up hn.out)
  replace hA5 := Lib.hid (hA5.out.up hn.out)
  replace hb := Lib.hid (Below.up hb.out hn.out)
  clear hn
  have hS := hS'
  clear hS'
  go_wp2_with fail
  refine (kv 0 _).mono ?_
  rintro e w31 ⟨rfl, hn⟩
  replace hT4 := Lib.hid (hT4.out.up hn.out)
  replace hA4 := Lib.hid (hA4.out.up hn.out)
  replace hT5 := Lib.hid (hT5.out.up hn.out)
  replace hA5 := Lib.hid (hA5.out.up hn.out)
  replace hS := Lib.hid (hS.out.up hn.out)
  replace hb := Lib.hid (Below.up hb.out hn.out)
  clear hn
  go_wp2_with fail
  refine (kv 0 _).mono ?_
  rintro e w32 ⟨rfl, hn⟩
  replace hT4 := Lib.hid (hT4.out.up hn.out)
  replace hA4 := Lib.hid (hA4.out.up hn.out)
  replace hT5 := Lib.hid (hT5.out.up hn.out)
  replace hA5 := Lib.hid (hA5.out.up hn.out)
  replace hS := Lib.hid (hS.out.up hn.out)
  replace hb := Lib.hid (Below.up hb.out hn.out)
  clear hn
  have hL : Hid (Liv (w32.alloc (.cells #[.int .i64 1, .int .i64 0, .slice none 0 0, .int .i64 1, .int .i64 0, .slice none 0 0] 32)) (dP 3 5 w32.heap.size (dN 1 0) (dN 1 0))) := Lib.hid (Liv.P 3 5 (Liv.N _ 1 0) (Liv.N _ 1 0))
  replace hT4 := Lib.hid (hT4.out.up (bal w32 (.cells #[.int .i64 1, .int .i64 0, .slice none 0 0, .int .i64 1, .int .i64 0, .slice none 0 0] 32)))
  replace hA4 := Lib.hid (hA4.out.up (bal w32 (.cells #[.int .i64 1, .int .i64 0, .slice none 0 0, .int .i64 1, .int .i64 0, .slice none 0 0] 32)))
  replace hT5 := Lib.hid (hT5.out.up (bal w32 (.cells #[.int .i64 1, .int .i64 0, .slice none 0 0, .int .i64 1, .int .i64 0, .slice none 0 0] 32)))
  replace hA5 := Lib.hid (hA5.out.up (bal w32 (.cells #[.int .i64 1, .int .i64 0, .slice none 0 0, .int .i64 1, .int .i64 0, .slice none 0 0] 32)))
  replace hS := Lib.hid (hS.out.up (bal w32 (.cells #[.int .i64 1, .int .i64 0, .slice none 0 0, .int .i64 1, .int .i64 0, .slice none 0 0] 32)))
  replace hb := Lib.hid (Below.up hb.out (bal w32 (.cells #[.int .i64 1, .int .i64 0, .slice none 0 0, .int .i64 1, .int .i64 0, .slice none 0 0] 32)))
  go_wp2_with fail
  refine (kcon 5 (some ⟨w32.heap.size, 0, none⟩) 2 2 _).mono ?_
  rintro e w33 ⟨rfl, hn⟩
  replace hT4 := Lib.hid (hT4.out.up hn.out)
  replace hA4 := Lib.hid (hA4.out.up hn.out)
  replace hT5 := Lib.hid (hT5.out.up hn.out)
  replace hA5 := Lib.hid (hA5.out.up hn.out)
  replace hS := Lib.hid (hS.out.up hn.out)
  replace hL := Lib.hid (hL.out.up hn.out)
  replace hb := Lib.hid (Below.up hb.out hn.out)
  clear hn
  go_wp2_with fail
  refine (kcon 2 none 0 0 _).mono ?_
  rintro e w34 ⟨rfl, hn⟩
  replace hT4 := Lib.hid (hT4.out.up hn.out)
  replace hA4 := Lib.hid (hA4.out.up hn.out)
  replace hT5 := Lib.hid (hT5.out.up hn.out)
  replace hA5 := Lib.hid (hA5.out.up hn.out)
  replace hS := Lib.hid (hS.out.up hn.out)
  replace hL := Lib.hid (hL.out.up hn.out)
  replace hb := Lib.hid (Below.up hb.out hn.out)
  clear hn
  go_wp2_with fail
  refine (kcon 4 none 0 0 _).mono ?_
  rintro e w35 ⟨rfl, hn⟩
  replace hT4 := Lib.hid (hT4.out.up hn.out)
  replace hA4 := Lib.hid (hA4.out.up hn.out)
  replace hT5 := Lib.hid (hT5.out.up hn.out)
  replace hA5 := Lib.hid (hA5.out.up hn.out)
  replace hS := Lib.hid (hS.out.up hn.out)
  replace hL := Lib.hid (hL.out.up hn.out)
  replace hb := Lib.hid (Below.up hb.out hn.out)
  clear hn
  have hM : Hid (Liv (w35.alloc (.cells #[.int .i64 3, .int .i64 2, .slice none 0 0, .int .i64 3, .int .i64 4, .slice none 0 0] 32)) (dP 3 5 w35.heap.size (dN 3 2) (dN 3 4))) := Lib.hid (Liv.P 3 5 (Liv.N _ 3 2) (Liv.N _ 3 4))
  replace hT4 := Lib.hid (hT4.out.up (bal w35 (.cells #[.int .i64 3, .int .i64 2, .slice none 0 0, .int .i64 3, .int .i64 4, .slice none 0 0] 32)))
  replace hA4 := Lib.hid (hA4.out.up (bal w35 (.cells #[.int .i64 3, .int .i64 2, .slice none 0 0, .int .i64 3, .int .i64 4, .slice none 0 0] 32)))
  replace hT5 := Lib.hid (hT5.out.up (bal w35 (.cells #[.int .i64 3, .int .i64 2, .slice none 0 0, .int .i64 3, .int .i64 4, .slice none 0 0] 32)))
  replace hA5 := Lib.hid (hA5.out.up (bal w35 (.cells #[.int .i64 3, .int .i64 2, .slice none 0 0, .int .i64 3, .int .i64 4, .slice none 0 0] 32)))
  replace hS := Lib.hid (hS.out.up (bal w35 (.cells #[.int .i64 3, .int .i64 2, .slice none 0 0, .int .i64 3, .int .i64 4, .slice none 0 0] 32)))
  replace hL := Lib.hid (hL.out.up (bal w35 (.cells #[.int .i64 3, .int .i64 2, .slice none 0 0, .int .i64 3, .int .i64 4, .slice none 0 0] 32)))
  replace hb := Lib.hid (Below.up hb.out (bal w35 (.cells #[.int .i64 3, .int .i64 2, .slice none 0 0, .int .i64 3, .int .i64 4, .slice none 0 0] 32)))
  go_wp2_with fail
  refine (kcon 5 (some ⟨w35.heap.size, 0, none⟩) 2 2 _).mono ?_
  rintro e w36 ⟨rfl, hn⟩
  replace hT4 := Lib.hid (hT4.out.up hn.out)
  replace hA4 := Lib.hid (hA4.out.up hn.out)
  replace hT5 := Lib.hid (hT5.out.up hn.out)
  replace hA5 := Lib.hid (hA5.out.up hn.out)
  replace hS := Lib.hid (hS.out.up hn.out)
  replace hL := Lib.hid (hL.out.up hn.out)
  replace hM := Lib.hid (hM.out.up hn.out)
  replace hb := Lib.hid (Below.up hb.out hn.out)
  clear hn
  go_wp2_with fail
  refine (kMatchN (w32.heap.size) (w35.heap.size) hS hL hM).mono ?_
  rintro e w37 ⟨va6, vl6, vc6, rfl, hn⟩
  replace hT4 := Lib.hid (hT4.out.up hn.out)
  replace hA4 := Lib.hid (hA4.out.up hn.out)
  replace hT5 := Lib.hid (hT5.out.up hn.out)
  replace hA5 := Lib.hid (hA5.out.up hn.out)
  replace hS := Lib.hid (hS.out.up hn.out)
  replace hL := Lib.hid (hL.out.up hn.out)
  replace hM := Lib.hid (hM.out.up hn.out)
  replace hb := Lib.hid (Below.up hb.out hn.out)
  clear hn
  clear hS hL hM
  go_wp2_with fail
  refine (kS _).mono ?_
  rintro e w38 ⟨A37, B37, rfl, hS', hn⟩
  replace hT4 := Lib.hid (hT4.out.up hn.out)
  replace hA4 := Lib.hid (hA4.out.up hn.out)
  replace hT5 := Lib.hid (hT5.out.up hn.out)
  replace hA5 := Lib.hid (hA5.out.up hn.out)
  replace hb := Lib.hid (Below.up hb.out hn.out)
  clear hn
  have hS := hS'
  clear hS'
  go_wp2_with fail
  refine (kv 3 _).mono ?_
  rintro e w39 ⟨rfl, hn⟩
  replace hT4 := Lib.hid (hT4.out.up hn.out)
  replace hA4 := Lib.hid (hA4.out.up hn.out)
  replace hT5 := Lib.hid (hT5.out.up hn.out)
  replace hA5 := Lib.hid (hA5.out.up hn.out)
  replace hS := Lib.hid (hS.out.up hn.out)
  replace hb := Lib.hid (Below.up hb.out hn.out)
  clear hn
  go_wp2_with fail
  refine (kv 1 _).mono ?_
  rintro e w40 ⟨rfl, hn⟩
  replace hT4 := Lib.hid (hT4.out.up hn.out)
  replace hA4 := Lib.hid (hA4.out.up hn.out)
  replace hT5 := Lib.hid (hT5.out.up hn.out)
  replace hA5 := Lib.hid (hA5.out.up hn.out)
  replace hS := Lib.hid (hS.out.up hn.out)
  replace hb := Lib.hid (Below.up hb.out hn.out)
  clear hn
  go_wp2_with fail
  refine (kUnify (dN 1 3) (dN 1 1) [(3, tv 1)] 0 (by simp [DT.size, dsizes]) (by simp [DT.size, dsizes]) hS (Liv.N _ 1 3) (Liv.N _ 1 1) (by rw [chkV]; rfl) u9).mono ?_
  rintro e w41 ⟨va7, vl7, vc7, rfl, hB7, hn⟩
  replace hT4 := Lib.hid (hT4.out.up hn.out)
  replace hA4 := Lib.hid (hA4.out.up hn.out)
  replace hT5 := Lib.hid (hT5.out.up hn.out)
  replace hA5 := Lib.hid (hA5.out.up hn.out)
  replace hS := Lib.hid (hS.out.up hn.out)
  replace hb := Lib.hid (Below.up hb.out hn.out)
  clear hn
  clear hS
  go_wp2_with fail
  refine (kS _).mono ?_
  rintro e w42 ⟨A41, B41, rfl, hS', hn⟩
  replace hT4 := Lib.hid (hT4.out.up hn.out)
  replace hA4 := Lib.hid (hA4.out.up hn.out)
  replace hT5 := Lib.hid (hT5.out.up hn.out)
  replace hA5 := Lib.hid (hA5.out.up hn.out)
  replace hB7 := Lib.hid (hB7.out.up hn.out)
  replace hb := Lib.hid (Below.up hb.out hn.out)
  clear hn
  have hS := hS'
  clear hS'
  go_wp2_with fail
  refine (kv 0 _).mono ?_
  rintro e w43 ⟨rfl, hn⟩
  replace hT4 := Lib.hid (hT4.out.up hn.out)
  replace hA4 := Lib.hid (hA4.out.up hn.out)
  replace hT5 := Lib.hid (hT5.out.up hn.out)
  replace hA5 := Lib.hid (hA5.out.up hn.out)
  replace hB7 := Lib.hid (hB7.out.up hn.out)
  replace hS := Lib.hid (hS.out.up hn.out)
  replace hb := Lib.hid (Below.up hb.out hn.out)
  clear hn
  go_wp2_with fail
  refine (kv 0 _).mono ?_
  rintro e w44 ⟨rfl, hn⟩
  replace hT4 := Lib.hid (hT4.out.up hn.out)
  replace hA4 := Lib.hid (hA4.out.up hn.out)
  replace hT5 := Lib.hid (hT5.out.up hn.out)
  replace hA5 := Lib.hid (hA5.out.up hn.out)
  replace hB7 := Lib.hid (hB7.out.up hn.out)
  replace hS := Lib.hid (hS.out.up hn.out)
  replace hb := Lib.hid (Below.up hb.out hn.out)
  clear hn
  have hL : Hid (Liv (w44.alloc (.cells #[.int .i64 1, .int .i64 0, .slice none 0 0, .int .i64 1, .int .i64 0, .slice none 0 0] 32)) (dP 3 5 w44.heap.size (dN 1 0) (dN 1 0))) := Lib.hid (Liv.P 3 5 (Liv.N _ 1 0) (Liv.N _ 1 0))
  replace hT4 := Lib.hid (hT4.out.up (bal w44 (.cells #[.int .i64 1, .int .i64 0, .slice none 0 0, .int .i64 1, .int .i64 0, .slice none 0 0] 32)))
  replace hA4 := Lib.hid (hA4.out.up (bal w44 (.cells #[.int .i64 1, .int .i64 0, .slice none 0 0, .int .i64 1, .int .i64 0, .slice none 0 0] 32)))
  replace hT5 := Lib.hid (hT5.out.up (bal w44 (.cells #[.int .i64 1, .int .i64 0, .slice none 0 0, .int .i64 1, .int .i64 0, .slice none 0 0] 32)))
  replace hA5 := Lib.hid (hA5.out.up (bal w44 (.cells #[.int .i64 1, .int .i64 0, .slice none 0 0, .int .i64 1, .int .i64 0, .slice none 0 0] 32)))
  replace hB7 := Lib.hid (hB7.out.up (bal w44 (.cells #[.int .i64 1, .int .i64 0, .slice none 0 0, .int .i64 1, .int .i64 0, .slice none 0 0] 32)))
  replace hS := Lib.hid (hS.out.up (bal w44 (.cells #[.int .i64 1, .int .i64 0, .slice none 0 0, .int .i64 1, .int .i64 0, .slice none 0 0] 32)))
  replace hb := Lib.hid (Below.up hb.out (bal w44 (.cells #[.int .i64 1, .int .i64 0, .slice none 0 0, .int .i64 1, .int .i64 0, .slice none 0 0] 32)))
  go_wp2_with fail
  refine (kcon 5 (some ⟨w44.heap.size, 0, none⟩) 2 2 _).mono ?_
  rintro e w45 ⟨rfl, hn⟩
  replace hT4 := Lib.hid (hT4.out.up hn.out)
  replace hA4 := Lib.hid (hA4.out.up hn.out)
  replace hT5 := Lib.hid (hT5.out.up hn.out)
  replace hA5 := Lib.hid (hA5.out.up hn.out)
  replace hB7 := Lib.hid (hB7.out.up hn.out)
  replace hS := Lib.hid (hS.out.up hn.out)
  replace hL := Lib.hid (hL.out.up hn.out)
  replace hb := Lib.hid (Below.up hb.out hn.out)
  clear hn
  go_wp2_with fail
  refine (kIsPattern (w44.heap.size) hS hL).mono ?_
  rintro e w46 ⟨rfl, hn⟩
  replace hT4 := Lib.hid (hT4.out.up hn.out)
  replace hA4 := Lib.hid (hA4.out.up hn.out)
  replace hT5 := Lib.hid (hT5.out.up hn.out)
  replace hA5 := Lib.hid (hA5.out.up hn.out)
  replace hB7 := Lib.hid (hB7.out.up hn.out)
  replace hS := Lib.hid (hS.out.up hn.out)
  replace hL := Lib.hid (hL.out.up hn.out)
  replace hb := Lib.hid (Below.up hb.out hn.out)
  clear hn
  clear hS hL
  go_upto_region 10 with fail
  have hK : Hid (∀ W, Below w46.heap.size w46 W → (W.cell? ⟨w11.heap.size, 0, none⟩ = some (.int .i64 3) ∧ W.cell? ⟨w11.heap.size, 1, none⟩ = some (.int .i64 5) ∧ W.cell? ⟨w11.heap.size, 2, none⟩ = some (.slice a4 l4 c4)) ∧ (W.cell? ⟨w17.heap.size, 0, none⟩ = some (.int .i64 8) ∧ W.cell? ⟨w17.heap.size, 1, none⟩ = some (.int .i64 0) ∧ W.cell? ⟨w17.heap.size, 2, none⟩ = some (.slice a5 l5 c5))) := Lib.hid (fun W h => ⟨(c3_cells (hA4.out.up h)).1, (c3_cells (hA5.out.up h)).1⟩)
  clear hA4 hA5
  refine region_named (S := fun W' => Below w46.heap.size w46 W') (by kernel_rfl) (fun w47 hw47 => ?_)
  have hq : Hid (Below w46.heap.size w46 w46.drew) := Lib.hid ((Below.refl _ _).drew)
  have hdr : Hid (Below w46.heap.size w46 w46.drew) := hq
  replace hT4 := Lib.hid (hT4.out.up hdr.out)
  replace hT5 := Lib.hid (hT5.out.up hdr.out)
  replace hB7 := Lib.hid (hB7.out.up hdr.out)
  replace hb := Lib.hid (Below.up hb.out hdr.out)
  clear hdr
  rw [← hw47] at hT4
  rw [← hw47] at hT5
  rw [← hw47] at hB7
  rw [← hw47] at hb
  rw [← hw47] at hq
  clear hw47
  refine takeH 0 139 (.agg #[.int .i64 3, .int .i64 5, .slice a4 l4 c4]) rfl rfl (by kernel_rfl) (by kernel_rfl) (by kernel_rfl) (fun _ _ _ h => h) (by rfl) (by intro W hSw; obtain ⟨⟨j1, j2, j3⟩, ⟨j4, j5, j6⟩⟩ := hK.out W hSw; clear hSw; go_simp) hq.out ?_
  try simp only [List.setIfInBounds_toArray, List.set_cons_zero, List.set_cons_succ]
  refine wpAnyH_ready (rs := [1]) (by kernel_rfl) (by simp) ?_
  refine AllReadyH.cons rfl (fun K hKc => ?_) AllReadyH.nil
  go_simp
  refine (kSmall hT4 rfl).mono ?_
  rintro e w48 ⟨rfl, hn⟩
  replace hT4 := Lib.hid (hT4.out.up hn.out)
  replace hT5 := Lib.hid (hT5.out.up hn.out)
  replace hB7 := Lib.hid (hB7.out.up hn.out)
  replace hb := Lib.hid (Below.up hb.out hn.out)
  replace hq := Lib.hid (Below.up hq.out hn.out)
  refine hKc _ _ hq.out (fun _ => ?_)
  clear hKc K hn
  try simp only [List.setIfInBounds_toArray, List.set_cons_zero, List.set_cons_succ]
  refine takeH 2 141 (.bool true) rfl rfl (by kernel_rfl) (by kernel_rfl) (by kernel_rfl) (fun _ _ _ h => h) (by rfl) (by intro W hSw; clear hSw; go_simp) hq.out ?_
  try simp only [List.setIfInBounds_toArray, List.set_cons_zero, List.set_cons_succ]
  refine takeH 3 142 (.agg #[.int .i64 3, .int .i64 5, .slice a4 l4 c4]) rfl rfl (by kernel_rfl) (by kernel_rfl) (by kernel_rfl) (fun _ _ _ h => h) (by rfl) (by intro W hSw; obtain ⟨⟨j1, j2, j3⟩, ⟨j4, j5, j6⟩⟩ := hK.out W hSw; clear hSw; go_simp) hq.out ?_
  try simp only [List.setIfInBounds_toArray, List.set_cons_zero, List.set_cons_succ]
  refine wpAnyH_ready (rs := [4]) (by kernel_rfl) (by simp) ?_
  refine AllReadyH.cons rfl (fun K hKc => ?_) AllReadyH.nil
  go_simp
  refine (kv 1 _).mono ?_
  rintro e w49 ⟨rfl, hn⟩
  replace hT4 := Lib.hid (hT4.out.up hn.out)
  replace hT5 := Lib.hid (hT5.out.up hn.out)
  replace hB7 := Lib.hid (hB7.out.up hn.out)
  replace hb := Lib.hid (Below.up hb.out hn.out)
  replace hq := Lib.hid (Below.up hq.out hn.out)
  refine hKc _ _ hq.out (fun _ => ?_)
  clear hKc K hn
  try simp only [List.setIfInBounds_toArray, List.set_cons_zero, List.set_cons_succ]
  refine wpAnyH_ready (rs := [5]) (by kernel_rfl) (by simp) ?_
  refine AllReadyH.cons rfl (fun K hKc => ?_) AllReadyH.nil
  go_simp
  refine (kv 0 _).mono ?_
  rintro e w50 ⟨rfl, hn⟩
  replace hT4 := Lib.hid (hT4.out.up hn.out)
  replace hT5 := Lib.hid (hT5.out.up hn.out)
  replace hB7 := Lib.hid (hB7.out.up hn.out)
  replace hb := Lib.hid (Below.up hb.out hn.out)
  replace hq := Lib.hid (Below.up hq.out hn.out)
  refine hKc _ _ hq.out (fun _ => ?_)
  clear hKc K hn
  try simp only [List.setIfInBounds_toArray, List.set_cons_zero, List.set_cons_succ]
  refine wpAnyH_ready (rs := [6]) (by kernel_rfl) (by simp) ?_
  refine AllReadyH.cons rfl (fun K hKc => ?_) AllReadyH.nil
  go_simp
  have hL1 : Hid (Liv (w50.alloc (.cells #[.int .i64 1, .int .i64 1, .slice none 0 0, .int .i64 1, .int .i64 0, .slice none 0 0] 32)) (dP 3 5 w50.heap.size (dN 1 1) (dN 1 0))) := Lib.hid (Liv.P 3 5 (Liv.N _ 1 1) (Liv.N _ 1 0))
  replace hT4 := Lib.hid (hT4.out.up (bal w50 (.cells #[.int .i64 1, .int .i64 1, .slice none 0 0, .int .i64 1, .int .i64 0, .slice none 0 0] 32)))
  replace hT5 := Lib.hid (hT5.out.up (bal w50 (.cells #[.int .i64 1, .int .i64 1, .slice none 0 0, .int .i64 1, .int .i64 0, .slice none 0 0] 32)))
  replace hB7 := Lib.hid (hB7.out.up (bal w50 (.cells #[.int .i64 1, .int .i64 1, .slice none 0 0, .int .i64 1, .int .i64 0, .slice none 0 0] 32)))
  replace hb := Lib.hid (Below.up hb.out (bal w50 (.cells #[.int .i64 1, .int .i64 1, .slice none 0 0, .int .i64 1, .int .i64 0, .slice none 0 0] 32)))
  replace hq := Lib.hid (Below.up hq.out (bal w50 (.cells #[.int .i64 1, .int .i64 1, .slice none 0 0, .int .i64 1, .int .i64 0, .slice none 0 0] 32)))
  obtain ⟨w51, hw51⟩ : ∃ w51, w51 = w50.alloc (.cells #[.int .i64 1, .int .i64 1, .slice none 0 0, .int .i64 1, .int .i64 0, .slice none 0 0] 32) := ⟨_, rfl⟩
  rw [← hw51]
  rw [← hw51] at hT4
  rw [← hw51] at hT5
  rw [← hw51] at hB7
  rw [← hw51] at hL1
  rw [← hw51] at hb
  rw [← hw51] at hq
  clear hw51
  refine hKc _ _ hq.out (fun _ => ?_)
  clear hKc K
  try simp only [List.setIfInBounds_toArray, List.set_cons_zero, List.set_cons_succ]
  refine wpAnyH_ready (rs := [7]) (by kernel_rfl) (by simp) ?_
  refine AllReadyH.cons rfl (fun K hKc => ?_) AllReadyH.nil
  go_simp
  refine (kcon 5 (some ⟨w50.heap.size, 0, none⟩) 2 2 _).mono ?_
  rintro e w52 ⟨rfl, hn⟩
  replace hT4 := Lib.hid (hT4.out.up hn.out)
  replace hT5 := Lib.hid (hT5.out.up hn.out)
  replace hB7 := Lib.hid (hB7.out.up hn.out)
  replace hL1 := Lib.hid (hL1.out.up hn.out)
  replace hb := Lib.hid (Below.up hb.out hn.out)
  replace hq := Lib.hid (Below.up hq.out hn.out)
  refine hKc _ _ hq.out (fun _ => ?_)
  clear hKc K hn
  try simp only [List.setIfInBounds_toArray, List.set_cons_zero, List.set_cons_succ]
  refine wpAnyH_ready (rs := [8]) (by kernel_rfl) (by simp) ?_
  refine AllReadyH.cons rfl (fun K hKc => ?_) AllReadyH.nil
  go_simp
  refine (kSame (dP 3 5 w50.heap.size (dN 1 1) (dN 1 0)) hT4 hL1 rfl).mono ?_
  rintro e w53 ⟨rfl, hn⟩
  replace hT4 := Lib.hid (hT4.out.up hn.out)
  replace hT5 := Lib.hid (hT5.out.up hn.out)
  replace hB7 := Lib.hid (hB7.out.up hn.out)
  replace hL1 := Lib.hid (hL1.out.up hn.out)
  replace hb := Lib.hid (Below.up hb.out hn.out)
  replace hq := Lib.hid (Below.up hq.out hn.out)
  refine hKc _ _ hq.out (fun _ => ?_)
  clear hKc K hn
  try simp only [List.setIfInBounds_toArray, List.set_cons_zero, List.set_cons_succ]
  clear hT4 hL1
  refine takeH 9 148 (.bool true) rfl rfl (by kernel_rfl) (by kernel_rfl) (by kernel_rfl) (fun _ _ _ h => h) (by rfl) (by intro W hSw; clear hSw; go_simp) hq.out ?_
  try simp only [List.setIfInBounds_toArray, List.set_cons_zero, List.set_cons_succ]
  refine takeH 10 149 (.bool true) rfl rfl (by kernel_rfl) (by kernel_rfl) (by kernel_rfl) (fun _ _ _ h => h) (by rfl) (by intro W hSw; clear hSw; go_simp) hq.out ?_
  try simp only [List.setIfInBounds_toArray, List.set_cons_zero, List.set_cons_succ]
  refine takeH 11 150 (.agg #[.int .i64 8, .int .i64 0, .slice a5 l5 c5]) rfl rfl (by kernel_rfl) (by kernel_rfl) (by kernel_rfl) (fun _ _ _ h => h) (by rfl) (by intro W hSw; obtain ⟨⟨j1, j2, j3⟩, ⟨j4, j5, j6⟩⟩ := hK.out W hSw; clear hSw; go_simp) hq.out ?_
  try simp only [List.setIfInBounds_toArray, List.set_cons_zero, List.set_cons_succ]
  refine wpAnyH_ready (rs := [12]) (by kernel_rfl) (by simp) ?_
  refine AllReadyH.cons rfl (fun K hKc => ?_) AllReadyH.nil
  go_simp
  refine (kSmall hT5 rfl).mono ?_
  rintro e w54 ⟨rfl, hn⟩
  replace hT5 := Lib.hid (hT5.out.up hn.out)
  replace hB7 := Lib.hid (hB7.out.up hn.out)
  replace hb := Lib.hid (Below.up hb.out hn.out)
  replace hq := Lib.hid (Below.up hq.out hn.out)
  refine hKc _ _ hq.out (fun _ => ?_)
  clear hKc K hn
  try simp only [List.setIfInBounds_toArray, List.set_cons_zero, List.set_cons_succ]
  refine takeH 13 152 (.bool true) rfl rfl (by kernel_rfl) (by kernel_rfl) (by kernel_rfl) (fun _ _ _ h => h) (by rfl) (by intro W hSw; clear hSw; go_simp) hq.out ?_
  try simp only [List.setIfInBounds_toArray, List.set_cons_zero, List.set_cons_succ]
  refine takeH 14 153 (.bool true) rfl rfl (by kernel_rfl) (by kernel_rfl) (by kernel_rfl) (fun _ _ _ h => h) (by rfl) (by intro W hSw; clear hSw; go_simp) hq.out ?_
  try simp only [List.setIfInBounds_toArray, List.set_cons_zero, List.set_cons_succ]
  refine takeH 15 154 (.agg #[.int .i64 8, .int .i64 0, .slice a5 l5 c5]) rfl rfl (by kernel_rfl) (by kernel_rfl) (by kernel_rfl) (fun _ _ _ h => h) (by rfl) (by intro W hSw; obtain ⟨⟨j1, j2, j3⟩, ⟨j4, j5, j6⟩⟩ := hK.out W hSw; clear hSw; go_simp) hq.out ?_
  try simp only [List.setIfInBounds_toArray, List.set_cons_zero, List.set_cons_succ]
  refine wpAnyH_ready (rs := [16]) (by kernel_rfl) (by simp) ?_
  refine AllReadyH.cons rfl (fun K hKc => ?_) AllReadyH.nil
  go_simp
  refine (kcon 2 none 0 0 _).mono ?_
  rintro e w55 ⟨rfl, hn⟩
  replace hT5 := Lib.hid (hT5.out.up hn.out)
  replace hB7 := Lib.hid (hB7.out.up hn.out)
  replace hb := Lib.hid (Below.up hb.out hn.out)
  replace hq := Lib.hid (Below.up hq.out hn.out)
  refine hKc _ _ hq.out (fun _ => ?_)
  clear hKc K hn
  try simp only [List.setIfInBounds_toArray, List.set_cons_zero, List.set_cons_succ]
  refine wpAnyH_ready (rs := [17]) (by kernel_rfl) (by simp) ?_
  refine AllReadyH.cons rfl (fun K hKc => ?_) AllReadyH.nil
  go_simp
  refine (kv 0 _).mono ?_
  rintro e w56 ⟨rfl, hn⟩
  replace hT5 := Lib.hid (hT5.out.up hn.out)
  replace hB7 := Lib.hid (hB7.out.up hn.out)
  replace hb := Lib.hid (Below.up hb.out hn.out)
  replace hq := Lib.hid (Below.up hq.out hn.out)
  refine hKc _ _ hq.out (fun _ => ?_)
  clear hKc K hn
  try simp only [List.setIfInBounds_toArray, List.set_cons_zero, List.set_cons_succ]
  refine wpAnyH_ready (rs := [18]) (by kernel_rfl) (by simp) ?_
  refine AllReadyH.cons rfl (fun K hKc => ?_) AllReadyH.nil
  go_simp
  have hL2 : Hid (Liv (w56.alloc (.cells #[.int .i64 3, .int .i64 2, .slice none 0 0, .int .i64 1, .int .i64 0, .slice none 0 0] 32)) (dP 8 0 w56.heap.size (dN 3 2) (dN 1 0))) := Lib.hid (Liv.P 8 0 (Liv.N _ 3 2) (Liv.N _ 1 0))
  replace hT5 := Lib.hid (hT5.out.up (bal w56 (.cells #[.int .i64 3, .int .i64 2, .slice none 0 0, .int .i64 1, .int .i64 0, .slice none 0 0] 32)))
  replace hB7 := Lib.hid (hB7.out.up (bal w56 (.cells #[.int .i64 3, .int .i64 2, .slice none 0 0, .int .i64 1, .int .i64 0, .slice none 0 0] 32)))
  replace hb := Lib.hid (Below.up hb.out (bal w56 (.cells #[.int .i64 3, .int .i64 2, .slice none 0 0, .int .i64 1, .int .i64 0, .slice none 0 0] 32)))
  replace hq := Lib.hid (Below.up hq.out (bal w56 (.cells #[.int .i64 3, .int .i64 2, .slice none 0 0, .int .i64 1, .int .i64 0, .slice none 0 0] 32)))
  obtain ⟨w57, hw57⟩ : ∃ w57, w57 = w56.alloc (.cells #[.int .i64 3, .int .i64 2, .slice none 0 0, .int .i64 1, .int .i64 0, .slice none 0 0] 32) := ⟨_, rfl⟩
  rw [← hw57]
  rw [← hw57] at hT5
  rw [← hw57] at hB7
  rw [← hw57] at hL2
  rw [← hw57] at hb
  rw [← hw57] at hq
  clear hw57
  refine hKc _ _ hq.out (fun _ => ?_)
  clear hKc K
  try simp only [List.setIfInBounds_toArray, List.set_cons_zero, List.set_cons_succ]
  refine wpAnyH_ready (rs := [19]) (by kernel_rfl) (by simp) ?_
  refine AllReadyH.cons rfl (fun K hKc => ?_) AllReadyH.nil
  go_simp
  refine (knode 8 0 (some ⟨w56.heap.size, 0, none⟩) 2 2 _).mono ?_
  rintro e w58 ⟨rfl, hn⟩
  replace hT5 := Lib.hid (hT5.out.up hn.out)
  replace hB7 := Lib.hid (hB7.out.up hn.out)
  replace hL2 := Lib.hid (hL2.out.up hn.out)
  replace hb := Lib.hid (Below.up hb.out hn.out)
  replace hq := Lib.hid (Below.up hq.out hn.out)
  refine hKc _ _ hq.out (fun _ => ?_)
  clear hKc K hn
  try simp only [List.setIfInBounds_toArray, List.set_cons_zero, List.set_cons_succ]
  refine wpAnyH_ready (rs := [20]) (by kernel_rfl) (by simp) ?_
  refine AllReadyH.cons rfl (fun K hKc => ?_) AllReadyH.nil
  go_simp
  refine (kSame (dP 8 0 w56.heap.size (dN 3 2) (dN 1 0)) hT5 hL2 rfl).mono ?_
  rintro e w59 ⟨rfl, hn⟩
  replace hT5 := Lib.hid (hT5.out.up hn.out)
  replace hB7 := Lib.hid (hB7.out.up hn.out)
  replace hL2 := Lib.hid (hL2.out.up hn.out)
  replace hb := Lib.hid (Below.up hb.out hn.out)
  replace hq := Lib.hid (Below.up hq.out hn.out)
  refine hKc _ _ hq.out (fun _ => ?_)
  clear hKc K hn
  try simp only [List.setIfInBounds_toArray, List.set_cons_zero, List.set_cons_succ]
  clear hT5 hL2
  refine takeH 21 160 (.bool true) rfl rfl (by kernel_rfl) (by kernel_rfl) (by kernel_rfl) (fun _ _ _ h => h) (by rfl) (by intro W hSw; clear hSw; go_simp) hq.out ?_
  try simp only [List.setIfInBounds_toArray, List.set_cons_zero, List.set_cons_succ]
  refine takeH 22 161 (.bool true) rfl rfl (by kernel_rfl) (by kernel_rfl) (by kernel_rfl) (fun _ _ _ h => h) (by rfl) (by intro W hSw; clear hSw; go_simp) hq.out ?_
  try simp only [List.setIfInBounds_toArray, List.set_cons_zero, List.set_cons_succ]
  refine takeH 23 162 (.slice va7 vl7 vc7) rfl rfl (by kernel_rfl) (by kernel_rfl) (by kernel_rfl) (fun _ _ _ h => h) (by rfl) (by intro W hSw; clear hSw; go_simp) hq.out ?_
  try simp only [List.setIfInBounds_toArray, List.set_cons_zero, List.set_cons_succ]
  refine wpAnyH_ready (rs := [24]) (by kernel_rfl) (by simp) ?_
  refine AllReadyH.cons rfl (fun K hKc => ?_) AllReadyH.nil
  go_simp
  refine (kSmallBinds hB7 rfl).mono ?_
  rintro e w60 ⟨rfl, hn⟩
  replace hB7 := Lib.hid (hB7.out.up hn.out)
  replace hb := Lib.hid (Below.up hb.out hn.out)
  replace hq := Lib.hid (Below.up hq.out hn.out)
  refine hKc _ _ hq.out (fun _ => ?_)
  clear hKc K hn
  try simp only [List.setIfInBounds_toArray, List.set_cons_zero, List.set_cons_succ]
  refine takeH 25 164 (.bool true) rfl rfl (by kernel_rfl) (by kernel_rfl) (by kernel_rfl) (fun _ _ _ h => h) (by rfl) (by intro W hSw; clear hSw; go_simp) hq.out ?_
  try simp only [List.setIfInBounds_toArray, List.set_cons_zero, List.set_cons_succ]
  refine takeH 26 165 (.bool true) rfl rfl (by kernel_rfl) (by kernel_rfl) (by kernel_rfl) (fun _ _ _ h => h) (by rfl) (by intro W hSw; clear hSw; go_simp) hq.out ?_
  try simp only [List.setIfInBounds_toArray, List.set_cons_zero, List.set_cons_succ]
  refine takeH 27 166 (.slice va7 vl7 vc7) rfl rfl (by kernel_rfl) (by kernel_rfl) (by kernel_rfl) (fun _ _ _ h => h) (by rfl) (by intro W hSw; clear hSw; go_simp) hq.out ?_
  try simp only [List.setIfInBounds_toArray, List.set_cons_zero, List.set_cons_succ]
  refine wpAnyH_ready (rs := [28]) (by kernel_rfl) (by simp) ?_
  refine AllReadyH.cons rfl (fun K hKc => ?_) AllReadyH.nil
  go_simp
  refine (kv 1 _).mono ?_
  rintro e w61 ⟨rfl, hn⟩
  replace hB7 := Lib.hid (hB7.out.up hn.out)
  replace hb := Lib.hid (Below.up hb.out hn.out)
  replace hq := Lib.hid (Below.up hq.out hn.out)
  refine hKc _ _ hq.out (fun _ => ?_)
  clear hKc K hn
  try simp only [List.setIfInBounds_toArray, List.set_cons_zero, List.set_cons_succ]
  refine takeH 29 168 (.agg #[.int .i64 3, .int .i64 1, .int .i64 1, .slice none 0 0]) rfl rfl (by kernel_rfl) (by kernel_rfl) (by kernel_rfl) (fun _ _ _ h => h) (by rfl) (by intro W hSw; clear hSw; go_simp) hq.out ?_
  try simp only [List.setIfInBounds_toArray, List.set_cons_zero, List.set_cons_succ]
  refine wpAnyH_ready (rs := [30]) (by kernel_rfl) (by simp) ?_
  refine AllReadyH.cons rfl (fun K hKc => ?_) AllReadyH.nil
  go_simp
  have hM7 : Hid (Bv (w61.alloc (.cells #[.int .i64 3, .int .i64 1, .int .i64 1, .slice none 0 0] 38)) [(3, tv 1)] (some ⟨w61.heap.size, 0, none⟩) 1 1) := Lib.hid (Bv.one (x := dN 1 1) 3 (Liv.N _ 1 1))
  replace hB7 := Lib.hid (hB7.out.up (bal w61 (.cells #[.int .i64 3, .int .i64 1, .int .i64 1, .slice none 0 0] 38)))
  replace hb := Lib.hid (Below.up hb.out (bal w61 (.cells #[.int .i64 3, .int .i64 1, .int .i64 1, .slice none 0 0] 38)))
  replace hq := Lib.hid (Below.up hq.out (bal w61 (.cells #[.int .i64 3, .int .i64 1, .int .i64 1, .slice none 0 0] 38)))
  obtain ⟨w62, hw62⟩ : ∃ w62, w62 = w61.alloc (.cells #[.int .i64 3, .int .i64 1, .int .i64 1, .slice none 0 0] 38) := ⟨_, rfl⟩
  rw [← hw62]
  rw [← hw62] at hB7
  rw [← hw62] at hM7
  rw [← hw62] at hb
  rw [← hw62] at hq
  clear hw62
  refine hKc _ _ hq.out (fun _ => ?_)
  clear hKc K
  try simp only [List.setIfInBounds_toArray, List.set_cons_zero, List.set_cons_succ]
  refine wpAnyH_ready (rs := [31]) (by kernel_rfl) (by simp) ?_
  refine AllReadyH.cons rfl (fun K hKc => ?_) AllReadyH.nil
  go_simp
  refine (kSameBinds hB7 hM7 rfl).mono ?_
  rintro e w63 ⟨rfl, hn⟩
  replace hB7 := Lib.hid (hB7.out.up hn.out)
  replace hM7 := Lib.hid (hM7.out.up hn.out)
  replace hb := Lib.hid (Below.up hb.out hn.out)
  replace hq := Lib.hid (Below.up hq.out hn.out)
  refine hKc _ _ hq.out (fun _ => ?_)
  clear hKc K hn
  try simp only [List.setIfInBounds_toArray, List.set_cons_zero, List.set_cons_succ]
  clear hB7 hM7
  refine takeH 32 171 (.bool true) rfl rfl (by kernel_rfl) (by kernel_rfl) (by kernel_rfl) (fun _ _ _ h => h) (by rfl) (by intro W hSw; clear hSw; go_simp) hq.out ?_
  try simp only [List.setIfInBounds_toArray, List.set_cons_zero, List.set_cons_succ]
  refine takeH 33 172 (.bool true) rfl rfl (by kernel_rfl) (by kernel_rfl) (by kernel_rfl) (fun _ _ _ h => h) (by rfl) (by intro W hSw; clear hSw; go_simp) hq.out ?_
  try simp only [List.setIfInBounds_toArray, List.set_cons_zero, List.set_cons_succ]
  refine wpAnyH_ready (rs := [34]) (by kernel_rfl) (by simp) ?_
  refine AllReadyH.cons rfl (fun K hKc => ?_) AllReadyH.nil
  go_simp
  refine (kKn _).mono ?_
  rintro e w64 ⟨rfl, hn⟩
  replace hb := Lib.hid (Below.up hb.out hn.out)
  replace hq := Lib.hid (Below.up hq.out hn.out)
  refine hKc _ _ hq.out (fun _ => ?_)
  clear hKc K hn
  try simp only [List.setIfInBounds_toArray, List.set_cons_zero, List.set_cons_succ]
  refine takeH 35 174 (.bool true) rfl rfl (by kernel_rfl) (by kernel_rfl) (by kernel_rfl) (fun _ _ _ h => h) (by rfl) (by intro W hSw; clear hSw; go_simp) hq.out ?_
  try simp only [List.setIfInBounds_toArray, List.set_cons_zero, List.set_cons_succ]
  refine takeH 36 0 (.bool true) rfl rfl (by kernel_rfl) (by kernel_rfl) (by kernel_rfl) (fun _ _ _ h => h) (by rfl) (by intro W hSw; clear hSw; go_simp) hq.out ?_
  try simp only [List.setIfInBounds_toArray, List.set_cons_zero]
  refine wpAnyH_done (by kernel_rfl) ?_ _
  go_wp2_with fail
  go_ret
  exact ⟨rfl, hb.out⟩

end Go.Proofs.Ythlegfegkopdkaa
