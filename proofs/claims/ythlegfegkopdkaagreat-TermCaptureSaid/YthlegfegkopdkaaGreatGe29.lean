/- Own text, joined of: K5 N1 N6 N7 Z5 Z6 Z7 W1 W2. The chapter's examples are as they say: the walk of 'known'. · 'put' gives up: 'rebuild' round a call that gives up; a node; a let's wrapper. · 'grow' gives up: 'rebuild' round a call that gives up, where a cell may turn. · 'mostGeneral' where 'full' gives up; 'Unify' then. · The values' side of unifying: what 'full' makes is formed; what a list of bindings puts into a value. · What 'Unify' answers of values, in whole. · What 'Match' answers of values: put into the first it gives the second. · The reference's 'names'. · The reference's 'Sig'. -/
import Derived.Test.YthlegfegkopdkaaGreatGe28

namespace Go.Proofs.YthlegfegkopdkaaGreat
open Go.RowKit Go.Shelf Go.Sort

theorem region_named {P : Program} {ops : Array Oper} {Q : Exit → Act → World → Prop} {S : World → Prop} {id : Nat} {a : Act} {w : World} (hm : P.follows .mixedOrders = true)
    (h : ∀ w1, w1 = w.drew → wpAnyH P .any ops Q S ops.size (Array.replicate ops.size false) a w1) : (Code.region id ops true).wp P Q a w := wp_region_held hm (h _ rfl)

set_option maxRecDepth 100000 in
set_option maxHeartbeats 16000000 in
theorem known_any (w : World) : Calls Tryz.prog 12 #[] w fun e w' => e = .returned (.bool true) ∧ Below w.heap.size w w' := by
  have hb : Hid (Below w.heap.size w w) := Below.refl _ _
  go_enter Tryz.func12, Tryz.ntmps12
  go_wp2_with fail
  refine (kS _).mono ?_
  rintro e w1 ⟨A0, B0, rfl, hS', hn⟩
  replace hb := Lib.hid (Below.up hb.out hn.out)
  clear hn
  have hS := hS'
  clear hS'
  go_wp2_with fail
  refine (kv 0 _).mono ?_
  rintro e w2 ⟨rfl, hn⟩
  replace hS := Lib.hid (hS.out.up hn.out)
  replace hb := Lib.hid (Below.up hb.out hn.out)
  clear hn
  go_wp2_with fail
  refine (kv 1 _).mono ?_
  rintro e w3 ⟨rfl, hn⟩
  replace hS := Lib.hid (hS.out.up hn.out)
  replace hb := Lib.hid (Below.up hb.out hn.out)
  clear hn
  have hL : Hid (Liv (w3.alloc (.cells #[.int .i64 1, .int .i64 0, .slice none 0 0, .int .i64 1, .int .i64 1, .slice none 0 0] 28)) (dP 3 5 w3.heap.size (dN 1 0) (dN 1 1))) := Lib.hid (Liv.P 3 5 (Liv.N _ 1 0) (Liv.N _ 1 1))
  replace hS := Lib.hid (hS.out.up (bal w3 (.cells #[.int .i64 1, .int .i64 0, .slice none 0 0, .int .i64 1, .int .i64 1, .slice none 0 0] 28)))
  replace hb := Lib.hid (Below.up hb.out (bal w3 (.cells #[.int .i64 1, .int .i64 0, .slice none 0 0, .int .i64 1, .int .i64 1, .slice none 0 0] 28)))
  go_wp2_with fail
  refine (kcon 5 (some ⟨w3.heap.size, 0, none⟩) 2 2 _).mono ?_
  rintro e w4 ⟨rfl, hn⟩
  replace hS := Lib.hid (hS.out.up hn.out)
  replace hL := Lib.hid (hL.out.up hn.out)
  replace hb := Lib.hid (Below.up hb.out hn.out)
  clear hn
  go_wp2_with fail
  refine (kCheck (dP 3 5 w3.heap.size (dN 1 0) (dN 1 1)) (by simp [DT.size, dsizes]) hS hL 0 rfl).mono ?_
  rintro e w5 ⟨rfl, hn⟩
  replace hS := Lib.hid (hS.out.up hn.out)
  replace hL := Lib.hid (hL.out.up hn.out)
  replace hb := Lib.hid (Below.up hb.out hn.out)
  clear hn
  clear hS hL
  go_wp2_with fail
  refine (kS _).mono ?_
  rintro e w6 ⟨A5, B5, rfl, hS', hn⟩
  replace hb := Lib.hid (Below.up hb.out hn.out)
  clear hn
  have hS := hS'
  clear hS'
  go_wp2_with fail
  refine (kv 0 _).mono ?_
  rintro e w7 ⟨rfl, hn⟩
  replace hS := Lib.hid (hS.out.up hn.out)
  replace hb := Lib.hid (Below.up hb.out hn.out)
  clear hn
  have hL : Hid (Liv (w7.alloc (.cells #[.int .i64 1, .int .i64 0, .slice none 0 0] 28)) (dS 3 5 w7.heap.size (dN 1 0))) := Lib.hid (Liv.S 3 5 (Liv.N _ 1 0))
  replace hS := Lib.hid (hS.out.up (bal w7 (.cells #[.int .i64 1, .int .i64 0, .slice none 0 0] 28)))
  replace hb := Lib.hid (Below.up hb.out (bal w7 (.cells #[.int .i64 1, .int .i64 0, .slice none 0 0] 28)))
  go_wp2_with fail
  refine (kcon 5 (some ⟨w7.heap.size, 0, none⟩) 1 1 _).mono ?_
  rintro e w8 ⟨rfl, hn⟩
  replace hS := Lib.hid (hS.out.up hn.out)
  replace hL := Lib.hid (hL.out.up hn.out)
  replace hb := Lib.hid (Below.up hb.out hn.out)
  clear hn
  go_wp2_with fail
  refine (kCheck (dS 3 5 w7.heap.size (dN 1 0)) (by simp [DT.size, dsizes]) hS hL 2 rfl).mono ?_
  rintro e w9 ⟨rfl, hn⟩
  replace hS := Lib.hid (hS.out.up hn.out)
  replace hL := Lib.hid (hL.out.up hn.out)
  replace hb := Lib.hid (Below.up hb.out hn.out)
  clear hn
  clear hS hL
  go_wp2_with fail
  refine (kS _).mono ?_
  rintro e w10 ⟨A9, B9, rfl, hS', hn⟩
  replace hb := Lib.hid (Below.up hb.out hn.out)
  clear hn
  have hS := hS'
  clear hS'
  go_wp2_with fail
  refine (knode 5 1 none 0 0 _).mono ?_
  rintro e w11 ⟨rfl, hn⟩
  replace hS := Lib.hid (hS.out.up hn.out)
  replace hb := Lib.hid (Below.up hb.out hn.out)
  clear hn
  have hL := Lib.hid (Liv.N w11 5 1)
  go_wp2_with fail
  refine (kCheck (dN 5 1) (by simp [DT.size, dsizes]) hS hL 2 rfl).mono ?_
  rintro e w12 ⟨rfl, hn⟩
  replace hS := Lib.hid (hS.out.up hn.out)
  replace hL := Lib.hid (hL.out.up hn.out)
  replace hb := Lib.hid (Below.up hb.out hn.out)
  clear hn
  clear hS hL
  go_wp2_with fail
  refine (kS _).mono ?_
  rintro e w13 ⟨A12, B12, rfl, hS', hn⟩
  replace hb := Lib.hid (Below.up hb.out hn.out)
  clear hn
  have hS := hS'
  clear hS'
  go_wp2_with fail
  refine (kv 1 _).mono ?_
  rintro e w14 ⟨rfl, hn⟩
  replace hS := Lib.hid (hS.out.up hn.out)
  replace hb := Lib.hid (Below.up hb.out hn.out)
  clear hn
  go_wp2_with fail
  refine (kv 0 _).mono ?_
  rintro e w15 ⟨rfl, hn⟩
  replace hS := Lib.hid (hS.out.up hn.out)
  replace hb := Lib.hid (Below.up hb.out hn.out)
  clear hn
  go_wp2_with fail
  refine (kv 2 _).mono ?_
  rintro e w16 ⟨rfl, hn⟩
  replace hS := Lib.hid (hS.out.up hn.out)
  replace hb := Lib.hid (Below.up hb.out hn.out)
  clear hn
  have hL1 : Hid (Liv (w16.alloc (.cells #[.int .i64 1, .int .i64 0, .slice none 0 0, .int .i64 1, .int .i64 2, .slice none 0 0] 28)) (dP 3 5 w16.heap.size (dN 1 0) (dN 1 2))) := Lib.hid (Liv.P 3 5 (Liv.N _ 1 0) (Liv.N _ 1 2))
  replace hS := Lib.hid (hS.out.up (bal w16 (.cells #[.int .i64 1, .int .i64 0, .slice none 0 0, .int .i64 1, .int .i64 2, .slice none 0 0] 28)))
  replace hb := Lib.hid (Below.up hb.out (bal w16 (.cells #[.int .i64 1, .int .i64 0, .slice none 0 0, .int .i64 1, .int .i64 2, .slice none 0 0] 28)))
  go_wp2_with fail
  refine (kcon 5 (some ⟨w16.heap.size, 0, none⟩) 2 2 _).mono ?_
  rintro e w17 ⟨rfl, hn⟩
  replace hS := Lib.hid (hS.out.up hn.out)
  replace hL1 := Lib.hid (hL1.out.up hn.out)
  replace hb := Lib.hid (Below.up hb.out hn.out)
  clear hn
  have hL : Hid (Liv (w17.alloc (.cells #[.int .i64 1, .int .i64 1, .slice none 0 0, .int .i64 3, .int .i64 5, .slice (some ⟨w16.heap.size, 0, none⟩) 2 2] 28)) (dP 8 0 w17.heap.size (dN 1 1) (dP 3 5 w16.heap.size (dN 1 0) (dN 1 2)))) := Lib.hid (Liv.P 8 0 (Liv.N _ 1 1) hL1.out)
  clear hL1
  replace hS := Lib.hid (hS.out.up (bal w17 (.cells #[.int .i64 1, .int .i64 1, .slice none 0 0, .int .i64 3, .int .i64 5, .slice (some ⟨w16.heap.size, 0, none⟩) 2 2] 28)))
  replace hb := Lib.hid (Below.up hb.out (bal w17 (.cells #[.int .i64 1, .int .i64 1, .slice none 0 0, .int .i64 3, .int .i64 5, .slice (some ⟨w16.heap.size, 0, none⟩) 2 2] 28)))
  go_wp2_with fail
  refine (knode 8 0 (some ⟨w17.heap.size, 0, none⟩) 2 2 _).mono ?_
  rintro e w18 ⟨rfl, hn⟩
  replace hS := Lib.hid (hS.out.up hn.out)
  replace hL := Lib.hid (hL.out.up hn.out)
  replace hb := Lib.hid (Below.up hb.out hn.out)
  clear hn
  go_wp2_with fail
  refine (kVars (w16.heap.size) (w17.heap.size) hS hL).mono ?_
  rintro e w19 ⟨va1, vl1, vc1, rfl, hI1, hn⟩
  replace hS := Lib.hid (hS.out.up hn.out)
  replace hL := Lib.hid (hL.out.up hn.out)
  replace hb := Lib.hid (Below.up hb.out hn.out)
  clear hn
  clear hS hL
  replace hI1 : Hid (Iv w19 [1, 2] va1 vl1 vc1) := hI1
  go_wp2_with fail
  refine (kS _).mono ?_
  rintro e w20 ⟨A19, B19, rfl, hS', hn⟩
  replace hI1 := Lib.hid (hI1.out.up hn.out)
  replace hb := Lib.hid (Below.up hb.out hn.out)
  clear hn
  have hS := hS'
  clear hS'
  go_wp2_with fail
  refine (kv 1 _).mono ?_
  rintro e w21 ⟨rfl, hn⟩
  replace hI1 := Lib.hid (hI1.out.up hn.out)
  replace hS := Lib.hid (hS.out.up hn.out)
  replace hb := Lib.hid (Below.up hb.out hn.out)
  clear hn
  go_wp2_with fail
  refine (kv 0 _).mono ?_
  rintro e w22 ⟨rfl, hn⟩
  replace hI1 := Lib.hid (hI1.out.up hn.out)
  replace hS := Lib.hid (hS.out.up hn.out)
  replace hb := Lib.hid (Below.up hb.out hn.out)
  clear hn
  go_wp2_with fail
  refine (kv 2 _).mono ?_
  rintro e w23 ⟨rfl, hn⟩
  replace hI1 := Lib.hid (hI1.out.up hn.out)
  replace hS := Lib.hid (hS.out.up hn.out)
  replace hb := Lib.hid (Below.up hb.out hn.out)
  clear hn
  have hL1 : Hid (Liv (w23.alloc (.cells #[.int .i64 1, .int .i64 0, .slice none 0 0, .int .i64 1, .int .i64 2, .slice none 0 0] 28)) (dP 3 5 w23.heap.size (dN 1 0) (dN 1 2))) := Lib.hid (Liv.P 3 5 (Liv.N _ 1 0) (Liv.N _ 1 2))
  replace hI1 := Lib.hid (hI1.out.up (bal w23 (.cells #[.int .i64 1, .int .i64 0, .slice none 0 0, .int .i64 1, .int .i64 2, .slice none 0 0] 28)))
  replace hS := Lib.hid (hS.out.up (bal w23 (.cells #[.int .i64 1, .int .i64 0, .slice none 0 0, .int .i64 1, .int .i64 2, .slice none 0 0] 28)))
  replace hb := Lib.hid (Below.up hb.out (bal w23 (.cells #[.int .i64 1, .int .i64 0, .slice none 0 0, .int .i64 1, .int .i64 2, .slice none 0 0] 28)))
  go_wp2_with fail
  refine (kcon 5 (some ⟨w23.heap.size, 0, none⟩) 2 2 _).mono ?_
  rintro e w24 ⟨rfl, hn⟩
  replace hI1 := Lib.hid (hI1.out.up hn.out)
  replace hS := Lib.hid (hS.out.up hn.out)
  replace hL1 := Lib.hid (hL1.out.up hn.out)
  replace hb := Lib.hid (Below.up hb.out hn.out)
  clear hn
  have hL : Hid (Liv (w24.alloc (.cells #[.int .i64 1, .int .i64 1, .slice none 0 0, .int .i64 3, .int .i64 5, .slice (some ⟨w23.heap.size, 0, none⟩) 2 2] 28)) (dP 8 0 w24.heap.size (dN 1 1) (dP 3 5 w23.heap.size (dN 1 0) (dN 1 2)))) := Lib.hid (Liv.P 8 0 (Liv.N _ 1 1) hL1.out)
  clear hL1
  replace hI1 := Lib.hid (hI1.out.up (bal w24 (.cells #[.int .i64 1, .int .i64 1, .slice none 0 0, .int .i64 3, .int .i64 5, .slice (some ⟨w23.heap.size, 0, none⟩) 2 2] 28)))
  replace hS := Lib.hid (hS.out.up (bal w24 (.cells #[.int .i64 1, .int .i64 1, .slice none 0 0, .int .i64 3, .int .i64 5, .slice (some ⟨w23.heap.size, 0, none⟩) 2 2] 28)))
  replace hb := Lib.hid (Below.up hb.out (bal w24 (.cells #[.int .i64 1, .int .i64 1, .slice none 0 0, .int .i64 3, .int .i64 5, .slice (some ⟨w23.heap.size, 0, none⟩) 2 2] 28)))
  go_wp2_with fail
  refine (knode 8 0 (some ⟨w24.heap.size, 0, none⟩) 2 2 _).mono ?_
  rintro e w25 ⟨rfl, hn⟩
  replace hI1 := Lib.hid (hI1.out.up hn.out)
  replace hS := Lib.hid (hS.out.up hn.out)
  replace hL := Lib.hid (hL.out.up hn.out)
  replace hb := Lib.hid (Below.up hb.out hn.out)
  clear hn
  go_wp2_with fail
  refine (kv 0 _).mono ?_
  rintro e w26 ⟨rfl, hn⟩
  replace hI1 := Lib.hid (hI1.out.up hn.out)
  replace hS := Lib.hid (hS.out.up hn.out)
  replace hL := Lib.hid (hL.out.up hn.out)
  replace hb := Lib.hid (Below.up hb.out hn.out)
  clear hn
  have hM : Hid (Liv (w26.alloc (.cells #[.int .i64 1, .int .i64 0, .slice none 0 0] 28)) (dS 3 3 w26.heap.size (dN 1 0))) := Lib.hid (Liv.S 3 3 (Liv.N _ 1 0))
  replace hI1 := Lib.hid (hI1.out.up (bal w26 (.cells #[.int .i64 1, .int .i64 0, .slice none 0 0] 28)))
  replace hS := Lib.hid (hS.out.up (bal w26 (.cells #[.int .i64 1, .int .i64 0, .slice none 0 0] 28)))
  replace hL := Lib.hid (hL.out.up (bal w26 (.cells #[.int .i64 1, .int .i64 0, .slice none 0 0] 28)))
  replace hb := Lib.hid (Below.up hb.out (bal w26 (.cells #[.int .i64 1, .int .i64 0, .slice none 0 0] 28)))
  go_wp2_with fail
  refine (kcon 3 (some ⟨w26.heap.size, 0, none⟩) 1 1 _).mono ?_
  rintro e w27 ⟨rfl, hn⟩
  replace hI1 := Lib.hid (hI1.out.up hn.out)
  replace hS := Lib.hid (hS.out.up hn.out)
  replace hL := Lib.hid (hL.out.up hn.out)
  replace hM := Lib.hid (hM.out.up hn.out)
  replace hb := Lib.hid (Below.up hb.out hn.out)
  clear hn
  have hP : Hid (LbV (w27.alloc (.cells #[.int .i64 2, .int .i64 3, .int .i64 3, .slice (some ⟨w26.heap.size, 0, none⟩) 1 1] 70)) (b4 w26.heap.size) (some ⟨w27.heap.size, 0, none⟩) 1 1) := Lib.hid (LbV.one 2 hM.out)
  clear hM
  replace hI1 := Lib.hid (hI1.out.up (bal w27 (.cells #[.int .i64 2, .int .i64 3, .int .i64 3, .slice (some ⟨w26.heap.size, 0, none⟩) 1 1] 70)))
  replace hS := Lib.hid (hS.out.up (bal w27 (.cells #[.int .i64 2, .int .i64 3, .int .i64 3, .slice (some ⟨w26.heap.size, 0, none⟩) 1 1] 70)))
  replace hL := Lib.hid (hL.out.up (bal w27 (.cells #[.int .i64 2, .int .i64 3, .int .i64 3, .slice (some ⟨w26.heap.size, 0, none⟩) 1 1] 70)))
  replace hb := Lib.hid (Below.up hb.out (bal w27 (.cells #[.int .i64 2, .int .i64 3, .int .i64 3, .slice (some ⟨w26.heap.size, 0, none⟩) 1 1] 70)))
  go_wp2_with fail
  refine (kSubst (w23.heap.size) (w24.heap.size) (w27.heap.size) (w26.heap.size) hS hL hP).mono ?_
  rintro e w28 ⟨a4, l4, c4, rfl, hT4, hn⟩
  replace hI1 := Lib.hid (hI1.out.up hn.out)
  replace hS := Lib.hid (hS.out.up hn.out)
  replace hL := Lib.hid (hL.out.up hn.out)
  replace hP := Lib.hid (hP.out.up hn.out)
  replace hb := Lib.hid (Below.up hb.out hn.out)
  clear hn
  clear hS hL hP
  have hA4 : Hid (BxV (w28.alloc (.cells #[.int .i64 8, .int .i64 3, .slice a4 l4 c4] 28)) (w28.heap.size) (.int .i64 8) (.int .i64 3) (.slice a4 l4 c4)) := Lib.hid (heap_new' _ rfl)
  replace hI1 := Lib.hid (hI1.out.up (bal w28 (.cells #[.int .i64 8, .int .i64 3, .slice a4 l4 c4] 28)))
  replace hT4 := Lib.hid (hT4.out.up (bal w28 (.cells #[.int .i64 8, .int .i64 3, .slice a4 l4 c4] 28)))
  replace hb := Lib.hid (Below.up hb.out (bal w28 (.cells #[.int .i64 8, .int .i64 3, .slice a4 l4 c4] 28)))
  go_wp2_with fail
  refine (kS _).mono ?_
  rintro e w29 ⟨A28, B28, rfl, hS', hn⟩
  replace hI1 := Lib.hid (hI1.out.up hn.out)
  replace hT4 := Lib.hid (hT4.out.up hn.out)
  replace hA4 := Lib.hid (hA4.out.up hn.out)
  replace hb := Lib.hid (Below.up hb.out hn.out)
  clear hn
  have hS := hS'
  clear hS'
  go_wp2_with fail
  refine (kv 5 _).mono ?_
  rintro e w30 ⟨rfl, hn⟩
  replace hI1 := Lib.hid (hI1.out.up hn.out)
  replace hT4 := Lib.hid (hT4.out.up hn.out)
  replace hA4 := Lib.hid (hA4.out.up hn.out)
  replace hS := Lib.hid (hS.out.up hn.out)
  replace hb := Lib.hid (Below.up hb.out hn.out)
  clear hn
  go_wp2_with fail
  refine (kv 2 _).mono ?_
  rintro e w31 ⟨rfl, hn⟩
  replace hI1 := Lib.hid (hI1.out.up hn.out)
  replace hT4 := Lib.hid (hT4.out.up hn.out)
  replace hA4 := Lib.hid (hA4.out.up hn.out)
  replace hS := Lib.hid (hS.out.up hn.out)
  replace hb := Lib.hid (Below.up hb.out hn.out)
  clear hn
  go_wp2_with fail
  refine (kv 5 _).mono ?_
  rintro e w32 ⟨rfl, hn⟩
  replace hI1 := Lib.hid (hI1.out.up hn.out)
  replace hT4 := Lib.hid (hT4.out.up hn.out)
  replace hA4 := Lib.hid (hA4.out.up hn.out)
  replace hS := Lib.hid (hS.out.up hn.out)
  replace hb := Lib.hid (Below.up hb.out hn.out)
  clear hn
  have hL1 : Hid (Liv (w32.alloc (.cells #[.int .i64 1, .int .i64 2, .slice none 0 0, .int .i64 1, .int .i64 5, .slice none 0 0] 28)) (dP 8 5 w32.heap.size (dN 1 2) (dN 1 5))) := Lib.hid (Liv.P 8 5 (Liv.N _ 1 2) (Liv.N _ 1 5))
  replace hI1 := Lib.hid (hI1.out.up (bal w32 (.cells #[.int .i64 1, .int .i64 2, .slice none 0 0, .int .i64 1, .int .i64 5, .slice none 0 0] 28)))
  replace hT4 := Lib.hid (hT4.out.up (bal w32 (.cells #[.int .i64 1, .int .i64 2, .slice none 0 0, .int .i64 1, .int .i64 5, .slice none 0 0] 28)))
  replace hA4 := Lib.hid (hA4.out.up (bal w32 (.cells #[.int .i64 1, .int .i64 2, .slice none 0 0, .int .i64 1, .int .i64 5, .slice none 0 0] 28)))
  replace hS := Lib.hid (hS.out.up (bal w32 (.cells #[.int .i64 1, .int .i64 2, .slice none 0 0, .int .i64 1, .int .i64 5, .slice none 0 0] 28)))
  replace hb := Lib.hid (Below.up hb.out (bal w32 (.cells #[.int .i64 1, .int .i64 2, .slice none 0 0, .int .i64 1, .int .i64 5, .slice none 0 0] 28)))
  go_wp2_with fail
  refine (knode 8 5 (some ⟨w32.heap.size, 0, none⟩) 2 2 _).mono ?_
  rintro e w33 ⟨rfl, hn⟩
  replace hI1 := Lib.hid (hI1.out.up hn.out)
  replace hT4 := Lib.hid (hT4.out.up hn.out)
  replace hA4 := Lib.hid (hA4.out.up hn.out)
  replace hS := Lib.hid (hS.out.up hn.out)
  replace hL1 := Lib.hid (hL1.out.up hn.out)
  replace hb := Lib.hid (Below.up hb.out hn.out)
  clear hn
  have hL : Hid (Liv (w33.alloc (.cells #[.int .i64 1, .int .i64 5, .slice none 0 0, .int .i64 8, .int .i64 5, .slice (some ⟨w32.heap.size, 0, none⟩) 2 2] 28)) (dP 3 5 w33.heap.size (dN 1 5) (dP 8 5 w32.heap.size (dN 1 2) (dN 1 5)))) := Lib.hid (Liv.P 3 5 (Liv.N _ 1 5) hL1.out)
  clear hL1
  replace hI1 := Lib.hid (hI1.out.up (bal w33 (.cells #[.int .i64 1, .int .i64 5, .slice none 0 0, .int .i64 8, .int .i64 5, .slice (some ⟨w32.heap.size, 0, none⟩) 2 2] 28)))
  replace hT4 := Lib.hid (hT4.out.up (bal w33 (.cells #[.int .i64 1, .int .i64 5, .slice none 0 0, .int .i64 8, .int .i64 5, .slice (some ⟨w32.heap.size, 0, none⟩) 2 2] 28)))
  replace hA4 := Lib.hid (hA4.out.up (bal w33 (.cells #[.int .i64 1, .int .i64 5, .slice none 0 0, .int .i64 8, .int .i64 5, .slice (some ⟨w32.heap.size, 0, none⟩) 2 2] 28)))
  replace hS := Lib.hid (hS.out.up (bal w33 (.cells #[.int .i64 1, .int .i64 5, .slice none 0 0, .int .i64 8, .int .i64 5, .slice (some ⟨w32.heap.size, 0, none⟩) 2 2] 28)))
  replace hb := Lib.hid (Below.up hb.out (bal w33 (.cells #[.int .i64 1, .int .i64 5, .slice none 0 0, .int .i64 8, .int .i64 5, .slice (some ⟨w32.heap.size, 0, none⟩) 2 2] 28)))
  go_wp2_with fail
  refine (kcon 5 (some ⟨w33.heap.size, 0, none⟩) 2 2 _).mono ?_
  rintro e w34 ⟨rfl, hn⟩
  replace hI1 := Lib.hid (hI1.out.up hn.out)
  replace hT4 := Lib.hid (hT4.out.up hn.out)
  replace hA4 := Lib.hid (hA4.out.up hn.out)
  replace hS := Lib.hid (hS.out.up hn.out)
  replace hL := Lib.hid (hL.out.up hn.out)
  replace hb := Lib.hid (Below.up hb.out hn.out)
  clear hn
  go_wp2_with fail
  refine (kOrder (w32.heap.size) (w33.heap.size) hS hL).mono ?_
  rintro e w35 ⟨a5, l5, c5, rfl, hT5, hn⟩
  replace hI1 := Lib.hid (hI1.out.up hn.out)
  replace hT4 := Lib.hid (hT4.out.up hn.out)
  replace hA4 := Lib.hid (hA4.out.up hn.out)
  replace hS := Lib.hid (hS.out.up hn.out)
  replace hL := Lib.hid (hL.out.up hn.out)
  replace hb := Lib.hid (Below.up hb.out hn.out)
  clear hn
  clear hS hL
  have hA5 : Hid (BxV (w35.alloc (.cells #[.int .i64 3, .int .i64 5, .slice a5 l5 c5] 28)) (w35.heap.size) (.int .i64 3) (.int .i64 5) (.slice a5 l5 c5)) := Lib.hid (heap_new' _ rfl)
  replace hI1 := Lib.hid (hI1.out.up (bal w35 (.cells #[.int .i64 3, .int .i64 5, .slice a5 l5 c5] 28)))
  replace hT4 := Lib.hid (hT4.out.up (bal w35 (.cells #[.int .i64 3, .int .i64 5, .slice a5 l5 c5] 28)))
  replace hA4 := Lib.hid (hA4.out.up (bal w35 (.cells #[.int .i64 3, .int .i64 5, .slice a5 l5 c5] 28)))
  replace hT5 := Lib.hid (hT5.out.up (bal w35 (.cells #[.int .i64 3, .int .i64 5, .slice a5 l5 c5] 28)))
  replace hb := Lib.hid (Below.up hb.out (bal w35 (.cells #[.int .i64 3, .int .i64 5, .slice a5 l5 c5] 28)))
  go_wp2_with fail
  refine (kS _).mono ?_
  rintro e w36 ⟨A35, B35, rfl, hS', hn⟩
  replace hI1 := Lib.hid (hI1.out.up hn.out)
  replace hT4 := Lib.hid (hT4.out.up hn.out)
  replace hA4 := Lib.hid (hA4.out.up hn.out)
  replace hT5 := Lib.hid (hT5.out.up hn.out)
  replace hA5 := Lib.hid (hA5.out.up hn.out)
  replace hb := Lib.hid (Below.up hb.out hn.out)
  clear hn
  have hS := hS'
  clear hS'
  go_wp2_with fail
  refine (kv 0 _).mono ?_
  rintro e w37 ⟨rfl, hn⟩
  replace hI1 := Lib.hid (hI1.out.up hn.out)
  replace hT4 := Lib.hid (hT4.out.up hn.out)
  replace hA4 := Lib.hid (hA4.out.up hn.out)
  replace hT5 := Lib.hid (hT5.out.up hn.out)
  replace hA5 := Lib.hid (hA5.out.up hn.out)
  replace hS := Lib.hid (hS.out.up hn.out)
  replace hb := Lib.hid (Below.up hb.out hn.out)
  clear hn
  go_wp2_with fail
  refine (kv 1 _).mono ?_
  rintro e w38 ⟨rfl, hn⟩
  replace hI1 := Lib.hid (hI1.out.up hn.out)
  replace hT4 := Lib.hid (hT4.out.up hn.out)
  replace hA4 := Lib.hid (hA4.out.up hn.out)
  replace hT5 := Lib.hid (hT5.out.up hn.out)
  replace hA5 := Lib.hid (hA5.out.up hn.out)
  replace hS := Lib.hid (hS.out.up hn.out)
  replace hb := Lib.hid (Below.up hb.out hn.out)
  clear hn
  have hL : Hid (Liv (w38.alloc (.cells #[.int .i64 1, .int .i64 0, .slice none 0 0, .int .i64 1, .int .i64 1, .slice none 0 0] 28)) (dP 3 5 w38.heap.size (dN 1 0) (dN 1 1))) := Lib.hid (Liv.P 3 5 (Liv.N _ 1 0) (Liv.N _ 1 1))
  replace hI1 := Lib.hid (hI1.out.up (bal w38 (.cells #[.int .i64 1, .int .i64 0, .slice none 0 0, .int .i64 1, .int .i64 1, .slice none 0 0] 28)))
  replace hT4 := Lib.hid (hT4.out.up (bal w38 (.cells #[.int .i64 1, .int .i64 0, .slice none 0 0, .int .i64 1, .int .i64 1, .slice none 0 0] 28)))
  replace hA4 := Lib.hid (hA4.out.up (bal w38 (.cells #[.int .i64 1, .int .i64 0, .slice none 0 0, .int .i64 1, .int .i64 1, .slice none 0 0] 28)))
  replace hT5 := Lib.hid (hT5.out.up (bal w38 (.cells #[.int .i64 1, .int .i64 0, .slice none 0 0, .int .i64 1, .int .i64 1, .slice none 0 0] 28)))
  replace hA5 := Lib.hid (hA5.out.up (bal w38 (.cells #[.int .i64 1, .int .i64 0, .slice none 0 0, .int .i64 1, .int .i64 1, .slice none 0 0] 28)))
  replace hS := Lib.hid (hS.out.up (bal w38 (.cells #[.int .i64 1, .int .i64 0, .slice none 0 0, .int .i64 1, .int .i64 1, .slice none 0 0] 28)))
  replace hb := Lib.hid (Below.up hb.out (bal w38 (.cells #[.int .i64 1, .int .i64 0, .slice none 0 0, .int .i64 1, .int .i64 1, .slice none 0 0] 28)))
  go_wp2_with fail
  refine (kcon 5 (some ⟨w38.heap.size, 0, none⟩) 2 2 _).mono ?_
  rintro e w39 ⟨rfl, hn⟩
  replace hI1 := Lib.hid (hI1.out.up hn.out)
  replace hT4 := Lib.hid (hT4.out.up hn.out)
  replace hA4 := Lib.hid (hA4.out.up hn.out)
  replace hT5 := Lib.hid (hT5.out.up hn.out)
  replace hA5 := Lib.hid (hA5.out.up hn.out)
  replace hS := Lib.hid (hS.out.up hn.out)
  replace hL := Lib.hid (hL.out.up hn.out)
  replace hb := Lib.hid (Below.up hb.out hn.out)
  clear hn
  go_wp2_with fail
  refine (kcon 2 none 0 0 _).mono ?_
  rintro e w40 ⟨rfl, hn⟩
  replace hI1 := Lib.hid (hI1.out.up hn.out)
  replace hT4 := Lib.hid (hT4.out.up hn.out)
  replace hA4 := Lib.hid (hA4.out.up hn.out)
  replace hT5 := Lib.hid (hT5.out.up hn.out)
  replace hA5 := Lib.hid (hA5.out.up hn.out)
  replace hS := Lib.hid (hS.out.up hn.out)
  replace hL := Lib.hid (hL.out.up hn.out)
  replace hb := Lib.hid (Below.up hb.out hn.out)
  clear hn
  go_wp2_with fail
  refine (kcon 4 none 0 0 _).mono ?_
  rintro e w41 ⟨rfl, hn⟩
  replace hI1 := Lib.hid (hI1.out.up hn.out)
  replace hT4 := Lib.hid (hT4.out.up hn.out)
  replace hA4 := Lib.hid (hA4.out.up hn.out)
  replace hT5 := Lib.hid (hT5.out.up hn.out)
  replace hA5 := Lib.hid (hA5.out.up hn.out)
  replace hS := Lib.hid (hS.out.up hn.out)
  replace hL := Lib.hid (hL.out.up hn.out)
  replace hb := Lib.hid (Below.up hb.out hn.out)
  clear hn
  have hM : Hid (Liv (w41.alloc (.cells #[.int .i64 3, .int .i64 2, .slice none 0 0, .int .i64 3, .int .i64 4, .slice none 0 0] 28)) (dP 3 5 w41.heap.size (dN 3 2) (dN 3 4))) := Lib.hid (Liv.P 3 5 (Liv.N _ 3 2) (Liv.N _ 3 4))
  replace hI1 := Lib.hid (hI1.out.up (bal w41 (.cells #[.int .i64 3, .int .i64 2, .slice none 0 0, .int .i64 3, .int .i64 4, .slice none 0 0] 28)))
  replace hT4 := Lib.hid (hT4.out.up (bal w41 (.cells #[.int .i64 3, .int .i64 2, .slice none 0 0, .int .i64 3, .int .i64 4, .slice none 0 0] 28)))
  replace hA4 := Lib.hid (hA4.out.up (bal w41 (.cells #[.int .i64 3, .int .i64 2, .slice none 0 0, .int .i64 3, .int .i64 4, .slice none 0 0] 28)))
  replace hT5 := Lib.hid (hT5.out.up (bal w41 (.cells #[.int .i64 3, .int .i64 2, .slice none 0 0, .int .i64 3, .int .i64 4, .slice none 0 0] 28)))
  replace hA5 := Lib.hid (hA5.out.up (bal w41 (.cells #[.int .i64 3, .int .i64 2, .slice none 0 0, .int .i64 3, .int .i64 4, .slice none 0 0] 28)))
  replace hS := Lib.hid (hS.out.up (bal w41 (.cells #[.int .i64 3, .int .i64 2, .slice none 0 0, .int .i64 3, .int .i64 4, .slice none 0 0] 28)))
  replace hL := Lib.hid (hL.out.up (bal w41 (.cells #[.int .i64 3, .int .i64 2, .slice none 0 0, .int .i64 3, .int .i64 4, .slice none 0 0] 28)))
  replace hb := Lib.hid (Below.up hb.out (bal w41 (.cells #[.int .i64 3, .int .i64 2, .slice none 0 0, .int .i64 3, .int .i64 4, .slice none 0 0] 28)))
  go_wp2_with fail
  refine (kcon 5 (some ⟨w41.heap.size, 0, none⟩) 2 2 _).mono ?_
  rintro e w42 ⟨rfl, hn⟩
  replace hI1 := Lib.hid (hI1.out.up hn.out)
  replace hT4 := Lib.hid (hT4.out.up hn.out)
  replace hA4 := Lib.hid (hA4.out.up hn.out)
  replace hT5 := Lib.hid (hT5.out.up hn.out)
  replace hA5 := Lib.hid (hA5.out.up hn.out)
  replace hS := Lib.hid (hS.out.up hn.out)
  replace hL := Lib.hid (hL.out.up hn.out)
  replace hM := Lib.hid (hM.out.up hn.out)
  replace hb := Lib.hid (Below.up hb.out hn.out)
  clear hn
  go_wp2_with fail
  refine (kMatch (w38.heap.size) (w41.heap.size) hS hL hM).mono ?_
  rintro e w43 ⟨va6, vl6, vc6, rfl, hB6, hn⟩
  replace hI1 := Lib.hid (hI1.out.up hn.out)
  replace hT4 := Lib.hid (hT4.out.up hn.out)
  replace hA4 := Lib.hid (hA4.out.up hn.out)
  replace hT5 := Lib.hid (hT5.out.up hn.out)
  replace hA5 := Lib.hid (hA5.out.up hn.out)
  replace hS := Lib.hid (hS.out.up hn.out)
  replace hL := Lib.hid (hL.out.up hn.out)
  replace hM := Lib.hid (hM.out.up hn.out)
  replace hb := Lib.hid (Below.up hb.out hn.out)
  clear hn
  clear hS hL hM
  go_wp2_with fail
  refine (kS _).mono ?_
  rintro e w44 ⟨A43, B43, rfl, hS', hn⟩
  replace hI1 := Lib.hid (hI1.out.up hn.out)
  replace hT4 := Lib.hid (hT4.out.up hn.out)
  replace hA4 := Lib.hid (hA4.out.up hn.out)
  replace hT5 := Lib.hid (hT5.out.up hn.out)
  replace hA5 := Lib.hid (hA5.out.up hn.out)
  replace hB6 := Lib.hid (hB6.out.up hn.out)
  replace hb := Lib.hid (Below.up hb.out hn.out)
  clear hn
  have hS := hS'
  clear hS'
  go_wp2_with fail
  refine (kv 0 _).mono ?_
  rintro e w45 ⟨rfl, hn⟩
  replace hI1 := Lib.hid (hI1.out.up hn.out)
  replace hT4 := Lib.hid (hT4.out.up hn.out)
  replace hA4 := Lib.hid (hA4.out.up hn.out)
  replace hT5 := Lib.hid (hT5.out.up hn.out)
  replace hA5 := Lib.hid (hA5.out.up hn.out)
  replace hB6 := Lib.hid (hB6.out.up hn.out)
  replace hS := Lib.hid (hS.out.up hn.out)
  replace hb := Lib.hid (Below.up hb.out hn.out)
  clear hn
  go_wp2_with fail
  refine (kv 1 _).mono ?_
  rintro e w46 ⟨rfl, hn⟩
  replace hI1 := Lib.hid (hI1.out.up hn.out)
  replace hT4 := Lib.hid (hT4.out.up hn.out)
  replace hA4 := Lib.hid (hA4.out.up hn.out)
  replace hT5 := Lib.hid (hT5.out.up hn.out)
  replace hA5 := Lib.hid (hA5.out.up hn.out)
  replace hB6 := Lib.hid (hB6.out.up hn.out)
  replace hS := Lib.hid (hS.out.up hn.out)
  replace hb := Lib.hid (Below.up hb.out hn.out)
  clear hn
  have hL : Hid (Liv (w46.alloc (.cells #[.int .i64 1, .int .i64 0, .slice none 0 0, .int .i64 1, .int .i64 1, .slice none 0 0] 28)) (dP 3 5 w46.heap.size (dN 1 0) (dN 1 1))) := Lib.hid (Liv.P 3 5 (Liv.N _ 1 0) (Liv.N _ 1 1))
  replace hI1 := Lib.hid (hI1.out.up (bal w46 (.cells #[.int .i64 1, .int .i64 0, .slice none 0 0, .int .i64 1, .int .i64 1, .slice none 0 0] 28)))
  replace hT4 := Lib.hid (hT4.out.up (bal w46 (.cells #[.int .i64 1, .int .i64 0, .slice none 0 0, .int .i64 1, .int .i64 1, .slice none 0 0] 28)))
  replace hA4 := Lib.hid (hA4.out.up (bal w46 (.cells #[.int .i64 1, .int .i64 0, .slice none 0 0, .int .i64 1, .int .i64 1, .slice none 0 0] 28)))
  replace hT5 := Lib.hid (hT5.out.up (bal w46 (.cells #[.int .i64 1, .int .i64 0, .slice none 0 0, .int .i64 1, .int .i64 1, .slice none 0 0] 28)))
  replace hA5 := Lib.hid (hA5.out.up (bal w46 (.cells #[.int .i64 1, .int .i64 0, .slice none 0 0, .int .i64 1, .int .i64 1, .slice none 0 0] 28)))
  replace hB6 := Lib.hid (hB6.out.up (bal w46 (.cells #[.int .i64 1, .int .i64 0, .slice none 0 0, .int .i64 1, .int .i64 1, .slice none 0 0] 28)))
  replace hS := Lib.hid (hS.out.up (bal w46 (.cells #[.int .i64 1, .int .i64 0, .slice none 0 0, .int .i64 1, .int .i64 1, .slice none 0 0] 28)))
  replace hb := Lib.hid (Below.up hb.out (bal w46 (.cells #[.int .i64 1, .int .i64 0, .slice none 0 0, .int .i64 1, .int .i64 1, .slice none 0 0] 28)))
  go_wp2_with fail
  refine (kcon 5 (some ⟨w46.heap.size, 0, none⟩) 2 2 _).mono ?_
  rintro e w47 ⟨rfl, hn⟩
  replace hI1 := Lib.hid (hI1.out.up hn.out)
  replace hT4 := Lib.hid (hT4.out.up hn.out)
  replace hA4 := Lib.hid (hA4.out.up hn.out)
  replace hT5 := Lib.hid (hT5.out.up hn.out)
  replace hA5 := Lib.hid (hA5.out.up hn.out)
  replace hB6 := Lib.hid (hB6.out.up hn.out)
  replace hS := Lib.hid (hS.out.up hn.out)
  replace hL := Lib.hid (hL.out.up hn.out)
  replace hb := Lib.hid (Below.up hb.out hn.out)
  clear hn
  go_wp2_with fail
  refine (kv 1 _).mono ?_
  rintro e w48 ⟨rfl, hn⟩
  replace hI1 := Lib.hid (hI1.out.up hn.out)
  replace hT4 := Lib.hid (hT4.out.up hn.out)
  replace hA4 := Lib.hid (hA4.out.up hn.out)
  replace hT5 := Lib.hid (hT5.out.up hn.out)
  replace hA5 := Lib.hid (hA5.out.up hn.out)
  replace hB6 := Lib.hid (hB6.out.up hn.out)
  replace hS := Lib.hid (hS.out.up hn.out)
  replace hL := Lib.hid (hL.out.up hn.out)
  replace hb := Lib.hid (Below.up hb.out hn.out)
  clear hn
  go_wp2_with fail
  refine (kcon 4 none 0 0 _).mono ?_
  rintro e w49 ⟨rfl, hn⟩
  replace hI1 := Lib.hid (hI1.out.up hn.out)
  replace hT4 := Lib.hid (hT4.out.up hn.out)
  replace hA4 := Lib.hid (hA4.out.up hn.out)
  replace hT5 := Lib.hid (hT5.out.up hn.out)
  replace hA5 := Lib.hid (hA5.out.up hn.out)
  replace hB6 := Lib.hid (hB6.out.up hn.out)
  replace hS := Lib.hid (hS.out.up hn.out)
  replace hL := Lib.hid (hL.out.up hn.out)
  replace hb := Lib.hid (Below.up hb.out hn.out)
  clear hn
  have hM : Hid (Liv (w49.alloc (.cells #[.int .i64 1, .int .i64 1, .slice none 0 0, .int .i64 3, .int .i64 4, .slice none 0 0] 28)) (dP 3 5 w49.heap.size (dN 1 1) (dN 3 4))) := Lib.hid (Liv.P 3 5 (Liv.N _ 1 1) (Liv.N _ 3 4))
  replace hI1 := Lib.hid (hI1.out.up (bal w49 (.cells #[.int .i64 1, .int .i64 1, .slice none 0 0, .int .i64 3, .int .i64 4, .slice none 0 0] 28)))
  replace hT4 := Lib.hid (hT4.out.up (bal w49 (.cells #[.int .i64 1, .int .i64 1, .slice none 0 0, .int .i64 3, .int .i64 4, .slice none 0 0] 28)))
  replace hA4 := Lib.hid (hA4.out.up (bal w49 (.cells #[.int .i64 1, .int .i64 1, .slice none 0 0, .int .i64 3, .int .i64 4, .slice none 0 0] 28)))
  replace hT5 := Lib.hid (hT5.out.up (bal w49 (.cells #[.int .i64 1, .int .i64 1, .slice none 0 0, .int .i64 3, .int .i64 4, .slice none 0 0] 28)))
  replace hA5 := Lib.hid (hA5.out.up (bal w49 (.cells #[.int .i64 1, .int .i64 1, .slice none 0 0, .int .i64 3, .int .i64 4, .slice none 0 0] 28)))
  replace hB6 := Lib.hid (hB6.out.up (bal w49 (.cells #[.int .i64 1, .int .i64 1, .slice none 0 0, .int .i64 3, .int .i64 4, .slice none 0 0] 28)))
  replace hS := Lib.hid (hS.out.up (bal w49 (.cells #[.int .i64 1, .int .i64 1, .slice none 0 0, .int .i64 3, .int .i64 4, .slice none 0 0] 28)))
  replace hL := Lib.hid (hL.out.up (bal w49 (.cells #[.int .i64 1, .int .i64 1, .slice none 0 0, .int .i64 3, .int .i64 4, .slice none 0 0] 28)))
  replace hb := Lib.hid (Below.up hb.out (bal w49 (.cells #[.int .i64 1, .int .i64 1, .slice none 0 0, .int .i64 3, .int .i64 4, .slice none 0 0] 28)))
  go_wp2_with fail
  refine (kcon 5 (some ⟨w49.heap.size, 0, none⟩) 2 2 _).mono ?_
  rintro e w50 ⟨rfl, hn⟩
  replace hI1 := Lib.hid (hI1.out.up hn.out)
  replace hT4 := Lib.hid (hT4.out.up hn.out)
  replace hA4 := Lib.hid (hA4.out.up hn.out)
  replace hT5 := Lib.hid (hT5.out.up hn.out)
  replace hA5 := Lib.hid (hA5.out.up hn.out)
  replace hB6 := Lib.hid (hB6.out.up hn.out)
  replace hS := Lib.hid (hS.out.up hn.out)
  replace hL := Lib.hid (hL.out.up hn.out)
  replace hM := Lib.hid (hM.out.up hn.out)
  replace hb := Lib.hid (Below.up hb.out hn.out)
  clear hn
  go_wp2_with fail
  refine (kUnify (dP 3 5 w46.heap.size (dN 1 0) (dN 1 1)) (dP 3 5 w49.heap.size (dN 1 1) (dN 3 4)) [(0, tc 4), (1, tc 4)] 0 (by simp [DT.size, dsizes]) (by simp [DT.size, dsizes]) hS hL hM (by rw [chkV]; rfl) (u7 (w46.heap.size) (w49.heap.size))).mono ?_
  rintro e w51 ⟨va7, vl7, vc7, rfl, hB7, hn⟩
  replace hI1 := Lib.hid (hI1.out.up hn.out)
  replace hT4 := Lib.hid (hT4.out.up hn.out)
  replace hA4 := Lib.hid (hA4.out.up hn.out)
  replace hT5 := Lib.hid (hT5.out.up hn.out)
  replace hA5 := Lib.hid (hA5.out.up hn.out)
  replace hB6 := Lib.hid (hB6.out.up hn.out)
  replace hS := Lib.hid (hS.out.up hn.out)
  replace hL := Lib.hid (hL.out.up hn.out)
  replace hM := Lib.hid (hM.out.up hn.out)
  replace hb := Lib.hid (Below.up hb.out hn.out)
  clear hn
  clear hS hL hM
  go_wp2_with fail
  refine (kS _).mono ?_
  rintro e w52 ⟨A51, B51, rfl, hS', hn⟩
  replace hI1 := Lib.hid (hI1.out.up hn.out)
  replace hT4 := Lib.hid (hT4.out.up hn.out)
  replace hA4 := Lib.hid (hA4.out.up hn.out)
  replace hT5 := Lib.hid (hT5.out.up hn.out)
  replace hA5 := Lib.hid (hA5.out.up hn.out)
  replace hB6 := Lib.hid (hB6.out.up hn.out)
  replace hB7 := Lib.hid (hB7.out.up hn.out)
  replace hb := Lib.hid (Below.up hb.out hn.out)
  clear hn
  have hS := hS'
  clear hS'
  go_wp2_with fail
  refine (kv 0 _).mono ?_
  rintro e w53 ⟨rfl, hn⟩
  replace hI1 := Lib.hid (hI1.out.up hn.out)
  replace hT4 := Lib.hid (hT4.out.up hn.out)
  replace hA4 := Lib.hid (hA4.out.up hn.out)
  replace hT5 := Lib.hid (hT5.out.up hn.out)
  replace hA5 := Lib.hid (hA5.out.up hn.out)
  replace hB6 := Lib.hid (hB6.out.up hn.out)
  replace hB7 := Lib.hid (hB7.out.up hn.out)
  replace hS := Lib.hid (hS.out.up hn.out)
  replace hb := Lib.hid (Below.up hb.out hn.out)
  clear hn
  go_wp2_with fail
  refine (kv 0 _).mono ?_
  rintro e w54 ⟨rfl, hn⟩
  replace hI1 := Lib.hid (hI1.out.up hn.out)
  replace hT4 := Lib.hid (hT4.out.up hn.out)
  replace hA4 := Lib.hid (hA4.out.up hn.out)
  replace hT5 := Lib.hid (hT5.out.up hn.out)
  replace hA5 := Lib.hid (hA5.out.up hn.out)
  replace hB6 := Lib.hid (hB6.out.up hn.out)
  replace hB7 := Lib.hid (hB7.out.up hn.out)
  replace hS := Lib.hid (hS.out.up hn.out)
  replace hb := Lib.hid (Below.up hb.out hn.out)
  clear hn
  have hM : Hid (Liv (w54.alloc (.cells #[.int .i64 1, .int .i64 0, .slice none 0 0] 28)) (dS 3 3 w54.heap.size (dN 1 0))) := Lib.hid (Liv.S 3 3 (Liv.N _ 1 0))
  replace hI1 := Lib.hid (hI1.out.up (bal w54 (.cells #[.int .i64 1, .int .i64 0, .slice none 0 0] 28)))
  replace hT4 := Lib.hid (hT4.out.up (bal w54 (.cells #[.int .i64 1, .int .i64 0, .slice none 0 0] 28)))
  replace hA4 := Lib.hid (hA4.out.up (bal w54 (.cells #[.int .i64 1, .int .i64 0, .slice none 0 0] 28)))
  replace hT5 := Lib.hid (hT5.out.up (bal w54 (.cells #[.int .i64 1, .int .i64 0, .slice none 0 0] 28)))
  replace hA5 := Lib.hid (hA5.out.up (bal w54 (.cells #[.int .i64 1, .int .i64 0, .slice none 0 0] 28)))
  replace hB6 := Lib.hid (hB6.out.up (bal w54 (.cells #[.int .i64 1, .int .i64 0, .slice none 0 0] 28)))
  replace hB7 := Lib.hid (hB7.out.up (bal w54 (.cells #[.int .i64 1, .int .i64 0, .slice none 0 0] 28)))
  replace hS := Lib.hid (hS.out.up (bal w54 (.cells #[.int .i64 1, .int .i64 0, .slice none 0 0] 28)))
  replace hb := Lib.hid (Below.up hb.out (bal w54 (.cells #[.int .i64 1, .int .i64 0, .slice none 0 0] 28)))
  go_wp2_with fail
  refine (kcon 3 (some ⟨w54.heap.size, 0, none⟩) 1 1 _).mono ?_
  rintro e w55 ⟨rfl, hn⟩
  replace hI1 := Lib.hid (hI1.out.up hn.out)
  replace hT4 := Lib.hid (hT4.out.up hn.out)
  replace hA4 := Lib.hid (hA4.out.up hn.out)
  replace hT5 := Lib.hid (hT5.out.up hn.out)
  replace hA5 := Lib.hid (hA5.out.up hn.out)
  replace hB6 := Lib.hid (hB6.out.up hn.out)
  replace hB7 := Lib.hid (hB7.out.up hn.out)
  replace hS := Lib.hid (hS.out.up hn.out)
  replace hM := Lib.hid (hM.out.up hn.out)
  replace hb := Lib.hid (Below.up hb.out hn.out)
  clear hn
  go_wp2_with fail
  refine (kUnify (dN 1 0) (dS 3 3 w54.heap.size (dN 1 0)) [] 5 (by simp [DT.size, dsizes]) (by simp [DT.size, dsizes]) hS (Liv.N _ 1 0) hM (by rw [chkV]; rfl) (u8 (w54.heap.size))).mono ?_
  rintro e w56 ⟨va8, vl8, vc8, rfl, hB8, hn⟩
  replace hI1 := Lib.hid (hI1.out.up hn.out)
  replace hT4 := Lib.hid (hT4.out.up hn.out)
  replace hA4 := Lib.hid (hA4.out.up hn.out)
  replace hT5 := Lib.hid (hT5.out.up hn.out)
  replace hA5 := Lib.hid (hA5.out.up hn.out)
  replace hB6 := Lib.hid (hB6.out.up hn.out)
  replace hB7 := Lib.hid (hB7.out.up hn.out)
  replace hS := Lib.hid (hS.out.up hn.out)
  replace hM := Lib.hid (hM.out.up hn.out)
  replace hb := Lib.hid (Below.up hb.out hn.out)
  clear hn
  clear hS hM
  clear hB8
  go_wp2_with fail
  refine (kS _).mono ?_
  rintro e w57 ⟨A56, B56, rfl, hS', hn⟩
  replace hI1 := Lib.hid (hI1.out.up hn.out)
  replace hT4 := Lib.hid (hT4.out.up hn.out)
  replace hA4 := Lib.hid (hA4.out.up hn.out)
  replace hT5 := Lib.hid (hT5.out.up hn.out)
  replace hA5 := Lib.hid (hA5.out.up hn.out)
  replace hB6 := Lib.hid (hB6.out.up hn.out)
  replace hB7 := Lib.hid (hB7.out.up hn.out)
  replace hb := Lib.hid (Below.up hb.out hn.out)
  clear hn
  have hS := hS'
  clear hS'
  go_wp2_with fail
  refine (kcon 2 none 0 0 _).mono ?_
  rintro e w58 ⟨rfl, hn⟩
  replace hI1 := Lib.hid (hI1.out.up hn.out)
  replace hT4 := Lib.hid (hT4.out.up hn.out)
  replace hA4 := Lib.hid (hA4.out.up hn.out)
  replace hT5 := Lib.hid (hT5.out.up hn.out)
  replace hA5 := Lib.hid (hA5.out.up hn.out)
  replace hB6 := Lib.hid (hB6.out.up hn.out)
  replace hB7 := Lib.hid (hB7.out.up hn.out)
  replace hS := Lib.hid (hS.out.up hn.out)
  replace hb := Lib.hid (Below.up hb.out hn.out)
  clear hn
  go_wp2_with fail
  refine (knode 2 7 none 0 0 _).mono ?_
  rintro e w59 ⟨rfl, hn⟩
  replace hI1 := Lib.hid (hI1.out.up hn.out)
  replace hT4 := Lib.hid (hT4.out.up hn.out)
  replace hA4 := Lib.hid (hA4.out.up hn.out)
  replace hT5 := Lib.hid (hT5.out.up hn.out)
  replace hA5 := Lib.hid (hA5.out.up hn.out)
  replace hB6 := Lib.hid (hB6.out.up hn.out)
  replace hB7 := Lib.hid (hB7.out.up hn.out)
  replace hS := Lib.hid (hS.out.up hn.out)
  replace hb := Lib.hid (Below.up hb.out hn.out)
  clear hn
  go_wp2_with fail
  refine (kCompare (dN 3 2) (dN 2 7) 1 (by simp [DT.size, dsizes]) (by simp [DT.size, dsizes]) hS (Liv.N _ 3 2) (Liv.N _ 2 7) (by rw [chkV]; rfl) rfl).mono ?_
  rintro e w60 ⟨rfl, hn⟩
  replace hI1 := Lib.hid (hI1.out.up hn.out)
  replace hT4 := Lib.hid (hT4.out.up hn.out)
  replace hA4 := Lib.hid (hA4.out.up hn.out)
  replace hT5 := Lib.hid (hT5.out.up hn.out)
  replace hA5 := Lib.hid (hA5.out.up hn.out)
  replace hB6 := Lib.hid (hB6.out.up hn.out)
  replace hB7 := Lib.hid (hB7.out.up hn.out)
  replace hS := Lib.hid (hS.out.up hn.out)
  replace hb := Lib.hid (Below.up hb.out hn.out)
  clear hn
  clear hS
  go_upto_region 12 with fail
  have hK : Hid (∀ W, Below w60.heap.size w60 W → (W.cell? ⟨w28.heap.size, 0, none⟩ = some (.int .i64 8) ∧ W.cell? ⟨w28.heap.size, 1, none⟩ = some (.int .i64 3) ∧ W.cell? ⟨w28.heap.size, 2, none⟩ = some (.slice a4 l4 c4)) ∧ (W.cell? ⟨w35.heap.size, 0, none⟩ = some (.int .i64 3) ∧ W.cell? ⟨w35.heap.size, 1, none⟩ = some (.int .i64 5) ∧ W.cell? ⟨w35.heap.size, 2, none⟩ = some (.slice a5 l5 c5))) := Lib.hid (fun W h => ⟨(c3_cells (hA4.out.up h)).1, (c3_cells (hA5.out.up h)).1⟩)
  clear hA4 hA5
  refine region_named (S := fun W' => Below w60.heap.size w60 W') (by kernel_rfl) (fun w61 hw61 => ?_)
  have hq : Hid (Below w60.heap.size w60 w60.drew) := Lib.hid ((Below.refl _ _).drew)
  have hdr : Hid (Below w60.heap.size w60 w60.drew) := hq
  replace hI1 := Lib.hid (hI1.out.up hdr.out)
  replace hT4 := Lib.hid (hT4.out.up hdr.out)
  replace hT5 := Lib.hid (hT5.out.up hdr.out)
  replace hB6 := Lib.hid (hB6.out.up hdr.out)
  replace hB7 := Lib.hid (hB7.out.up hdr.out)
  replace hb := Lib.hid (Below.up hb.out hdr.out)
  clear hdr
  rw [← hw61] at hI1
  rw [← hw61] at hT4
  rw [← hw61] at hT5
  rw [← hw61] at hB6
  rw [← hw61] at hB7
  rw [← hw61] at hb
  rw [← hw61] at hq
  clear hw61
  refine takeH 0 149 (.slice va1 vl1 vc1) rfl rfl (by kernel_rfl) (by kernel_rfl) (by kernel_rfl) (fun _ _ _ h => h) (by rfl) (by intro W hSw; clear hSw; go_simp) hq.out ?_
  try simp only [List.setIfInBounds_toArray, List.set_cons_zero, List.set_cons_succ]
  refine wpAnyH_ready (rs := [1]) (by kernel_rfl) (by simp) ?_
  refine AllReadyH.cons rfl (fun K hKc => ?_) AllReadyH.nil
  go_simp
  have hI2 : Hid (Iv (w61.alloc (.cells #[.int .i64 1, .int .i64 2] 3)) [1, 2] (some ⟨w61.heap.size, 0, none⟩) 2 2) := Lib.hid (Iv.two _ 1 2)
  replace hI1 := Lib.hid (hI1.out.up (bal w61 (.cells #[.int .i64 1, .int .i64 2] 3)))
  replace hT4 := Lib.hid (hT4.out.up (bal w61 (.cells #[.int .i64 1, .int .i64 2] 3)))
  replace hT5 := Lib.hid (hT5.out.up (bal w61 (.cells #[.int .i64 1, .int .i64 2] 3)))
  replace hB6 := Lib.hid (hB6.out.up (bal w61 (.cells #[.int .i64 1, .int .i64 2] 3)))
  replace hB7 := Lib.hid (hB7.out.up (bal w61 (.cells #[.int .i64 1, .int .i64 2] 3)))
  replace hb := Lib.hid (Below.up hb.out (bal w61 (.cells #[.int .i64 1, .int .i64 2] 3)))
  replace hq := Lib.hid (Below.up hq.out (bal w61 (.cells #[.int .i64 1, .int .i64 2] 3)))
  obtain ⟨w62, hw62⟩ : ∃ w62, w62 = w61.alloc (.cells #[.int .i64 1, .int .i64 2] 3) := ⟨_, rfl⟩
  rw [← hw62]
  rw [← hw62] at hI1
  rw [← hw62] at hT4
  rw [← hw62] at hT5
  rw [← hw62] at hB6
  rw [← hw62] at hB7
  rw [← hw62] at hI2
  rw [← hw62] at hb
  rw [← hw62] at hq
  clear hw62
  refine hKc _ _ hq.out (fun _ => ?_)
  clear hKc K
  try simp only [List.setIfInBounds_toArray, List.set_cons_zero, List.set_cons_succ]
  refine wpAnyH_ready (rs := [2]) (by kernel_rfl) (by simp) ?_
  refine AllReadyH.cons rfl (fun K hKc => ?_) AllReadyH.nil
  go_simp
  refine (kSameInts hI1 hI2 rfl).mono ?_
  rintro e w63 ⟨rfl, hn⟩
  replace hI1 := Lib.hid (hI1.out.up hn.out)
  replace hT4 := Lib.hid (hT4.out.up hn.out)
  replace hT5 := Lib.hid (hT5.out.up hn.out)
  replace hB6 := Lib.hid (hB6.out.up hn.out)
  replace hB7 := Lib.hid (hB7.out.up hn.out)
  replace hI2 := Lib.hid (hI2.out.up hn.out)
  replace hb := Lib.hid (Below.up hb.out hn.out)
  replace hq := Lib.hid (Below.up hq.out hn.out)
  refine hKc _ _ hq.out (fun _ => ?_)
  clear hKc K hn
  try simp only [List.setIfInBounds_toArray, List.set_cons_zero, List.set_cons_succ]
  clear hI1 hI2
  refine takeH 3 152 (.bool true) rfl rfl (by kernel_rfl) (by kernel_rfl) (by kernel_rfl) (fun _ _ _ h => h) (by rfl) (by intro W hSw; clear hSw; go_simp) hq.out ?_
  try simp only [List.setIfInBounds_toArray, List.set_cons_zero, List.set_cons_succ]
  refine takeH 4 153 (.agg #[.int .i64 8, .int .i64 3, .slice a4 l4 c4]) rfl rfl (by kernel_rfl) (by kernel_rfl) (by kernel_rfl) (fun _ _ _ h => h) (by rfl) (by intro W hSw; obtain ⟨⟨j1, j2, j3⟩, ⟨j4, j5, j6⟩⟩ := hK.out W hSw; clear hSw; go_simp) hq.out ?_
  try simp only [List.setIfInBounds_toArray, List.set_cons_zero, List.set_cons_succ]
  refine wpAnyH_ready (rs := [5]) (by kernel_rfl) (by simp) ?_
  refine AllReadyH.cons rfl (fun K hKc => ?_) AllReadyH.nil
  go_simp
  refine (kSmall hT4 rfl).mono ?_
  rintro e w64 ⟨rfl, hn⟩
  replace hT4 := Lib.hid (hT4.out.up hn.out)
  replace hT5 := Lib.hid (hT5.out.up hn.out)
  replace hB6 := Lib.hid (hB6.out.up hn.out)
  replace hB7 := Lib.hid (hB7.out.up hn.out)
  replace hb := Lib.hid (Below.up hb.out hn.out)
  replace hq := Lib.hid (Below.up hq.out hn.out)
  refine hKc _ _ hq.out (fun _ => ?_)
  clear hKc K hn
  try simp only [List.setIfInBounds_toArray, List.set_cons_zero, List.set_cons_succ]
  refine takeH 6 155 (.bool true) rfl rfl (by kernel_rfl) (by kernel_rfl) (by kernel_rfl) (fun _ _ _ h => h) (by rfl) (by intro W hSw; clear hSw; go_simp) hq.out ?_
  try simp only [List.setIfInBounds_toArray, List.set_cons_zero, List.set_cons_succ]
  refine takeH 7 156 (.bool true) rfl rfl (by kernel_rfl) (by kernel_rfl) (by kernel_rfl) (fun _ _ _ h => h) (by rfl) (by intro W hSw; clear hSw; go_simp) hq.out ?_
  try simp only [List.setIfInBounds_toArray, List.set_cons_zero, List.set_cons_succ]
  refine takeH 8 157 (.agg #[.int .i64 8, .int .i64 3, .slice a4 l4 c4]) rfl rfl (by kernel_rfl) (by kernel_rfl) (by kernel_rfl) (fun _ _ _ h => h) (by rfl) (by intro W hSw; obtain ⟨⟨j1, j2, j3⟩, ⟨j4, j5, j6⟩⟩ := hK.out W hSw; clear hSw; go_simp) hq.out ?_
  try simp only [List.setIfInBounds_toArray, List.set_cons_zero, List.set_cons_succ]
  refine wpAnyH_ready (rs := [9]) (by kernel_rfl) (by simp) ?_
  refine AllReadyH.cons rfl (fun K hKc => ?_) AllReadyH.nil
  go_simp
  refine (kv 1 _).mono ?_
  rintro e w65 ⟨rfl, hn⟩
  replace hT4 := Lib.hid (hT4.out.up hn.out)
  replace hT5 := Lib.hid (hT5.out.up hn.out)
  replace hB6 := Lib.hid (hB6.out.up hn.out)
  replace hB7 := Lib.hid (hB7.out.up hn.out)
  replace hb := Lib.hid (Below.up hb.out hn.out)
  replace hq := Lib.hid (Below.up hq.out hn.out)
  refine hKc _ _ hq.out (fun _ => ?_)
  clear hKc K hn
  try simp only [List.setIfInBounds_toArray, List.set_cons_zero, List.set_cons_succ]
  refine wpAnyH_ready (rs := [10]) (by kernel_rfl) (by simp) ?_
  refine AllReadyH.cons rfl (fun K hKc => ?_) AllReadyH.nil
  go_simp
  refine (kv 3 _).mono ?_
  rintro e w66 ⟨rfl, hn⟩
  replace hT4 := Lib.hid (hT4.out.up hn.out)
  replace hT5 := Lib.hid (hT5.out.up hn.out)
  replace hB6 := Lib.hid (hB6.out.up hn.out)
  replace hB7 := Lib.hid (hB7.out.up hn.out)
  replace hb := Lib.hid (Below.up hb.out hn.out)
  replace hq := Lib.hid (Below.up hq.out hn.out)
  refine hKc _ _ hq.out (fun _ => ?_)
  clear hKc K hn
  try simp only [List.setIfInBounds_toArray, List.set_cons_zero, List.set_cons_succ]
  refine wpAnyH_ready (rs := [11]) (by kernel_rfl) (by simp) ?_
  refine AllReadyH.cons rfl (fun K hKc => ?_) AllReadyH.nil
  go_simp
  refine (kv 0 _).mono ?_
  rintro e w67 ⟨rfl, hn⟩
  replace hT4 := Lib.hid (hT4.out.up hn.out)
  replace hT5 := Lib.hid (hT5.out.up hn.out)
  replace hB6 := Lib.hid (hB6.out.up hn.out)
  replace hB7 := Lib.hid (hB7.out.up hn.out)
  replace hb := Lib.hid (Below.up hb.out hn.out)
  replace hq := Lib.hid (Below.up hq.out hn.out)
  refine hKc _ _ hq.out (fun _ => ?_)
  clear hKc K hn
  try simp only [List.setIfInBounds_toArray, List.set_cons_zero, List.set_cons_succ]
  refine wpAnyH_ready (rs := [12]) (by kernel_rfl) (by simp) ?_
  refine AllReadyH.cons rfl (fun K hKc => ?_) AllReadyH.nil
  go_simp
  have hL1 : Hid (Liv (w67.alloc (.cells #[.int .i64 1, .int .i64 0, .slice none 0 0] 28)) (dS 3 3 w67.heap.size (dN 1 0))) := Lib.hid (Liv.S 3 3 (Liv.N _ 1 0))
  replace hT4 := Lib.hid (hT4.out.up (bal w67 (.cells #[.int .i64 1, .int .i64 0, .slice none 0 0] 28)))
  replace hT5 := Lib.hid (hT5.out.up (bal w67 (.cells #[.int .i64 1, .int .i64 0, .slice none 0 0] 28)))
  replace hB6 := Lib.hid (hB6.out.up (bal w67 (.cells #[.int .i64 1, .int .i64 0, .slice none 0 0] 28)))
  replace hB7 := Lib.hid (hB7.out.up (bal w67 (.cells #[.int .i64 1, .int .i64 0, .slice none 0 0] 28)))
  replace hb := Lib.hid (Below.up hb.out (bal w67 (.cells #[.int .i64 1, .int .i64 0, .slice none 0 0] 28)))
  replace hq := Lib.hid (Below.up hq.out (bal w67 (.cells #[.int .i64 1, .int .i64 0, .slice none 0 0] 28)))
  obtain ⟨w68, hw68⟩ : ∃ w68, w68 = w67.alloc (.cells #[.int .i64 1, .int .i64 0, .slice none 0 0] 28) := ⟨_, rfl⟩
  rw [← hw68]
  rw [← hw68] at hT4
  rw [← hw68] at hT5
  rw [← hw68] at hB6
  rw [← hw68] at hB7
  rw [← hw68] at hL1
  rw [← hw68] at hb
  rw [← hw68] at hq
  clear hw68
  refine hKc _ _ hq.out (fun _ => ?_)
  clear hKc K
  try simp only [List.setIfInBounds_toArray, List.set_cons_zero, List.set_cons_succ]
  refine wpAnyH_ready (rs := [13]) (by kernel_rfl) (by simp) ?_
  refine AllReadyH.cons rfl (fun K hKc => ?_) AllReadyH.nil
  go_simp
  refine (kcon 3 (some ⟨w67.heap.size, 0, none⟩) 1 1 _).mono ?_
  rintro e w69 ⟨rfl, hn⟩
  replace hT4 := Lib.hid (hT4.out.up hn.out)
  replace hT5 := Lib.hid (hT5.out.up hn.out)
  replace hB6 := Lib.hid (hB6.out.up hn.out)
  replace hB7 := Lib.hid (hB7.out.up hn.out)
  replace hL1 := Lib.hid (hL1.out.up hn.out)
  replace hb := Lib.hid (Below.up hb.out hn.out)
  replace hq := Lib.hid (Below.up hq.out hn.out)
  refine hKc _ _ hq.out (fun _ => ?_)
  clear hKc K hn
  try simp only [List.setIfInBounds_toArray, List.set_cons_zero, List.set_cons_succ]
  refine wpAnyH_ready (rs := [14]) (by kernel_rfl) (by simp) ?_
  refine AllReadyH.cons rfl (fun K hKc => ?_) AllReadyH.nil
  go_simp
  have hL2 : Hid (Liv (w69.alloc (.cells #[.int .i64 1, .int .i64 3, .slice none 0 0, .int .i64 3, .int .i64 3, .slice (some ⟨w67.heap.size, 0, none⟩) 1 1] 28)) (dP 3 5 w69.heap.size (dN 1 3) (dS 3 3 w67.heap.size (dN 1 0)))) := Lib.hid (Liv.P 3 5 (Liv.N _ 1 3) hL1.out)
  clear hL1
  replace hT4 := Lib.hid (hT4.out.up (bal w69 (.cells #[.int .i64 1, .int .i64 3, .slice none 0 0, .int .i64 3, .int .i64 3, .slice (some ⟨w67.heap.size, 0, none⟩) 1 1] 28)))
  replace hT5 := Lib.hid (hT5.out.up (bal w69 (.cells #[.int .i64 1, .int .i64 3, .slice none 0 0, .int .i64 3, .int .i64 3, .slice (some ⟨w67.heap.size, 0, none⟩) 1 1] 28)))
  replace hB6 := Lib.hid (hB6.out.up (bal w69 (.cells #[.int .i64 1, .int .i64 3, .slice none 0 0, .int .i64 3, .int .i64 3, .slice (some ⟨w67.heap.size, 0, none⟩) 1 1] 28)))
  replace hB7 := Lib.hid (hB7.out.up (bal w69 (.cells #[.int .i64 1, .int .i64 3, .slice none 0 0, .int .i64 3, .int .i64 3, .slice (some ⟨w67.heap.size, 0, none⟩) 1 1] 28)))
  replace hb := Lib.hid (Below.up hb.out (bal w69 (.cells #[.int .i64 1, .int .i64 3, .slice none 0 0, .int .i64 3, .int .i64 3, .slice (some ⟨w67.heap.size, 0, none⟩) 1 1] 28)))
  replace hq := Lib.hid (Below.up hq.out (bal w69 (.cells #[.int .i64 1, .int .i64 3, .slice none 0 0, .int .i64 3, .int .i64 3, .slice (some ⟨w67.heap.size, 0, none⟩) 1 1] 28)))
  obtain ⟨w70, hw70⟩ : ∃ w70, w70 = w69.alloc (.cells #[.int .i64 1, .int .i64 3, .slice none 0 0, .int .i64 3, .int .i64 3, .slice (some ⟨w67.heap.size, 0, none⟩) 1 1] 28) := ⟨_, rfl⟩
  rw [← hw70]
  rw [← hw70] at hT4
  rw [← hw70] at hT5
  rw [← hw70] at hB6
  rw [← hw70] at hB7
  rw [← hw70] at hL2
  rw [← hw70] at hb
  rw [← hw70] at hq
  clear hw70
  refine hKc _ _ hq.out (fun _ => ?_)
  clear hKc K
  try simp only [List.setIfInBounds_toArray, List.set_cons_zero, List.set_cons_succ]
  refine wpAnyH_ready (rs := [15]) (by kernel_rfl) (by simp) ?_
  refine AllReadyH.cons rfl (fun K hKc => ?_) AllReadyH.nil
  go_simp
  refine (kcon 5 (some ⟨w69.heap.size, 0, none⟩) 2 2 _).mono ?_
  rintro e w71 ⟨rfl, hn⟩
  replace hT4 := Lib.hid (hT4.out.up hn.out)
  replace hT5 := Lib.hid (hT5.out.up hn.out)
  replace hB6 := Lib.hid (hB6.out.up hn.out)
  replace hB7 := Lib.hid (hB7.out.up hn.out)
  replace hL2 := Lib.hid (hL2.out.up hn.out)
  replace hb := Lib.hid (Below.up hb.out hn.out)
  replace hq := Lib.hid (Below.up hq.out hn.out)
  refine hKc _ _ hq.out (fun _ => ?_)
  clear hKc K hn
  try simp only [List.setIfInBounds_toArray, List.set_cons_zero, List.set_cons_succ]
  refine wpAnyH_ready (rs := [16]) (by kernel_rfl) (by simp) ?_
  refine AllReadyH.cons rfl (fun K hKc => ?_) AllReadyH.nil
  go_simp
  have hL3 : Hid (Liv (w71.alloc (.cells #[.int .i64 1, .int .i64 1, .slice none 0 0, .int .i64 3, .int .i64 5, .slice (some ⟨w69.heap.size, 0, none⟩) 2 2] 28)) (dP 8 3 w71.heap.size (dN 1 1) (dP 3 5 w69.heap.size (dN 1 3) (dS 3 3 w67.heap.size (dN 1 0))))) := Lib.hid (Liv.P 8 3 (Liv.N _ 1 1) hL2.out)
  clear hL2
  replace hT4 := Lib.hid (hT4.out.up (bal w71 (.cells #[.int .i64 1, .int .i64 1, .slice none 0 0, .int .i64 3, .int .i64 5, .slice (some ⟨w69.heap.size, 0, none⟩) 2 2] 28)))
  replace hT5 := Lib.hid (hT5.out.up (bal w71 (.cells #[.int .i64 1, .int .i64 1, .slice none 0 0, .int .i64 3, .int .i64 5, .slice (some ⟨w69.heap.size, 0, none⟩) 2 2] 28)))
  replace hB6 := Lib.hid (hB6.out.up (bal w71 (.cells #[.int .i64 1, .int .i64 1, .slice none 0 0, .int .i64 3, .int .i64 5, .slice (some ⟨w69.heap.size, 0, none⟩) 2 2] 28)))
  replace hB7 := Lib.hid (hB7.out.up (bal w71 (.cells #[.int .i64 1, .int .i64 1, .slice none 0 0, .int .i64 3, .int .i64 5, .slice (some ⟨w69.heap.size, 0, none⟩) 2 2] 28)))
  replace hb := Lib.hid (Below.up hb.out (bal w71 (.cells #[.int .i64 1, .int .i64 1, .slice none 0 0, .int .i64 3, .int .i64 5, .slice (some ⟨w69.heap.size, 0, none⟩) 2 2] 28)))
  replace hq := Lib.hid (Below.up hq.out (bal w71 (.cells #[.int .i64 1, .int .i64 1, .slice none 0 0, .int .i64 3, .int .i64 5, .slice (some ⟨w69.heap.size, 0, none⟩) 2 2] 28)))
  obtain ⟨w72, hw72⟩ : ∃ w72, w72 = w71.alloc (.cells #[.int .i64 1, .int .i64 1, .slice none 0 0, .int .i64 3, .int .i64 5, .slice (some ⟨w69.heap.size, 0, none⟩) 2 2] 28) := ⟨_, rfl⟩
  rw [← hw72]
  rw [← hw72] at hT4
  rw [← hw72] at hT5
  rw [← hw72] at hB6
  rw [← hw72] at hB7
  rw [← hw72] at hL3
  rw [← hw72] at hb
  rw [← hw72] at hq
  clear hw72
  refine hKc _ _ hq.out (fun _ => ?_)
  clear hKc K
  try simp only [List.setIfInBounds_toArray, List.set_cons_zero, List.set_cons_succ]
  refine wpAnyH_ready (rs := [17]) (by kernel_rfl) (by simp) ?_
  refine AllReadyH.cons rfl (fun K hKc => ?_) AllReadyH.nil
  go_simp
  refine (knode 8 3 (some ⟨w71.heap.size, 0, none⟩) 2 2 _).mono ?_
  rintro e w73 ⟨rfl, hn⟩
  replace hT4 := Lib.hid (hT4.out.up hn.out)
  replace hT5 := Lib.hid (hT5.out.up hn.out)
  replace hB6 := Lib.hid (hB6.out.up hn.out)
  replace hB7 := Lib.hid (hB7.out.up hn.out)
  replace hL3 := Lib.hid (hL3.out.up hn.out)
  replace hb := Lib.hid (Below.up hb.out hn.out)
  replace hq := Lib.hid (Below.up hq.out hn.out)
  refine hKc _ _ hq.out (fun _ => ?_)
  clear hKc K hn
  try simp only [List.setIfInBounds_toArray, List.set_cons_zero, List.set_cons_succ]
  refine wpAnyH_ready (rs := [18]) (by kernel_rfl) (by simp) ?_
  refine AllReadyH.cons rfl (fun K hKc => ?_) AllReadyH.nil
  go_simp
  refine (kSame (dP 8 3 w71.heap.size (dN 1 1) (dP 3 5 w69.heap.size (dN 1 3) (dS 3 3 w67.heap.size (dN 1 0)))) hT4 hL3 rfl).mono ?_
  rintro e w74 ⟨rfl, hn⟩
  replace hT4 := Lib.hid (hT4.out.up hn.out)
  replace hT5 := Lib.hid (hT5.out.up hn.out)
  replace hB6 := Lib.hid (hB6.out.up hn.out)
  replace hB7 := Lib.hid (hB7.out.up hn.out)
  replace hL3 := Lib.hid (hL3.out.up hn.out)
  replace hb := Lib.hid (Below.up hb.out hn.out)
  replace hq := Lib.hid (Below.up hq.out hn.out)
  refine hKc _ _ hq.out (fun _ => ?_)
  clear hKc K hn
  try simp only [List.setIfInBounds_toArray, List.set_cons_zero, List.set_cons_succ]
  clear hT4 hL3
  refine takeH 19 168 (.bool true) rfl rfl (by kernel_rfl) (by kernel_rfl) (by kernel_rfl) (fun _ _ _ h => h) (by rfl) (by intro W hSw; clear hSw; go_simp) hq.out ?_
  try simp only [List.setIfInBounds_toArray, List.set_cons_zero, List.set_cons_succ]
  refine takeH 20 169 (.bool true) rfl rfl (by kernel_rfl) (by kernel_rfl) (by kernel_rfl) (fun _ _ _ h => h) (by rfl) (by intro W hSw; clear hSw; go_simp) hq.out ?_
  try simp only [List.setIfInBounds_toArray, List.set_cons_zero, List.set_cons_succ]
  refine takeH 21 170 (.agg #[.int .i64 3, .int .i64 5, .slice a5 l5 c5]) rfl rfl (by kernel_rfl) (by kernel_rfl) (by kernel_rfl) (fun _ _ _ h => h) (by rfl) (by intro W hSw; obtain ⟨⟨j1, j2, j3⟩, ⟨j4, j5, j6⟩⟩ := hK.out W hSw; clear hSw; go_simp) hq.out ?_
  try simp only [List.setIfInBounds_toArray, List.set_cons_zero, List.set_cons_succ]
  refine wpAnyH_ready (rs := [22]) (by kernel_rfl) (by simp) ?_
  refine AllReadyH.cons rfl (fun K hKc => ?_) AllReadyH.nil
  go_simp
  refine (kSmall hT5 rfl).mono ?_
  rintro e w75 ⟨rfl, hn⟩
  replace hT5 := Lib.hid (hT5.out.up hn.out)
  replace hB6 := Lib.hid (hB6.out.up hn.out)
  replace hB7 := Lib.hid (hB7.out.up hn.out)
  replace hb := Lib.hid (Below.up hb.out hn.out)
  replace hq := Lib.hid (Below.up hq.out hn.out)
  refine hKc _ _ hq.out (fun _ => ?_)
  clear hKc K hn
  try simp only [List.setIfInBounds_toArray, List.set_cons_zero, List.set_cons_succ]
  refine takeH 23 172 (.bool true) rfl rfl (by kernel_rfl) (by kernel_rfl) (by kernel_rfl) (fun _ _ _ h => h) (by rfl) (by intro W hSw; clear hSw; go_simp) hq.out ?_
  try simp only [List.setIfInBounds_toArray, List.set_cons_zero, List.set_cons_succ]
  refine takeH 24 173 (.bool true) rfl rfl (by kernel_rfl) (by kernel_rfl) (by kernel_rfl) (fun _ _ _ h => h) (by rfl) (by intro W hSw; clear hSw; go_simp) hq.out ?_
  try simp only [List.setIfInBounds_toArray, List.set_cons_zero, List.set_cons_succ]
  refine takeH 25 174 (.agg #[.int .i64 3, .int .i64 5, .slice a5 l5 c5]) rfl rfl (by kernel_rfl) (by kernel_rfl) (by kernel_rfl) (fun _ _ _ h => h) (by rfl) (by intro W hSw; obtain ⟨⟨j1, j2, j3⟩, ⟨j4, j5, j6⟩⟩ := hK.out W hSw; clear hSw; go_simp) hq.out ?_
  try simp only [List.setIfInBounds_toArray, List.set_cons_zero, List.set_cons_succ]
  refine wpAnyH_ready (rs := [26]) (by kernel_rfl) (by simp) ?_
  refine AllReadyH.cons rfl (fun K hKc => ?_) AllReadyH.nil
  go_simp
  refine (kv 0 _).mono ?_
  rintro e w76 ⟨rfl, hn⟩
  replace hT5 := Lib.hid (hT5.out.up hn.out)
  replace hB6 := Lib.hid (hB6.out.up hn.out)
  replace hB7 := Lib.hid (hB7.out.up hn.out)
  replace hb := Lib.hid (Below.up hb.out hn.out)
  replace hq := Lib.hid (Below.up hq.out hn.out)
  refine hKc _ _ hq.out (fun _ => ?_)
  clear hKc K hn
  try simp only [List.setIfInBounds_toArray, List.set_cons_zero, List.set_cons_succ]
  refine wpAnyH_ready (rs := [27]) (by kernel_rfl) (by simp) ?_
  refine AllReadyH.cons rfl (fun K hKc => ?_) AllReadyH.nil
  go_simp
  refine (kv 2 _).mono ?_
  rintro e w77 ⟨rfl, hn⟩
  replace hT5 := Lib.hid (hT5.out.up hn.out)
  replace hB6 := Lib.hid (hB6.out.up hn.out)
  replace hB7 := Lib.hid (hB7.out.up hn.out)
  replace hb := Lib.hid (Below.up hb.out hn.out)
  replace hq := Lib.hid (Below.up hq.out hn.out)
  refine hKc _ _ hq.out (fun _ => ?_)
  clear hKc K hn
  try simp only [List.setIfInBounds_toArray, List.set_cons_zero, List.set_cons_succ]
  refine wpAnyH_ready (rs := [28]) (by kernel_rfl) (by simp) ?_
  refine AllReadyH.cons rfl (fun K hKc => ?_) AllReadyH.nil
  go_simp
  refine (kv 1 _).mono ?_
  rintro e w78 ⟨rfl, hn⟩
  replace hT5 := Lib.hid (hT5.out.up hn.out)
  replace hB6 := Lib.hid (hB6.out.up hn.out)
  replace hB7 := Lib.hid (hB7.out.up hn.out)
  replace hb := Lib.hid (Below.up hb.out hn.out)
  replace hq := Lib.hid (Below.up hq.out hn.out)
  refine hKc _ _ hq.out (fun _ => ?_)
  clear hKc K hn
  try simp only [List.setIfInBounds_toArray, List.set_cons_zero, List.set_cons_succ]
  refine wpAnyH_ready (rs := [29]) (by kernel_rfl) (by simp) ?_
  refine AllReadyH.cons rfl (fun K hKc => ?_) AllReadyH.nil
  go_simp
  have hL1 : Hid (Liv (w78.alloc (.cells #[.int .i64 1, .int .i64 2, .slice none 0 0, .int .i64 1, .int .i64 1, .slice none 0 0] 28)) (dP 8 1 w78.heap.size (dN 1 2) (dN 1 1))) := Lib.hid (Liv.P 8 1 (Liv.N _ 1 2) (Liv.N _ 1 1))
  replace hT5 := Lib.hid (hT5.out.up (bal w78 (.cells #[.int .i64 1, .int .i64 2, .slice none 0 0, .int .i64 1, .int .i64 1, .slice none 0 0] 28)))
  replace hB6 := Lib.hid (hB6.out.up (bal w78 (.cells #[.int .i64 1, .int .i64 2, .slice none 0 0, .int .i64 1, .int .i64 1, .slice none 0 0] 28)))
  replace hB7 := Lib.hid (hB7.out.up (bal w78 (.cells #[.int .i64 1, .int .i64 2, .slice none 0 0, .int .i64 1, .int .i64 1, .slice none 0 0] 28)))
  replace hb := Lib.hid (Below.up hb.out (bal w78 (.cells #[.int .i64 1, .int .i64 2, .slice none 0 0, .int .i64 1, .int .i64 1, .slice none 0 0] 28)))
  replace hq := Lib.hid (Below.up hq.out (bal w78 (.cells #[.int .i64 1, .int .i64 2, .slice none 0 0, .int .i64 1, .int .i64 1, .slice none 0 0] 28)))
  obtain ⟨w79, hw79⟩ : ∃ w79, w79 = w78.alloc (.cells #[.int .i64 1, .int .i64 2, .slice none 0 0, .int .i64 1, .int .i64 1, .slice none 0 0] 28) := ⟨_, rfl⟩
  rw [← hw79]
  rw [← hw79] at hT5
  rw [← hw79] at hB6
  rw [← hw79] at hB7
  rw [← hw79] at hL1
  rw [← hw79] at hb
  rw [← hw79] at hq
  clear hw79
  refine hKc _ _ hq.out (fun _ => ?_)
  clear hKc K
  try simp only [List.setIfInBounds_toArray, List.set_cons_zero, List.set_cons_succ]
  refine wpAnyH_ready (rs := [30]) (by kernel_rfl) (by simp) ?_
  refine AllReadyH.cons rfl (fun K hKc => ?_) AllReadyH.nil
  go_simp
  refine (knode 8 1 (some ⟨w78.heap.size, 0, none⟩) 2 2 _).mono ?_
  rintro e w80 ⟨rfl, hn⟩
  replace hT5 := Lib.hid (hT5.out.up hn.out)
  replace hB6 := Lib.hid (hB6.out.up hn.out)
  replace hB7 := Lib.hid (hB7.out.up hn.out)
  replace hL1 := Lib.hid (hL1.out.up hn.out)
  replace hb := Lib.hid (Below.up hb.out hn.out)
  replace hq := Lib.hid (Below.up hq.out hn.out)
  refine hKc _ _ hq.out (fun _ => ?_)
  clear hKc K hn
  try simp only [List.setIfInBounds_toArray, List.set_cons_zero, List.set_cons_succ]
  refine wpAnyH_ready (rs := [31]) (by kernel_rfl) (by simp) ?_
  refine AllReadyH.cons rfl (fun K hKc => ?_) AllReadyH.nil
  go_simp
  have hL2 : Hid (Liv (w80.alloc (.cells #[.int .i64 1, .int .i64 0, .slice none 0 0, .int .i64 8, .int .i64 1, .slice (some ⟨w78.heap.size, 0, none⟩) 2 2] 28)) (dP 3 5 w80.heap.size (dN 1 0) (dP 8 1 w78.heap.size (dN 1 2) (dN 1 1)))) := Lib.hid (Liv.P 3 5 (Liv.N _ 1 0) hL1.out)
  clear hL1
  replace hT5 := Lib.hid (hT5.out.up (bal w80 (.cells #[.int .i64 1, .int .i64 0, .slice none 0 0, .int .i64 8, .int .i64 1, .slice (some ⟨w78.heap.size, 0, none⟩) 2 2] 28)))
  replace hB6 := Lib.hid (hB6.out.up (bal w80 (.cells #[.int .i64 1, .int .i64 0, .slice none 0 0, .int .i64 8, .int .i64 1, .slice (some ⟨w78.heap.size, 0, none⟩) 2 2] 28)))
  replace hB7 := Lib.hid (hB7.out.up (bal w80 (.cells #[.int .i64 1, .int .i64 0, .slice none 0 0, .int .i64 8, .int .i64 1, .slice (some ⟨w78.heap.size, 0, none⟩) 2 2] 28)))
  replace hb := Lib.hid (Below.up hb.out (bal w80 (.cells #[.int .i64 1, .int .i64 0, .slice none 0 0, .int .i64 8, .int .i64 1, .slice (some ⟨w78.heap.size, 0, none⟩) 2 2] 28)))
  replace hq := Lib.hid (Below.up hq.out (bal w80 (.cells #[.int .i64 1, .int .i64 0, .slice none 0 0, .int .i64 8, .int .i64 1, .slice (some ⟨w78.heap.size, 0, none⟩) 2 2] 28)))
  obtain ⟨w81, hw81⟩ : ∃ w81, w81 = w80.alloc (.cells #[.int .i64 1, .int .i64 0, .slice none 0 0, .int .i64 8, .int .i64 1, .slice (some ⟨w78.heap.size, 0, none⟩) 2 2] 28) := ⟨_, rfl⟩
  rw [← hw81]
  rw [← hw81] at hT5
  rw [← hw81] at hB6
  rw [← hw81] at hB7
  rw [← hw81] at hL2
  rw [← hw81] at hb
  rw [← hw81] at hq
  clear hw81
  refine hKc _ _ hq.out (fun _ => ?_)
  clear hKc K
  try simp only [List.setIfInBounds_toArray, List.set_cons_zero, List.set_cons_succ]
  refine wpAnyH_ready (rs := [32]) (by kernel_rfl) (by simp) ?_
  refine AllReadyH.cons rfl (fun K hKc => ?_) AllReadyH.nil
  go_simp
  refine (kcon 5 (some ⟨w80.heap.size, 0, none⟩) 2 2 _).mono ?_
  rintro e w82 ⟨rfl, hn⟩
  replace hT5 := Lib.hid (hT5.out.up hn.out)
  replace hB6 := Lib.hid (hB6.out.up hn.out)
  replace hB7 := Lib.hid (hB7.out.up hn.out)
  replace hL2 := Lib.hid (hL2.out.up hn.out)
  replace hb := Lib.hid (Below.up hb.out hn.out)
  replace hq := Lib.hid (Below.up hq.out hn.out)
  refine hKc _ _ hq.out (fun _ => ?_)
  clear hKc K hn
  try simp only [List.setIfInBounds_toArray, List.set_cons_zero, List.set_cons_succ]
  refine wpAnyH_ready (rs := [33]) (by kernel_rfl) (by simp) ?_
  refine AllReadyH.cons rfl (fun K hKc => ?_) AllReadyH.nil
  go_simp
  refine (kSame (dP 3 5 w80.heap.size (dN 1 0) (dP 8 1 w78.heap.size (dN 1 2) (dN 1 1))) hT5 hL2 rfl).mono ?_
  rintro e w83 ⟨rfl, hn⟩
  replace hT5 := Lib.hid (hT5.out.up hn.out)
  replace hB6 := Lib.hid (hB6.out.up hn.out)
  replace hB7 := Lib.hid (hB7.out.up hn.out)
  replace hL2 := Lib.hid (hL2.out.up hn.out)
  replace hb := Lib.hid (Below.up hb.out hn.out)
  replace hq := Lib.hid (Below.up hq.out hn.out)
  refine hKc _ _ hq.out (fun _ => ?_)
  clear hKc K hn
  try simp only [List.setIfInBounds_toArray, List.set_cons_zero, List.set_cons_succ]
  clear hT5 hL2
  refine takeH 34 183 (.bool true) rfl rfl (by kernel_rfl) (by kernel_rfl) (by kernel_rfl) (fun _ _ _ h => h) (by rfl) (by intro W hSw; clear hSw; go_simp) hq.out ?_
  try simp only [List.setIfInBounds_toArray, List.set_cons_zero, List.set_cons_succ]
  refine takeH 35 184 (.bool true) rfl rfl (by kernel_rfl) (by kernel_rfl) (by kernel_rfl) (fun _ _ _ h => h) (by rfl) (by intro W hSw; clear hSw; go_simp) hq.out ?_
  try simp only [List.setIfInBounds_toArray, List.set_cons_zero, List.set_cons_succ]
  refine takeH 36 185 (.slice va6 vl6 vc6) rfl rfl (by kernel_rfl) (by kernel_rfl) (by kernel_rfl) (fun _ _ _ h => h) (by rfl) (by intro W hSw; clear hSw; go_simp) hq.out ?_
  try simp only [List.setIfInBounds_toArray, List.set_cons_zero, List.set_cons_succ]
  refine wpAnyH_ready (rs := [37]) (by kernel_rfl) (by simp) ?_
  refine AllReadyH.cons rfl (fun K hKc => ?_) AllReadyH.nil
  go_simp
  refine (kSmallBinds hB6 rfl).mono ?_
  rintro e w84 ⟨rfl, hn⟩
  replace hB6 := Lib.hid (hB6.out.up hn.out)
  replace hB7 := Lib.hid (hB7.out.up hn.out)
  replace hb := Lib.hid (Below.up hb.out hn.out)
  replace hq := Lib.hid (Below.up hq.out hn.out)
  refine hKc _ _ hq.out (fun _ => ?_)
  clear hKc K hn
  try simp only [List.setIfInBounds_toArray, List.set_cons_zero, List.set_cons_succ]
  refine takeH 38 187 (.bool true) rfl rfl (by kernel_rfl) (by kernel_rfl) (by kernel_rfl) (fun _ _ _ h => h) (by rfl) (by intro W hSw; clear hSw; go_simp) hq.out ?_
  try simp only [List.setIfInBounds_toArray, List.set_cons_zero, List.set_cons_succ]
  refine takeH 39 188 (.bool true) rfl rfl (by kernel_rfl) (by kernel_rfl) (by kernel_rfl) (fun _ _ _ h => h) (by rfl) (by intro W hSw; clear hSw; go_simp) hq.out ?_
  try simp only [List.setIfInBounds_toArray, List.set_cons_zero, List.set_cons_succ]
  refine takeH 40 189 (.slice va6 vl6 vc6) rfl rfl (by kernel_rfl) (by kernel_rfl) (by kernel_rfl) (fun _ _ _ h => h) (by rfl) (by intro W hSw; clear hSw; go_simp) hq.out ?_
  try simp only [List.setIfInBounds_toArray, List.set_cons_zero, List.set_cons_succ]
  refine wpAnyH_ready (rs := [41]) (by kernel_rfl) (by simp) ?_
  refine AllReadyH.cons rfl (fun K hKc => ?_) AllReadyH.nil
  go_simp
  refine (kcon 2 none 0 0 _).mono ?_
  rintro e w85 ⟨rfl, hn⟩
  replace hB6 := Lib.hid (hB6.out.up hn.out)
  replace hB7 := Lib.hid (hB7.out.up hn.out)
  replace hb := Lib.hid (Below.up hb.out hn.out)
  replace hq := Lib.hid (Below.up hq.out hn.out)
  refine hKc _ _ hq.out (fun _ => ?_)
  clear hKc K hn
  try simp only [List.setIfInBounds_toArray, List.set_cons_zero, List.set_cons_succ]
  refine takeH 42 191 (.agg #[.int .i64 0, .int .i64 3, .int .i64 2, .slice none 0 0]) rfl rfl (by kernel_rfl) (by kernel_rfl) (by kernel_rfl) (fun _ _ _ h => h) (by rfl) (by intro W hSw; clear hSw; go_simp) hq.out ?_
  try simp only [List.setIfInBounds_toArray, List.set_cons_zero, List.set_cons_succ]
  refine wpAnyH_ready (rs := [43]) (by kernel_rfl) (by simp) ?_
  refine AllReadyH.cons rfl (fun K hKc => ?_) AllReadyH.nil
  go_simp
  refine (kcon 4 none 0 0 _).mono ?_
  rintro e w86 ⟨rfl, hn⟩
  replace hB6 := Lib.hid (hB6.out.up hn.out)
  replace hB7 := Lib.hid (hB7.out.up hn.out)
  replace hb := Lib.hid (Below.up hb.out hn.out)
  replace hq := Lib.hid (Below.up hq.out hn.out)
  refine hKc _ _ hq.out (fun _ => ?_)
  clear hKc K hn
  try simp only [List.setIfInBounds_toArray, List.set_cons_zero, List.set_cons_succ]
  refine takeH 44 193 (.agg #[.int .i64 1, .int .i64 3, .int .i64 4, .slice none 0 0]) rfl rfl (by kernel_rfl) (by kernel_rfl) (by kernel_rfl) (fun _ _ _ h => h) (by rfl) (by intro W hSw; clear hSw; go_simp) hq.out ?_
  try simp only [List.setIfInBounds_toArray, List.set_cons_zero, List.set_cons_succ]
  refine wpAnyH_ready (rs := [45]) (by kernel_rfl) (by simp) ?_
  refine AllReadyH.cons rfl (fun K hKc => ?_) AllReadyH.nil
  go_simp
  have hM6 : Hid (Bv (w86.alloc (.cells #[.int .i64 0, .int .i64 3, .int .i64 2, .slice none 0 0, .int .i64 1, .int .i64 3, .int .i64 4, .slice none 0 0] 70)) [(0, tc 2), (1, tc 4)] (some ⟨w86.heap.size, 0, none⟩) 2 2) := Lib.hid (Bv.two (x := dN 3 2) (y := dN 3 4) 0 1 (Liv.N _ 3 2) (Liv.N _ 3 4))
  replace hB6 := Lib.hid (hB6.out.up (bal w86 (.cells #[.int .i64 0, .int .i64 3, .int .i64 2, .slice none 0 0, .int .i64 1, .int .i64 3, .int .i64 4, .slice none 0 0] 70)))
  replace hB7 := Lib.hid (hB7.out.up (bal w86 (.cells #[.int .i64 0, .int .i64 3, .int .i64 2, .slice none 0 0, .int .i64 1, .int .i64 3, .int .i64 4, .slice none 0 0] 70)))
  replace hb := Lib.hid (Below.up hb.out (bal w86 (.cells #[.int .i64 0, .int .i64 3, .int .i64 2, .slice none 0 0, .int .i64 1, .int .i64 3, .int .i64 4, .slice none 0 0] 70)))
  replace hq := Lib.hid (Below.up hq.out (bal w86 (.cells #[.int .i64 0, .int .i64 3, .int .i64 2, .slice none 0 0, .int .i64 1, .int .i64 3, .int .i64 4, .slice none 0 0] 70)))
  obtain ⟨w87, hw87⟩ : ∃ w87, w87 = w86.alloc (.cells #[.int .i64 0, .int .i64 3, .int .i64 2, .slice none 0 0, .int .i64 1, .int .i64 3, .int .i64 4, .slice none 0 0] 70) := ⟨_, rfl⟩
  rw [← hw87]
  rw [← hw87] at hB6
  rw [← hw87] at hB7
  rw [← hw87] at hM6
  rw [← hw87] at hb
  rw [← hw87] at hq
  clear hw87
  refine hKc _ _ hq.out (fun _ => ?_)
  clear hKc K
  try simp only [List.setIfInBounds_toArray, List.set_cons_zero, List.set_cons_succ]
  refine wpAnyH_ready (rs := [46]) (by kernel_rfl) (by simp) ?_
  refine AllReadyH.cons rfl (fun K hKc => ?_) AllReadyH.nil
  go_simp
  refine (kSameBinds hB6 hM6 rfl).mono ?_
  rintro e w88 ⟨rfl, hn⟩
  replace hB6 := Lib.hid (hB6.out.up hn.out)
  replace hB7 := Lib.hid (hB7.out.up hn.out)
  replace hM6 := Lib.hid (hM6.out.up hn.out)
  replace hb := Lib.hid (Below.up hb.out hn.out)
  replace hq := Lib.hid (Below.up hq.out hn.out)
  refine hKc _ _ hq.out (fun _ => ?_)
  clear hKc K hn
  try simp only [List.setIfInBounds_toArray, List.set_cons_zero, List.set_cons_succ]
  clear hB6 hM6
  refine takeH 47 196 (.bool true) rfl rfl (by kernel_rfl) (by kernel_rfl) (by kernel_rfl) (fun _ _ _ h => h) (by rfl) (by intro W hSw; clear hSw; go_simp) hq.out ?_
  try simp only [List.setIfInBounds_toArray, List.set_cons_zero, List.set_cons_succ]
  refine takeH 48 197 (.bool true) rfl rfl (by kernel_rfl) (by kernel_rfl) (by kernel_rfl) (fun _ _ _ h => h) (by rfl) (by intro W hSw; clear hSw; go_simp) hq.out ?_
  try simp only [List.setIfInBounds_toArray, List.set_cons_zero, List.set_cons_succ]
  refine takeH 49 198 (.slice va7 vl7 vc7) rfl rfl (by kernel_rfl) (by kernel_rfl) (by kernel_rfl) (fun _ _ _ h => h) (by rfl) (by intro W hSw; clear hSw; go_simp) hq.out ?_
  try simp only [List.setIfInBounds_toArray, List.set_cons_zero, List.set_cons_succ]
  refine wpAnyH_ready (rs := [50]) (by kernel_rfl) (by simp) ?_
  refine AllReadyH.cons rfl (fun K hKc => ?_) AllReadyH.nil
  go_simp
  refine (kSmallBinds hB7 rfl).mono ?_
  rintro e w89 ⟨rfl, hn⟩
  replace hB7 := Lib.hid (hB7.out.up hn.out)
  replace hb := Lib.hid (Below.up hb.out hn.out)
  replace hq := Lib.hid (Below.up hq.out hn.out)
  refine hKc _ _ hq.out (fun _ => ?_)
  clear hKc K hn
  try simp only [List.setIfInBounds_toArray, List.set_cons_zero, List.set_cons_succ]
  refine takeH 51 200 (.bool true) rfl rfl (by kernel_rfl) (by kernel_rfl) (by kernel_rfl) (fun _ _ _ h => h) (by rfl) (by intro W hSw; clear hSw; go_simp) hq.out ?_
  try simp only [List.setIfInBounds_toArray, List.set_cons_zero, List.set_cons_succ]
  refine takeH 52 201 (.bool true) rfl rfl (by kernel_rfl) (by kernel_rfl) (by kernel_rfl) (fun _ _ _ h => h) (by rfl) (by intro W hSw; clear hSw; go_simp) hq.out ?_
  try simp only [List.setIfInBounds_toArray, List.set_cons_zero, List.set_cons_succ]
  refine takeH 53 202 (.slice va7 vl7 vc7) rfl rfl (by kernel_rfl) (by kernel_rfl) (by kernel_rfl) (fun _ _ _ h => h) (by rfl) (by intro W hSw; clear hSw; go_simp) hq.out ?_
  try simp only [List.setIfInBounds_toArray, List.set_cons_zero, List.set_cons_succ]
  refine wpAnyH_ready (rs := [54]) (by kernel_rfl) (by simp) ?_
  refine AllReadyH.cons rfl (fun K hKc => ?_) AllReadyH.nil
  go_simp
  refine (kcon 4 none 0 0 _).mono ?_
  rintro e w90 ⟨rfl, hn⟩
  replace hB7 := Lib.hid (hB7.out.up hn.out)
  replace hb := Lib.hid (Below.up hb.out hn.out)
  replace hq := Lib.hid (Below.up hq.out hn.out)
  refine hKc _ _ hq.out (fun _ => ?_)
  clear hKc K hn
  try simp only [List.setIfInBounds_toArray, List.set_cons_zero, List.set_cons_succ]
  refine takeH 55 204 (.agg #[.int .i64 0, .int .i64 3, .int .i64 4, .slice none 0 0]) rfl rfl (by kernel_rfl) (by kernel_rfl) (by kernel_rfl) (fun _ _ _ h => h) (by rfl) (by intro W hSw; clear hSw; go_simp) hq.out ?_
  try simp only [List.setIfInBounds_toArray, List.set_cons_zero, List.set_cons_succ]
  refine wpAnyH_ready (rs := [56]) (by kernel_rfl) (by simp) ?_
  refine AllReadyH.cons rfl (fun K hKc => ?_) AllReadyH.nil
  go_simp
  refine (kcon 4 none 0 0 _).mono ?_
  rintro e w91 ⟨rfl, hn⟩
  replace hB7 := Lib.hid (hB7.out.up hn.out)
  replace hb := Lib.hid (Below.up hb.out hn.out)
  replace hq := Lib.hid (Below.up hq.out hn.out)
  refine hKc _ _ hq.out (fun _ => ?_)
  clear hKc K hn
  try simp only [List.setIfInBounds_toArray, List.set_cons_zero, List.set_cons_succ]
  refine takeH 57 206 (.agg #[.int .i64 1, .int .i64 3, .int .i64 4, .slice none 0 0]) rfl rfl (by kernel_rfl) (by kernel_rfl) (by kernel_rfl) (fun _ _ _ h => h) (by rfl) (by intro W hSw; clear hSw; go_simp) hq.out ?_
  try simp only [List.setIfInBounds_toArray, List.set_cons_zero, List.set_cons_succ]
  refine wpAnyH_ready (rs := [58]) (by kernel_rfl) (by simp) ?_
  refine AllReadyH.cons rfl (fun K hKc => ?_) AllReadyH.nil
  go_simp
  have hM7 : Hid (Bv (w91.alloc (.cells #[.int .i64 0, .int .i64 3, .int .i64 4, .slice none 0 0, .int .i64 1, .int .i64 3, .int .i64 4, .slice none 0 0] 70)) [(0, tc 4), (1, tc 4)] (some ⟨w91.heap.size, 0, none⟩) 2 2) := Lib.hid (Bv.two (x := dN 3 4) (y := dN 3 4) 0 1 (Liv.N _ 3 4) (Liv.N _ 3 4))
  replace hB7 := Lib.hid (hB7.out.up (bal w91 (.cells #[.int .i64 0, .int .i64 3, .int .i64 4, .slice none 0 0, .int .i64 1, .int .i64 3, .int .i64 4, .slice none 0 0] 70)))
  replace hb := Lib.hid (Below.up hb.out (bal w91 (.cells #[.int .i64 0, .int .i64 3, .int .i64 4, .slice none 0 0, .int .i64 1, .int .i64 3, .int .i64 4, .slice none 0 0] 70)))
  replace hq := Lib.hid (Below.up hq.out (bal w91 (.cells #[.int .i64 0, .int .i64 3, .int .i64 4, .slice none 0 0, .int .i64 1, .int .i64 3, .int .i64 4, .slice none 0 0] 70)))
  obtain ⟨w92, hw92⟩ : ∃ w92, w92 = w91.alloc (.cells #[.int .i64 0, .int .i64 3, .int .i64 4, .slice none 0 0, .int .i64 1, .int .i64 3, .int .i64 4, .slice none 0 0] 70) := ⟨_, rfl⟩
  rw [← hw92]
  rw [← hw92] at hB7
  rw [← hw92] at hM7
  rw [← hw92] at hb
  rw [← hw92] at hq
  clear hw92
  refine hKc _ _ hq.out (fun _ => ?_)
  clear hKc K
  try simp only [List.setIfInBounds_toArray, List.set_cons_zero, List.set_cons_succ]
  refine wpAnyH_ready (rs := [59]) (by kernel_rfl) (by simp) ?_
  refine AllReadyH.cons rfl (fun K hKc => ?_) AllReadyH.nil
  go_simp
  refine (kSameBinds hB7 hM7 rfl).mono ?_
  rintro e w93 ⟨rfl, hn⟩
  replace hB7 := Lib.hid (hB7.out.up hn.out)
  replace hM7 := Lib.hid (hM7.out.up hn.out)
  replace hb := Lib.hid (Below.up hb.out hn.out)
  replace hq := Lib.hid (Below.up hq.out hn.out)
  refine hKc _ _ hq.out (fun _ => ?_)
  clear hKc K hn
  try simp only [List.setIfInBounds_toArray, List.set_cons_zero, List.set_cons_succ]
  clear hB7 hM7
  refine takeH 60 209 (.bool true) rfl rfl (by kernel_rfl) (by kernel_rfl) (by kernel_rfl) (fun _ _ _ h => h) (by rfl) (by intro W hSw; clear hSw; go_simp) hq.out ?_
  try simp only [List.setIfInBounds_toArray, List.set_cons_zero, List.set_cons_succ]
  refine takeH 61 0 (.bool true) rfl rfl (by kernel_rfl) (by kernel_rfl) (by kernel_rfl) (fun _ _ _ h => h) (by rfl) (by intro W hSw; clear hSw; go_simp) hq.out ?_
  try simp only [List.setIfInBounds_toArray, List.set_cons_zero]
  refine wpAnyH_done (by kernel_rfl) ?_ _
  go_wp2_with fail
  go_ret
  exact ⟨rfl, hb.out⟩

end Go.Proofs.YthlegfegkopdkaaGreat

namespace Go.Proofs.YthlegfegkopdkaaGreat
open Go.RowKit Go.Shelf Go.Sort

abbrev gaveLong : Ending := .panicked [{ v := .iface 120 (.agg #[.int .i64 3]), recovered := false }]
/-- The call gives up with ErrLong; what lay in memory is left. -/
def Gone (w : World) (e : Ending) (w' : World) : Prop := e = gaveLong ∧ Below w.heap.size w w'
theorem Gone.mk {w w' : World} (h : Below w.heap.size w w') : Gone w gaveLong w' := ⟨rfl, h⟩
theorem Gone.up {w w0 : World} {e : Ending} {w' : World} (h : Gone w0 e w') (hb : Below w.heap.size w w0) : Gone w e w' := ⟨h.1, hb.trans (h.2.mono hb.size)⟩

set_option maxRecDepth 100000 in
set_option maxHeartbeats 1000000 in
theorem rebuild_gone (d : DT) (gf : Nat) (first cap : Array Value) (eg : ∀ args w, (callFunc gf args).run Tryz.prog w = .ok (.enter gf args) w)
    (F : Nat → Tm) (Inv : Nat → World → Prop) (n₀ : Nat) (w : World) (k0 : Nat) (hk0 : k0 < d.kids.length) (hlen : d.kids.length ≤ 1000000) (hn : n₀ ≤ w.heap.size) (hL : Lies n₀ w d)
    (hst : ∀ k W W', Inv k W → Below w.heap.size W W' → Inv k W')
    (hf : ∀ k (h : k < d.kids.length), k < k0 → ∀ W, Inv k W → Turns noR w W → Calls Tryz.prog gf (first.push (.agg #[.int .i64 d.kids[k].op, .int .i64 d.kids[k].n, .slice d.kids[k].a d.kids[k].l d.kids[k].c]) ++ cap) W (Makes noR W (F k) (Inv (k + 1))))
    (hg : ∀ W, Inv k0 W → Turns noR w W → Calls Tryz.prog gf (first.push (.agg #[.int .i64 d.kids[k0].op, .int .i64 d.kids[k0].n, .slice d.kids[k0].a d.kids[k0].l d.kids[k0].c]) ++ cap) W (Gone W))
    (h0 : Inv 0 w) :
    Calls Tryz.prog 121 #[.agg #[.int .i64 d.op, .int .i64 d.n, .slice d.a d.l d.c], .func (.func gf) first cap] w (Gone w) := by
  obtain ⟨hl, hlc, hc, hk⟩ := hL.open
  have hR : ∀ b, noR b → n₀ ≤ b ∧ b < w.heap.size := fun _ h => h.elim
  replace hf := Lib.hid hf
  replace hg := Lib.hid hg
  replace h0 := Lib.hid h0
  replace hst := Lib.hid hst
  replace hl := Lib.hid hl
  replace hR := Lib.hid hR
  obtain ⟨i0, hi, hz0, hz1, hz2⟩ := info_parts inf28
  go_enter Tryz.func121, Tryz.ntmps121
  go_wp2_with fail
  go_loopw [7, 16] (fun _ i wr => ∃ k : Nat, k ≤ k0 ∧ i = .int .i64 k ∧ RelK noR w d F Inv k wr) (fun _ i _ => d.l - (intOf i).toNat)
  case atStart =>
    refine ⟨0, by omega, rfl, [], _, _, _, rfl, ?_, ?_, World.ownsRow_nil _ _ _ _, by simp, hst.out _ _ _ h0.out ?_, (((Turns.refl noR w).alloc _).alloc _).alloc _⟩
    · exact heap_new' _ (by simp)
    · exact heap_old (heap_new' _ (by simp))
    · go_grown
  case round =>
    obtain ⟨k, hk1, rfl, hI⟩ := hrel
    have hkd : k < d.kids.length := by omega
    have hkl : k < d.l := by have := hl.out; omega
    obtain ⟨K, va, vl, vc, r1, r2, r3, r4, r5, r6, r7⟩ := hI
    obtain ⟨⟨p0, p1, p2⟩, p3, p4, p5⟩ := c3_cells r2
    rcases hk with hk | ⟨b, off, ha, hbn, hks⟩
    · rw [hk] at hkd; simp at hkd
    have hB7 := r7.below hn (fun b hb hr => by have := (hR.out b hr).1; omega)
    obtain ⟨g1, g2⟩ := LiesAll.get _ hks k hkd
    obtain ⟨c0, c1, c2⟩ := g1.below hB7 hbn
    have hz := r7.size
    have hzz := (Array.getElem?_eq_some_iff.1 r2).1
    have o1 : (k : Int) < (d.l : Int) := by omega
    obtain ⟨wo, hwo⟩ : ∃ wo, wo = wr.alloc (.cells #[.int .i64 d.kids[k].op, .int .i64 d.kids[k].n, .slice d.kids[k].a d.kids[k].l d.kids[k].c] 28) := ⟨_, rfl⟩
    have hBo : Below wr.heap.size wr wo := by rw [hwo]; go_grown
    have hIo : Inv k wo := hst.out _ _ _ r6 (hBo.mono hz)
    have hTo : Turns noR w wo := r7.then (hBo.mono hz)
    by_cases hlt : k < k0
    · have hC := hf.out k hkd hlt wo.drew (hst.out _ _ _ hIo ((Below.refl _ _).drew)) (hTo.then ((Below.refl _ _).drew))
      rw [hwo] at hC
      replace hC := Lib.hid hC
      clear hks g1 g2 hL hg
      replace r1 := Lib.hid r1
      replace r2 := Lib.hid r2
      replace r3 := Lib.hid r3
      replace r5 := Lib.hid r5
      rw [ha]
      have hb1 := Lib.hid r4
      clear r4
      go_wp2_with fail
      go_region_law (first
        | (go_simp; refine (hC.out).mono ?_; rintro e w1 ⟨a', l', c', rfl, ht', hI', hT'⟩; obtain ⟨n0, n1, n3, n2, n4, n5, n6, n7⟩ := made_at hR.out r2.out hb1.out hz hT')
        | (refine step_append_lies _ (by rfl) _ _ _ (by rfl) (w.heap.size + 1 + 1 + 1) 28 i0 _ 3 40 und26 hi hz0 hz1 hz2 rfl (by omega) (.slice va vl vc) k (flat K) (by rfl) (n2.out.alloc _)
            ⟨w1.heap.size, 0, none⟩ 1 1 [.int .i64 (F k).op, .int .i64 (F k).n, .slice a' l' c'] (by rfl) (by rfl) (World.news_of_block (cs := #[.int .i64 (F k).op, .int .i64 (F k).n, .slice a' l' c']) (t := 28) (fr := (0, 0)) (heap_new' _ rfl)) (by simp [Value.oneCell'])
            (by omega) (by unfold maxLen; omega) (by omega) (by simp; omega) (w1.heap.size + 1) (by simp) ?_; intro gg cap2 w2 hown1 hgrow hat hlt2; have m1 := grow_made hgrow n2.out (by omega) n0.out; have m2 := m1.1; have m3 := m1.2; clear m1))
      all_goals
        have hrel := Lib.hid (rel_step2 hst.out r1.out r2.out r3.out hb1.out r5.out hz n5.out n7 (by rw [hwo] at hTo; exact hTo) ht' hT' hI' hgrow hown1 hat)
        clear m2 m3 n0 n1 n2 n3 n4 n5 n6 n7
        go_wp2_with fail
        go_roundw
        case rel => exact ⟨k + 1, by omega, by go_num, hrel.out⟩
        case measure => simp [intOf]; omega
    · have hke : k = k0 := by omega
      subst hke
      have hk2 : wo.heap[w.heap.size + 1 + 1]? = some (.cells #[.int .i64 d.op, .int .i64 d.n, .slice va vl vc] 28 (0, 0)) := by rw [hwo]; exact heap_old r2
      have hk3 : wo.heap[wr.heap.size]? = some (.cells #[.int .i64 d.kids[k].op, .int .i64 d.kids[k].n, .slice d.kids[k].a d.kids[k].l d.kids[k].c] 28 (0, 0)) := by rw [hwo]; exact heap_new' _ rfl
      have hzo : wr.heap.size < wo.heap.size := by rw [hwo]; simp
      replace hk2 := Lib.hid hk2
      replace hk3 := Lib.hid hk3
      have hgo := Lib.hid (fun W (h : Below wo.heap.size wo W) => hg.out W (hst.out _ _ _ hIo (h.mono hTo.b0.size)) (hTo.then (h.mono hTo.b0.size)))
      have hend : Hid (∀ x w1, Below wo.heap.size wo x → Below x.heap.size x w1 → Below w.heap.size w w1) := Lib.hid (fun x w1 hx h => Below.up (Below.up hTo.b0 hx) h)
      clear hks g1 g2 hL hf hg hIo hTo hBo
      replace r1 := Lib.hid r1
      replace r2 := Lib.hid r2
      replace r3 := Lib.hid r3
      replace r5 := Lib.hid r5
      rw [ha]
      clear r4
      replace hwo := Lib.hid hwo
      go_upto_region 5 with fail
      rw [← hwo.out]
      refine region_named (S := fun W' => Below wo.heap.size wo W') (by kernel_rfl) (fun x hx => ?_)
      have hq : Hid (Below wo.heap.size wo x) := Lib.hid (by rw [hx]; exact (Below.refl _ _).drew)
      clear hx p0 p1 p2 p3 p4 p5 c0 c1 c2
      have hC := Lib.hid (hgo.out x hq.out)
      refine takeH 0 20 (.pointer (some ⟨w.heap.size + 1 + 1, 2, none⟩)) rfl rfl (by kernel_rfl) (by kernel_rfl) (by kernel_rfl) (fun _ _ _ h => h) (by rfl) (by intro W hSw; clear hSw; go_simp) hq.out ?_
      try simp only [List.setIfInBounds_toArray, List.set_cons_zero, List.set_cons_succ]
      refine takeH 1 21 (.slice va vl vc) rfl rfl (by kernel_rfl) (by kernel_rfl) (by kernel_rfl) (fun _ _ _ h => h) (by rfl) (by intro W hSw; obtain ⟨⟨j0, j1, j2⟩, -⟩ := c3_cells ((hSw.block _ (by omega)).trans hk2.out); clear hSw; go_simp) hq.out ?_
      try simp only [List.setIfInBounds_toArray, List.set_cons_zero, List.set_cons_succ]
      refine takeH 2 22 (.func (.func gf) first cap) rfl rfl (by kernel_rfl) (by kernel_rfl) (by kernel_rfl) (fun _ _ _ h => h) (by rfl) (by intro W hSw; clear hSw; go_simp) hq.out ?_
      try simp only [List.setIfInBounds_toArray, List.set_cons_zero, List.set_cons_succ]
      refine takeH 3 23 (.agg #[.int .i64 d.kids[k].op, .int .i64 d.kids[k].n, .slice d.kids[k].a d.kids[k].l d.kids[k].c]) rfl rfl (by kernel_rfl) (by kernel_rfl) (by kernel_rfl) (fun _ _ _ h => h) (by rfl) (by intro W hSw; obtain ⟨⟨j0, j1, j2⟩, -⟩ := c3_cells ((hSw.block _ (by omega)).trans hk3.out); clear hSw; go_simp) hq.out ?_
      try simp only [List.setIfInBounds_toArray, List.set_cons_zero, List.set_cons_succ]
      refine wpAnyH_ready (rs := [4]) (by kernel_rfl) (by simp) ?_
      refine AllReadyH.cons rfl (fun K hKc => ?_) AllReadyH.nil
      go_simp
      refine (hC.out).mono ?_
      rintro e w1 ⟨rfl, hb1⟩
      exact ⟨rfl, Gone.mk (hend.out x w1 hq.out hb1)⟩

end Go.Proofs.YthlegfegkopdkaaGreat

namespace Go.Proofs.YthlegfegkopdkaaGreat
open Go.RowKit Go.Shelf Go.Sort

/-- The call gives up with ErrLong; what lay in memory is left, but for some blocks. -/
def GoneR (R : Nat → Prop) (w : World) (e : Ending) (w' : World) : Prop := e = gaveLong ∧ Turns R w w'
theorem GoneR.mk {R : Nat → Prop} {w w' : World} (h : Turns R w w') : GoneR R w gaveLong w' := ⟨rfl, h⟩

set_option maxRecDepth 100000 in
set_option maxHeartbeats 1000000 in
theorem rebuild_goneR (d : DT) (gf : Nat) (first cap : Array Value) (eg : ∀ args w, (callFunc gf args).run Tryz.prog w = .ok (.enter gf args) w)
    (R : Nat → Prop) (F : Nat → Tm) (Inv : Nat → World → Prop) (n₀ : Nat) (w : World) (k0 : Nat) (hk0 : k0 < d.kids.length) (hlen : d.kids.length ≤ 1000000) (hn : n₀ ≤ w.heap.size) (hL : Lies n₀ w d) (hR : ∀ b, R b → n₀ ≤ b ∧ b < w.heap.size)
    (hst : ∀ k W W', Inv k W → Below w.heap.size W W' → Inv k W')
    (hf : ∀ k (h : k < d.kids.length), k < k0 → ∀ W, Inv k W → Turns R w W → Calls Tryz.prog gf (first.push (.agg #[.int .i64 d.kids[k].op, .int .i64 d.kids[k].n, .slice d.kids[k].a d.kids[k].l d.kids[k].c]) ++ cap) W (Makes R W (F k) (Inv (k + 1))))
    (hg : ∀ W, Inv k0 W → Turns R w W → Calls Tryz.prog gf (first.push (.agg #[.int .i64 d.kids[k0].op, .int .i64 d.kids[k0].n, .slice d.kids[k0].a d.kids[k0].l d.kids[k0].c]) ++ cap) W (GoneR R W))
    (h0 : Inv 0 w) :
    Calls Tryz.prog 121 #[.agg #[.int .i64 d.op, .int .i64 d.n, .slice d.a d.l d.c], .func (.func gf) first cap] w (GoneR R w) := by
  obtain ⟨hl, hlc, hc, hk⟩ := hL.open
  replace hf := Lib.hid hf
  replace hg := Lib.hid hg
  replace h0 := Lib.hid h0
  replace hst := Lib.hid hst
  replace hl := Lib.hid hl
  replace hR := Lib.hid hR
  obtain ⟨i0, hi, hz0, hz1, hz2⟩ := info_parts inf28
  go_enter Tryz.func121, Tryz.ntmps121
  go_wp2_with fail
  go_loopw [7, 16] (fun _ i wr => ∃ k : Nat, k ≤ k0 ∧ i = .int .i64 k ∧ RelK R w d F Inv k wr) (fun _ i _ => d.l - (intOf i).toNat)
  case atStart =>
    refine ⟨0, by omega, rfl, [], _, _, _, rfl, ?_, ?_, World.ownsRow_nil _ _ _ _, by simp, hst.out _ _ _ h0.out ?_, (((Turns.refl R w).alloc _).alloc _).alloc _⟩
    · exact heap_new' _ (by simp)
    · exact heap_old (heap_new' _ (by simp))
    · go_grown
  case round =>
    obtain ⟨k, hk1, rfl, hI⟩ := hrel
    have hkd : k < d.kids.length := by omega
    have hkl : k < d.l := by have := hl.out; omega
    obtain ⟨K, va, vl, vc, r1, r2, r3, r4, r5, r6, r7⟩ := hI
    obtain ⟨⟨p0, p1, p2⟩, p3, p4, p5⟩ := c3_cells r2
    rcases hk with hk | ⟨b, off, ha, hbn, hks⟩
    · rw [hk] at hkd; simp at hkd
    have hB7 := r7.below hn (fun b hb hr => by have := (hR.out b hr).1; omega)
    obtain ⟨g1, g2⟩ := LiesAll.get _ hks k hkd
    obtain ⟨c0, c1, c2⟩ := g1.below hB7 hbn
    have hz := r7.size
    have hzz := (Array.getElem?_eq_some_iff.1 r2).1
    have o1 : (k : Int) < (d.l : Int) := by omega
    obtain ⟨wo, hwo⟩ : ∃ wo, wo = wr.alloc (.cells #[.int .i64 d.kids[k].op, .int .i64 d.kids[k].n, .slice d.kids[k].a d.kids[k].l d.kids[k].c] 28) := ⟨_, rfl⟩
    have hBo : Below wr.heap.size wr wo := by rw [hwo]; go_grown
    have hIo : Inv k wo := hst.out _ _ _ r6 (hBo.mono hz)
    have hTo : Turns R w wo := r7.then (hBo.mono hz)
    by_cases hlt : k < k0
    · have hC := hf.out k hkd hlt wo.drew (hst.out _ _ _ hIo ((Below.refl _ _).drew)) (hTo.then ((Below.refl _ _).drew))
      rw [hwo] at hC
      replace hC := Lib.hid hC
      clear hks g1 g2 hL hg
      replace r1 := Lib.hid r1
      replace r2 := Lib.hid r2
      replace r3 := Lib.hid r3
      replace r5 := Lib.hid r5
      rw [ha]
      have hb1 := Lib.hid r4
      clear r4
      go_wp2_with fail
      go_region_law (first
        | (go_simp; refine (hC.out).mono ?_; rintro e w1 ⟨a', l', c', rfl, ht', hI', hT'⟩; obtain ⟨n0, n1, n3, n2, n4, n5, n6, n7⟩ := made_at hR.out r2.out hb1.out hz hT')
        | (refine step_append_lies _ (by rfl) _ _ _ (by rfl) (w.heap.size + 1 + 1 + 1) 28 i0 _ 3 40 und26 hi hz0 hz1 hz2 rfl (by omega) (.slice va vl vc) k (flat K) (by rfl) (n2.out.alloc _)
            ⟨w1.heap.size, 0, none⟩ 1 1 [.int .i64 (F k).op, .int .i64 (F k).n, .slice a' l' c'] (by rfl) (by rfl) (World.news_of_block (cs := #[.int .i64 (F k).op, .int .i64 (F k).n, .slice a' l' c']) (t := 28) (fr := (0, 0)) (heap_new' _ rfl)) (by simp [Value.oneCell'])
            (by omega) (by unfold maxLen; omega) (by omega) (by simp; omega) (w1.heap.size + 1) (by simp) ?_; intro gg cap2 w2 hown1 hgrow hat hlt2; have m1 := grow_made hgrow n2.out (by omega) n0.out; have m2 := m1.1; have m3 := m1.2; clear m1))
      all_goals
        have hrel := Lib.hid (rel_step2 hst.out r1.out r2.out r3.out hb1.out r5.out hz n5.out n7 (by rw [hwo] at hTo; exact hTo) ht' hT' hI' hgrow hown1 hat)
        clear m2 m3 n0 n1 n2 n3 n4 n5 n6 n7
        go_wp2_with fail
        go_roundw
        case rel => exact ⟨k + 1, by omega, by go_num, hrel.out⟩
        case measure => simp [intOf]; omega
    · have hke : k = k0 := by omega
      subst hke
      have hk2 : wo.heap[w.heap.size + 1 + 1]? = some (.cells #[.int .i64 d.op, .int .i64 d.n, .slice va vl vc] 28 (0, 0)) := by rw [hwo]; exact heap_old r2
      have hk3 : wo.heap[wr.heap.size]? = some (.cells #[.int .i64 d.kids[k].op, .int .i64 d.kids[k].n, .slice d.kids[k].a d.kids[k].l d.kids[k].c] 28 (0, 0)) := by rw [hwo]; exact heap_new' _ rfl
      have hzo : wr.heap.size < wo.heap.size := by rw [hwo]; simp
      replace hk2 := Lib.hid hk2
      replace hk3 := Lib.hid hk3
      have hgo := Lib.hid (fun W (h : Below wo.heap.size wo W) => hg.out W (hst.out _ _ _ hIo (h.mono hTo.size)) (hTo.then (h.mono hTo.size)))
      have hend : Hid (∀ x w1, Below wo.heap.size wo x → Turns R x w1 → Turns R w w1) := Lib.hid (fun x w1 hx h => (hTo.then (hx.mono hTo.size)).trans h)
      clear hks g1 g2 hL hf hg hIo hTo hBo
      replace r1 := Lib.hid r1
      replace r2 := Lib.hid r2
      replace r3 := Lib.hid r3
      replace r5 := Lib.hid r5
      rw [ha]
      clear r4
      replace hwo := Lib.hid hwo
      go_upto_region 5 with fail
      rw [← hwo.out]
      refine region_named (S := fun W' => Below wo.heap.size wo W') (by kernel_rfl) (fun x hx => ?_)
      have hq : Hid (Below wo.heap.size wo x) := Lib.hid (by rw [hx]; exact (Below.refl _ _).drew)
      clear hx p0 p1 p2 p3 p4 p5 c0 c1 c2
      have hC := Lib.hid (hgo.out x hq.out)
      refine takeH 0 20 (.pointer (some ⟨w.heap.size + 1 + 1, 2, none⟩)) rfl rfl (by kernel_rfl) (by kernel_rfl) (by kernel_rfl) (fun _ _ _ h => h) (by rfl) (by intro W hSw; clear hSw; go_simp) hq.out ?_
      try simp only [List.setIfInBounds_toArray, List.set_cons_zero, List.set_cons_succ]
      refine takeH 1 21 (.slice va vl vc) rfl rfl (by kernel_rfl) (by kernel_rfl) (by kernel_rfl) (fun _ _ _ h => h) (by rfl) (by intro W hSw; obtain ⟨⟨j0, j1, j2⟩, -⟩ := c3_cells ((hSw.block _ (by omega)).trans hk2.out); clear hSw; go_simp) hq.out ?_
      try simp only [List.setIfInBounds_toArray, List.set_cons_zero, List.set_cons_succ]
      refine takeH 2 22 (.func (.func gf) first cap) rfl rfl (by kernel_rfl) (by kernel_rfl) (by kernel_rfl) (fun _ _ _ h => h) (by rfl) (by intro W hSw; clear hSw; go_simp) hq.out ?_
      try simp only [List.setIfInBounds_toArray, List.set_cons_zero, List.set_cons_succ]
      refine takeH 3 23 (.agg #[.int .i64 d.kids[k].op, .int .i64 d.kids[k].n, .slice d.kids[k].a d.kids[k].l d.kids[k].c]) rfl rfl (by kernel_rfl) (by kernel_rfl) (by kernel_rfl) (fun _ _ _ h => h) (by rfl) (by intro W hSw; obtain ⟨⟨j0, j1, j2⟩, -⟩ := c3_cells ((hSw.block _ (by omega)).trans hk3.out); clear hSw; go_simp) hq.out ?_
      try simp only [List.setIfInBounds_toArray, List.set_cons_zero, List.set_cons_succ]
      refine wpAnyH_ready (rs := [4]) (by kernel_rfl) (by simp) ?_
      refine AllReadyH.cons rfl (fun K hKc => ?_) AllReadyH.nil
      go_simp
      refine (hC.out).mono ?_
      rintro e w1 ⟨rfl, hb1⟩
      exact ⟨rfl, GoneR.mk (hend.out x w1 hq.out hb1)⟩



theorem growK_none {f : Nat → DT → Option (Tm × Nat)} : ∀ {l : List DT} {c : Nat}, growK f c l = none → ∃ (k : Nat) (h : k < l.length) (cs : Nat → Nat) (ts : Nat → Tm), cs 0 = c ∧ f (cs k) l[k] = none ∧ ∀ j (hj : j < k), f (cs j) (l[j]'(by omega)) = some (ts j, cs (j + 1))
  | [], _, h => by simp [growK] at h
  | x :: xs, c, h => by
    rw [growK] at h
    cases h1 : f c x with
    | none => exact ⟨0, by simp, fun _ => c, fun _ => .mk 0 0 [], rfl, h1, fun j hj => by omega⟩
    | some q =>
      obtain ⟨t, c1⟩ := q
      rw [h1] at h
      simp only at h
      cases h2 : growK f c1 xs with
      | some q => rw [h2] at h; simp at h
      | none =>
        obtain ⟨k, hk, cs, ts, g1, g2, g3⟩ := growK_none h2
        refine ⟨k + 1, by simpa using hk, fun j => if j = 0 then c else cs (j - 1), fun j => if j = 0 then t else ts (j - 1), by simp, by simpa using g2, fun j hj => ?_⟩
        cases j with
        | zero => simp [h1, g1]
        | succ j =>
          have := g3 j (by omega)
          simpa using this
def GrowGone (n₀ : Nat) (F : Int → Option DT) (bm nb Bc Bg Bu N : Nat) : Prop := ∀ (dep c : Nat) (d : DT) (w : World), growF F N dep c d = none → 36 ≤ N + dep → dep ≤ 13 → ((Lies n₀ w d ∧ OkV d.tm) ∧ d.size < 1000000) → GCap n₀ F bm nb Bc Bg Bu w → Cnt Bc c w → c ≤ 40 →
  Calls Tryz.prog 135 #[.int .i64 (dep : Nat), dv d, .pointer (some ⟨Bc, 0, none⟩), .pointer (some ⟨Bg, 0, none⟩), .pointer (some ⟨Bu, 0, none⟩)] w (GoneR (fun b => b = Bc) w)

set_option maxRecDepth 100000 in
set_option maxHeartbeats 1000000 in
theorem grow_kid_gone (n₀ : Nat) (F : Int → Option DT) (bm nb Bc Bg Bu N : Nat) (ih : GrowGone n₀ F bm nb Bc Bg Bu N) (dep c Bd : Nat) (d : DT) (w : World) (hT : growF F N (dep + 1) c d = none) (hN : 36 ≤ N + (dep + 1)) (hdep : dep ≤ 12) (hd : (Lies n₀ w d ∧ OkV d.tm) ∧ d.size < 1000000) (hG : GCap n₀ F bm nb Bc Bg Bu w) (hc : Cnt Bc c w) (hD : Boxed w Bd 3 (.int .i64 (dep : Nat))) (hc40 : c ≤ 40) :
    Calls Tryz.prog 136 #[dv d, .pointer (some ⟨Bg, 0, none⟩), .pointer (some ⟨Bd, 0, none⟩)] w (GoneR (fun b => b = Bc) w) := by
  obtain ⟨W0, hW0⟩ : ∃ W0, W0 = (w.alloc (bx d)).alloc zer3 := ⟨_, rfl⟩
  have hB0 : Below w.heap.size w W0 := by rw [hW0]; go_grown
  have hz0 : W0.heap.size = w.heap.size + 1 + 1 := by rw [hW0]; simp
  have hT0 : Turns (fun b => b = Bc) w W0 := Turns.of0' hB0
  have hr0 : W0.heap[w.heap.size + 1]? = some zer3 := by rw [hW0]; exact heap_new' _ (by simp)
  have hn := hG.n3
  have hclt := hc.lt
  have hC := ih (dep + 1) c d W0 hT hN (by omega) (good_below hd (hB0.mono hn)) (hG.turns hT0) ((hB0.block _ hclt).trans hc) hc40
  have b1 := fun o o' => ((hG.g.alloc o).alloc o').cell
  have b2 := fun o o' => ((hD.alloc o).alloc o').cell
  rw [hW0] at hC
  replace hC := Lib.hid hC
  clear ih hT hd hG hc hD
  go_enter Tryz.func136, Tryz.ntmps136
  go_wp2_with fail
  refine (hC.out).mono ?_
  rintro e w1 ⟨rfl, hT1⟩
  rw [← hW0] at hT1
  exact ⟨rfl, GoneR.mk (hT0.trans hT1)⟩

theorem growF_count {F : Int → Option DT} {N dep c : Nat} {d : DT} {T : Tm} {c' : Nat} (h : growF F N dep c d = some (T, c')) : c' ≤ 40 := by
  have key : ∀ (N dep c : Nat) (d : DT) (T : Tm) (c' : Nat), growF F N dep c d = some (T, c') → c' ≤ 40 := by
    intro N
    induction N with
    | zero => intro dep c d T c' h; cases h
    | succ N ih =>
      intro dep c d T c' h
      rw [growF] at h
      split at h
      · cases h
      · rename_i hg
        cases hr : opF F N d with
        | none => rw [hr] at h; cases h
        | some r =>
          rw [hr] at h
          simp only at h
          cases hk : growK (growF F N (dep + 1)) (c + 1) r.kids with
          | none => rw [hk] at h; cases h
          | some q =>
            obtain ⟨ts, c2⟩ := q
            rw [hk] at h
            simp only [Option.some.injEq, Prod.mk.injEq] at h
            have : ∀ (l : List DT) (c c2 : Nat) (ts : List Tm), c ≤ 40 → growK (growF F N (dep + 1)) c l = some (ts, c2) → c2 ≤ 40 := by
              intro l
              induction l with
              | nil => intro c c2 ts hc h; simp [growK] at h; omega
              | cons x xs ihl =>
                intro c c2 ts hc h
                rw [growK] at h
                cases h1 : growF F N (dep + 1) c x with
                | none => rw [h1] at h; cases h
                | some q =>
                  obtain ⟨t, c1⟩ := q
                  rw [h1] at h
                  simp only at h
                  cases h2 : growK (growF F N (dep + 1)) c1 xs with
                  | none => rw [h2] at h; cases h
                  | some q =>
                    obtain ⟨us, c3⟩ := q
                    rw [h2] at h
                    simp only [Option.some.injEq, Prod.mk.injEq] at h
                    have := ihl c1 c3 us (ih _ _ _ _ _ h1) h2
                    omega
            have := this r.kids (c + 1) c2 ts (by omega) hk
            omega
  exact key N dep c d T c' h

set_option maxRecDepth 100000 in
set_option maxHeartbeats 1000000 in
theorem grow_long (n₀ : Nat) (F : Int → Option DT) (bm nb Bc Bg Bu : Nat) (dep c : Nat) (d : DT) (w : World) (hg : 40 < c + 1 ∨ 12 < dep) (_hG : GCap n₀ F bm nb Bc Bg Bu w) (hc : Cnt Bc c w) (hc40 : c ≤ 40) :
    Calls Tryz.prog 135 #[.int .i64 (dep : Nat), dv d, .pointer (some ⟨Bc, 0, none⟩), .pointer (some ⟨Bg, 0, none⟩), .pointer (some ⟨Bu, 0, none⟩)] w (GoneR (fun b => b = Bc) w) := by
  obtain ⟨W0, hW0⟩ : ∃ W0, W0 = gw0 w dep d := ⟨_, rfl⟩
  have hB0 : Below w.heap.size w W0 := by rw [hW0]; go_grown
  have hz0 : W0.heap.size = w.heap.size + 1 + 1 + 1 := by rw [hW0]; simp
  obtain ⟨W1, hW1⟩ : ∃ W1, W1 = W0.setCell ⟨Bc, 0, none⟩ (.int .i64 ((c : Int) + 1)) := ⟨_, rfl⟩
  have hc0 : Cnt Bc c W0 := (hB0.block _ hc.lt).trans hc
  have hcl := hc0.cell
  have hcf := hc0.frozen
  rw [hW0] at hcl hcf
  have hclt := hc.lt
  have hne : ¬ w.heap.size = Bc := by omega
  have hT1 : Turns (fun b => b = Bc) W0 W1 := by rw [hW1]; exact (Turns.refl (fun b => b = Bc) W0).setCell (p := ⟨Bc, 0, none⟩) (fun _ => rfl) _
  have hTw1 : Hid (Turns (fun b => b = Bc) w W1) := Lib.hid ((Turns.of0' hB0).trans hT1)
  have hW1' : W1 = (((w.alloc (.cells #[.int .i64 (dep : Nat)] 3)).alloc (bx d)).alloc zer3).setCell ⟨Bc, 0, none⟩ (.int .i64 ((c : Int) + 1)) := by rw [hW1, hW0]
  rw [hW1'] at hTw1
  clear hc hc0 hT1 hW1 hW1' hB0 hz0 hW0
  by_cases h40 : 40 < c + 1
  · have o2 : (40 : Int) < (c : Int) + 1 := by omega
    go_enter Tryz.func135, Tryz.ntmps135
    go_wp2_with fail
    exact ⟨rfl, GoneR.mk hTw1.out⟩
  · have o2 : ¬ (40 : Int) < (c : Int) + 1 := by omega
    have o3 : (12 : Int) < (dep : Int) := by omega
    go_enter Tryz.func135, Tryz.ntmps135
    go_wp2_with fail
    exact ⟨rfl, GoneR.mk hTw1.out⟩

set_option maxRecDepth 100000 in
set_option maxHeartbeats 1000000 in
theorem grow_step_gone (n₀ : Nat) (F : Int → Option DT) (bm nb Bc Bg Bu N : Nat) (hend : ∀ d : DT, OkV d.tm → ∀ M, 21 ≤ M → ∃ r, opF F M d = some r) (ihg : GrowGone n₀ F bm nb Bc Bg Bu N) : GrowGone n₀ F bm nb Bc Bg Bu (N + 1) := by
  intro dep c d w hT hN hdep hd hG hc hc40
  have ih := grow_any n₀ F bm nb Bc Bg Bu N
  rw [growF] at hT
  by_cases hg : 40 < c + 1 ∨ 12 < dep
  · exact grow_long n₀ F bm nb Bc Bg Bu dep c d w hg hG hc hc40
  rw [if_neg hg] at hT
  cases hr : opF F N d with
  | none =>
    obtain ⟨r, h⟩ := hend d hd.1.2 N (by omega)
    rw [h] at hr; cases hr
  | some r =>
  rw [hr] at hT
  simp only at hT
  have hmf : ∀ (fn : Fn) (first cap : Array Value) (w : World), (Instr.makeFunc fn first cap).run Tryz.prog w = .ok (.func fn first cap) w := fun _ _ _ _ => rfl
  obtain ⟨W0, hW0⟩ : ∃ W0, W0 = gw0 w dep d := ⟨_, rfl⟩
  have hB0 : Below w.heap.size w W0 := by rw [hW0]; go_grown
  have hz0 : W0.heap.size = w.heap.size + 1 + 1 + 1 := by rw [hW0]; simp
  obtain ⟨W1, hW1⟩ : ∃ W1, W1 = W0.setCell ⟨Bc, 0, none⟩ (.int .i64 ((c : Int) + 1)) := ⟨_, rfl⟩
  have hc0 : Cnt Bc c W0 := (hB0.block _ hc.lt).trans hc
  have hcl := hc0.cell
  have hcf := hc0.frozen
  rw [hW0] at hcl hcf
  have o1 : (c : Int) ≤ 40 := by omega
  have o2 : ¬ (40 : Int) < (c : Int) + 1 := by omega
  have o3 : ¬ (12 : Int) < (dep : Int) := by omega
  have hG0 := hG.turns (Turns.of0' hB0)
  have hclt := hc.lt
  have hne : ¬ w.heap.size = Bc := by omega
  replace hT := Lib.hid hT
  replace hend := Lib.hid hend
  replace hG0 := Lib.hid hG0
  replace hc0 := Lib.hid hc0
  clear hG hc
  go_enter Tryz.func135, Tryz.ntmps135
  go_upto_region 5 with fail
  have hW1' : W1 = (((w.alloc (.cells #[.int .i64 (dep : Nat)] 3)).alloc (bx d)).alloc zer3).setCell ⟨Bc, 0, none⟩ (.int .i64 ((c : Int) + 1)) := by rw [hW1, hW0]
  rw [← hW1']
  have hT1 : Turns (fun b => b = Bc) W0 W1 := by rw [hW1]; exact (Turns.refl (fun b => b = Bc) W0).setCell (p := ⟨Bc, 0, none⟩) (fun _ => rfl) _
  have hTw1 : Turns (fun b => b = Bc) w W1 := (Turns.of0' hB0).trans hT1
  have hz1 : W1.heap.size = W0.heap.size := by rw [hW1]; simp
  have hc1 : Cnt Bc (c + 1) W1 := by
    have h0 : Cnt Bc c W0 := hc0.out
    rw [hW1]
    exact h0.set _
  have hG1 := hG0.out.turns hT1
  have f0 : Boxed W1 w.heap.size 3 (.int .i64 (dep : Nat)) := (hT1.block _ (by omega) (by omega)).trans (by rw [hW0]; exact heap_old (heap_old (heap_new' _ rfl)))
  have f1 : W1.heap[w.heap.size + 1]? = some (bx d) := (hT1.block _ (by omega) (by omega)).trans (by rw [hW0]; exact heap_old (heap_new' _ (by simp)))
  have f2 : W1.heap[w.heap.size + 1 + 1]? = some zer3 := (hT1.block _ (by omega) (by omega)).trans (by rw [hW0]; exact heap_new' _ (by simp))
  have hO := operand_any F bm nb N d r W1 hr hG1.m (fun i x hx => (closedP n₀ W1).rng x (hG1.e i x hx)) ((closedP n₀ w).rng d hd)
  have hbn : Below n₀ w W1 := hTw1.below (by have := hG1.n1; omega) (fun j hj e => by have := hG1.n1; omega)
  have gr : (Lies n₀ W1 r ∧ OkV r.tm) ∧ r.size < 1000000 := opF_good (P := fun d => (Lies n₀ W1 d ∧ OkV d.tm) ∧ d.size < 1000000) hG1.e N d r hr (good_below hd hbn)
  have u1 := hG1.u.cell
  obtain ⟨⟨x0, x1, x2⟩, -⟩ := c3_cells f1
  replace hW0 := Lib.hid hW0
  replace hW1 := Lib.hid hW1
  replace hW1' := Lib.hid hW1'
  replace hO := Lib.hid hO
  replace hG1 := Lib.hid hG1
  replace gr := Lib.hid gr
  replace hc1 := Lib.hid hc1
  replace f0 := Lib.hid f0
  replace f1 := Lib.hid f1
  replace f2 := Lib.hid f2
  replace hTw1 := Lib.hid hTw1
  replace hT1 := Lib.hid hT1
  replace hz1 := Lib.hid hz1
  replace hr := Lib.hid hr
  clear hcl hcf
  have hRb : Hid (∀ (r' : DT) (W : World), r'.op = r.op → r'.n = r.n → r'.kids = r.kids → Below W1.heap.size W1 W → (Lies n₀ W1 r' ∧ r'.size < 1000000) → Calls Tryz.prog 121 #[dv r', .func (.func 136) #[] #[.pointer (some ⟨Bg, 0, none⟩), .pointer (some ⟨w.heap.size, 0, none⟩)]] W (GoneR (fun b => b = Bc) W)) := by
    intro r' W e1 e2 e3 hbW hr'
    have hT' := hT.out
    have hk : growK (growF F N (dep + 1)) (c + 1) r.kids = none := by
      cases hk : growK (growF F N (dep + 1)) (c + 1) r.kids with
      | none => rfl
      | some q => obtain ⟨ts, c2⟩ := q; rw [hk] at hT'; cases hT'
    obtain ⟨k0, hk0, cs, ts, g1, g2, g3⟩ := growK_none hk
    have hzW := hbW.size
    have hn1 := hG1.out.n1
    have hn3 := hG1.out.n3
    have hcw := hc1.out
    have hsz := dsize_eq r'
    have hlen : r'.kids.length ≤ dsizes r'.kids := by
      have h1 := length_le_sizes (tms r'.kids); rw [sizes_tms, tms_map, List.length_map] at h1; exact h1
    have hz := hz1.out
    have hk0' : k0 < r'.kids.length := by rw [e3]; exact hk0
    have hcount : ∀ j, j ≤ k0 → cs j ≤ 40 := by
      intro j
      induction j with
      | zero => intro _; rw [g1]; omega
      | succ j ihj => intro hj; exact growF_count (g3 j (by omega)) 
    refine rebuild_goneR r' 136 #[] #[.pointer (some ⟨Bg, 0, none⟩), .pointer (some ⟨w.heap.size, 0, none⟩)] (enters_of Tryz.func136 (by kernel_rfl) rfl) (fun b => b = Bc) ts (fun k W' => Cnt Bc (cs k) W') n₀ W k0 hk0' (by omega) (by omega) (hr'.1.below (hbW.mono (by omega))) (fun b e => by omega)
      (fun k X Y hX hB => (hB.block _ (by omega)).trans hX)
      (fun k hk' hlt X hI hTX => by
        have hkr : k < r.kids.length := by rw [← e3]; exact hk'
        have hTX1 : Turns (fun b => b = Bc) W1 X := (Turns.of0' hbW).trans hTX
        have hGX := hG1.out.turns hTX1
        have hbn1 : Below n₀ W1 X := hTX1.below (by omega) (fun j hj e => by omega)
        have hkk : r'.kids[k] = r.kids[k] := by simp only [e3]
        have hkp := (closedP n₀ W1).kids r gr.out _ (List.getElem_mem hkr)
        have := grow_kid n₀ F bm nb Bc Bg Bu N ih dep (cs k) w.heap.size r.kids[k] X _ _ (g3 k hlt) (by omega) (good_below hkp hbn1) hGX hI ((hTX1.block _ (by omega) (by omega)).trans f0.out)
        rw [hkk]
        exact this)
      (fun X hI hTX => by
        have hTX1 : Turns (fun b => b = Bc) W1 X := (Turns.of0' hbW).trans hTX
        have hGX := hG1.out.turns hTX1
        have hbn1 : Below n₀ W1 X := hTX1.below (by omega) (fun j hj e => by omega)
        have hkk : r'.kids[k0] = r.kids[k0] := by simp only [e3]
        have hkp := (closedP n₀ W1).kids r gr.out _ (List.getElem_mem hk0)
        have := grow_kid_gone n₀ F bm nb Bc Bg Bu N ihg dep (cs k0) w.heap.size r.kids[k0] X g2 (by omega) (by omega) (good_below hkp hbn1) hGX hI ((hTX1.block _ (by omega) (by omega)).trans f0.out) (hcount k0 (Nat.le_refl _))
        rw [hkk]
        exact this)
      (by rw [g1]; exact (hbW.block _ (by omega)).trans hcw)
  by_cases h1 : r.op = 1
  all_goals
    go_wp2_with fail
    refine (hO.out).mono ?_
    rintro e w2 ⟨rfl, hB2⟩
  · rw [opV_U h1]
    have hz2 := hB2.size
    have hkids : r.kids = [] := by have := gr.out.1.2.open.2.1; rw [DT.tm_op, DT.tm_kids] at this; exact List.map_eq_nil_iff.1 (this h1)
    have hU := fun W => uterm_any r.n W
    have hRv := fun (W : World) (hb : Below W1.heap.size W1 W) => hRb.out (vD r.n) W h1.symm rfl hkids.symm hb ⟨by simp only [vD, Lies]; exact ⟨rfl, by omega, by omega, .inl trivial⟩, by simp [vD, DT.size, dsizes]⟩
    replace hRv := Lib.hid hRv
    replace hRb := Lib.hid hRb
    replace hkids := Lib.hid hkids
    replace h1 := Lib.hid h1
    replace hU := Lib.hid hU
    replace hB2 := Lib.hid hB2
    go_wp2_with fail
    refine (hU.out _).mono ?_
    rintro e w3 ⟨rfl, hB3⟩
    have hB13 := hB2.out.trans (hB3.mono hz2)
    have hz3 := hB3.size
    have hRw := Lib.hid (hRv.out w3 hB13)
    have z3 := Lib.hid ((hB13.block (w.heap.size + 1 + 1) (by have := hz1.out; omega)).trans f2.out)
    have hTw3 : Hid (Turns (fun b => b = Bc) w w3) := hTw1.out.trans (Turns.of0' hB13)
    have hz1' := hz1.out
    replace hB3 := Lib.hid hB3
    replace hB13 := Lib.hid hB13
    go_wp2_with fail
    refine (hRw.out).mono ?_
    rintro e w4 ⟨rfl, hT4⟩
    exact ⟨rfl, GoneR.mk (hTw3.out.trans hT4)⟩
  · rw [opV_K h1]
    have hz2 := hB2.size
    have hU := fun W => kterm_any r W
    have hRv := fun (W : World) (hb : Below W1.heap.size W1 W) => hRb.out r W rfl rfl rfl hb ⟨gr.out.1.1, gr.out.2⟩
    replace hRv := Lib.hid hRv
    replace hRb := Lib.hid hRb
    replace h1 := Lib.hid h1
    replace hU := Lib.hid hU
    replace hB2 := Lib.hid hB2
    go_wp2_with fail
    refine (hU.out _).mono ?_
    rintro e w3 ⟨rfl, hB3⟩
    have hB13 := hB2.out.trans (hB3.mono hz2)
    have hz3 := hB3.size
    have hRw := Lib.hid (hRv.out w3 hB13)
    have z3 := Lib.hid ((hB13.block (w.heap.size + 1 + 1) (by have := hz1.out; omega)).trans f2.out)
    have hTw3 : Hid (Turns (fun b => b = Bc) w w3) := hTw1.out.trans (Turns.of0' hB13)
    have hz1' := hz1.out
    replace hB3 := Lib.hid hB3
    replace hB13 := Lib.hid hB13
    go_wp2_with fail
    refine (hRw.out).mono ?_
    rintro e w4 ⟨rfl, hT4⟩
    exact ⟨rfl, GoneR.mk (hTw3.out.trans hT4)⟩

theorem grow_gone (n₀ : Nat) (F : Int → Option DT) (bm nb Bc Bg Bu N : Nat) (hend : ∀ d : DT, OkV d.tm → ∀ M, 21 ≤ M → ∃ r, opF F M d = some r) : GrowGone n₀ F bm nb Bc Bg Bu N := by
  induction N with
  | zero => intro dep c d w h hN hdep; omega
  | succ N ih => exact grow_step_gone n₀ F bm nb Bc Bg Bu N hend ih

set_option maxRecDepth 100000 in
set_option maxHeartbeats 1000000 in
theorem full_gone (n₀ : Nat) (F : Int → Option DT) (bm nb N : Nat) (d : DT) (w : World) (hend : ∀ d : DT, OkV d.tm → ∀ M, 21 ≤ M → ∃ r, opF F M d = some r) (hN : 36 ≤ N) (hT : growF F N 1 0 d = none) (hm : TMap w bm nb F) (hE : GoodF n₀ w F) (hn : n₀ ≤ w.heap.size) (hd : (Lies n₀ w d ∧ OkV d.tm) ∧ d.size < 1000000) :
    Calls Tryz.prog 110 #[.map (some bm), dv d] w (Gone w) := by
  have hmf : ∀ (fn : Fn) (first cap : Array Value) (w : World), (Instr.makeFunc fn first cap).run Tryz.prog w = .ok (.func fn first cap) w := fun _ _ _ _ => rfl
  obtain ⟨W0, hW0⟩ : ∃ W0, W0 = ((((w.alloc (.cells #[.map (some bm)] 147)).alloc (bx d)).alloc zer3).alloc (.cells #[.int .i64 0] 3)).alloc (.cells #[.func (.func 135) #[] #[.pointer (some ⟨w.heap.size + 1 + 1 + 1, 0, none⟩), .pointer (some ⟨w.heap.size + 1 + 1 + 1 + 1, 0, none⟩), .pointer (some ⟨w.heap.size, 0, none⟩)]] 166) := ⟨_, rfl⟩
  have hB0 : Below w.heap.size w W0 := by rw [hW0]; go_grown
  have hz0 : W0.heap.size = w.heap.size + 1 + 1 + 1 + 1 + 1 := by rw [hW0]; simp
  have hlt := hm.lt
  have q0 : Boxed W0 w.heap.size 147 (.map (some bm)) := by rw [hW0]; exact heap_old (heap_old (heap_old (heap_old (heap_new' _ rfl))))
  have q2 : W0.heap[w.heap.size + 1 + 1]? = some zer3 := by rw [hW0]; exact heap_old (heap_old (heap_new' _ (by simp)))
  have q3 : Cnt (w.heap.size + 1 + 1 + 1) 0 W0 := by rw [hW0]; exact heap_old (heap_new' _ (by simp))
  have q4 : Boxed W0 (w.heap.size + 1 + 1 + 1 + 1) 166 (.func (.func 135) #[] #[.pointer (some ⟨w.heap.size + 1 + 1 + 1, 0, none⟩), .pointer (some ⟨w.heap.size + 1 + 1 + 1 + 1, 0, none⟩), .pointer (some ⟨w.heap.size, 0, none⟩)]) := by rw [hW0]; exact heap_new' _ (by simp)
  have hG : GCap n₀ F bm nb (w.heap.size + 1 + 1 + 1) (w.heap.size + 1 + 1 + 1 + 1) w.heap.size W0 := ⟨q4, q0, hm.same (hB0.block _ hlt), hE.below (hB0.mono hn), by omega, by omega, by omega⟩
  have hC := grow_gone n₀ F bm nb (w.heap.size + 1 + 1 + 1) (w.heap.size + 1 + 1 + 1 + 1) w.heap.size N hend 1 0 d W0 hT (by omega) (by omega) (good_below hd (hB0.mono hn)) hG q3 (by omega)
  rw [hW0] at hC
  replace hC := Lib.hid hC
  replace hW0 := Lib.hid hW0
  replace q2 := Lib.hid q2
  clear hG q0 q3 q4 hE hm hd hT
  go_enter Tryz.func110, Tryz.ntmps110
  go_wp2_with fail
  refine (hC.out).mono ?_
  rintro e w1 ⟨rfl, hT1⟩
  rw [← hW0.out] at hT1
  have hBw : Below w.heap.size W0 w1 := hT1.below (by omega) (fun j hj e => by omega)
  exact ⟨rfl, Gone.mk (hB0.trans hBw)⟩

end Go.Proofs.YthlegfegkopdkaaGreat

namespace Go.Proofs.YthlegfegkopdkaaGreat
open Go.RowKit Go.Shelf Go.Sort

/-- Only a panic is awaited; of the act, what the deferred call and the results read. -/
def OnlyP (p q : Value) (ds : List Deferred) (R : List PanicEntry → World → Prop) : Exit → Act → World → Prop
  | .panic c, a, w => (a.tmps.getD 4 undef = p ∧ a.tmps.getD 5 undef = q ∧ a.defers = ds) ∧ R c w
  | _, _, _ => False
theorem onlyP_put {p q : Value} {ds : List Deferred} {R : List PanicEntry → World → Prop} (i : Nat) (v : Value) (h4 : i ≠ 4) (h5 : i ≠ 5) (c : List PanicEntry) (a : Act) (w : World) (h : OnlyP p q ds R (.panic c) (a.put (some i) v) w) : OnlyP p q ds R (.panic c) a w := by
  obtain ⟨⟨h1, h2, h3⟩, h⟩ := h
  refine ⟨⟨?_, ?_, h3⟩, h⟩
  · rw [← h1]; simp [Act.put, Array.getD_eq_getD_getElem?, h4]
  · rw [← h2]; simp [Act.put, Array.getD_eq_getD_getElem?, h5]
theorem onlyP {P : Program} {c : Code} {Q : Exit → Act → World → Prop} {a : Act} {w : World} (R : List PanicEntry → World → Prop) (h : c.wp P (OnlyP (a.tmps.getD 4 undef) (a.tmps.getD 5 undef) a.defers R) a w)
    (hm : ∀ c a' w', (a'.tmps.getD 4 undef = a.tmps.getD 4 undef ∧ a'.tmps.getD 5 undef = a.tmps.getD 5 undef ∧ a'.defers = a.defers) → R c w' → Q (.panic c) a' w') : c.wp P Q a w :=
  wp_mono h (fun e a' w' h => by
    cases e with
    | panic c => exact hm c a' w' h.1 h.2
    | _ => exact h.elim)

set_option maxRecDepth 100000 in
set_option maxHeartbeats 1000000 in
theorem mostGeneral_gone (n₀ : Nat) (N : Nat) (a b : DT) (w : World) (F : Int → Option DT) (G : Nat → Tm) (hU : uniF N noB a b = some (some F)) (k0 : Nat) (hk0 : k0 < 20) (hf0 : F k0 ≠ none) (hg0 : growF F N 1 0 (vD k0) = none) (hN36 : 36 ≤ N) (hend : ∀ d : DT, OkV d.tm → ∀ M, 21 ≤ M → ∃ r, opF F M d = some r) (hG : ∀ v : Nat, v < k0 → F v ≠ none → ∃ c, growF F N 1 0 (vD v) = some (G v, c)) (hn : n₀ ≤ w.heap.size)
    (ha : (Lies n₀ w a ∧ OkV a.tm) ∧ a.size < 1000000) (hb : (Lies n₀ w b ∧ OkV b.tm) ∧ b.size < 1000000) :
    Calls Tryz.prog 76 #[dv a, dv b] w (MgEnd w [] 3) := by
  have hmf : ∀ (fn : Fn) (first cap : Array Value) (w : World), (Instr.makeFunc fn first cap).run Tryz.prog w = .ok (.func fn first cap) w := fun _ _ _ _ => rfl
  have hmm := @run_makeMap Tryz.prog
  obtain ⟨i0, hi, hz0, hz1, hz2⟩ := info_parts inf70
  obtain ⟨W0, hW0⟩ : ∃ W0, W0 = mg0 w a b := ⟨_, rfl⟩
  have hB0 : Below w.heap.size w W0 := by rw [hW0]; go_grown
  have hs0 : W0.heap.size = w.heap.size + 1 + 1 + 1 + 1 + 1 := by rw [hW0]; simp
  have ba : W0.heap[w.heap.size]? = some (bx a) := by rw [hW0]; exact heap_old (heap_old (heap_old (heap_old (heap_new' _ rfl))))
  have bb : W0.heap[w.heap.size + 1]? = some (bx b) := by rw [hW0]; exact heap_old (heap_old (heap_old (heap_new' _ (by simp))))
  have b2 : W0.heap[w.heap.size + 1 + 1]? = some sl0 := by rw [hW0]; exact heap_old (heap_old (heap_new' _ (by simp)))
  have b3 : W0.heap[w.heap.size + 1 + 1 + 1]? = some e0 := by rw [hW0]; exact heap_old (heap_new' _ (by simp))
  have b4 : TMap W0 (w.heap.size + 1 + 1 + 1 + 1) 0 noB := by
    have := TMap.made ((((w.alloc (bx a)).alloc (bx b)).alloc sl0).alloc e0)
    simp only [World.size_alloc] at this
    rw [hW0]; exact this
  have hC := uni_all N noB (some F) a b n₀ W0 (w.heap.size + 1 + 1 + 1 + 1) 0 hU b4 (fun i d h => by cases h) (by omega) (by omega) (good_below ha (hB0.mono hn)) (good_below hb (hB0.mono hn)) (by have := unm_le (fun k : Nat => (noB (k : Int)).isSome); unfold unb; omega)
  have hPF : Els (fun d => (Lies n₀ w d ∧ OkV d.tm) ∧ d.size < 1000000) F := uniF_els (closedP n₀ w) N noB F a b ha hb (fun i d h => by cases h) hU
  rw [hW0] at hC
  replace hC := Lib.hid hC
  replace hPF := Lib.hid hPF
  replace hG := Lib.hid hG
  replace hg0 := Lib.hid hg0
  replace hf0 := Lib.hid hf0
  replace hend := Lib.hid hend
  replace hU := Lib.hid hU
  replace ha := Lib.hid ha
  replace hb := Lib.hid hb
  replace ba := Lib.hid ba
  replace bb := Lib.hid bb
  replace b2 := Lib.hid b2
  replace b3 := Lib.hid b3
  replace b4 := Lib.hid b4
  replace hB0 := Lib.hid hB0
  go_enter_defers Tryz.func76, Tryz.ntmps76
  go_wp2_with fail
  refine (hC.out).mono ?_
  rintro e w1 ⟨hT1, rfl, nb, hm1, hnb⟩
  rw [← hW0] at hT1
  have hz1' := hT1.size
  replace hW0 := Lib.hid hW0
  have hnb' : nb ≤ 1000 := by have := unm_le (fun k : Nat => (noB (k : Int)).isSome); unfold unb at hnb; omega
  have hB1 : Below w.heap.size w w1 := hB0.out.trans (hT1.below (by omega) (fun j hj e => by omega))
  have k2 := (hT1.block _ (by omega) (by omega)).trans b2.out
  have k3 := (hT1.block _ (by omega) (by omega)).trans b3.out
  have hE1 : GoodF n₀ w1 F := fun i d hd => good_below (hPF.out i d hd) (hB1.mono hn)
  have hst : Hid (MgI w w1 F G 0 w1) := ⟨⟨none, 0, 0, k2, by unfold listG; exact BRow.nil _ _⟩, Turns.refl _ _⟩
  replace hB1 := Lib.hid hB1
  replace k2 := Lib.hid k2
  replace k3 := Lib.hid k3
  replace hE1 := Lib.hid hE1
  replace hm1 := Lib.hid hm1
  replace hnb := Lib.hid hnb
  replace hT1 := Lib.hid hT1
  go_wp2_with fail
  go_loopw [7, 8, 9, 16] (fun _ _ _ i wr => ∃ k : Nat, k ≤ k0 ∧ i = .int .i64 k ∧ Hid (MgI w w1 F G k wr)) (fun _ _ _ i _ => k0 + 1 - (intOf i).toNat)
  case atStart => exact ⟨0, by omega, rfl, hst⟩
  case round =>
    obtain ⟨k, hk, rfl, hI⟩ := hrel
    by_cases hlt : k < k0
    · have o1 : (k : Int) < 20 := by omega
      have hlt20 : k < 20 := by omega
      obtain ⟨⟨va, vl, vc, r1, r2⟩, r3⟩ := hI.out
      have hzr := r3.size
      have hm1lt := hm1.out.lt
      have hmr : TMap wr (w.heap.size + 1 + 1 + 1 + 1) nb F := hm1.out.same (r3.block _ (by omega) (by omega))
      cases hf : F (k : Nat) with
      | none =>
        have hl := hmr.look_none und147 (i := (k : Nat)) (by omega) hf
        have hn1 := Lib.hid (listG_none (G := G) hf)
        have hnx : Hid (∀ o, MgI w w1 F G (k + 1) (wr.alloc o)) := fun o => by
          refine ⟨⟨va, vl, vc, heap_old r1, ?_⟩, r3.alloc o⟩
          rw [hn1.out]
          obtain ⟨K, h1, h2, h3⟩ := r2
          exact ⟨K, h1, h2.alloc _, fun x hx => TmP.move (fun b hb' hlt => ⟨hb', Below.heap_alloc _ _ b hlt⟩) _ (h3 x hx)⟩
        clear hmr hf r1 r2 r3
        go_wp2_with fail
        go_roundw
        case rel => exact ⟨k + 1, by omega, by go_num, hnx.out _⟩
        case measure => simp [intOf]; omega
      | some d =>
        have hl := hmr.look_some und147 (i := (k : Nat)) (by omega) hf
        obtain ⟨cc, hcc⟩ := hG.out k hlt (by rw [hf]; simp)
        have hn1 := Lib.hid (listG_some (G := G) hf)
        obtain ⟨wo, hwo⟩ : ∃ wo, wo = wr.alloc (bx d) := ⟨_, rfl⟩
        have hBo : Below wr.heap.size wr wo := by rw [hwo]; exact (Below.refl _ _).alloc (Nat.le_refl _) _
        have hzo : wo.heap.size = wr.heap.size + 1 := by rw [hwo]; simp
        obtain ⟨K, h1, h2, h3⟩ := r2
        have hlen := listG_len F G k
        obtain ⟨X, hX⟩ : ∃ X, X = G k := ⟨_, rfl⟩
        rw [← hX] at hcc hn1
        have hV := Lib.hid (fun W => varTerm_is (k : Nat) W)
        have hFu := Lib.hid (show ∀ W, Below wo.heap.size wo W → Calls Tryz.prog 110 #[.map (some (w.heap.size + 1 + 1 + 1 + 1)), dv (vD (k : Nat))] W (Makes noR W X (fun _ => True)) from fun W hB => by
          have hzW := hB.size
          have hT : Turns (fun j => j = w.heap.size + 1 + 1) w1 W := (r3.trans (Turns.of0' hBo)).trans (Turns.of0' hB)
          have hBn : Below n₀ w1 W := hT.below (by omega) (fun j hj e => by omega)
          exact full_any n₀ F (w.heap.size + 1 + 1 + 1 + 1) nb N (vD (k : Nat)) W X cc hcc (hmr.same ((hB.block _ (by omega)).trans (hBo.block _ (by omega)))) (hE1.out.below hBn) (by omega) ((closedP n₀ W).var k hlt20))
        have hfa := Lib.hid (show ∀ W, Below wo.heap.size wo W → W.heap[w.heap.size + 1 + 1]? = some (.cells #[.slice va vl vc] 46 (0, 0)) ∧ W.ownsRow w1.heap.size 70 4 (.slice va vl vc) (listG F G k).length (flatB K) from fun W hB =>
          ⟨(hB.block _ (by omega)).trans ((hBo.block _ (by omega)).trans r1), own_stays h2 (fun g _ hg => (hB.block g (by omega)).trans (hBo.block g hg))⟩)
        have p0 : wo.drew.cell? ⟨w.heap.size + 1 + 1, 0, none⟩ = some (.slice va vl vc) := (show Boxed wo.drew _ 46 _ from (hfa.out wo.drew ((Below.refl _ _).drew)).1).cell
        have hnext : Hid (∀ w4 w5 a' l' c' g cap, Below wo.heap.size wo w4 → TmP (fun b => wo.heap.size ≤ b ∧ b < w4.heap.size) w4 X a' l' c' → (w4.alloc (.cells #[.int .i64 (k : Int), .int .i64 X.op, .int .i64 X.n, .slice a' l' c'] 70)).grownBy w5 (Value.slice va vl vc).ownBlock →
            w5.ownsRow w1.heap.size 70 4 (.slice (some ⟨g, 0, none⟩) ((listG F G k).length + 1) cap) ((listG F G k).length + 1) (flatB K ++ [.int .i64 (k : Int), .int .i64 X.op, .int .i64 X.n, .slice a' l' c']) → ((Value.slice va vl vc).ownBlock = some g ∨ g = (w4.alloc (.cells #[.int .i64 (k : Int), .int .i64 X.op, .int .i64 X.n, .slice a' l' c'] 70)).heap.size) →
            MgI w w1 F G (k + 1) (w5.setCell ⟨w.heap.size + 1 + 1, 0, none⟩ (.slice (some ⟨g, 0, none⟩) ((listG F G k).length + 1) cap))) := fun w4 w5 a' l' c' g cap hB4 ht hgrow hown hat => by
          have hz4 := hB4.size
          have hz5 := hgrow.size
          rw [World.size_alloc] at hz5
          have hb2 := (hfa.out w4 hB4).1
          have hlt2 := (Array.getElem?_eq_some_iff.1 hb2).1
          have hrow : ∀ q, (Value.slice va vl vc).ownBlock = some q → w1.heap.size ≤ q := fun q hq => (own_base h2 hq).1
          have hb5 : w5.heap[w.heap.size + 1 + 1]? = some (.cells #[.slice va vl vc] 46 (0, 0)) := (hgrow.block _ (by simp; omega) (fun e => by have := hrow _ e.symm; omega)).trans (heap_old hb2)
          have hst := BRow.step (v := (k : Int)) (W := wo) h1 h2 h3 (fun j _ hj => (Below.heap_alloc _ _ j (by omega)).trans ((hB4.block j (by omega)).trans (hBo.block j hj))) (by omega) (by omega) (by simp; omega)
            (TmP.move (fun b hb' hlt => ⟨⟨hb'.1, by have := hb'.2; simp; omega⟩, Below.heap_alloc _ _ b hlt⟩) _ ht) hgrow hown hat
          refine ⟨⟨some ⟨g, 0, none⟩, (listG F G k).length + 1, cap, ?_, ?_⟩, ?_⟩
          · exact (heap_setCell_same w5 _ 0 _ 46 _ hb5).trans rfl
          · rw [hn1.out]
            obtain ⟨K', g1, g2, g3⟩ := hst
            exact ⟨K', g1, own_stays g2 (fun j hj _ => heap_setCell_other _ _ _ _ (by simp; omega)), fun x hx => TmP.move (fun b hb' _ => ⟨hb', heap_setCell_other _ _ _ _ (by have := hb'.1; simp; omega)⟩) _ (g3 x hx)⟩
          · exact ((((r3.trans (Turns.of0' hBo)).trans (Turns.of0' hB4)).alloc _).grown hgrow (fun q hq hq2 => by have := hrow q hq; omega)).setCell (p := ⟨w.heap.size + 1 + 1, 0, none⟩) (fun _ => rfl) _
        have hg5 := Lib.hid (show ∀ w4 w5 o, Below wo.heap.size wo w4 → (w4.alloc o).grownBy w5 (Value.slice va vl vc).ownBlock → w5.cell? ⟨w.heap.size + 1 + 1, 0, none⟩ = some (.slice va vl vc) ∧ w5.frozen? ⟨w.heap.size + 1 + 1, 0, none⟩ = false from fun w4 w5 o hB4 hgrow => by
          have hb2 := (hfa.out w4 hB4).1
          have hlt2 := (Array.getElem?_eq_some_iff.1 hb2).1
          have hb5 : Boxed w5 (w.heap.size + 1 + 1) 46 (.slice va vl vc) := (hgrow.block _ (by simp; omega) (fun e => by have := (own_base h2 e.symm).1; omega)).trans (heap_old hb2)
          exact ⟨hb5.cell, hb5.frozen⟩)
        rw [hwo] at p0
        replace h1 := Lib.hid h1
        replace h2 := Lib.hid h2
        replace h3 := Lib.hid h3
        replace r3 := Lib.hid r3
        replace hcc := Lib.hid hcc
        replace hX := Lib.hid hX
        replace hBo := Lib.hid hBo
        clear hmr r1 hf hI
        go_upto_region 9 with fail
        refine onlyN ?_
        go_region_law (first
          | (go_simp; go_at_call 111; refine (hV.out _).mono ?_; rintro e w3 ⟨rfl, hB3'⟩; have hB3 : Hid (Below wo.heap.size wo w3) := (by rw [hwo]; exact ((Below.refl _ _).drew).trans (hB3'.mono (Nat.le_refl _))); have p3 := (show Boxed w3 _ 46 _ from (hfa.out w3 hB3.out).1).cell; replace hB3' := Lib.hid hB3')
          | (go_simp; go_at_call 110; refine (hFu.out w3 hB3.out).mono ?_; rintro e w4 ⟨a', l', c', rfl, hF4, -, hT4⟩; have hB4 : Hid (Below wo.heap.size wo w4) := hB3.out.trans (hT4.b0.mono hB3.out.size); have p4 := (show Boxed w4 _ 46 _ from (hfa.out w4 hB4.out).1).cell; have p4' := (fun o => alloc_cell (o := o) p4); have n2 := Lib.hid (hfa.out w4 hB4.out).2; have nz := hB4.out.size; replace hF4 := Lib.hid hF4; replace hT4 := Lib.hid hT4)
          | (refine step_append_lies _ (by rfl) _ _ _ (by rfl) w1.heap.size 70 i0 _ 4 48 und46 hi hz0 hz1 hz2 rfl (by omega) (.slice va vl vc) (listG F G k).length (flatB K) (by rfl) (n2.out.alloc _)
              ⟨w4.heap.size, 0, none⟩ 1 1 [.int .i64 (k : Int), .int .i64 X.op, .int .i64 X.n, .slice a' l' c'] (by rfl) (by rfl) (World.news_of_block (cs := #[.int .i64 (k : Int), .int .i64 X.op, .int .i64 X.n, .slice a' l' c']) (t := 70) (fr := (0, 0)) (heap_new' _ rfl)) (by simp [Value.oneCell'])
              (by omega) (by unfold maxLen; omega) (by omega) (by simp; omega) (w4.heap.size + 1) (by simp) ?_; intro gg cap2 w5 hown1 hgrow hat hlt2; have m1 := hg5.out w4 w5 _ hB4.out hgrow; have m2 := m1.1; have m3 := m1.2; clear m1))
        all_goals
          have hrel := Lib.hid (hnext.out w4 w5 a' l' c' gg cap2 hB4.out (TmP.move (fun b hb' _ => ⟨⟨by have := hB3.out.size; omega, hb'.2⟩, rfl⟩) _ hF4.out) hgrow hown1 (by simpa using hat))
          clear m2 m3 p3 p4 p4' hown1 hgrow hat hlt2
          refine onlyN_out ?_
          go_wp2_with fail
          go_roundw
          case rel => exact ⟨k + 1, by omega, by go_num, hrel.out⟩
          case measure => simp [intOf]; omega
    · have hke : k = k0 := by omega
      subst hke
      have o1 : (k : Int) < 20 := by omega
      obtain ⟨⟨va, vl, vc, r1, -⟩, r3⟩ := hI.out
      have hzr := r3.size
      have hm1lt := hm1.out.lt
      have hmr : TMap wr (w.heap.size + 1 + 1 + 1 + 1) nb F := hm1.out.same (r3.block _ (by omega) (by omega))
      obtain ⟨d, hf⟩ := Option.ne_none_iff_exists'.1 hf0.out
      have hl := hmr.look_some und147 (i := (k : Nat)) (by omega) hf
      obtain ⟨wo, hwo⟩ : ∃ wo, wo = wr.alloc (bx d) := ⟨_, rfl⟩
      have hBo : Below wr.heap.size wr wo := by rw [hwo]; exact (Below.refl _ _).alloc (Nat.le_refl _) _
      have hzo : wo.heap.size = wr.heap.size + 1 := by rw [hwo]; simp
      have hV := Lib.hid (fun W => varTerm_is (k : Nat) W)
      have hFu := Lib.hid (show ∀ W, Below wo.heap.size wo W → Calls Tryz.prog 110 #[.map (some (w.heap.size + 1 + 1 + 1 + 1)), dv (vD (k : Nat))] W (Gone W) from fun W hB => by
        have hzW := hB.size
        have hT : Turns (fun j => j = w.heap.size + 1 + 1) w1 W := (r3.trans (Turns.of0' hBo)).trans (Turns.of0' hB)
        have hBn : Below n₀ w1 W := hT.below (by omega) (fun j hj e => by omega)
        exact full_gone n₀ F (w.heap.size + 1 + 1 + 1 + 1) nb N (vD (k : Nat)) W hend.out hN36 hg0.out (hmr.same ((hB.block _ (by omega)).trans (hBo.block _ (by omega)))) (hE1.out.below hBn) (by omega) ((closedP n₀ W).var k (by omega)))
      have hk2 : wo.heap[w.heap.size + 1 + 1]? = some (.cells #[.slice va vl vc] 46 (0, 0)) := (hBo.block _ (by omega)).trans r1
      have hk3 : wo.heap[w.heap.size + 1 + 1 + 1]? = some e0 := (hBo.block _ (by omega)).trans ((r3.block _ (by omega) (by omega)).trans k3.out)
      have hbw : Below w.heap.size w wo := (hB1.out.trans (r3.below (by omega) (fun j hj e => by omega))).trans (hBo.mono (by omega))
      have hend2 : Hid (∀ w4, Below wo.heap.size wo w4 → Boxed w4 (w.heap.size + 1 + 1) 46 (.slice va vl vc) ∧ Boxed w4 (w.heap.size + 1 + 1 + 1) 31 (.int .i64 0) ∧ Below w.heap.size w w4 ∧ w.heap.size + 5 ≤ w4.heap.size) := fun w4 hB4 => ⟨(hB4.block _ (by omega)).trans hk2, (hB4.block _ (by omega)).trans hk3, hbw.trans (hB4.mono (by omega)), by have := hB4.size; omega⟩
      have hload : Hid (∀ w4, Below wo.heap.size wo w4 → w4.cell? ⟨w.heap.size + 1 + 1, 0, none⟩ = some (.slice va vl vc)) := fun w4 hB4 => (hend2.out w4 hB4).1.cell
      clear hmr r1 r3 hf0 hf hk2 hk3 hbw hI
      replace hBo := Lib.hid hBo
      go_upto_region 9 with fail
      rw [← hwo]
      replace hwo := Lib.hid hwo
      refine onlyP (fun c w4 => c = [{ v := .iface 120 (.agg #[.int .i64 3]), recovered := false }] ∧ Below wo.heap.size wo w4) ?_ ?_
      rotate_left
      · rintro c a' w4 ⟨h4, h5, h6⟩ ⟨rfl, hB4'⟩
        obtain ⟨k2', k3', hB4, hz4⟩ := hend2.out w4 hB4'
        clear hB4'
        have g4 : a'.tmps[4]?.getD undef = .pointer (some ⟨w.heap.size + 1 + 1, 0, none⟩) := by rw [← Array.getD_eq_getD_getElem?]; exact h4
        have g5 : a'.tmps[5]?.getD undef = .pointer (some ⟨w.heap.size + 1 + 1 + 1, 0, none⟩) := by rw [← Array.getD_eq_getD_getElem?]; exact h5
        have c2 := k2'.cell
        have c3 := k2'.frozen
        have c4 := k3'.cell
        have c5 := k3'.frozen
        show Leaves Tryz.prog Tryz.f76 a'.tmps (MgEnd w [] 3) a'.defers (.panicking _) w4
        rw [h6]
        simp only []
        refine leaves_cons (f := 108) (args := #[.pointer (some ⟨w.heap.size + 1 + 1, 0, none⟩), .pointer (some ⟨w.heap.size + 1 + 1 + 1, 0, none⟩)]) (by simp) (by simp [go_sem]) ?_
        refine (catch108_pan (w.heap.size + 1 + 1) (w.heap.size + 1 + 1 + 1) _ _ 3 [] _ c2 c3 c4 c5 (by omega) (by omega) (by omega)).mono ?_
        rintro e u' w5 ⟨rfl, rfl, hB5, hA⟩
        have q2 : w5.cell? ⟨w.heap.size + 1 + 1, 0, none⟩ = some (.slice none 0 0) := by
          have h : Boxed (((w4.alloc (.cells #[.int .i64 3] 120)).setCell ⟨w.heap.size + 1 + 1, 0, none⟩ (.slice none 0 0)).setCell ⟨w.heap.size + 1 + 1 + 1, 0, none⟩ (.int .i64 3)) (w.heap.size + 1 + 1) 46 (.slice none 0 0) := ((k2'.alloc _).set _).other (by simp) _
          have h' : Boxed w5 (w.heap.size + 1 + 1) 46 (.slice none 0 0) := by unfold Boxed; rw [hA]; exact h
          exact h'.cell
        have q3 : w5.cell? ⟨w.heap.size + 1 + 1 + 1, 0, none⟩ = some (.int .i64 3) := by
          have h : Boxed (((w4.alloc (.cells #[.int .i64 3] 120)).setCell ⟨w.heap.size + 1 + 1, 0, none⟩ (.slice none 0 0)).setCell ⟨w.heap.size + 1 + 1 + 1, 0, none⟩ (.int .i64 3)) (w.heap.size + 1 + 1 + 1) 31 (.int .i64 3) := ((k3'.alloc _).other (by simp) _).set _
          have h' : Boxed w5 (w.heap.size + 1 + 1 + 1) 31 (.int .i64 3) := by unfold Boxed; rw [hA]; exact h
          exact h'.cell
        have hfin : Below w.heap.size w w5 := hB4.trans (hB5.mono (by omega))
        clear hA hB5 k2' k3' c2 c3 c4 c5
        simp [Leaves, settle, results, Tryz.results76, go_sem, g4, g5, q2, q3]
        exact ⟨none, 0, 0, rfl, IsBinds.none _ _, hfin⟩
      refine region_named (S := fun W' => Below wo.heap.size wo W') (by kernel_rfl) (fun x hx => ?_)
      have hq : Hid (Below wo.heap.size wo x) := Lib.hid (by rw [hx]; exact (Below.refl _ _).drew)
      clear hx
      refine takeH 0 26 (.slice va vl vc) rfl rfl (by kernel_rfl) (by kernel_rfl) (by kernel_rfl) (onlyP_put 26 _ (by decide) (by decide)) (by rfl) (by intro W hSw; have j0 := hload.out W hSw; clear hSw; go_simp) hq.out ?_
      try simp only [List.setIfInBounds_toArray, List.set_cons_zero, List.set_cons_succ]
      refine takeH 1 27 (.int .i64 (k : Int)) rfl rfl (by kernel_rfl) (by kernel_rfl) (by kernel_rfl) (onlyP_put 27 _ (by decide) (by decide)) (by rfl) (by intro W hSw; clear hSw; go_simp) hq.out ?_
      try simp only [List.setIfInBounds_toArray, List.set_cons_zero, List.set_cons_succ]
      refine takeH 2 28 (.map (some (w.heap.size + 1 + 1 + 1 + 1))) rfl rfl (by kernel_rfl) (by kernel_rfl) (by kernel_rfl) (onlyP_put 28 _ (by decide) (by decide)) (by rfl) (by intro W hSw; clear hSw; go_simp) hq.out ?_
      try simp only [List.setIfInBounds_toArray, List.set_cons_zero, List.set_cons_succ]
      refine takeH 3 29 (.int .i64 (k : Int)) rfl rfl (by kernel_rfl) (by kernel_rfl) (by kernel_rfl) (onlyP_put 29 _ (by decide) (by decide)) (by rfl) (by intro W hSw; clear hSw; go_simp) hq.out ?_
      try simp only [List.setIfInBounds_toArray, List.set_cons_zero, List.set_cons_succ]
      refine wpAnyH_ready (rs := [4]) (by kernel_rfl) (by simp) ?_
      refine AllReadyH.cons rfl (fun K hKc => ?_) AllReadyH.nil
      go_simp
      go_at_call 111
      refine (hV.out x).mono ?_
      rintro e w3 ⟨rfl, hB3'⟩
      have hB3 : Hid (Below wo.heap.size wo w3) := Lib.hid (hq.out.trans (hB3'.mono hq.out.size))
      refine hKc _ _ hB3.out (fun _ => ?_)
      clear hKc K
      try simp only [List.setIfInBounds_toArray, List.set_cons_zero, List.set_cons_succ]
      refine wpAnyH_ready (rs := [5]) (by kernel_rfl) (by simp) ?_
      refine AllReadyH.cons rfl (fun K hKc => ?_) AllReadyH.nil
      go_simp
      go_at_call 110
      refine (hFu.out w3 hB3.out).mono ?_
      rintro e w4 ⟨rfl, hB4'⟩
      have hlast := hB3.out.trans (hB4'.mono hB3.out.size)
      exact ⟨⟨rfl, rfl, rfl⟩, rfl, by first | exact hlast | (rw [← hzo]; exact hlast)⟩

/-- The first bound variable whose 'full' gives up, and what 'full' makes of those before it. -/
theorem first_none (F : Int → Option DT) (N : Nat) (h : ∃ k : Nat, k < 20 ∧ F k ≠ none ∧ growF F N 1 0 (vD k) = none) : ∃ (k : Nat) (G : Nat → Tm), k < 20 ∧ F k ≠ none ∧ growF F N 1 0 (vD k) = none ∧ ∀ v : Nat, v < k → F v ≠ none → ∃ c, growF F N 1 0 (vD v) = some (G v, c) := by
  obtain ⟨k, h1, h2, h3⟩ := h
  induction k using Nat.strongRecOn with
  | ind k ih =>
    by_cases hx : ∃ j : Nat, j < k ∧ F j ≠ none ∧ growF F N 1 0 (vD j) = none
    · obtain ⟨j, hj, g1, g2⟩ := hx
      exact ih j hj (by omega) g1 g2
    · refine ⟨k, fun v => match growF F N 1 0 (vD v) with | some q => q.1 | none => .mk 0 0 [], h1, h2, h3, fun v hv hF => ?_⟩
      cases hg : growF F N 1 0 (vD v) with
      | none => exact absurd ⟨v, hv, hF, hg⟩ hx
      | some q => exact ⟨q.2, by simp only [hg]⟩
/-- What 'Unify' answers of formed values, where 'full' may give up. -/
def UniAll (a b : DT) (L : List (Int × Tm)) (err : Int) : Prop :=
  ∃ N, (uniF N noB a b = some none ∧ L = [] ∧ err = 5) ∨ (∃ F G, uniF N noB a b = some (some F) ∧ (∀ v : Nat, v < 20 → F v ≠ none → ∃ c, growF F N 1 0 (vD v) = some (G v, c)) ∧ L = listG F G 20 ∧ err = 0) ∨
    (36 ≤ N ∧ L = [] ∧ err = 3 ∧ ∃ F, uniF N noB a b = some (some F) ∧ (∀ d : DT, OkV d.tm → ∀ M, 21 ≤ M → ∃ r, opF F M d = some r) ∧ ∃ k : Nat, k < 20 ∧ F k ≠ none ∧ growF F N 1 0 (vD k) = none)

set_option maxRecDepth 100000 in
set_option maxHeartbeats 1000000 in
theorem Unify_all (s : Sg) (d x : DT) (n₀ : Nat) (w : World) (ac : Option Addr) (lc cc : Nat) (af : Option Addr) (lf cf : Nat) (L : List (Int × Tm)) (err : Int) (hs1 : 1 + d.size ≤ 1000000) (hs2 : 1 + x.size ≤ 1000000) (hn : n₀ ≤ w.heap.size) (hS : IsSg n₀ w s ac lc cc af lf cf) (hL1 : Lies n₀ w d) (hL2 : Lies n₀ w x)
    (hA : checkV s [d, x] = true → UniAll d x L err) (hN : checkV s [d, x] = false → L = [] ∧ err = 2) :
    Calls Tryz.prog 38 #[.agg #[.slice ac lc cc, .slice af lf cf], dv d, dv x] w (MgEnd w L err) := by
  obtain ⟨W0, hW0⟩ : ∃ W0, W0 = ((w.alloc (bs 24 ac lc cc af lf cf)).alloc (bx d)).alloc (bx x) := ⟨_, rfl⟩
  have hB0 : Below w.heap.size w W0 := by rw [hW0]; go_grown
  have hz0 : W0.heap.size = w.heap.size + 1 + 1 + 1 := by rw [hW0]; simp
  have hl1 := hL1.below (hB0.mono hn)
  have hl2 := hL2.below (hB0.mono hn)
  have hB1 : Below W0.heap.size W0 (W0.alloc (two d x)) := (Below.refl _ _).alloc (Nat.le_refl _) _
  have hC := checkValues_any s [d, x] (W0.heap.size + 1) (W0.alloc (two d x)) ac lc cc af lf cf (some ⟨W0.heap.size, 0, none⟩) 2 2 (by intro y hy; simp at hy; rcases hy with rfl | rfl <;> assumption) (by simp) ((hS.below ((hB0.trans (hB1.mono hB0.size)).mono hn)).wider (by omega)) (two_lies hl1 hl2 (by omega))
  have bd : W0.heap[w.heap.size + 1]? = some (bx d) := by rw [hW0]; exact heap_old (heap_new' _ (by simp))
  have bx' : W0.heap[w.heap.size + 1 + 1]? = some (bx x) := by rw [hW0]; exact heap_new' _ (by simp)
  rw [hz0] at hC
  cases hv : checkV s [d, x]
  · rw [hv] at hC
    obtain ⟨rfl, rfl⟩ := hN hv
    have he : errOf false = 2 := rfl
    rw [hW0] at hC
    replace hC := Lib.hid hC
    clear hl1 hl2 hL1 hL2 hS hv hA hN
    go_enter Tryz.func38, Tryz.ntmps38
    go_wp2_with fail
    refine (hC.out).mono ?_
    rintro e w1 ⟨rfl, hbe⟩
    replace hbe := Lib.hid hbe
    go_wp2_with fail
    go_ret2
    rw [hW0] at hB0 hB1
    exact ⟨none, 0, 0, rfl, IsBinds.none _ _, hB0.trans ((hB1.mono (by simp; omega)).trans (hbe.out.mono (by simp; omega)))⟩
  · have hcb : checkB s [d, x] = true := by unfold checkV at hv; rw [Bool.and_eq_true] at hv; exact hv.1
    have hO1 := OkV.checked hcb (by simp : d ∈ [d, x])
    have hO2 := OkV.checked hcb (by simp : x ∈ [d, x])
    rw [hv] at hC
    have he : errOf true = 0 := rfl
    have hM : ∀ W, Below W0.heap.size W0 W → Calls Tryz.prog 76 #[dv d, dv x] W (MgEnd W L err) := fun W hb => by
      have g1 : (Lies n₀ W d ∧ OkV d.tm) ∧ d.size < 1000000 := ⟨⟨hl1.below (hb.mono (by omega)), hO1⟩, by omega⟩
      have g2 : (Lies n₀ W x ∧ OkV x.tm) ∧ x.size < 1000000 := ⟨⟨hl2.below (hb.mono (by omega)), hO2⟩, by omega⟩
      have hnW : n₀ ≤ W.heap.size := by have := hb.size; omega
      obtain ⟨N, ⟨h1, rfl, rfl⟩ | ⟨F, G, h1, h2, rfl, rfl⟩ | ⟨h36, rfl, rfl, F, h1, he, hk⟩⟩ := hA hv
      · exact mostGeneral_none n₀ N d x W h1 hnW g1 g2
      · exact mostGeneral_any n₀ N d x W F G h1 h2 hnW g1 g2
      · obtain ⟨k, G, hk1, hk2, hk3, hk4⟩ := first_none F N hk
        exact mostGeneral_gone n₀ N d x W F G h1 k hk1 hk2 hk3 h36 he hk4 hnW g1 g2
    rw [hW0] at hC
    replace hC := Lib.hid hC
    replace hM := Lib.hid hM
    clear hl1 hl2 hL1 hL2 hS hv hO1 hO2 hcb hA hN
    go_enter Tryz.func38, Tryz.ntmps38
    go_wp2_with fail
    refine (hC.out).mono ?_
    rintro e w1 ⟨rfl, hbe⟩
    have hb1 : Below W0.heap.size W0 w1 := hB1.trans ((show Below (W0.alloc (two d x)).heap.size (W0.alloc (two d x)) w1 from by rw [hW0]; exact hbe).mono hB1.size)
    obtain ⟨⟨b0, b1, b2⟩, -⟩ := c3_cells ((hb1.block (w.heap.size + 1) (by omega)).trans bd)
    obtain ⟨⟨x0, x1, x2⟩, -⟩ := c3_cells ((hb1.block (w.heap.size + 1 + 1) (by omega)).trans bx')
    have hz1 := hb1.size
    have hMw := Lib.hid (hM.out w1 hb1)
    replace hb1 := Lib.hid hb1
    clear hbe
    go_wp2_with fail
    refine (hMw.out).mono ?_
    rintro e w2 ⟨va, vl, vc, rfl, hI, hB2⟩
    replace hI := Lib.hid hI
    replace hB2 := Lib.hid hB2
    clear b0 b1 b2 x0 x1 x2
    go_wp2_with fail
    go_ret2
    exact ⟨va, vl, vc, rfl, hI.out, hB0.trans ((hb1.out.mono (by omega)).trans (hB2.out.mono (by omega)))⟩


end Go.Proofs.YthlegfegkopdkaaGreat

namespace Go.Proofs.YthlegfegkopdkaaGreat
open Go.RowKit Go.Shelf Go.Sort

mutual
theorem vr_ok : ∀ (d : DT), OkV d.tm → VR d
  | .mk op n _ _ _ ks, h => by
    rw [DT.tm, OkV] at h
    rw [VR]
    refine ⟨fun e => ⟨?_, h.1 (.inl e)⟩, vrs_ok ks h.2.2.2⟩
    have := h.2.1 e
    cases ks with
    | nil => rfl
    | cons x xs => rw [tms] at this; cases this
theorem vrs_ok : ∀ (ds : List DT), OkVs (tms ds) → VRs ds
  | [], _ => by rw [VRs]; trivial
  | d :: ds, h => by rw [tms, OkVs] at h; rw [VRs]; exact ⟨vr_ok d h.1, vrs_ok ds h.2⟩
end

/-! What 'full' makes is formed -/
theorem growK_size {f : Nat → DT → Option (Tm × Nat)} {r : Int} (hf : ∀ c d T c', f c d = some (T, c') → c + T.size = c' ∧ deepOk T r = true) : ∀ {l : List DT} {c c' : Nat} {ts : List Tm}, growK f c l = some (ts, c') → c + sizes ts = c' ∧ deepOks ts r = true ∧ ts.length = l.length
  | [], c, c', ts, h => by simp [growK] at h; obtain ⟨rfl, rfl⟩ := h; simp [sizes, deepOks]
  | x :: xs, c, c', ts, h => by
    rw [growK] at h
    cases h1 : f c x with
    | none => rw [h1] at h; cases h
    | some q =>
      obtain ⟨t, c1⟩ := q
      rw [h1] at h
      simp only at h
      cases h2 : growK f c1 xs with
      | none => rw [h2] at h; cases h
      | some q =>
        obtain ⟨us, c2⟩ := q
        rw [h2] at h
        simp only [Option.some.injEq, Prod.mk.injEq] at h
        obtain ⟨rfl, rfl⟩ := h
        obtain ⟨g1, g2⟩ := hf _ _ _ _ h1
        obtain ⟨g3, g4, g5⟩ := growK_size hf h2
        refine ⟨by rw [sizes]; omega, by rw [deepOks, g2, g4]; rfl, by simp [g5]⟩
theorem growF_size {F : Int → Option DT} : ∀ (N dep c : Nat) (d : DT) (T : Tm) (c' : Nat), growF F N dep c d = some (T, c') → c + T.size = c' ∧ deepOk T (13 - dep) = true
  | 0, _, _, _, _, _, h => by cases h
  | N + 1, dep, c, d, T, c', h => by
    rw [growF] at h
    split at h
    · cases h
    · rename_i hg
      cases hr : opF F N d with
      | none => rw [hr] at h; cases h
      | some r =>
        rw [hr] at h
        simp only at h
        cases hk : growK (growF F N (dep + 1)) (c + 1) r.kids with
        | none => rw [hk] at h; cases h
        | some q =>
          obtain ⟨ts, c2⟩ := q
          rw [hk] at h
          simp only [Option.some.injEq, Prod.mk.injEq] at h
          obtain ⟨rfl, rfl⟩ := h
          obtain ⟨g1, g2, -⟩ := growK_size (fun c d T c' h => growF_size N (dep + 1) c d T c' h) hk
          have e : (13 : Int) - dep - 1 = 13 - ((dep + 1 : Nat) : Int) := by omega
          refine ⟨by rw [Tm.size]; omega, ?_⟩
          rw [deepOk, e, g2, Bool.and_true, decide_eq_true_eq]
          omega

/-- What goes from node to node. -/
structure Nodal (Q : Tm → Bool) (q : Int → Int → Nat → Bool) : Prop where
  eq : ∀ op n ks, Q (.mk op n ks) = true ↔ q op n ks.length = true ∧ ∀ k ∈ ks, Q k = true
theorem nodal_ok (s : Sg) : Nodal (nodesOk s) (nodeOk s) := ⟨fun op n ks => by
  rw [nodesOk, Bool.and_eq_true]
  refine and_congr Iff.rfl ?_
  induction ks with
  | nil => simp [nodesOks]
  | cons k ks ih => rw [nodesOks, Bool.and_eq_true, ih]; simp⟩
theorem nodal_val : Nodal isVal (fun op _ _ => (decide (1 ≤ op) && decide (op ≤ 3)) || op == 5) := ⟨fun op n ks => by
  rw [isVal, Bool.and_eq_true, and_comm]
  refine and_congr Iff.rfl ?_
  induction ks with
  | nil => simp [isVals]
  | cons k ks ih => rw [isVals, Bool.and_eq_true, ih]; simp⟩
theorem Nodal.kids {Q : Tm → Bool} {q : Int → Int → Nat → Bool} (hQ : Nodal Q q) (d : DT) (h : Q d.tm = true) : q d.op d.n d.kids.length = true ∧ ∀ k ∈ d.kids, Q k.tm = true := by
  cases d with
  | mk op n a l c ks =>
    rw [DT.tm, tms_map] at h
    obtain ⟨h1, h2⟩ := (hQ.eq _ _ _).1 h
    rw [List.length_map] at h1
    exact ⟨h1, fun k hk => h2 _ (List.mem_map.2 ⟨k, hk, rfl⟩)⟩
theorem growF_nodal {Q : Tm → Bool} {q : Int → Int → Nat → Bool} (hQ : Nodal Q q) {F : Int → Option DT} (hF : Els (fun d => Q d.tm = true) F) : ∀ (N dep c : Nat) (d : DT) (T : Tm) (c' : Nat), Q d.tm = true → growF F N dep c d = some (T, c') → Q T = true
  | 0, _, _, _, _, _, _, h => by cases h
  | N + 1, dep, c, d, T, c', hd, h => by
    rw [growF] at h
    split at h
    · cases h
    · cases hr : opF F N d with
      | none => rw [hr] at h; cases h
      | some r =>
        rw [hr] at h
        simp only at h
        have hv := opF_good hF N d r hr hd
        obtain ⟨q1, q2⟩ := hQ.kids r hv
        cases hk : growK (growF F N (dep + 1)) (c + 1) r.kids with
        | none => rw [hk] at h; cases h
        | some q' =>
          obtain ⟨ts, c2⟩ := q'
          rw [hk] at h
          simp only [Option.some.injEq, Prod.mk.injEq] at h
          obtain ⟨cs, g1, g2, g3, g4⟩ := growK_get hk
          rw [← h.1, hQ.eq, g3]
          refine ⟨q1, fun t ht => ?_⟩
          obtain ⟨k, hk', rfl⟩ := List.getElem_of_mem ht
          have := g4 k (by omega)
          have e : ts.getD k (.mk 0 0 []) = ts[k] := by simp [List.getD_eq_getElem?_getD, List.getElem?_eq_getElem hk']
          rw [e] at this
          exact growF_nodal hQ hF N (dep + 1) _ _ _ _ (q2 _ (List.getElem_mem (by omega))) this

/-- The bindings of unifying keep what goes from node to node, and holds of variables. -/
theorem uni_nodal {Q : Tm → Bool} {q : Int → Int → Nat → Bool} (hQ : Nodal Q q) (hV : ∀ n : Int, 0 ≤ n ∧ n < 20 → Q (.mk 1 n []) = true) {N : Nat} {F : Int → Option DT} {a b : DT} (h : uniF N noB a b = some (some F)) (ha : OkV a.tm ∧ Q a.tm = true) (hb : OkV b.tm ∧ Q b.tm = true) : Els (fun d => OkV d.tm ∧ Q d.tm = true) F := by
  refine uniF_els (P := fun d => OkV d.tm ∧ Q d.tm = true) ⟨fun d hd k hk => ⟨?_, (hQ.kids d hd.2).2 k hk⟩, fun n hn => ⟨?_, ?_⟩, fun d hd h1 => ?_⟩ N noB F a b ha hb (fun i d h => by cases h) h
  · have := hd.1.open.2.2.2
    rw [DT.tm_kids] at this
    obtain ⟨i, hi, rfl⟩ := List.getElem_of_mem hk
    have := OkVs_get _ i (by simpa using hi) this
    simpa using this
  · rw [vD_tm, OkV]; exact ⟨fun _ => by omega, fun _ => rfl, fun e => by omega, by simp [OkVs]⟩
  · rw [vD_tm]; exact hV _ (by omega)
  · have h5 := hd.1.open.1 (.inl (by rw [DT.tm_op]; exact h1))
    rw [DT.tm_n] at h5
    exact h5
/-- What 'full' makes of a variable is a formed value. -/
theorem full_formed (s : Sg) {N : Nat} {F : Int → Option DT} (hF : Els (fun d => nodesOk s d.tm = true) F) {v : Nat} (hv : v < 20) {T : Tm} {c : Nat} (h : growF F N 1 0 (vD v) = some (T, c)) : formedB s T = true := by
  obtain ⟨h1, h2⟩ := growF_size N 1 0 _ _ _ h
  have h3 := growF_count h
  rw [formedB_eq, Bool.and_eq_true, decide_eq_true_eq]
  refine ⟨(weigh_iff T 40 12 (by omega)).1.2 ⟨by omega, h2⟩, growF_nodal (nodal_ok s) hF N 1 0 _ _ _ ?_ h⟩
  rw [vD_tm, nodesOk, nodeOk_1]
  simp [nodesOks, inB]; omega
theorem full_value {N : Nat} {F : Int → Option DT} (hF : Els (fun d => isVal d.tm = true) F) {v : Nat} {T : Tm} {c : Nat} (h : growF F N 1 0 (vD v) = some (T, c)) : isVal T = true :=
  growF_nodal nodal_val hF N 1 0 _ _ _ (by rw [vD_tm]; rfl) h

/-! What is put into a value -/
def subF (F : Int → Option DT) : Int → Tm := fun v => match F v with | some d => d.tm | none => .mk 1 v []
theorem mapM_all {α β : Type} {f : α → Option β} {g : α → β} : ∀ {l : List α}, (∀ x ∈ l, f x = some (g x)) → l.mapM f = some (l.map g)
  | [], _ => by simp
  | x :: l, h => by
    rw [List.mapM_cons, h x (by simp), mapM_all (fun y hy => h y (by simp [hy]))]
    rfl
theorem putF_sb (F : Int → Option DT) (st : Nat → Bool) : ∀ (N : Nat) (t : Tm), t.size ≤ N → OkV t → isVal t = true → putF F st N (fun _ => false) t = some (sb (subF F) t)
  | 0, t, h, _, _ => by have := size_pos t; omega
  | N + 1, .mk op n ks, h, ho, hv => by
    rw [OkV] at ho
    obtain ⟨v1, v2⟩ := (nodal_val.eq _ _ _).1 hv
    by_cases h1 : op = 1
    · obtain ⟨n0, -⟩ := ho.1 (.inl h1)
      have hk := ho.2.1 h1
      subst h1 hk
      obtain ⟨m, rfl⟩ := Int.eq_ofNat_of_zero_le n0
      rw [putF_var _ _ _ _ _ _ _ rfl, sb, if_pos rfl]
      unfold findD subF
      simp only [Int.toNat_natCast]
      cases F (m : Int) <;> rfl
    · have h8 : op ≠ 8 := by rintro rfl; simp at v1
      rw [putF_node _ _ _ _ _ _ _ h1 h8, sb, if_neg h1, sbs_map]
      rw [mapM_all (g := sb (subF F)) (fun k hk => ?_)]
      · rfl
      · refine putF_sb F st N k ?_ ?_ (v2 k hk)
        · have := sizes_mem hk; rw [Tm.size] at h; omega
        · obtain ⟨i, hi, rfl⟩ := List.getElem_of_mem hk
          exact OkVs_get _ i hi ho.2.2.2

theorem sb_congr {σ τ : Int → Tm} (h : ∀ v : Int, 0 ≤ v ∧ v < 20 → σ v = τ v) : ∀ (N : Nat) (t : Tm), t.size ≤ N → OkV t → sb σ t = sb τ t
  | 0, t, hs, _ => by have := size_pos t; omega
  | N + 1, .mk op n ks, hs, ho => by
    rw [OkV] at ho
    rw [sb, sb]
    by_cases h1 : op = 1
    · rw [if_pos h1, if_pos h1, h n (ho.1 (.inl h1))]
    · rw [if_neg h1, if_neg h1, sbs_map, sbs_map]
      congr 1
      refine List.map_congr_left fun k hk => sb_congr h N k ?_ ?_
      · have := sizes_mem hk; rw [Tm.size] at hs; omega
      · obtain ⟨i, hi, rfl⟩ := List.getElem_of_mem hk
        exact OkVs_get _ i hi ho.2.2.2

/-! The bindings that a list says -/
theorem fold_none (v : Int) : ∀ (l : List PB) (f : Int → Option DT), (∀ x ∈ l, x.v ≠ v) → (l.foldl (fun f x => updI f x.v x.d) f) v = f v
  | [], f, _ => rfl
  | x :: l, f, h => by
    rw [List.foldl_cons, fold_none v l _ (fun y hy => h y (by simp [hy]))]
    unfold updI
    rw [if_neg (fun e => h x (by simp) e.symm)]
theorem fold_some : ∀ (l : List PB) (f : Int → Option DT) (x : PB), x ∈ l → l.Pairwise (fun a b => a.v ≠ b.v) → (l.foldl (fun f x => updI f x.v x.d) f) x.v = some x.d
  | y :: l, f, x, hx, hp => by
    rw [List.pairwise_cons] at hp
    rw [List.foldl_cons]
    rcases List.mem_cons.1 hx with rfl | hx
    · rw [fold_none x.v l _ (fun z hz e => hp.1 z hz e.symm)]
      unfold updI
      rw [if_pos rfl]
    · exact fold_some l _ x hx hp.2
theorem lfB_above {s : Sg} : ∀ {l : List (Int × Tm)} {b : Int}, lfB s b l = true → ∀ x ∈ l, b < x.1
  | [], _, _, x, hx => by cases hx
  | y :: l, b, h, x, hx => by
    rw [lfB] at h
    simp only [Bool.and_eq_true, decide_eq_true_eq] at h
    rcases List.mem_cons.1 hx with rfl | hx
    · exact h.1.1.1
    · have := lfB_above h.2 x hx
      omega
theorem lfB_pairs {s : Sg} : ∀ {bs : List PB} {b : Int}, lfB s b (pbs bs) = true → bs.Pairwise (fun a b => a.v ≠ b.v)
  | [], _, _ => List.Pairwise.nil
  | y :: l, b, h => by
    simp only [pbs, List.map_cons] at h
    rw [lfB] at h
    simp only [Bool.and_eq_true, decide_eq_true_eq] at h
    refine List.pairwise_cons.2 ⟨fun z hz e => ?_, lfB_pairs h.2⟩
    have := lfB_above h.2 (z.v, z.d.tm) (List.mem_map.2 ⟨z, hz, rfl⟩)
    omega
/-- What a list of bindings that is formed puts in for a variable. -/
theorem subF_some {s : Sg} {bs : List PB} {b : Int} (h : lfB s b (pbs bs) = true) {v : Int} {t : Tm} (hx : (v, t) ∈ pbs bs) : subF (bindK bs bs.length) v = t := by
  obtain ⟨x, hxm, e⟩ := List.mem_map.1 hx
  rw [Prod.mk.injEq] at e
  obtain ⟨e1, e2⟩ := e
  unfold subF bindK
  rw [List.take_length, ← e1, fold_some bs _ x hxm (lfB_pairs h)]
  exact e2
theorem subF_none {bs : List PB} {v : Int} (h : ∀ x ∈ pbs bs, x.1 ≠ v) : subF (bindK bs bs.length) v = .mk 1 v [] := by
  unfold subF bindK
  rw [List.take_length, fold_none v bs _ (fun x hx => h (x.v, x.d.tm) (List.mem_map.2 ⟨x, hx, rfl⟩))]
theorem listG_mem {F : Int → Option DT} {G : Nat → Tm} {k : Nat} {v : Int} {t : Tm} : (v, t) ∈ listG F G k ↔ ∃ u : Nat, u < k ∧ F u ≠ none ∧ v = u ∧ t = G u := by
  unfold listG
  rw [List.mem_filterMap]
  constructor
  · rintro ⟨u, hu, e⟩
    cases hF : F (u : Int) with
    | none => rw [hF] at e; cases e
    | some d =>
      rw [hF] at e
      simp only [Option.map_some, Option.some.injEq, Prod.mk.injEq] at e
      exact ⟨u, by simpa using hu, by rw [hF]; simp, e.1.symm, e.2.symm⟩
  · rintro ⟨u, hu, hF, rfl, rfl⟩
    obtain ⟨d, hd⟩ := Option.ne_none_iff_exists'.1 hF
    exact ⟨u, by simpa using hu, by rw [hd]; rfl⟩
/-- The list that 'mostGeneral' answers puts in the solution. -/
theorem subF_listG {s : Sg} {F : Int → Option DT} {θ : Int → Tm} (hg : Good F θ) {G : Nat → Tm} (hG : ∀ v : Nat, v < 20 → F v ≠ none → G v = θ v) {bs : List PB} {b : Int} (hl : lfB s b (pbs bs) = true) (e : pbs bs = listG F G 20) (v : Int) (hv : 0 ≤ v ∧ v < 20) : subF (bindK bs bs.length) v = θ v := by
  obtain ⟨u, rfl⟩ := Int.eq_ofNat_of_zero_le hv.1
  cases hF : F (u : Int) with
  | none =>
    rw [hg.free _ hF]
    refine subF_none fun x hx ex => ?_
    rw [e] at hx
    obtain ⟨w, -, h2, h3, -⟩ := listG_mem.1 (show (x.1, x.2) ∈ _ from hx)
    rw [← h3, ex] at h2
    exact h2 hF
  | some d =>
    have hn : F (u : Int) ≠ none := by rw [hF]; simp
    rw [← hG u (by omega) hn]
    exact subF_some hl (by rw [e]; exact listG_mem.2 ⟨u, by omega, hn, rfl, rfl⟩)
theorem lfB_filter {s : Sg} {f : Nat → Option (Int × Tm)} (hf : ∀ u x, u < 20 → f u = some x → x.1 = (u : Int) ∧ formedB s x.2 = true) : ∀ (n m : Nat) (b : Int), b < m → m + n ≤ 20 → lfB s b ((List.range' m n).filterMap f) = true
  | 0, m, b, _, _ => rfl
  | n + 1, m, b, hb, hm => by
    rw [List.range'_succ, List.filterMap_cons]
    cases h : f m with
    | none => exact lfB_filter hf n (m + 1) b (by omega) (by omega)
    | some x =>
      obtain ⟨h1, h2⟩ := hf m x (by omega) h
      simp only
      rw [lfB, lfB_filter hf n (m + 1) x.1 (by omega) (by omega), h2, h1]
      simp [inB]; omega
theorem listG_formed {s : Sg} {F : Int → Option DT} {G : Nat → Tm} (hG : ∀ v : Nat, v < 20 → F v ≠ none → formedB s (G v) = true) : lfB s (-1) (listG F G 20) = true := by
  unfold listG
  rw [List.range_eq_range']
  refine lfB_filter (fun u x hu h => ?_) 20 0 (-1) (by omega) (by omega)
  cases hF : F (u : Int) with
  | none => rw [hF] at h; cases h
  | some d =>
    rw [hF] at h
    simp only [Option.map_some, Option.some.injEq] at h
    subst h
    exact ⟨rfl, hG u hu (by rw [hF]; simp)⟩

end Go.Proofs.YthlegfegkopdkaaGreat

namespace Go.Proofs.YthlegfegkopdkaaGreat
open Go.RowKit Go.Shelf Go.Sort

theorem fvKs_val (op n : Int) (i : Nat) (h8 : op ≠ 8) : ∀ (ks : List Tm) (k : Nat) (acc : Nat → Bool), fvKs op n ks k acc i = true ↔ acc i = true ∨ ∃ t ∈ ks, fvT t i = true
  | [], k, acc => by rw [fvKs]; simp
  | t :: ts, k, acc => by
    rw [fvKs, fvKs_val op n i h8 ts, if_neg (fun h => h8 h.1)]
    simp [orSet, or_assoc]
/-- A variable that stands in a value which stays is left as it is. -/
theorem fv_fixed {θ : Int → Tm} {i : Nat} : ∀ (N : Nat) (t : Tm), t.size ≤ N → OkV t → isVal t = true → sb θ t = t → fvT t i = true → θ (i : Int) = .mk 1 (i : Int) []
  | 0, t, h, _, _, _, _ => by have := size_pos t; omega
  | N + 1, .mk op n ks, h, ho, hv, hs, hf => by
    rw [OkV] at ho
    obtain ⟨v1, v2⟩ := (nodal_val.eq _ _ _).1 hv
    by_cases h1 : op = 1
    · have hk := ho.2.1 h1
      subst h1 hk
      rw [sb, if_pos rfl] at hs
      rw [fvT, fvKs] at hf
      simp at hf
      rw [hf, hs]
    · have h8 : op ≠ 8 := by rintro rfl; simp at v1
      rw [fvT, fvKs_val op n i h8] at hf
      simp [h1] at hf
      obtain ⟨t, ht, hti⟩ := hf
      rw [sb, if_neg h1, sbs_map] at hs
      simp only [Tm.mk.injEq, true_and] at hs
      obtain ⟨j, hj, rfl⟩ := List.getElem_of_mem ht
      refine fv_fixed N ks[j] ?_ (OkVs_get _ j hj ho.2.2.2) (v2 _ ht) ?_ hti
      · have := sizes_mem ht; rw [Tm.size] at h; omega
      · have := List.getElem_of_eq hs (i := j) (by simpa using hj)
        simpa using this
theorem bound_moves {F : Int → Option DT} {θ : Int → Tm} (hg : Good F θ) : ∀ (m : Nat) (v w : Int), v.toNat ≤ m → 0 ≤ v → θ v = .mk 1 w [] → w ≤ v ∧ (w = v → F v = none) := by
  intro m
  induction m with
  | zero =>
    intro v w hv h0 h
    cases hF : F v with
    | none => rw [hg.free v hF] at h; simp at h; exact ⟨by omega, fun _ => rfl⟩
    | some b =>
      by_cases h1 : b.op = 1
      · have := hg.chain v b hF h1
        have := ((hg.vr v b hF).1.open.1 h1).2
        omega
      · rw [hg.sol v b hF, sb_node h1] at h
        simp at h
        exact absurd h.1 h1
  | succ m ih =>
    intro v w hv h0 h
    cases hF : F v with
    | none => rw [hg.free v hF] at h; simp at h; exact ⟨by omega, fun _ => rfl⟩
    | some b =>
      by_cases h1 : b.op = 1
      · have := hg.chain v b hF h1
        have := ((hg.vr v b hF).1.open.1 h1).2
        rw [hg.sol v b hF, sb_var h1] at h
        have := (ih b.n w (by omega) (by omega) h).1
        exact ⟨by omega, fun e => by omega⟩
      · rw [hg.sol v b hF, sb_node h1] at h
        simp at h
        exact absurd h.1 h1

/-- The answer of unifying that succeeds. -/
def UniOk (s : Sg) (a b : Tm) (L : List (Int × Tm)) : Prop :=
  lfB s (-1) L = true ∧ (∀ x ∈ L, isVal x.2 = true) ∧ ∃ θ : Int → Tm,
    (∀ bs : List PB, pbs bs = L → ∀ v : Int, 0 ≤ v ∧ v < 20 → subF (bindK bs bs.length) v = θ v) ∧ sb θ a = sb θ b ∧
    (∀ σ : Int → Tm, sb σ a = sb σ b → ∀ x ∈ L, σ x.1 = sb σ x.2) ∧ ∀ x ∈ L, ∀ y ∈ L, ∀ i : Nat, fvT x.2 i = true → y.1 ≠ (i : Int)

def gOf (F : Int → Option DT) (N : Nat) (v : Nat) : Tm := match growF F N 1 0 (vD (v : Int)) with | some q => q.1 | none => .mk 0 0 []
theorem unify_total (s : Sg) (a b : DT) (ha : nodesOk s a.tm = true ∧ isVal a.tm = true) (hb : nodesOk s b.tm = true ∧ isVal b.tm = true) :
    ∃ L err, UniAll a b L err ∧ ((err = 5 ∧ L = [] ∧ ∀ σ : Int → Tm, sb σ a.tm ≠ sb σ b.tm) ∨ (err = 3 ∧ L = []) ∨ (err = 0 ∧ UniOk s a.tm b.tm L)) := by
  have oa := okV_of _ ha.1
  have ob := okV_of _ hb.1
  have va := vr_ok a oa
  have vb := vr_ok b ob
  obtain ⟨N0, R, hR0⟩ := uni_ends (unb noB) _ noB (fun u => .mk 1 u []) a b good_none va vb (Nat.le_refl _) (Nat.le_refl _)
  obtain ⟨N, hN⟩ : ∃ N, N = N0 + 36 := ⟨_, rfl⟩
  have hR : uniF N noB a b = some R := uniF_mono N0 noB a b R hR0 N (by omega)
  cases R with
  | none => exact ⟨[], 5, ⟨N, .inl ⟨hR, rfl, rfl⟩⟩, .inl ⟨rfl, rfl, uni_never hR va vb⟩⟩
  | some F =>
    obtain ⟨hmeet, θ, hg, hθ⟩ := uni_meets hR va vb
    have hEn := uni_nodal (nodal_ok s) (fun n hn => by rw [nodesOk, nodeOk_1]; simp [nodesOks, inB]; omega) hR ⟨oa, ha.1⟩ ⟨ob, hb.1⟩
    have hEv := uni_nodal nodal_val (fun n hn => by rfl) hR ⟨oa, ha.2⟩ ⟨ob, hb.2⟩
    by_cases hx : ∃ k : Nat, k < 20 ∧ F k ≠ none ∧ growF F N 1 0 (vD k) = none
    · exact ⟨[], 3, ⟨N, .inr (.inr ⟨by omega, rfl, rfl, F, hR, fun d hd M hM => by obtain ⟨r, hr, -⟩ := opF_any hg d (vr_ok d hd) M hM; exact ⟨r, hr⟩, hx⟩)⟩, .inr (.inl ⟨rfl, rfl⟩)⟩
    · obtain ⟨G, hGd⟩ : ∃ G : Nat → Tm, G = gOf F N := ⟨_, rfl⟩
      have hG : ∀ v : Nat, v < 20 → F v ≠ none → ∃ c, growF F N 1 0 (vD v) = some (G v, c) := fun v hv hF => by
        rw [hGd]
        unfold gOf
        cases hq : growF F N 1 0 (vD v) with
        | none => exact absurd ⟨v, hv, hF, hq⟩ hx
        | some q => exact ⟨q.2, by simp only⟩
      have hGθ := listG_sb hg hG
      have hform : ∀ v : Nat, v < 20 → F v ≠ none → formedB s (G v) = true := fun v hv hF => by
        obtain ⟨c, hc⟩ := hG v hv hF
        exact full_formed s (fun i d hd => (hEn i d hd).2) hv hc
      have hval : ∀ v : Nat, v < 20 → F v ≠ none → isVal (G v) = true := fun v hv hF => by
        obtain ⟨c, hc⟩ := hG v hv hF
        exact full_value (fun i d hd => (hEv i d hd).2) hc
      have hl : lfB s (-1) (listG F G 20) = true := listG_formed hform
      refine ⟨listG F G 20, 0, ⟨N, .inr (.inl ⟨F, G, hR, hG, rfl, rfl⟩)⟩, .inr (.inr ⟨rfl, hl, ?_, θ, ?_, hθ, ?_, ?_⟩)⟩
      · rintro ⟨v, t⟩ hm
        obtain ⟨u, hu, hF, rfl, rfl⟩ := listG_mem.1 hm
        exact hval u hu hF
      · intro bs e v hv
        exact subF_listG hg hGθ (by rw [e]; exact hl) e v hv
      · rintro σ hσ ⟨v, t⟩ hm
        obtain ⟨u, hu, hF, rfl, rfl⟩ := listG_mem.1 hm
        have := special hg ((hmeet σ).1 hσ) (.mk 1 (u : Int) [])
        rw [sb, if_pos rfl, sb, if_pos rfl] at this
        rw [hGθ u hu hF, this]
      · rintro ⟨v, t⟩ hm ⟨y, t'⟩ hy i hi e
        obtain ⟨u, hu, hF, rfl, rfl⟩ := listG_mem.1 hm
        obtain ⟨z, hz, hFz, rfl, rfl⟩ := listG_mem.1 hy
        simp only at e hi
        have hi' : sb θ (G u) = G u := by
          have := idem hg (.mk 1 (u : Int) [])
          rw [sb, if_pos rfl] at this
          rw [hGθ u hu hF, this]
        have := fv_fixed _ (G u) (Nat.le_refl _) (OkV.formed (hform u hu hF)) (hval u hu hF) hi' hi
        rw [← e] at this
        exact hFz ((bound_moves hg _ (z : Int) (z : Int) (Nat.le_refl _) (by omega) this).2 rfl)

end Go.Proofs.YthlegfegkopdkaaGreat

namespace Go.Proofs.YthlegfegkopdkaaGreat
open Go.RowKit Go.Shelf Go.Sort

/-- The bindings grow, and whatever says what they say makes the pattern the value. -/
def MatchOk (f f' : Int → Option DT) (P : (Int → Tm) → Prop) : Prop := (∀ v d, f v = some d → f' v = some d) ∧ ∀ σ : Int → Tm, (∀ v d, f' v = some d → σ v = d.tm) → P σ
mutual
theorem match_sound : ∀ (a b : DT) (f : Int → Option DT), VR a → (matchD f a b).1 = true → MatchOk f (matchD f a b).2 (fun σ => sb σ a.tm = b.tm)
  | .mk op n x l c ks, b, f, hv, h => by
    rw [VR] at hv
    rw [matchD] at h ⊢
    by_cases h1 : op = 1
    · rw [if_pos h1] at h ⊢
      have hk := (hv.1 h1).1
      subst h1 hk
      cases hf : f n with
      | some old =>
        rw [hf] at h
        refine ⟨fun v d hd => hd, fun σ hσ => ?_⟩
        show sb σ (DT.tm _) = b.tm
        rw [DT.tm, sb, if_pos rfl, hσ n old hf]
        exact sameB_of _ _ h
      | none =>
        refine ⟨fun v d hd => ?_, fun σ hσ => ?_⟩
        · simp only [updI]
          rw [if_neg (fun e => by rw [e, hf] at hd; cases hd)]
          exact hd
        · show sb σ (DT.tm _) = b.tm
          rw [DT.tm, sb, if_pos rfl]
          exact hσ n b (by simp [updI])
    · rw [if_neg h1] at h ⊢
      by_cases h2 : op = b.op ∧ n = b.n
      · rw [if_pos h2] at h ⊢
        obtain ⟨g1, g2⟩ := matchs_sound ks b.kids f hv.2 h
        refine ⟨g1, fun σ hσ => ?_⟩
        have := g2 σ hσ
        simp only at this
        show sb σ (DT.tm _) = b.tm
        rw [DT.tm, sb, if_neg h1, this, h2.1, h2.2]
        cases b
        rw [DT.tm]
        rfl
      · rw [if_neg h2] at h; cases h
theorem matchs_sound : ∀ (ps bs : List DT) (f : Int → Option DT), VRs ps → (matchDs f ps bs).1 = true → MatchOk f (matchDs f ps bs).2 (fun σ => sbs σ (tms ps) = tms bs)
  | [], [], f, _, _ => by rw [matchDs]; exact ⟨fun _ _ h => h, fun σ _ => by simp only [tms, sbs]⟩
  | [], b :: bs, f, _, h => by simp [matchDs] at h
  | a :: ps, [], f, _, h => by simp [matchDs] at h
  | a :: ps, b :: bs, f, hv, h => by
    rw [VRs] at hv
    rw [matchDs] at h ⊢
    by_cases h1 : (matchD f a b).1 = true
    · rw [if_pos h1] at h ⊢
      obtain ⟨g1, g2⟩ := match_sound a b f hv.1 h1
      obtain ⟨g3, g4⟩ := matchs_sound ps bs _ hv.2 h
      refine ⟨fun v d hd => g3 v d (g1 v d hd), fun σ hσ => ?_⟩
      have e1 := g2 σ (fun v d hd => hσ v d (g3 v d hd))
      have e2 := g4 σ hσ
      simp only [tms, sbs]
      simp only at e1 e2
      rw [e1, e2]
    · rw [if_neg h1] at h; cases h
end

mutual
theorem deep_up : ∀ (t : Tm) (r r' : Int), r ≤ r' → deepOk t r = true → deepOk t r' = true
  | .mk _ _ ks, r, r', h, hd => by
    rw [deepOk, Bool.and_eq_true, decide_eq_true_eq] at hd ⊢
    exact ⟨by omega, deeps_up ks _ _ (by omega) hd.2⟩
theorem deeps_up : ∀ (ks : List Tm) (r r' : Int), r ≤ r' → deepOks ks r = true → deepOks ks r' = true
  | [], _, _, _, _ => rfl
  | t :: ts, r, r', h, hd => by
    rw [deepOks, Bool.and_eq_true] at hd ⊢
    exact ⟨deep_up t r r' h hd.1, deeps_up ts r r' h hd.2⟩
end
theorem deeps_mem {r : Int} {t : Tm} : ∀ {ks : List Tm}, t ∈ ks → deepOks ks r = true → deepOk t r = true
  | k :: ks, ht, h => by
    rw [deepOks, Bool.and_eq_true] at h
    rcases List.mem_cons.1 ht with rfl | ht
    · exact h.1
    · exact deeps_mem ht h.2
theorem formed_kid {s : Sg} {op n : Int} {ks : List Tm} (h : formedB s (.mk op n ks) = true) {k : Tm} (hk : k ∈ ks) : formedB s k = true := by
  rw [formedB_eq, Bool.and_eq_true, decide_eq_true_eq] at h ⊢
  obtain ⟨h1, h2⟩ := (weigh_iff _ 40 12 (by omega)).1.1 h.1
  rw [deepOk, Bool.and_eq_true] at h2
  rw [Tm.size] at h1
  have := sizes_mem hk
  exact ⟨(weigh_iff _ 40 12 (by omega)).1.2 ⟨by omega, deep_up _ _ _ (by omega) (deeps_mem hk h2.2)⟩, ((nodal_ok s).eq _ _ _).1 h.2 |>.2 k hk⟩
theorem formed_kid' {s : Sg} {d : DT} (h : formedB s d.tm = true) : ∀ k ∈ d.kids, formedB s k.tm = true := fun k hk => by
  cases d
  rw [DT.tm, tms_map] at h
  exact formed_kid h (List.mem_map.2 ⟨k, hk, rfl⟩)

theorem listB_mem {F : Int → Option DT} {k : Nat} {v : Int} {t : Tm} : (v, t) ∈ listB F k ↔ ∃ (u : Nat) (d : DT), u < k ∧ F u = some d ∧ v = u ∧ t = d.tm := by
  unfold listB
  rw [List.mem_filterMap]
  constructor
  · rintro ⟨u, hu, e⟩
    cases hF : F (u : Int) with
    | none => rw [hF] at e; cases e
    | some d =>
      rw [hF] at e
      simp only [Option.map_some, Option.some.injEq, Prod.mk.injEq] at e
      exact ⟨u, d, by simpa using hu, hF, e.1.symm, e.2.symm⟩
  · rintro ⟨u, d, hu, hF, rfl, rfl⟩
    exact ⟨u, by simpa using hu, by rw [hF]; rfl⟩
theorem listB_formed {s : Sg} {F : Int → Option DT} (hF : Els (fun d => formedB s d.tm = true) F) : lfB s (-1) (listB F 20) = true := by
  unfold listB
  rw [List.range_eq_range']
  refine lfB_filter (fun u x hu h => ?_) 20 0 (-1) (by omega) (by omega)
  cases hf : F (u : Int) with
  | none => rw [hf] at h; cases h
  | some d =>
    rw [hf] at h
    simp only [Option.map_some, Option.some.injEq] at h
    subst h
    exact ⟨rfl, hF _ d hf⟩
/-- The variables that a match binds are variables of the pattern. -/
theorem match_range : ∀ (N : Nat) (a b : DT) (f : Int → Option DT), a.size ≤ N → VR a → (∀ v d, f v = some d → 0 ≤ v ∧ v < 20) → ∀ v d, (matchD f a b).2 v = some d → 0 ≤ v ∧ v < 20
  | 0, a, _, _, h, _, _ => by have := dsize_eq a; omega
  | N + 1, .mk op n x l c ks, b, f, h, hv, hf => by
    rw [VR] at hv
    rw [matchD]
    by_cases h1 : op = 1
    · rw [if_pos h1]
      cases hn : f n with
      | some old => simpa using hf
      | none =>
        intro v d hd
        simp only [updI] at hd
        split at hd
        · rename_i e; rw [e]; exact (hv.1 h1).2
        · exact hf v d hd
    · rw [if_neg h1]
      by_cases h2 : op = b.op ∧ n = b.n
      · rw [if_pos h2]
        have key : ∀ (ps bs : List DT) (g : Int → Option DT), (∀ k ∈ ps, k ∈ ks) → (∀ v d, g v = some d → 0 ≤ v ∧ v < 20) → ∀ v d, (matchDs g ps bs).2 v = some d → 0 ≤ v ∧ v < 20 := by
          intro ps
          induction ps with
          | nil => intro bs g _ hg; cases bs <;> (rw [matchDs]; exact hg) <;> simp
          | cons k ps ih =>
            intro bs g hks hg
            cases bs with
            | nil => rw [matchDs]; exact hg; all_goals simp
            | cons y bs =>
              rw [matchDs]
              split
              · refine ih bs _ (fun k hk => hks k (by simp [hk])) (match_range N k y g ?_ (hv.2.mem k (hks k (by simp))) hg)
                obtain ⟨i, hi, e⟩ := List.getElem_of_mem (hks k (by simp))
                have := dsize_kid ks i hi
                rw [e] at this
                rw [DT.size] at h
                omega
              · exact hg
        exact key ks b.kids f (fun k hk => hk) hf
      · rw [if_neg h2]; exact hf

/-- A match that succeeds: its list is formed, and put into the pattern gives the value. -/
theorem match_total (s : Sg) (a b : DT) (ha : OkV a.tm) (hb : formedB s b.tm = true) (h : (matchD noB a b).1 = true) :
    lfB s (-1) (listB (matchD noB a b).2 20) = true ∧ ∀ bs : List PB, pbs bs = listB (matchD noB a b).2 20 → sb (subF (bindK bs bs.length)) a.tm = b.tm := by
  have hE : Els (fun d => formedB s d.tm = true) (matchD noB a b).2 := matchD_els (P := fun d => formedB s d.tm = true) (fun d hd k hk => formed_kid' hd k hk) a b noB hb (fun i d h => by cases h)
  have hl := listB_formed hE
  refine ⟨hl, fun bs e => ?_⟩
  obtain ⟨-, g⟩ := match_sound a b noB (vr_ok a ha) h
  refine g _ (fun v d hd => ?_)
  obtain ⟨r1, r2⟩ := match_range _ a b noB (Nat.le_refl _) (vr_ok a ha) (fun v d h => by cases h) v d hd
  obtain ⟨u, rfl⟩ := Int.eq_ofNat_of_zero_le r1
  exact subF_some (s := s) (b := -1) (by rw [e]; exact hl) (by rw [e]; exact listB_mem.2 ⟨u, d, by omega, hd, rfl, rfl⟩)

end Go.Proofs.YthlegfegkopdkaaGreat

namespace Go.Proofs.YthlegfegkopdkaaGreat
open Go.RowKit Go.Shelf

def strVals (l : List ByteArray) : List Value := l.map fun s => .string s
theorem inf9 : (Tryz.prog.info? 9).map (fun i => (i.zero, i.size, i.bytes)) = some (some (.string ByteArray.empty), 1, 16) := by kernel_rfl
theorem u85 : Tryz.prog.underlying 85 = some (.slice 9) := by kernel_rfl
theorem owns_form {w : World} {base : Nat} {v : Value} {l : List ByteArray} (h : w.ownsRow base 9 1 v l.length (strVals l)) :
    (v = .slice none 0 0 ∧ l = []) ∨ ∃ g cv, v = .slice (some ⟨g, 0, none⟩) l.length cv ∧ l.length ≤ cv ∧ cv ≤ maxLen ∧ base ≤ g ∧ g < w.heap.size ∧ ∀ j (hj : j < l.length), w.cell? ⟨g, j, none⟩ = some (.string l[j]) := by
  rcases h.2 with ⟨h1, h2⟩ | ⟨g, cap, cur, h1, h2, h3, h4, h5, h6, h7⟩
  · exact .inl ⟨h1, List.length_eq_zero_iff.1 h2⟩
  · refine .inr ⟨g, cap, h1, h4, h5, h2, (h.lt g (by rw [h1]; rfl)).2, fun j hj => ?_⟩
    subst h1
    rw [h.cellAt j (by omega)]
    simp [strVals, hj]

def curN (bf : List ByteArray) (ds : List Nm) (k : Nat) : List ByteArray := bf ++ (ds.take k).map (·.1)

theorem nmsR_eq : ∀ (a : List Nm) (seen : List ByteArray), nmsR a seen = (a.map (·.1)).reverse ++ seen
  | [], _ => rfl
  | y :: r, seen => by simp only [nmsR, nmsR_eq r (y.1 :: seen)]; simp
theorem OkNames_step {bf : List ByteArray} {ds : List Nm} {k : Nat} (h : k < ds.length) :
    OkNames bf.reverse (ds.take (k + 1)) ↔ OkNames bf.reverse (ds.take k) ∧ ds[k].1 ∉ curN bf ds k ∧ nameB ds[k].1 = true ∧ 0 ≤ ds[k].2 ∧ ds[k].2 ≤ 4 := by
  rw [List.take_succ_eq_append_getElem h, OkNames_append]
  simp only [OkNames, and_true]
  have e : nmsR (ds.take k) bf.reverse = (curN bf ds k).reverse := by rw [nmsR_eq, curN, List.reverse_append]
  rw [e, List.mem_reverse]
theorem OkNames_no {bf : List ByteArray} {ds : List Nm} {k : Nat} (h : k < ds.length) (hn : ¬ (ds[k].1 ∉ curN bf ds k ∧ nameB ds[k].1 = true ∧ 0 ≤ ds[k].2 ∧ ds[k].2 ≤ 4)) : ¬ OkNames bf.reverse ds := fun ho => by
  have h1 : OkNames bf.reverse (ds.take (k + 1)) := by
    rw [← List.take_append_drop (k + 1) ds] at ho
    exact ((OkNames_append _ _ _).1 ho).1
  exact hn ((OkNames_step h).1 h1).2
theorem owns_form' {w : World} {base : Nat} {v : Value} {l : List ByteArray} (h : w.ownsRow base 9 1 v l.length (strVals l)) :
    ∃ av cv, v = .slice av l.length cv ∧ l.length ≤ cv ∧ cv ≤ maxLen ∧ Hid ((l = [] ∧ av = none ∧ cv = 0) ∨ ∃ g, av = some ⟨g, 0, none⟩ ∧ base ≤ g ∧ g < w.heap.size ∧ ∀ j (hj : j < l.length), w.cell? ⟨g, j, none⟩ = some (.string l[j])) := by
  rcases owns_form h with ⟨rfl, rfl⟩ | ⟨g, cv, rfl, h1, h2, h3, h4, h5⟩
  · exact ⟨none, 0, rfl, by simp, by simp, Lib.hid (.inl ⟨rfl, rfl, rfl⟩)⟩
  · exact ⟨_, cv, rfl, h1, h2, Lib.hid (.inr ⟨g, rfl, h3, h4, h5⟩)⟩

theorem ownsRow_wider {w : World} {b b' : Nat} {e : TypeId} {size : Nat} {v : Value} {n : Nat} {xs : List Value} (hb : b' ≤ b) (h : w.ownsRow b e size v n xs) : w.ownsRow b' e size v n xs := by
  refine ⟨h.1, ?_⟩
  rcases h.2 with h2 | ⟨g, cap, cur, h2, h3, h4⟩
  · exact .inl h2
  · exact .inr ⟨g, cap, cur, h2, by omega, h4⟩
theorem app1_run (W : World) (base : Nat) (v : Value) (cur : List ByteArray) (hl : cur.length ≤ 200) (h : W.ownsRow base 9 1 v cur.length (strVals cur)) :
    ∃ v1 W1, (Builtin.append_ #[85, 85] 85 #[.slice none 0 0, v]).run Tryz.prog W = .ok v1 W1 ∧ W1.ownsRow W.heap.size 9 1 v1 cur.length (strVals cur) ∧ W.grownBy W1 none := by
  obtain ⟨i0, hi, hz0, hz1, hz2⟩ := info_parts inf9
  rcases h.2 with ⟨rfl, h2⟩ | ⟨g, cap, cs, rfl, h3⟩
  · obtain rfl := List.length_eq_zero_iff.1 h2
    exact ⟨.slice none 0 0, W, by simp [Builtin.append_, run_underlying u85, sizeOf, typeInfo, hi, Builtin.lenOf, Builtin.firstCells], W.ownsRow_nil _ _ _, World.grownBy.refl _ _⟩
  · obtain ⟨v1, W1, h4, h5, h6, h7⟩ := run_append_own (P := Tryz.prog) W W.heap.size 85 85 9 i0 (.string ByteArray.empty) 1 16 u85 hi hz0 hz1 hz2 rfl (by decide) (.slice none 0 0) 0 [] (W.ownsRow_nil _ _ _) ⟨g, 0, none⟩ cur.length cap (strVals cur) (by simp [strVals])
      (h.cells rfl) (fun u hu => by simp [strVals] at hu; obtain ⟨x, _, rfl⟩ := hu; rfl) (by unfold maxLen; omega) (by omega) (Nat.le_refl _)
    exact ⟨v1, W1, h4, by simpa using h5, h6⟩
theorem wp_builtin_append {P : Program} {o : Oper} {a : Act} {w : World} {K : Act → World → Prop} {Q : Exit → Act → World → Prop} {s x : Operand} {t : TypeId} {v y v1 : Value} {W1 : World}
    (ho : o.op = .call { callee := .builtin .append, args := #[s, x], argTypes := #[t, t] }) (hs : a.eval s = v) (hx : a.eval x = y) (hr : (Builtin.append_ #[t, t] o.type #[v, y]).run P w = .ok v1 W1) (h : K (a.put o.dst v1) W1) : o.wp P a w K Q := by
  unfold Oper.wp execOp
  simp only [ho, resolve, invoke, builtin, Sem.run_bind, Sem.run_pure, Result.andThen_ok, List.map_toArray, List.map_cons, List.map_nil, hs, hx, hr]
  exact h

set_option maxRecDepth 100000 in
set_option maxHeartbeats 1000000 in
theorem rnames_any (ds : List Nm) (n₀ : Nat) (w : World) (a : Option Addr) (l c : Nat) (hs : IsNames n₀ w ds a l c) (hn : n₀ ≤ w.heap.size) (bf : List ByteArray) (base : Nat) (v : Value)
    (hv : w.ownsRow base 9 1 v bf.length (strVals bf)) (hbase : base ≤ w.heap.size) (hlen : ds.length ≤ 100 ∧ bf.length ≤ 100) :
    Calls Tryz.prog 59 #[.slice a l c, v] w fun e w' => ((OkNames bf.reverse ds ∧ ∃ v', e = .returned (.tuple #[v', .bool true]) ∧ w'.ownsRow base 9 1 v' (bf ++ ds.map (·.1)).length (strVals (bf ++ ds.map (·.1)))) ∨ (¬ OkNames bf.reverse ds ∧ e = .returned (.tuple #[.slice none 0 0, .bool false]))) ∧ Below w.heap.size w w' := by
  obtain ⟨rfl, h1, h2, hk⟩ := hs
  have hnm := fun s W hs => name_any s W hs
  replace hnm := Lib.hid hnm
  have hin := fun n W => in_any n 0 4 W
  replace hin := Lib.hid hin
  replace hk := Lib.hid hk
  go_enter Tryz.func59, Tryz.ntmps59
  go_wp2_with fail
  go_loopw [1, 6, 7] (fun v i _ wi => ∃ k : Nat, k ≤ ds.length ∧ i = .int .i64 k ∧ Hid (OkNames bf.reverse (ds.take k)) ∧ Hid (wi.ownsRow base 9 1 v (curN bf ds k).length (strVals (curN bf ds k))) ∧ Hid (Below w.heap.size w wi)) (fun _ i _ _ => ds.length - (intOf i).toNat)
  case atStart => exact ⟨0, by omega, rfl, Lib.hid (by simp [OkNames]), Lib.hid (by simpa [curN] using hv), Lib.hid (Below.refl _ _)⟩
  case round =>
    obtain ⟨k, hkk, rfl, hok, hown, hb⟩ := hrel
    clear hv
    by_cases hp : k < ds.length
    · have o1 : (k : Int) < (ds.length : Int) := by omega
      have hcl : (curN bf ds k).length ≤ 200 := by simp [curN]; omega
      obtain ⟨b, off, ha, hbn, hks⟩ : ∃ b off, a = some ⟨b, off, none⟩ ∧ b < n₀ ∧ Hid (∀ (k : Nat) (h : k < ds.length), w.cell? ⟨b, off + k * 2, none⟩ = some (.string ds[k].1) ∧ w.cell? ⟨b, off + k * 2 + 1, none⟩ = some (.int .i64 ds[k].2) ∧ ds[k].1.size ≤ 140737488351232) := by
        rcases hk.out with hk | ⟨b, off, ha, hbn, hks⟩
        · rw [hk] at hp; simp at hp
        · exact ⟨b, off, ha, hbn, Lib.hid hks⟩
      subst ha
      clear hk
      have hx := Lib.hid (List.take_succ_eq_append_getElem hp)
      obtain ⟨nm, hnm'⟩ : ∃ x, x = ds[k].1 := ⟨_, rfl⟩
      obtain ⟨ar, har⟩ : ∃ x, x = ds[k].2 := ⟨_, rfl⟩
      have c0 := (hb.out.cell (p := ⟨b, off + k * 2, none⟩) (show b < w.heap.size by omega)).trans (hks.out k hp).1
      have c1 := (hb.out.cell (p := ⟨b, off + k * 2 + 1, none⟩) (show b < w.heap.size by omega)).trans (hks.out k hp).2.1
      rw [← hnm'] at c0
      rw [← har] at c1
      have hsz := (hks.out k hp).2.2
      rw [← hnm'] at hsz
      replace hnm' := Lib.hid hnm'
      replace har := Lib.hid har
      obtain ⟨cur, hcur⟩ : ∃ x, x = curN bf ds k := ⟨_, rfl⟩
      rw [← hcur] at hcl hown
      replace hcur := Lib.hid hcur
      obtain ⟨av, cv, rfl, hcv, hcm, hcs⟩ := owns_form' hown.out
      go_wp2_with fail
      go_loopw [7] (fun q wj => ∃ m : Nat, m ≤ cur.length ∧ q = .int .i64 m ∧ Hid (wj.ownsRow base 9 1 (.slice av cur.length cv) cur.length (strVals cur)) ∧ Hid (Below w.heap.size w wj) ∧ Hid (∀ j (hj : j < cur.length), j < m → cur[j] ≠ nm)) (fun q _ => cur.length - (intOf q).toNat)
      case atStart => exact ⟨0, by omega, rfl, hown, hb, Lib.hid (fun j hj h => by omega)⟩
      case round =>
        clear hcs hown hb c0 c1
        rename_i wr
        obtain ⟨m, hm, rfl, hown, hb, hall⟩ := hrel
        have c0 := (hb.out.cell (p := ⟨b, off + k * 2, none⟩) (show b < w.heap.size by omega)).trans (hks.out k hp).1
        have c1 := (hb.out.cell (p := ⟨b, off + k * 2 + 1, none⟩) (show b < w.heap.size by omega)).trans (hks.out k hp).2.1
        rw [← hnm'.out] at c0
        rw [← har.out] at c1
        obtain ⟨av', cv', hve, hcv', hcm', hcs⟩ := owns_form' hown.out
        simp only [Value.slice.injEq] at hve
        obtain ⟨rfl, -, rfl⟩ := hve
        clear hcv' hcm'
        by_cases hq : m < cur.length
        · have o2 : (m : Int) < (cur.length : Int) := by omega
          obtain ⟨g, rfl, hgb, hgl, hcells⟩ : ∃ g, av = some ⟨g, 0, none⟩ ∧ base ≤ g ∧ g < wr.heap.size ∧ Hid (∀ j (hj : j < cur.length), wr.cell? ⟨g, j, none⟩ = some (.string cur[j])) := by
            rcases hcs.out with ⟨h0, _⟩ | ⟨g, h3, h4, h5, h6⟩
            · rw [h0] at hq; simp at hq
            · exact ⟨g, h3, h4, h5, Lib.hid h6⟩
          have c2 := hcells.out m hq
          obtain ⟨cm, hcm'⟩ : ∃ x, x = cur[m] := ⟨_, rfl⟩
          rw [← hcm'] at c2
          replace hcm' := Lib.hid hcm'
          by_cases he : cm = nm
          · have hno : Hid (¬ OkNames bf.reverse ds) := Lib.hid (OkNames_no hp (fun h => h.1 (by rw [← hnm'.out, ← he, hcm'.out, ← hcur.out]; exact List.getElem_mem hq)))
            subst he
            clear hall hcells hcs
            go_wp2_with fail
            go_quiet (fail)
            go_wp2_with fail
            refine bodyPost_ret (v := .tuple #[.slice none 0 0, .bool false]) (by simp [results, Tryz.f59, go_sem]) rfl ⟨.inr ⟨hno.out, rfl⟩, hb.out.trans (below_drewN _ _ _)⟩
          · have hall' : Hid (∀ j (hj : j < cur.length), j < m + 1 → cur[j] ≠ nm) := Lib.hid (fun j hj h => by
              by_cases e : j = m
              · subst e; rw [← hcm'.out]; exact he
              · exact hall.out j hj (by omega))
            have e1 : (cm.toList == nm.toList) = false := by
              rw [beq_eq_false_iff_ne]; exact fun h => he (toList_inj h)
            replace he := Lib.hid he
            clear hall hcells hcs
            go_wp2_with fail
            go_quiet (fail)
            go_wp2_with fail
            go_roundw
            case rel => exact ⟨m + 1, by omega, by go_num, hown, Lib.hid (hb.out.trans (below_drewN _ _ _)), hall'⟩
            case measure => simp [intOf]; omega
        · have hnotin : Hid (nm ∉ cur) := Lib.hid (fun hmem => by
            obtain ⟨j, hj, e⟩ := List.getElem_of_mem hmem
            exact hall.out j hj (by omega) e)
          have o2 : ¬ (m : Int) < (cur.length : Int) := by omega
          clear hall
          cases hnb : nameB nm
          · have hno : Hid (¬ OkNames bf.reverse ds) := Lib.hid (OkNames_no hp (fun h => by rw [← hnm'.out, hnb] at h; simp at h))
            clear hcs
            go_wp2_with (go_at_call 90; refine (hnm.out nm _ hsz).mono ?_; rintro e w' ⟨rfl, rfl⟩)
            refine bodyPost_ret (v := .tuple #[.slice none 0 0, .bool false]) (by simp [results, Tryz.f59, go_sem]) rfl ⟨.inr ⟨hno.out, rfl⟩, hb.out⟩
          cases hib : inB ar 0 4
          · have hno : Hid (¬ OkNames bf.reverse ds) := Lib.hid (OkNames_no hp (fun h => by rw [← har.out] at h; simp [inB] at hib; omega))
            clear hcs
            go_wp2_with (first | (go_at_call 90; refine (hnm.out nm _ hsz).mono ?_; rintro e w' ⟨rfl, rfl⟩) | (go_at_call 58; refine (hin.out ar _).mono ?_; rintro e w' ⟨rfl, rfl⟩))
            refine bodyPost_ret (v := .tuple #[.slice none 0 0, .bool false]) (by simp [results, Tryz.f59, go_sem]) rfl ⟨.inr ⟨hno.out, rfl⟩, hb.out⟩
          have hstep : Hid (OkNames bf.reverse (ds.take (k + 1))) := Lib.hid ((OkNames_step hp).2 ⟨hok.out, by rw [← hnm'.out, ← hcur.out]; exact hnotin.out, by rw [← hnm'.out]; exact hnb, by rw [← har.out]; simp [inB] at hib; omega⟩)
          have hnext : Hid (curN bf ds (k + 1) = cur ++ [nm]) := Lib.hid (by rw [curN, hx.out, List.map_append, ← List.append_assoc, hcur.out, curN, hnm'.out]; rfl)
          obtain ⟨i0, hi, hz0, hz1, hz2⟩ := info_parts inf9
          clear hcs hnotin
          go_upto_region 11 with (first | (go_at_call 90; refine (hnm.out nm _ hsz).mono ?_; rintro e w' ⟨rfl, rfl⟩) | (go_at_call 58; refine (hin.out ar _).mono ?_; rintro e w' ⟨rfl, rfl⟩))
          have hcell : Hid (∀ W', Below w.heap.size wr W' → W'.cell? ⟨b, off + k * 2, none⟩ = some (.string nm)) := Lib.hid (fun W' h => (h.cell (p := ⟨b, off + k * 2, none⟩) (show b < w.heap.size by omega)).trans c0)
          clear c0 c1
          have hwr := hb.out.size
          refine region_named (S := fun W' => Below w.heap.size wr W') (by kernel_rfl) (fun W hW => ?_)
          have hq : Hid (Below w.heap.size wr W) := Lib.hid (by rw [hW]; exact (Below.refl _ _).drew)
          replace hown : Hid (W.ownsRow base 9 1 (.slice av cur.length cv) cur.length (strVals cur)) := Lib.hid (by rw [hW]; exact hown.out)
          have hWs : w.heap.size ≤ W.heap.size := by rw [hW]; exact hwr
          clear hW
          refine takeH 0 46 (.slice av cur.length cv) rfl rfl (by kernel_rfl) (by kernel_rfl) (by kernel_rfl) (fun _ _ _ h => h) (by rfl) (by intro W hSw; clear hSw; go_simp) hq.out ?_
          try simp only [List.setIfInBounds_toArray, List.set_cons_zero, List.set_cons_succ]
          refine takeH 2 48 (.slice (some ⟨b, off, none⟩) ds.length c) rfl rfl (by kernel_rfl) (by kernel_rfl) (by kernel_rfl) (fun _ _ _ h => h) (by rfl) (by intro W hSw; clear hSw; go_simp) hq.out ?_
          try simp only [List.setIfInBounds_toArray, List.set_cons_zero, List.set_cons_succ]
          refine takeH 3 49 (.int .i64 k) rfl rfl (by kernel_rfl) (by kernel_rfl) (by kernel_rfl) (fun _ _ _ h => h) (by rfl) (by intro W hSw; clear hSw; go_simp) hq.out ?_
          try simp only [List.setIfInBounds_toArray, List.set_cons_zero, List.set_cons_succ]
          refine takeH 4 50 (.pointer (some ⟨b, off + k * 2, none⟩)) rfl rfl (by kernel_rfl) (by kernel_rfl) (by kernel_rfl) (fun _ _ _ h => h) (by rfl) (by intro W hSw; clear hSw; go_simp) hq.out ?_
          try simp only [List.setIfInBounds_toArray, List.set_cons_zero, List.set_cons_succ]
          refine takeH 5 51 (.pointer (some ⟨b, off + k * 2, none⟩)) rfl rfl (by kernel_rfl) (by kernel_rfl) (by kernel_rfl) (fun _ _ _ h => h) (by rfl) (by intro W hSw; clear hSw; go_simp) hq.out ?_
          try simp only [List.setIfInBounds_toArray, List.set_cons_zero, List.set_cons_succ]
          refine takeH 6 52 (.string nm) rfl rfl (by kernel_rfl) (by kernel_rfl) (by kernel_rfl) (fun _ _ _ h => h) (by rfl) (by intro W hSw; have j := hcell.out W hSw; clear hSw; go_simp) hq.out ?_
          try simp only [List.setIfInBounds_toArray, List.set_cons_zero, List.set_cons_succ]
          refine wpAnyH_ready (rs := [1, 7]) (by kernel_rfl) (by simp) ?_
          refine AllReadyH.cons rfl (fun K hKc => ?_) (AllReadyH.cons rfl (fun K hKc => ?_) AllReadyH.nil)
          · rw [if_pos (by rfl)]
            obtain ⟨v1, W1, hr1, ho1, hg1⟩ := app1_run W base (.slice av cur.length cv) cur hcl hown.out
            refine wp_builtin_append rfl rfl rfl hr1 ?_
            replace hq := Lib.hid (hq.out.grown hg1 hWs (fun q hq => by cases hq))
            have hWs1 : W.heap.size ≤ W1.heap.size := hg1.size
            refine hKc _ _ hq.out (fun _ => ?_)
            clear hKc K hr1
            try simp only [Act.put, List.setIfInBounds_toArray]
            refine wpAnyH_ready (rs := [7]) (by kernel_rfl) (by simp) ?_
            refine AllReadyH.cons rfl (fun K hKc => ?_) AllReadyH.nil
            go_simp
            replace hq := Lib.hid (hq.out.alloc (by omega) (.cells #[.string nm] 9))
            refine hKc _ _ hq.out (fun _ => ?_)
            clear hKc K
            try simp only [Act.put, List.setIfInBounds_toArray, List.set_cons_zero, List.set_cons_succ]
            refine wpAnyH_ready (rs := [8]) (by kernel_rfl) (by simp) ?_
            refine AllReadyH.cons rfl (fun K hKc => ?_) AllReadyH.nil
            rw [if_pos (by rfl)]
            refine wp_append_own _ _ _ 85 rfl W.heap.size 9 i0 (.string ByteArray.empty) 1 16 u85 hi hz0 hz1 hz2 rfl (by decide) v1 cur.length (strVals cur) rfl (ho1.alloc _) ⟨W1.heap.size, 0, none⟩ 1 1 [.string nm] rfl rfl (cell_one_new _ _ _) (fun x hx => by simp at hx; subst hx; rfl) (by unfold maxLen; omega) (by omega) (by first | omega | (simp; omega)) ?_
            intro v2 W2 ho2 hg2 _
            replace hq := Lib.hid (hq.out.grown hg2 (by first | omega | (simp; omega)) (fun q hq => by have := (ho1.lt q hq).1; first | omega | (simp at this; omega)))
            have hfin : Hid (W2.ownsRow base 9 1 v2 (curN bf ds (k + 1)).length (strVals (curN bf ds (k + 1)))) := Lib.hid (by
              rw [hnext.out, List.length_append, strVals, List.map_append]
              exact ownsRow_wider (by first | omega | (simp; omega)) ho2)
            refine hKc _ _ hq.out (fun _ => ?_)
            clear hKc K ho1 ho2 hg1 hg2
            try simp only [Act.put, List.setIfInBounds_toArray]
            refine takeH 9 1 v2 rfl rfl (by kernel_rfl) (by kernel_rfl) (by kernel_rfl) (fun _ _ _ h => h) (by rfl) (by intro W hSw; clear hSw; go_simp) hq.out ?_
            try simp only [List.setIfInBounds_toArray, List.set_cons_zero, List.set_cons_succ]
            refine wpAnyH_done (by kernel_rfl) ?_ _
            go_wp2_with fail
            go_roundw
            case rel => exact ⟨k + 1, by omega, by go_num, hstep, hfin, Lib.hid (hb.out.trans hq.out)⟩
            case measure => simp [intOf]; omega

          · go_simp
            replace hq := Lib.hid (hq.out.alloc hWs (.cells #[.string nm] 9))
            refine hKc _ _ hq.out (fun _ => ?_)
            clear hKc K
            try simp only [Act.put, List.setIfInBounds_toArray, List.set_cons_zero, List.set_cons_succ]
            refine wpAnyH_ready (rs := [1]) (by kernel_rfl) (by simp) ?_
            refine AllReadyH.cons rfl (fun K hKc => ?_) AllReadyH.nil
            rw [if_pos (by rfl)]
            obtain ⟨v1, W1, hr1, ho1, hg1⟩ := app1_run (W.alloc (.cells #[.string nm] 9)) base (.slice av cur.length cv) cur hcl (hown.out.alloc _)
            refine wp_builtin_append rfl rfl rfl hr1 ?_
            replace hq := Lib.hid (hq.out.grown hg1 (by simp; omega) (fun q hq => by cases hq))
            have hWs1 : W.heap.size + 1 ≤ W1.heap.size := by have := hg1.size; simpa using this
            refine hKc _ _ hq.out (fun _ => ?_)
            clear hKc K hr1
            try simp only [Act.put, List.setIfInBounds_toArray]
            refine wpAnyH_ready (rs := [8]) (by kernel_rfl) (by simp) ?_
            refine AllReadyH.cons rfl (fun K hKc => ?_) AllReadyH.nil
            rw [if_pos (by rfl)]
            refine wp_append_own _ _ _ 85 rfl (W.alloc (.cells #[.string nm] 9)).heap.size 9 i0 (.string ByteArray.empty) 1 16 u85 hi hz0 hz1 hz2 rfl (by decide) v1 cur.length (strVals cur) rfl ho1 ⟨W.heap.size, 0, none⟩ 1 1 [.string nm] rfl rfl (fun j u hj => hg1.cell (cell_one_new W (.string nm) 9 j u hj) (fun h => by cases h)) (fun x hx => by simp at hx; subst hx; rfl) (by unfold maxLen; omega) (by omega) (by first | omega | (simp; omega)) ?_
            intro v2 W2 ho2 hg2 _
            replace hq := Lib.hid (hq.out.grown hg2 (by first | omega | (simp; omega)) (fun q hq => by have := (ho1.lt q hq).1; first | omega | (simp at this; omega)))
            have hfin : Hid (W2.ownsRow base 9 1 v2 (curN bf ds (k + 1)).length (strVals (curN bf ds (k + 1)))) := Lib.hid (by
              rw [hnext.out, List.length_append, strVals, List.map_append]
              exact ownsRow_wider (by first | omega | (simp; omega)) ho2)
            refine hKc _ _ hq.out (fun _ => ?_)
            clear hKc K ho1 ho2 hg1 hg2
            try simp only [Act.put]
            refine takeH 9 1 v2 rfl rfl (by kernel_rfl) (by kernel_rfl) (by kernel_rfl) (fun _ _ _ h => h) (by rfl) (by intro W hSw; clear hSw; go_simp) hq.out ?_
            try simp only [List.setIfInBounds_toArray, List.set_cons_zero, List.set_cons_succ]
            refine wpAnyH_done (by kernel_rfl) ?_ _
            go_wp2_with fail
            go_roundw
            case rel => exact ⟨k + 1, by omega, by go_num, hstep, hfin, Lib.hid (hb.out.trans hq.out)⟩
            case measure => simp [intOf]; omega

    · have hke : k = ds.length := by omega
      subst hke
      have o1 : ¬ ((ds.length : Int) < (ds.length : Int)) := by omega
      have hfin : Hid (OkNames bf.reverse ds) := Lib.hid (by simpa using hok.out)
      replace hown : Hid (wr.ownsRow base 9 1 u1 (bf ++ ds.map (·.1)).length (strVals (bf ++ ds.map (·.1)))) := Lib.hid (by simpa [curN] using hown.out)
      clear hk hok
      go_wp2_with fail
      refine bodyPost_ret (v := .tuple #[u1, .bool true]) (by simp [results, Tryz.f59, go_sem]) rfl ⟨.inl ⟨hfin.out, u1, rfl, by have := hown.out; simpa using this⟩, hb.out⟩

end Go.Proofs.YthlegfegkopdkaaGreat

namespace Go.Proofs.YthlegfegkopdkaaGreat
open Go.RowKit Go.Shelf

set_option maxRecDepth 100000 in
set_option maxHeartbeats 2000000 in
theorem Sig_any (s : Sg) (n₀ : Nat) (w : World) (ac : Option Addr) (lc cc : Nat) (af : Option Addr) (lf cf : Nat) (hs : IsSg n₀ w s ac lc cc af lf cf) (hn : n₀ ≤ w.heap.size) :
    Calls Tryz.prog 18 #[.agg #[.slice ac lc cc, .slice af lf cf]] w fun e w' => e = .returned (.bool (sigB s)) ∧ Below w.heap.size w w' := by
  obtain ⟨rfl, hc1, hc2, hk⟩ := hs.cons
  obtain ⟨rfl, hf1, hf2, hkf⟩ := hs.funs
  have hb1 : Below w.heap.size w (w.alloc (.cells #[.slice ac s.cons.length cc, .slice af s.funs.length cf] 24)) := (Below.refl _ _).alloc (Nat.le_refl _) _
  have hin := fun W => in_any (s.cons.length : Nat) 2 12 W
  replace hin := Lib.hid hin
  by_cases hi : inB (s.cons.length : Nat) 2 12 = true
  rotate_left
  · replace hi : inB (s.cons.length : Nat) 2 12 = false := Bool.eq_false_iff.2 hi
    have hv := Lib.hid (sigB_false (s := s) (fun h => by have h3 := h.1; have h4 := h.2.1; simp [inB] at hi; omega))
    clear hk hkf hs
    go_enter Tryz.func18, Tryz.ntmps18
    go_wp2_with (go_at_call 58; refine (hin.out _).mono ?_; rintro e w' ⟨rfl, rfl⟩)
    go_ret
    exact ⟨by rw [hv.out]; rfl, hb1⟩
  have h2 : 2 ≤ s.cons.length := by simp [inB] at hi; omega
  have h12 : s.cons.length ≤ 12 := by simp [inB] at hi; omega
  by_cases h8 : s.funs.length ≤ 8
  rotate_left
  · have hv := Lib.hid (sigB_false (s := s) (fun h => h8 h.2.2.1))
    clear hk hkf hs
    go_enter Tryz.func18, Tryz.ntmps18
    go_wp2_with (go_at_call 58; refine (hin.out _).mono ?_; rintro e w' ⟨rfl, rfl⟩)
    go_ret
    exact ⟨by rw [hv.out]; rfl, hb1⟩
  rcases hk with hk | ⟨b, off, rfl, hbn, hks⟩
  · rw [hk] at h2; simp at h2
  have k0 := hks 0 (by omega)
  have k1 := hks 1 (by omega)
  have g0 := (hb1.cell (p := ⟨b, off + 0 * 2, none⟩) (show b < w.heap.size by omega)).trans k0.1
  have g1 := (hb1.cell (p := ⟨b, off + 0 * 2 + 1, none⟩) (show b < w.heap.size by omega)).trans k0.2.1
  have g2 := (hb1.cell (p := ⟨b, off + 1 * 2, none⟩) (show b < w.heap.size by omega)).trans k1.1
  have g3 := (hb1.cell (p := ⟨b, off + 1 * 2 + 1, none⟩) (show b < w.heap.size by omega)).trans k1.2.1
  simp only [Nat.zero_mul, Nat.one_mul, Nat.add_zero] at g0 g1 g2 g3
  have gs0 : s.cons[0]? = some s.cons[0] := List.getElem?_eq_getElem (by omega)
  have gs1 : s.cons[1]? = some s.cons[1] := List.getElem?_eq_getElem (by omega)
  replace gs0 := Lib.hid gs0
  replace gs1 := Lib.hid gs1
  by_cases e0 : s.cons[0].1.toList = [70, 97, 108, 115, 101]
  rotate_left
  · have hv := Lib.hid (sigB_false (s := s) (fun h => e0 (by have := h.2.2.2.1; rw [gs0.out] at this; injection this with this; rw [this]; exact sFalse_list)))
    clear hkf hs hks k0 k1
    go_enter Tryz.func18, Tryz.ntmps18
    go_wp2_with (go_at_call 58; refine (hin.out _).mono ?_; rintro e w' ⟨rfl, rfl⟩)
    go_ret
    exact ⟨by rw [hv.out]; rfl, hb1⟩
  by_cases e1 : s.cons[0].2 = 0
  rotate_left
  · have hv := Lib.hid (sigB_false (s := s) (fun h => e1 (by have := h.2.2.2.1; rw [gs0.out] at this; injection this with this; rw [this])))
    clear hkf hs hks k0 k1
    go_enter Tryz.func18, Tryz.ntmps18
    go_wp2_with (go_at_call 58; refine (hin.out _).mono ?_; rintro e w' ⟨rfl, rfl⟩)
    go_ret
    exact ⟨by rw [hv.out]; rfl, hb1⟩
  by_cases e2 : s.cons[1].1.toList = [84, 114, 117, 101]
  rotate_left
  · have hv := Lib.hid (sigB_false (s := s) (fun h => e2 (by have := h.2.2.2.2.1; rw [gs1.out] at this; injection this with this; rw [this]; exact sTrue_list)))
    clear hkf hs hks k0 k1
    go_enter Tryz.func18, Tryz.ntmps18
    go_wp2_with (go_at_call 58; refine (hin.out _).mono ?_; rintro e w' ⟨rfl, rfl⟩)
    go_ret
    exact ⟨by rw [hv.out]; rfl, hb1⟩
  by_cases e3 : s.cons[1].2 = 0
  rotate_left
  · have hv := Lib.hid (sigB_false (s := s) (fun h => e3 (by have := h.2.2.2.2.1; rw [gs1.out] at this; injection this with this; rw [this])))
    clear hkf hs hks k0 k1
    go_enter Tryz.func18, Tryz.ntmps18
    go_wp2_with (go_at_call 58; refine (hin.out _).mono ?_; rintro e w' ⟨rfl, rfl⟩)
    go_ret
    exact ⟨by rw [hv.out]; rfl, hb1⟩
  have hv : Hid (SigOk s ↔ OkNames [] (s.cons ++ s.funs)) := Lib.hid ⟨fun h => h.2.2.2.2.2, fun h => ⟨h2, h12, h8, by rw [gs0.out, show s.cons[0] = (sFalse, 0) from Prod.ext (toList_inj (e0.trans sFalse_list.symm)) e1], by rw [gs1.out, show s.cons[1] = (sTrue, 0) from Prod.ext (toList_inj (e2.trans sTrue_list.symm)) e3], h⟩⟩
  have o16 : s.cons.length ≤ 100 := by omega
  obtain ⟨w1, hw1⟩ : ∃ w1, w1 = (w.alloc (.cells #[.slice (some ⟨b, off, none⟩) s.cons.length cc, .slice af s.funs.length cf] 24)) := ⟨_, rfl⟩
  have f0 : w1.cell? ⟨w.heap.size, 0, none⟩ = some (.slice (some ⟨b, off, none⟩) s.cons.length cc) := by rw [hw1]; go_cell
  have f1 : w1.cell? ⟨w.heap.size, 1, none⟩ = some (.slice af s.funs.length cf) := by rw [hw1]; go_cell
  have hz : w1.heap.size = w.heap.size + 1 := by rw [hw1]; simp
  have hC := rnames_any s.cons n₀ w1 (some ⟨b, off, none⟩) s.cons.length cc (by rw [hw1]; exact hs.cons.below (hb1.mono hn)) (by omega) [] w1.heap.size (.slice none 0 0) (World.ownsRow_nil _ _ _ _) (Nat.le_refl _) ⟨o16, by simp⟩
  replace hC := Lib.hid hC
  have hb1' : Hid (Below w.heap.size w w1) := Lib.hid (by rw [hw1]; exact hb1)
  have hsf := Lib.hid hs.funs
  clear hs hkf hks k0 k1
  go_enter Tryz.func18, Tryz.ntmps18
  subst hw1
  go_wp2_with (first | (go_at_call 58; refine (hin.out _).mono ?_; rintro e w' ⟨rfl, rfl⟩))
  refine (hC.out).mono ?_
  rintro e w2 ⟨⟨hok, v', rfl, hown⟩ | ⟨hno, rfl⟩, hbe⟩
  · have f2 : w2.cell? ⟨w.heap.size, 1, none⟩ = some (.slice af s.funs.length cf) := (hbe.cell (p := ⟨w.heap.size, 1, none⟩) (by simp)).trans f1
    have hnf : IsNames n₀ w2 s.funs af s.funs.length cf := (hsf.out.below (hb1.mono hn)).below (hbe.mono (by simp; omega))
    have hsz := hbe.size
    simp only [List.nil_append] at hown
    have hD := rnames_any s.funs n₀ w2 af s.funs.length cf hnf (by simp at hsz; omega) (s.cons.map (·.1)) _ v' hown (by simpa using hsz) ⟨by omega, by simpa using o16⟩
    replace hD := Lib.hid hD
    replace hbe := Lib.hid hbe
    replace hok := Lib.hid hok
    clear f0 f1 hnf hsf hC g0 g1 g2 g3 hown
    go_wp2_with fail
    refine (hD.out).mono ?_
    have hiff : SigOk s ↔ OkNames (s.cons.map (·.1)).reverse s.funs := by
      rw [hv.out, OkNames_append, nmsR_eq, List.append_nil]
      exact ⟨fun h => h.2, fun h => ⟨hok.out, h⟩⟩
    replace hiff := Lib.hid hiff
    rintro e w3 ⟨⟨hok2, v2, rfl, -⟩ | ⟨hno, rfl⟩, hbe2⟩
    · have hv' := Lib.hid (sigB_true (hiff.out.2 hok2))
      replace hbe2 := Lib.hid hbe2
      clear hok2
      go_wp2_with fail
      go_ret
      exact ⟨by rw [hv'.out]; rfl, hb1'.out.trans ((hbe.out.mono (by simp)).trans (hbe2.out.mono (by simp at hsz; omega)))⟩
    · have hv' := Lib.hid (sigB_false (fun h => hno (hiff.out.1 h)))
      replace hbe2 := Lib.hid hbe2
      clear hno
      go_wp2_with fail
      go_ret
      exact ⟨by rw [hv'.out]; rfl, hb1'.out.trans ((hbe.out.mono (by simp)).trans (hbe2.out.mono (by simp at hsz; omega)))⟩
  · have hv' := Lib.hid (sigB_false (fun h => hno (by simpa using OkNames_prefix (hv.out.1 h))))
    replace hbe := Lib.hid hbe
    clear hno f0 f1 hsf hC g0 g1 g2 g3
    go_wp2_with fail
    go_ret
    exact ⟨by rw [hv'.out]; rfl, hb1'.out.trans (hbe.out.mono (by simp))⟩

end Go.Proofs.YthlegfegkopdkaaGreat
