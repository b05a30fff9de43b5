/- Own text, joined of: K5 W1 W2 W3 W4 W5. The chapter's examples are as they say: the walk of 'known'. · The reference's 'names'. · The reference's 'Sig'. · The law's 'small', 'given', 'values'. · The law's 'values', and TermSorts. · TermSorts, of arguments that lie in memory. -/
import Derived.Test.YtaieplfegngjnaaGreatOr28

namespace Go.Proofs.YtaieplfegngjnaaGreat
open Go.RowKit Go.Shelf Go.Sort

theorem region_named {P : Program} {ops : Array Oper} {Q : Exit → Act → World → Prop} {S : World → Prop} {id : Nat} {a : Act} {w : World} (hm : P.follows .mixedOrders = true)
    (h : ∀ w1, w1 = w.drew → wpAnyH P .any ops Q S ops.size (Array.replicate ops.size false) a w1) : (Code.region id ops true).wp P Q a w := wp_region_held hm (h _ rfl)

set_option maxRecDepth 100000 in
set_option maxHeartbeats 16000000 in
theorem known_any (w : World) : Calls Tryz.prog 12 #[] w fun e w' => e = .returned (.bool true) ∧ Below w.heap.size w w' := by
  have hb : Hid (Below w.heap.size w w) := Below.refl _ _
  go_enter Tryz.func12, Tryz.ntmps12
  go_wp2_with fail
  refine (kS _).mono ?_
  rintro e w1 ⟨A0, B0, rfl, hS', hn⟩
  replace hb := Lib.hid (Below.up hb.out hn.out)
  clear hn
  have hS := hS'
  clear hS'
  go_wp2_with fail
  refine (kv 0 _).mono ?_
  rintro e w2 ⟨rfl, hn⟩
  replace hS := Lib.hid (hS.out.up hn.out)
  replace hb := Lib.hid (Below.up hb.out hn.out)
  clear hn
  go_wp2_with fail
  refine (kv 1 _).mono ?_
  rintro e w3 ⟨rfl, hn⟩
  replace hS := Lib.hid (hS.out.up hn.out)
  replace hb := Lib.hid (Below.up hb.out hn.out)
  clear hn
  have hL : Hid (Liv (w3.alloc (.cells #[.int .i64 1, .int .i64 0, .slice none 0 0, .int .i64 1, .int .i64 1, .slice none 0 0] 28)) (dP 3 5 w3.heap.size (dN 1 0) (dN 1 1))) := Lib.hid (Liv.P 3 5 (Liv.N _ 1 0) (Liv.N _ 1 1))
  replace hS := Lib.hid (hS.out.up (bal w3 (.cells #[.int .i64 1, .int .i64 0, .slice none 0 0, .int .i64 1, .int .i64 1, .slice none 0 0] 28)))
  replace hb := Lib.hid (Below.up hb.out (bal w3 (.cells #[.int .i64 1, .int .i64 0, .slice none 0 0, .int .i64 1, .int .i64 1, .slice none 0 0] 28)))
  go_wp2_with fail
  refine (kcon 5 (some ⟨w3.heap.size, 0, none⟩) 2 2 _).mono ?_
  rintro e w4 ⟨rfl, hn⟩
  replace hS := Lib.hid (hS.out.up hn.out)
  replace hL := Lib.hid (hL.out.up hn.out)
  replace hb := Lib.hid (Below.up hb.out hn.out)
  clear hn
  go_wp2_with fail
  refine (kCheck (dP 3 5 w3.heap.size (dN 1 0) (dN 1 1)) (by simp [DT.size, dsizes]) hS hL 0 rfl).mono ?_
  rintro e w5 ⟨rfl, hn⟩
  replace hS := Lib.hid (hS.out.up hn.out)
  replace hL := Lib.hid (hL.out.up hn.out)
  replace hb := Lib.hid (Below.up hb.out hn.out)
  clear hn
  clear hS hL
  go_wp2_with fail
  refine (kS _).mono ?_
  rintro e w6 ⟨A5, B5, rfl, hS', hn⟩
  replace hb := Lib.hid (Below.up hb.out hn.out)
  clear hn
  have hS := hS'
  clear hS'
  go_wp2_with fail
  refine (kv 0 _).mono ?_
  rintro e w7 ⟨rfl, hn⟩
  replace hS := Lib.hid (hS.out.up hn.out)
  replace hb := Lib.hid (Below.up hb.out hn.out)
  clear hn
  have hL : Hid (Liv (w7.alloc (.cells #[.int .i64 1, .int .i64 0, .slice none 0 0] 28)) (dS 3 5 w7.heap.size (dN 1 0))) := Lib.hid (Liv.S 3 5 (Liv.N _ 1 0))
  replace hS := Lib.hid (hS.out.up (bal w7 (.cells #[.int .i64 1, .int .i64 0, .slice none 0 0] 28)))
  replace hb := Lib.hid (Below.up hb.out (bal w7 (.cells #[.int .i64 1, .int .i64 0, .slice none 0 0] 28)))
  go_wp2_with fail
  refine (kcon 5 (some ⟨w7.heap.size, 0, none⟩) 1 1 _).mono ?_
  rintro e w8 ⟨rfl, hn⟩
  replace hS := Lib.hid (hS.out.up hn.out)
  replace hL := Lib.hid (hL.out.up hn.out)
  replace hb := Lib.hid (Below.up hb.out hn.out)
  clear hn
  go_wp2_with fail
  refine (kCheck (dS 3 5 w7.heap.size (dN 1 0)) (by simp [DT.size, dsizes]) hS hL 2 rfl).mono ?_
  rintro e w9 ⟨rfl, hn⟩
  replace hS := Lib.hid (hS.out.up hn.out)
  replace hL := Lib.hid (hL.out.up hn.out)
  replace hb := Lib.hid (Below.up hb.out hn.out)
  clear hn
  clear hS hL
  go_wp2_with fail
  refine (kS _).mono ?_
  rintro e w10 ⟨A9, B9, rfl, hS', hn⟩
  replace hb := Lib.hid (Below.up hb.out hn.out)
  clear hn
  have hS := hS'
  clear hS'
  go_wp2_with fail
  refine (knode 5 1 none 0 0 _).mono ?_
  rintro e w11 ⟨rfl, hn⟩
  replace hS := Lib.hid (hS.out.up hn.out)
  replace hb := Lib.hid (Below.up hb.out hn.out)
  clear hn
  have hL := Lib.hid (Liv.N w11 5 1)
  go_wp2_with fail
  refine (kCheck (dN 5 1) (by simp [DT.size, dsizes]) hS hL 2 rfl).mono ?_
  rintro e w12 ⟨rfl, hn⟩
  replace hS := Lib.hid (hS.out.up hn.out)
  replace hL := Lib.hid (hL.out.up hn.out)
  replace hb := Lib.hid (Below.up hb.out hn.out)
  clear hn
  clear hS hL
  go_wp2_with fail
  refine (kS _).mono ?_
  rintro e w13 ⟨A12, B12, rfl, hS', hn⟩
  replace hb := Lib.hid (Below.up hb.out hn.out)
  clear hn
  have hS := hS'
  clear hS'
  go_wp2_with fail
  refine (kv 1 _).mono ?_
  rintro e w14 ⟨rfl, hn⟩
  replace hS := Lib.hid (hS.out.up hn.out)
  replace hb := Lib.hid (Below.up hb.out hn.out)
  clear hn
  go_wp2_with fail
  refine (kv 0 _).mono ?_
  rintro e w15 ⟨rfl, hn⟩
  replace hS := Lib.hid (hS.out.up hn.out)
  replace hb := Lib.hid (Below.up hb.out hn.out)
  clear hn
  go_wp2_with fail
  refine (kv 2 _).mono ?_
  rintro e w16 ⟨rfl, hn⟩
  replace hS := Lib.hid (hS.out.up hn.out)
  replace hb := Lib.hid (Below.up hb.out hn.out)
  clear hn
  have hL1 : Hid (Liv (w16.alloc (.cells #[.int .i64 1, .int .i64 0, .slice none 0 0, .int .i64 1, .int .i64 2, .slice none 0 0] 28)) (dP 3 5 w16.heap.size (dN 1 0) (dN 1 2))) := Lib.hid (Liv.P 3 5 (Liv.N _ 1 0) (Liv.N _ 1 2))
  replace hS := Lib.hid (hS.out.up (bal w16 (.cells #[.int .i64 1, .int .i64 0, .slice none 0 0, .int .i64 1, .int .i64 2, .slice none 0 0] 28)))
  replace hb := Lib.hid (Below.up hb.out (bal w16 (.cells #[.int .i64 1, .int .i64 0, .slice none 0 0, .int .i64 1, .int .i64 2, .slice none 0 0] 28)))
  go_wp2_with fail
  refine (kcon 5 (some ⟨w16.heap.size, 0, none⟩) 2 2 _).mono ?_
  rintro e w17 ⟨rfl, hn⟩
  replace hS := Lib.hid (hS.out.up hn.out)
  replace hL1 := Lib.hid (hL1.out.up hn.out)
  replace hb := Lib.hid (Below.up hb.out hn.out)
  clear hn
  have hL : Hid (Liv (w17.alloc (.cells #[.int .i64 1, .int .i64 1, .slice none 0 0, .int .i64 3, .int .i64 5, .slice (some ⟨w16.heap.size, 0, none⟩) 2 2] 28)) (dP 8 0 w17.heap.size (dN 1 1) (dP 3 5 w16.heap.size (dN 1 0) (dN 1 2)))) := Lib.hid (Liv.P 8 0 (Liv.N _ 1 1) hL1.out)
  clear hL1
  replace hS := Lib.hid (hS.out.up (bal w17 (.cells #[.int .i64 1, .int .i64 1, .slice none 0 0, .int .i64 3, .int .i64 5, .slice (some ⟨w16.heap.size, 0, none⟩) 2 2] 28)))
  replace hb := Lib.hid (Below.up hb.out (bal w17 (.cells #[.int .i64 1, .int .i64 1, .slice none 0 0, .int .i64 3, .int .i64 5, .slice (some ⟨w16.heap.size, 0, none⟩) 2 2] 28)))
  go_wp2_with fail
  refine (knode 8 0 (some ⟨w17.heap.size, 0, none⟩) 2 2 _).mono ?_
  rintro e w18 ⟨rfl, hn⟩
  replace hS := Lib.hid (hS.out.up hn.out)
  replace hL := Lib.hid (hL.out.up hn.out)
  replace hb := Lib.hid (Below.up hb.out hn.out)
  clear hn
  go_wp2_with fail
  refine (kVars (w16.heap.size) (w17.heap.size) hS hL).mono ?_
  rintro e w19 ⟨va1, vl1, vc1, rfl, hI1, hn⟩
  replace hS := Lib.hid (hS.out.up hn.out)
  replace hL := Lib.hid (hL.out.up hn.out)
  replace hb := Lib.hid (Below.up hb.out hn.out)
  clear hn
  clear hS hL
  replace hI1 : Hid (Iv w19 [1, 2] va1 vl1 vc1) := hI1
  go_wp2_with fail
  refine (kS _).mono ?_
  rintro e w20 ⟨A19, B19, rfl, hS', hn⟩
  replace hI1 := Lib.hid (hI1.out.up hn.out)
  replace hb := Lib.hid (Below.up hb.out hn.out)
  clear hn
  have hS := hS'
  clear hS'
  go_wp2_with fail
  refine (kv 1 _).mono ?_
  rintro e w21 ⟨rfl, hn⟩
  replace hI1 := Lib.hid (hI1.out.up hn.out)
  replace hS := Lib.hid (hS.out.up hn.out)
  replace hb := Lib.hid (Below.up hb.out hn.out)
  clear hn
  go_wp2_with fail
  refine (kv 0 _).mono ?_
  rintro e w22 ⟨rfl, hn⟩
  replace hI1 := Lib.hid (hI1.out.up hn.out)
  replace hS := Lib.hid (hS.out.up hn.out)
  replace hb := Lib.hid (Below.up hb.out hn.out)
  clear hn
  go_wp2_with fail
  refine (kv 2 _).mono ?_
  rintro e w23 ⟨rfl, hn⟩
  replace hI1 := Lib.hid (hI1.out.up hn.out)
  replace hS := Lib.hid (hS.out.up hn.out)
  replace hb := Lib.hid (Below.up hb.out hn.out)
  clear hn
  have hL1 : Hid (Liv (w23.alloc (.cells #[.int .i64 1, .int .i64 0, .slice none 0 0, .int .i64 1, .int .i64 2, .slice none 0 0] 28)) (dP 3 5 w23.heap.size (dN 1 0) (dN 1 2))) := Lib.hid (Liv.P 3 5 (Liv.N _ 1 0) (Liv.N _ 1 2))
  replace hI1 := Lib.hid (hI1.out.up (bal w23 (.cells #[.int .i64 1, .int .i64 0, .slice none 0 0, .int .i64 1, .int .i64 2, .slice none 0 0] 28)))
  replace hS := Lib.hid (hS.out.up (bal w23 (.cells #[.int .i64 1, .int .i64 0, .slice none 0 0, .int .i64 1, .int .i64 2, .slice none 0 0] 28)))
  replace hb := Lib.hid (Below.up hb.out (bal w23 (.cells #[.int .i64 1, .int .i64 0, .slice none 0 0, .int .i64 1, .int .i64 2, .slice none 0 0] 28)))
  go_wp2_with fail
  refine (kcon 5 (some ⟨w23.heap.size, 0, none⟩) 2 2 _).mono ?_
  rintro e w24 ⟨rfl, hn⟩
  replace hI1 := Lib.hid (hI1.out.up hn.out)
  replace hS := Lib.hid (hS.out.up hn.out)
  replace hL1 := Lib.hid (hL1.out.up hn.out)
  replace hb := Lib.hid (Below.up hb.out hn.out)
  clear hn
  have hL : Hid (Liv (w24.alloc (.cells #[.int .i64 1, .int .i64 1, .slice none 0 0, .int .i64 3, .int .i64 5, .slice (some ⟨w23.heap.size, 0, none⟩) 2 2] 28)) (dP 8 0 w24.heap.size (dN 1 1) (dP 3 5 w23.heap.size (dN 1 0) (dN 1 2)))) := Lib.hid (Liv.P 8 0 (Liv.N _ 1 1) hL1.out)
  clear hL1
  replace hI1 := Lib.hid (hI1.out.up (bal w24 (.cells #[.int .i64 1, .int .i64 1, .slice none 0 0, .int .i64 3, .int .i64 5, .slice (some ⟨w23.heap.size, 0, none⟩) 2 2] 28)))
  replace hS := Lib.hid (hS.out.up (bal w24 (.cells #[.int .i64 1, .int .i64 1, .slice none 0 0, .int .i64 3, .int .i64 5, .slice (some ⟨w23.heap.size, 0, none⟩) 2 2] 28)))
  replace hb := Lib.hid (Below.up hb.out (bal w24 (.cells #[.int .i64 1, .int .i64 1, .slice none 0 0, .int .i64 3, .int .i64 5, .slice (some ⟨w23.heap.size, 0, none⟩) 2 2] 28)))
  go_wp2_with fail
  refine (knode 8 0 (some ⟨w24.heap.size, 0, none⟩) 2 2 _).mono ?_
  rintro e w25 ⟨rfl, hn⟩
  replace hI1 := Lib.hid (hI1.out.up hn.out)
  replace hS := Lib.hid (hS.out.up hn.out)
  replace hL := Lib.hid (hL.out.up hn.out)
  replace hb := Lib.hid (Below.up hb.out hn.out)
  clear hn
  go_wp2_with fail
  refine (kv 0 _).mono ?_
  rintro e w26 ⟨rfl, hn⟩
  replace hI1 := Lib.hid (hI1.out.up hn.out)
  replace hS := Lib.hid (hS.out.up hn.out)
  replace hL := Lib.hid (hL.out.up hn.out)
  replace hb := Lib.hid (Below.up hb.out hn.out)
  clear hn
  have hM : Hid (Liv (w26.alloc (.cells #[.int .i64 1, .int .i64 0, .slice none 0 0] 28)) (dS 3 3 w26.heap.size (dN 1 0))) := Lib.hid (Liv.S 3 3 (Liv.N _ 1 0))
  replace hI1 := Lib.hid (hI1.out.up (bal w26 (.cells #[.int .i64 1, .int .i64 0, .slice none 0 0] 28)))
  replace hS := Lib.hid (hS.out.up (bal w26 (.cells #[.int .i64 1, .int .i64 0, .slice none 0 0] 28)))
  replace hL := Lib.hid (hL.out.up (bal w26 (.cells #[.int .i64 1, .int .i64 0, .slice none 0 0] 28)))
  replace hb := Lib.hid (Below.up hb.out (bal w26 (.cells #[.int .i64 1, .int .i64 0, .slice none 0 0] 28)))
  go_wp2_with fail
  refine (kcon 3 (some ⟨w26.heap.size, 0, none⟩) 1 1 _).mono ?_
  rintro e w27 ⟨rfl, hn⟩
  replace hI1 := Lib.hid (hI1.out.up hn.out)
  replace hS := Lib.hid (hS.out.up hn.out)
  replace hL := Lib.hid (hL.out.up hn.out)
  replace hM := Lib.hid (hM.out.up hn.out)
  replace hb := Lib.hid (Below.up hb.out hn.out)
  clear hn
  have hP : Hid (LbV (w27.alloc (.cells #[.int .i64 2, .int .i64 3, .int .i64 3, .slice (some ⟨w26.heap.size, 0, none⟩) 1 1] 70)) (b4 w26.heap.size) (some ⟨w27.heap.size, 0, none⟩) 1 1) := Lib.hid (LbV.one 2 hM.out)
  clear hM
  replace hI1 := Lib.hid (hI1.out.up (bal w27 (.cells #[.int .i64 2, .int .i64 3, .int .i64 3, .slice (some ⟨w26.heap.size, 0, none⟩) 1 1] 70)))
  replace hS := Lib.hid (hS.out.up (bal w27 (.cells #[.int .i64 2, .int .i64 3, .int .i64 3, .slice (some ⟨w26.heap.size, 0, none⟩) 1 1] 70)))
  replace hL := Lib.hid (hL.out.up (bal w27 (.cells #[.int .i64 2, .int .i64 3, .int .i64 3, .slice (some ⟨w26.heap.size, 0, none⟩) 1 1] 70)))
  replace hb := Lib.hid (Below.up hb.out (bal w27 (.cells #[.int .i64 2, .int .i64 3, .int .i64 3, .slice (some ⟨w26.heap.size, 0, none⟩) 1 1] 70)))
  go_wp2_with fail
  refine (kSubst (w23.heap.size) (w24.heap.size) (w27.heap.size) (w26.heap.size) hS hL hP).mono ?_
  rintro e w28 ⟨a4, l4, c4, rfl, hT4, hn⟩
  replace hI1 := Lib.hid (hI1.out.up hn.out)
  replace hS := Lib.hid (hS.out.up hn.out)
  replace hL := Lib.hid (hL.out.up hn.out)
  replace hP := Lib.hid (hP.out.up hn.out)
  replace hb := Lib.hid (Below.up hb.out hn.out)
  clear hn
  clear hS hL hP
  have hA4 : Hid (BxV (w28.alloc (.cells #[.int .i64 8, .int .i64 3, .slice a4 l4 c4] 28)) (w28.heap.size) (.int .i64 8) (.int .i64 3) (.slice a4 l4 c4)) := Lib.hid (heap_new' _ rfl)
  replace hI1 := Lib.hid (hI1.out.up (bal w28 (.cells #[.int .i64 8, .int .i64 3, .slice a4 l4 c4] 28)))
  replace hT4 := Lib.hid (hT4.out.up (bal w28 (.cells #[.int .i64 8, .int .i64 3, .slice a4 l4 c4] 28)))
  replace hb := Lib.hid (Below.up hb.out (bal w28 (.cells #[.int .i64 8, .int .i64 3, .slice a4 l4 c4] 28)))
  go_wp2_with fail
  refine (kS _).mono ?_
  rintro e w29 ⟨A28, B28, rfl, hS', hn⟩
  replace hI1 := Lib.hid (hI1.out.up hn.out)
  replace hT4 := Lib.hid (hT4.out.up hn.out)
  replace hA4 := Lib.hid (hA4.out.up hn.out)
  replace hb := Lib.hid (Below.up hb.out hn.out)
  clear hn
  have hS := hS'
  clear hS'
  go_wp2_with fail
  refine (kv 5 _).mono ?_
  rintro e w30 ⟨rfl, hn⟩
  replace hI1 := Lib.hid (hI1.out.up hn.out)
  replace hT4 := Lib.hid (hT4.out.up hn.out)
  replace hA4 := Lib.hid (hA4.out.up hn.out)
  replace hS := Lib.hid (hS.out.up hn.out)
  replace hb := Lib.hid (Below.up hb.out hn.out)
  clear hn
  go_wp2_with fail
  refine (kv 2 _).mono ?_
  rintro e w31 ⟨rfl, hn⟩
  replace hI1 := Lib.hid (hI1.out.up hn.out)
  replace hT4 := Lib.hid (hT4.out.up hn.out)
  replace hA4 := Lib.hid (hA4.out.up hn.out)
  replace hS := Lib.hid (hS.out.up hn.out)
  replace hb := Lib.hid (Below.up hb.out hn.out)
  clear hn
  go_wp2_with fail
  refine (kv 5 _).mono ?_
  rintro e w32 ⟨rfl, hn⟩
  replace hI1 := Lib.hid (hI1.out.up hn.out)
  replace hT4 := Lib.hid (hT4.out.up hn.out)
  replace hA4 := Lib.hid (hA4.out.up hn.out)
  replace hS := Lib.hid (hS.out.up hn.out)
  replace hb := Lib.hid (Below.up hb.out hn.out)
  clear hn
  have hL1 : Hid (Liv (w32.alloc (.cells #[.int .i64 1, .int .i64 2, .slice none 0 0, .int .i64 1, .int .i64 5, .slice none 0 0] 28)) (dP 8 5 w32.heap.size (dN 1 2) (dN 1 5))) := Lib.hid (Liv.P 8 5 (Liv.N _ 1 2) (Liv.N _ 1 5))
  replace hI1 := Lib.hid (hI1.out.up (bal w32 (.cells #[.int .i64 1, .int .i64 2, .slice none 0 0, .int .i64 1, .int .i64 5, .slice none 0 0] 28)))
  replace hT4 := Lib.hid (hT4.out.up (bal w32 (.cells #[.int .i64 1, .int .i64 2, .slice none 0 0, .int .i64 1, .int .i64 5, .slice none 0 0] 28)))
  replace hA4 := Lib.hid (hA4.out.up (bal w32 (.cells #[.int .i64 1, .int .i64 2, .slice none 0 0, .int .i64 1, .int .i64 5, .slice none 0 0] 28)))
  replace hS := Lib.hid (hS.out.up (bal w32 (.cells #[.int .i64 1, .int .i64 2, .slice none 0 0, .int .i64 1, .int .i64 5, .slice none 0 0] 28)))
  replace hb := Lib.hid (Below.up hb.out (bal w32 (.cells #[.int .i64 1, .int .i64 2, .slice none 0 0, .int .i64 1, .int .i64 5, .slice none 0 0] 28)))
  go_wp2_with fail
  refine (knode 8 5 (some ⟨w32.heap.size, 0, none⟩) 2 2 _).mono ?_
  rintro e w33 ⟨rfl, hn⟩
  replace hI1 := Lib.hid (hI1.out.up hn.out)
  replace hT4 := Lib.hid (hT4.out.up hn.out)
  replace hA4 := Lib.hid (hA4.out.up hn.out)
  replace hS := Lib.hid (hS.out.up hn.out)
  replace hL1 := Lib.hid (hL1.out.up hn.out)
  replace hb := Lib.hid (Below.up hb.out hn.out)
  clear hn
  have hL : Hid (Liv (w33.alloc (.cells #[.int .i64 1, .int .i64 5, .slice none 0 0, .int .i64 8, .int .i64 5, .slice (some ⟨w32.heap.size, 0, none⟩) 2 2] 28)) (dP 3 5 w33.heap.size (dN 1 5) (dP 8 5 w32.heap.size (dN 1 2) (dN 1 5)))) := Lib.hid (Liv.P 3 5 (Liv.N _ 1 5) hL1.out)
  clear hL1
  replace hI1 := Lib.hid (hI1.out.up (bal w33 (.cells #[.int .i64 1, .int .i64 5, .slice none 0 0, .int .i64 8, .int .i64 5, .slice (some ⟨w32.heap.size, 0, none⟩) 2 2] 28)))
  replace hT4 := Lib.hid (hT4.out.up (bal w33 (.cells #[.int .i64 1, .int .i64 5, .slice none 0 0, .int .i64 8, .int .i64 5, .slice (some ⟨w32.heap.size, 0, none⟩) 2 2] 28)))
  replace hA4 := Lib.hid (hA4.out.up (bal w33 (.cells #[.int .i64 1, .int .i64 5, .slice none 0 0, .int .i64 8, .int .i64 5, .slice (some ⟨w32.heap.size, 0, none⟩) 2 2] 28)))
  replace hS := Lib.hid (hS.out.up (bal w33 (.cells #[.int .i64 1, .int .i64 5, .slice none 0 0, .int .i64 8, .int .i64 5, .slice (some ⟨w32.heap.size, 0, none⟩) 2 2] 28)))
  replace hb := Lib.hid (Below.up hb.out (bal w33 (.cells #[.int .i64 1, .int .i64 5, .slice none 0 0, .int .i64 8, .int .i64 5, .slice (some ⟨w32.heap.size, 0, none⟩) 2 2] 28)))
  go_wp2_with fail
  refine (kcon 5 (some ⟨w33.heap.size, 0, none⟩) 2 2 _).mono ?_
  rintro e w34 ⟨rfl, hn⟩
  replace hI1 := Lib.hid (hI1.out.up hn.out)
  replace hT4 := Lib.hid (hT4.out.up hn.out)
  replace hA4 := Lib.hid (hA4.out.up hn.out)
  replace hS := Lib.hid (hS.out.up hn.out)
  replace hL := Lib.hid (hL.out.up hn.out)
  replace hb := Lib.hid (Below.up hb.out hn.out)
  clear hn
  go_wp2_with fail
  refine (kOrder (w32.heap.size) (w33.heap.size) hS hL).mono ?_
  rintro e w35 ⟨a5, l5, c5, rfl, hT5, hn⟩
  replace hI1 := Lib.hid (hI1.out.up hn.out)
  replace hT4 := Lib.hid (hT4.out.up hn.out)
  replace hA4 := Lib.hid (hA4.out.up hn.out)
  replace hS := Lib.hid (hS.out.up hn.out)
  replace hL := Lib.hid (hL.out.up hn.out)
  replace hb := Lib.hid (Below.up hb.out hn.out)
  clear hn
  clear hS hL
  have hA5 : Hid (BxV (w35.alloc (.cells #[.int .i64 3, .int .i64 5, .slice a5 l5 c5] 28)) (w35.heap.size) (.int .i64 3) (.int .i64 5) (.slice a5 l5 c5)) := Lib.hid (heap_new' _ rfl)
  replace hI1 := Lib.hid (hI1.out.up (bal w35 (.cells #[.int .i64 3, .int .i64 5, .slice a5 l5 c5] 28)))
  replace hT4 := Lib.hid (hT4.out.up (bal w35 (.cells #[.int .i64 3, .int .i64 5, .slice a5 l5 c5] 28)))
  replace hA4 := Lib.hid (hA4.out.up (bal w35 (.cells #[.int .i64 3, .int .i64 5, .slice a5 l5 c5] 28)))
  replace hT5 := Lib.hid (hT5.out.up (bal w35 (.cells #[.int .i64 3, .int .i64 5, .slice a5 l5 c5] 28)))
  replace hb := Lib.hid (Below.up hb.out (bal w35 (.cells #[.int .i64 3, .int .i64 5, .slice a5 l5 c5] 28)))
  go_wp2_with fail
  refine (kS _).mono ?_
  rintro e w36 ⟨A35, B35, rfl, hS', hn⟩
  replace hI1 := Lib.hid (hI1.out.up hn.out)
  replace hT4 := Lib.hid (hT4.out.up hn.out)
  replace hA4 := Lib.hid (hA4.out.up hn.out)
  replace hT5 := Lib.hid (hT5.out.up hn.out)
  replace hA5 := Lib.hid (hA5.out.up hn.out)
  replace hb := Lib.hid (Below.up hb.out hn.out)
  clear hn
  have hS := hS'
  clear hS'
  go_wp2_with fail
  refine (kv 0 _).mono ?_
  rintro e w37 ⟨rfl, hn⟩
  replace hI1 := Lib.hid (hI1.out.up hn.out)
  replace hT4 := Lib.hid (hT4.out.up hn.out)
  replace hA4 := Lib.hid (hA4.out.up hn.out)
  replace hT5 := Lib.hid (hT5.out.up hn.out)
  replace hA5 := Lib.hid (hA5.out.up hn.out)
  replace hS := Lib.hid (hS.out.up hn.out)
  replace hb := Lib.hid (Below.up hb.out hn.out)
  clear hn
  go_wp2_with fail
  refine (kv 1 _).mono ?_
  rintro e w38 ⟨rfl, hn⟩
  replace hI1 := Lib.hid (hI1.out.up hn.out)
  replace hT4 := Lib.hid (hT4.out.up hn.out)
  replace hA4 := Lib.hid (hA4.out.up hn.out)
  replace hT5 := Lib.hid (hT5.out.up hn.out)
  replace hA5 := Lib.hid (hA5.out.up hn.out)
  replace hS := Lib.hid (hS.out.up hn.out)
  replace hb := Lib.hid (Below.up hb.out hn.out)
  clear hn
  have hL : Hid (Liv (w38.alloc (.cells #[.int .i64 1, .int .i64 0, .slice none 0 0, .int .i64 1, .int .i64 1, .slice none 0 0] 28)) (dP 3 5 w38.heap.size (dN 1 0) (dN 1 1))) := Lib.hid (Liv.P 3 5 (Liv.N _ 1 0) (Liv.N _ 1 1))
  replace hI1 := Lib.hid (hI1.out.up (bal w38 (.cells #[.int .i64 1, .int .i64 0, .slice none 0 0, .int .i64 1, .int .i64 1, .slice none 0 0] 28)))
  replace hT4 := Lib.hid (hT4.out.up (bal w38 (.cells #[.int .i64 1, .int .i64 0, .slice none 0 0, .int .i64 1, .int .i64 1, .slice none 0 0] 28)))
  replace hA4 := Lib.hid (hA4.out.up (bal w38 (.cells #[.int .i64 1, .int .i64 0, .slice none 0 0, .int .i64 1, .int .i64 1, .slice none 0 0] 28)))
  replace hT5 := Lib.hid (hT5.out.up (bal w38 (.cells #[.int .i64 1, .int .i64 0, .slice none 0 0, .int .i64 1, .int .i64 1, .slice none 0 0] 28)))
  replace hA5 := Lib.hid (hA5.out.up (bal w38 (.cells #[.int .i64 1, .int .i64 0, .slice none 0 0, .int .i64 1, .int .i64 1, .slice none 0 0] 28)))
  replace hS := Lib.hid (hS.out.up (bal w38 (.cells #[.int .i64 1, .int .i64 0, .slice none 0 0, .int .i64 1, .int .i64 1, .slice none 0 0] 28)))
  replace hb := Lib.hid (Below.up hb.out (bal w38 (.cells #[.int .i64 1, .int .i64 0, .slice none 0 0, .int .i64 1, .int .i64 1, .slice none 0 0] 28)))
  go_wp2_with fail
  refine (kcon 5 (some ⟨w38.heap.size, 0, none⟩) 2 2 _).mono ?_
  rintro e w39 ⟨rfl, hn⟩
  replace hI1 := Lib.hid (hI1.out.up hn.out)
  replace hT4 := Lib.hid (hT4.out.up hn.out)
  replace hA4 := Lib.hid (hA4.out.up hn.out)
  replace hT5 := Lib.hid (hT5.out.up hn.out)
  replace hA5 := Lib.hid (hA5.out.up hn.out)
  replace hS := Lib.hid (hS.out.up hn.out)
  replace hL := Lib.hid (hL.out.up hn.out)
  replace hb := Lib.hid (Below.up hb.out hn.out)
  clear hn
  go_wp2_with fail
  refine (kcon 2 none 0 0 _).mono ?_
  rintro e w40 ⟨rfl, hn⟩
  replace hI1 := Lib.hid (hI1.out.up hn.out)
  replace hT4 := Lib.hid (hT4.out.up hn.out)
  replace hA4 := Lib.hid (hA4.out.up hn.out)
  replace hT5 := Lib.hid (hT5.out.up hn.out)
  replace hA5 := Lib.hid (hA5.out.up hn.out)
  replace hS := Lib.hid (hS.out.up hn.out)
  replace hL := Lib.hid (hL.out.up hn.out)
  replace hb := Lib.hid (Below.up hb.out hn.out)
  clear hn
  go_wp2_with fail
  refine (kcon 4 none 0 0 _).mono ?_
  rintro e w41 ⟨rfl, hn⟩
  replace hI1 := Lib.hid (hI1.out.up hn.out)
  replace hT4 := Lib.hid (hT4.out.up hn.out)
  replace hA4 := Lib.hid (hA4.out.up hn.out)
  replace hT5 := Lib.hid (hT5.out.up hn.out)
  replace hA5 := Lib.hid (hA5.out.up hn.out)
  replace hS := Lib.hid (hS.out.up hn.out)
  replace hL := Lib.hid (hL.out.up hn.out)
  replace hb := Lib.hid (Below.up hb.out hn.out)
  clear hn
  have hM : Hid (Liv (w41.alloc (.cells #[.int .i64 3, .int .i64 2, .slice none 0 0, .int .i64 3, .int .i64 4, .slice none 0 0] 28)) (dP 3 5 w41.heap.size (dN 3 2) (dN 3 4))) := Lib.hid (Liv.P 3 5 (Liv.N _ 3 2) (Liv.N _ 3 4))
  replace hI1 := Lib.hid (hI1.out.up (bal w41 (.cells #[.int .i64 3, .int .i64 2, .slice none 0 0, .int .i64 3, .int .i64 4, .slice none 0 0] 28)))
  replace hT4 := Lib.hid (hT4.out.up (bal w41 (.cells #[.int .i64 3, .int .i64 2, .slice none 0 0, .int .i64 3, .int .i64 4, .slice none 0 0] 28)))
  replace hA4 := Lib.hid (hA4.out.up (bal w41 (.cells #[.int .i64 3, .int .i64 2, .slice none 0 0, .int .i64 3, .int .i64 4, .slice none 0 0] 28)))
  replace hT5 := Lib.hid (hT5.out.up (bal w41 (.cells #[.int .i64 3, .int .i64 2, .slice none 0 0, .int .i64 3, .int .i64 4, .slice none 0 0] 28)))
  replace hA5 := Lib.hid (hA5.out.up (bal w41 (.cells #[.int .i64 3, .int .i64 2, .slice none 0 0, .int .i64 3, .int .i64 4, .slice none 0 0] 28)))
  replace hS := Lib.hid (hS.out.up (bal w41 (.cells #[.int .i64 3, .int .i64 2, .slice none 0 0, .int .i64 3, .int .i64 4, .slice none 0 0] 28)))
  replace hL := Lib.hid (hL.out.up (bal w41 (.cells #[.int .i64 3, .int .i64 2, .slice none 0 0, .int .i64 3, .int .i64 4, .slice none 0 0] 28)))
  replace hb := Lib.hid (Below.up hb.out (bal w41 (.cells #[.int .i64 3, .int .i64 2, .slice none 0 0, .int .i64 3, .int .i64 4, .slice none 0 0] 28)))
  go_wp2_with fail
  refine (kcon 5 (some ⟨w41.heap.size, 0, none⟩) 2 2 _).mono ?_
  rintro e w42 ⟨rfl, hn⟩
  replace hI1 := Lib.hid (hI1.out.up hn.out)
  replace hT4 := Lib.hid (hT4.out.up hn.out)
  replace hA4 := Lib.hid (hA4.out.up hn.out)
  replace hT5 := Lib.hid (hT5.out.up hn.out)
  replace hA5 := Lib.hid (hA5.out.up hn.out)
  replace hS := Lib.hid (hS.out.up hn.out)
  replace hL := Lib.hid (hL.out.up hn.out)
  replace hM := Lib.hid (hM.out.up hn.out)
  replace hb := Lib.hid (Below.up hb.out hn.out)
  clear hn
  go_wp2_with fail
  refine (kMatch (w38.heap.size) (w41.heap.size) hS hL hM).mono ?_
  rintro e w43 ⟨va6, vl6, vc6, rfl, hB6, hn⟩
  replace hI1 := Lib.hid (hI1.out.up hn.out)
  replace hT4 := Lib.hid (hT4.out.up hn.out)
  replace hA4 := Lib.hid (hA4.out.up hn.out)
  replace hT5 := Lib.hid (hT5.out.up hn.out)
  replace hA5 := Lib.hid (hA5.out.up hn.out)
  replace hS := Lib.hid (hS.out.up hn.out)
  replace hL := Lib.hid (hL.out.up hn.out)
  replace hM := Lib.hid (hM.out.up hn.out)
  replace hb := Lib.hid (Below.up hb.out hn.out)
  clear hn
  clear hS hL hM
  go_wp2_with fail
  refine (kS _).mono ?_
  rintro e w44 ⟨A43, B43, rfl, hS', hn⟩
  replace hI1 := Lib.hid (hI1.out.up hn.out)
  replace hT4 := Lib.hid (hT4.out.up hn.out)
  replace hA4 := Lib.hid (hA4.out.up hn.out)
  replace hT5 := Lib.hid (hT5.out.up hn.out)
  replace hA5 := Lib.hid (hA5.out.up hn.out)
  replace hB6 := Lib.hid (hB6.out.up hn.out)
  replace hb := Lib.hid (Below.up hb.out hn.out)
  clear hn
  have hS := hS'
  clear hS'
  go_wp2_with fail
  refine (kv 0 _).mono ?_
  rintro e w45 ⟨rfl, hn⟩
  replace hI1 := Lib.hid (hI1.out.up hn.out)
  replace hT4 := Lib.hid (hT4.out.up hn.out)
  replace hA4 := Lib.hid (hA4.out.up hn.out)
  replace hT5 := Lib.hid (hT5.out.up hn.out)
  replace hA5 := Lib.hid (hA5.out.up hn.out)
  replace hB6 := Lib.hid (hB6.out.up hn.out)
  replace hS := Lib.hid (hS.out.up hn.out)
  replace hb := Lib.hid (Below.up hb.out hn.out)
  clear hn
  go_wp2_with fail
  refine (kv 1 _).mono ?_
  rintro e w46 ⟨rfl, hn⟩
  replace hI1 := Lib.hid (hI1.out.up hn.out)
  replace hT4 := Lib.hid (hT4.out.up hn.out)
  replace hA4 := Lib.hid (hA4.out.up hn.out)
  replace hT5 := Lib.hid (hT5.out.up hn.out)
  replace hA5 := Lib.hid (hA5.out.up hn.out)
  replace hB6 := Lib.hid (hB6.out.up hn.out)
  replace hS := Lib.hid (hS.out.up hn.out)
  replace hb := Lib.hid (Below.up hb.out hn.out)
  clear hn
  have hL : Hid (Liv (w46.alloc (.cells #[.int .i64 1, .int .i64 0, .slice none 0 0, .int .i64 1, .int .i64 1, .slice none 0 0] 28)) (dP 3 5 w46.heap.size (dN 1 0) (dN 1 1))) := Lib.hid (Liv.P 3 5 (Liv.N _ 1 0) (Liv.N _ 1 1))
  replace hI1 := Lib.hid (hI1.out.up (bal w46 (.cells #[.int .i64 1, .int .i64 0, .slice none 0 0, .int .i64 1, .int .i64 1, .slice none 0 0] 28)))
  replace hT4 := Lib.hid (hT4.out.up (bal w46 (.cells #[.int .i64 1, .int .i64 0, .slice none 0 0, .int .i64 1, .int .i64 1, .slice none 0 0] 28)))
  replace hA4 := Lib.hid (hA4.out.up (bal w46 (.cells #[.int .i64 1, .int .i64 0, .slice none 0 0, .int .i64 1, .int .i64 1, .slice none 0 0] 28)))
  replace hT5 := Lib.hid (hT5.out.up (bal w46 (.cells #[.int .i64 1, .int .i64 0, .slice none 0 0, .int .i64 1, .int .i64 1, .slice none 0 0] 28)))
  replace hA5 := Lib.hid (hA5.out.up (bal w46 (.cells #[.int .i64 1, .int .i64 0, .slice none 0 0, .int .i64 1, .int .i64 1, .slice none 0 0] 28)))
  replace hB6 := Lib.hid (hB6.out.up (bal w46 (.cells #[.int .i64 1, .int .i64 0, .slice none 0 0, .int .i64 1, .int .i64 1, .slice none 0 0] 28)))
  replace hS := Lib.hid (hS.out.up (bal w46 (.cells #[.int .i64 1, .int .i64 0, .slice none 0 0, .int .i64 1, .int .i64 1, .slice none 0 0] 28)))
  replace hb := Lib.hid (Below.up hb.out (bal w46 (.cells #[.int .i64 1, .int .i64 0, .slice none 0 0, .int .i64 1, .int .i64 1, .slice none 0 0] 28)))
  go_wp2_with fail
  refine (kcon 5 (some ⟨w46.heap.size, 0, none⟩) 2 2 _).mono ?_
  rintro e w47 ⟨rfl, hn⟩
  replace hI1 := Lib.hid (hI1.out.up hn.out)
  replace hT4 := Lib.hid (hT4.out.up hn.out)
  replace hA4 := Lib.hid (hA4.out.up hn.out)
  replace hT5 := Lib.hid (hT5.out.up hn.out)
  replace hA5 := Lib.hid (hA5.out.up hn.out)
  replace hB6 := Lib.hid (hB6.out.up hn.out)
  replace hS := Lib.hid (hS.out.up hn.out)
  replace hL := Lib.hid (hL.out.up hn.out)
  replace hb := Lib.hid (Below.up hb.out hn.out)
  clear hn
  go_wp2_with fail
  refine (kv 1 _).mono ?_
  rintro e w48 ⟨rfl, hn⟩
  replace hI1 := Lib.hid (hI1.out.up hn.out)
  replace hT4 := Lib.hid (hT4.out.up hn.out)
  replace hA4 := Lib.hid (hA4.out.up hn.out)
  replace hT5 := Lib.hid (hT5.out.up hn.out)
  replace hA5 := Lib.hid (hA5.out.up hn.out)
  replace hB6 := Lib.hid (hB6.out.up hn.out)
  replace hS := Lib.hid (hS.out.up hn.out)
  replace hL := Lib.hid (hL.out.up hn.out)
  replace hb := Lib.hid (Below.up hb.out hn.out)
  clear hn
  go_wp2_with fail
  refine (kcon 4 none 0 0 _).mono ?_
  rintro e w49 ⟨rfl, hn⟩
  replace hI1 := Lib.hid (hI1.out.up hn.out)
  replace hT4 := Lib.hid (hT4.out.up hn.out)
  replace hA4 := Lib.hid (hA4.out.up hn.out)
  replace hT5 := Lib.hid (hT5.out.up hn.out)
  replace hA5 := Lib.hid (hA5.out.up hn.out)
  replace hB6 := Lib.hid (hB6.out.up hn.out)
  replace hS := Lib.hid (hS.out.up hn.out)
  replace hL := Lib.hid (hL.out.up hn.out)
  replace hb := Lib.hid (Below.up hb.out hn.out)
  clear hn
  have hM : Hid (Liv (w49.alloc (.cells #[.int .i64 1, .int .i64 1, .slice none 0 0, .int .i64 3, .int .i64 4, .slice none 0 0] 28)) (dP 3 5 w49.heap.size (dN 1 1) (dN 3 4))) := Lib.hid (Liv.P 3 5 (Liv.N _ 1 1) (Liv.N _ 3 4))
  replace hI1 := Lib.hid (hI1.out.up (bal w49 (.cells #[.int .i64 1, .int .i64 1, .slice none 0 0, .int .i64 3, .int .i64 4, .slice none 0 0] 28)))
  replace hT4 := Lib.hid (hT4.out.up (bal w49 (.cells #[.int .i64 1, .int .i64 1, .slice none 0 0, .int .i64 3, .int .i64 4, .slice none 0 0] 28)))
  replace hA4 := Lib.hid (hA4.out.up (bal w49 (.cells #[.int .i64 1, .int .i64 1, .slice none 0 0, .int .i64 3, .int .i64 4, .slice none 0 0] 28)))
  replace hT5 := Lib.hid (hT5.out.up (bal w49 (.cells #[.int .i64 1, .int .i64 1, .slice none 0 0, .int .i64 3, .int .i64 4, .slice none 0 0] 28)))
  replace hA5 := Lib.hid (hA5.out.up (bal w49 (.cells #[.int .i64 1, .int .i64 1, .slice none 0 0, .int .i64 3, .int .i64 4, .slice none 0 0] 28)))
  replace hB6 := Lib.hid (hB6.out.up (bal w49 (.cells #[.int .i64 1, .int .i64 1, .slice none 0 0, .int .i64 3, .int .i64 4, .slice none 0 0] 28)))
  replace hS := Lib.hid (hS.out.up (bal w49 (.cells #[.int .i64 1, .int .i64 1, .slice none 0 0, .int .i64 3, .int .i64 4, .slice none 0 0] 28)))
  replace hL := Lib.hid (hL.out.up (bal w49 (.cells #[.int .i64 1, .int .i64 1, .slice none 0 0, .int .i64 3, .int .i64 4, .slice none 0 0] 28)))
  replace hb := Lib.hid (Below.up hb.out (bal w49 (.cells #[.int .i64 1, .int .i64 1, .slice none 0 0, .int .i64 3, .int .i64 4, .slice none 0 0] 28)))
  go_wp2_with fail
  refine (kcon 5 (some ⟨w49.heap.size, 0, none⟩) 2 2 _).mono ?_
  rintro e w50 ⟨rfl, hn⟩
  replace hI1 := Lib.hid (hI1.out.up hn.out)
  replace hT4 := Lib.hid (hT4.out.up hn.out)
  replace hA4 := Lib.hid (hA4.out.up hn.out)
  replace hT5 := Lib.hid (hT5.out.up hn.out)
  replace hA5 := Lib.hid (hA5.out.up hn.out)
  replace hB6 := Lib.hid (hB6.out.up hn.out)
  replace hS := Lib.hid (hS.out.up hn.out)
  replace hL := Lib.hid (hL.out.up hn.out)
  replace hM := Lib.hid (hM.out.up hn.out)
  replace hb := Lib.hid (Below.up hb.out hn.out)
  clear hn
  go_wp2_with fail
  refine (kUnify (dP 3 5 w46.heap.size (dN 1 0) (dN 1 1)) (dP 3 5 w49.heap.size (dN 1 1) (dN 3 4)) [(0, tc 4), (1, tc 4)] 0 (by simp [DT.size, dsizes]) (by simp [DT.size, dsizes]) hS hL hM (by rw [chkV]; rfl) (u7 (w46.heap.size) (w49.heap.size))).mono ?_
  rintro e w51 ⟨va7, vl7, vc7, rfl, hB7, hn⟩
  replace hI1 := Lib.hid (hI1.out.up hn.out)
  replace hT4 := Lib.hid (hT4.out.up hn.out)
  replace hA4 := Lib.hid (hA4.out.up hn.out)
  replace hT5 := Lib.hid (hT5.out.up hn.out)
  replace hA5 := Lib.hid (hA5.out.up hn.out)
  replace hB6 := Lib.hid (hB6.out.up hn.out)
  replace hS := Lib.hid (hS.out.up hn.out)
  replace hL := Lib.hid (hL.out.up hn.out)
  replace hM := Lib.hid (hM.out.up hn.out)
  replace hb := Lib.hid (Below.up hb.out hn.out)
  clear hn
  clear hS hL hM
  go_wp2_with fail
  refine (kS _).mono ?_
  rintro e w52 ⟨A51, B51, rfl, hS', hn⟩
  replace hI1 := Lib.hid (hI1.out.up hn.out)
  replace hT4 := Lib.hid (hT4.out.up hn.out)
  replace hA4 := Lib.hid (hA4.out.up hn.out)
  replace hT5 := Lib.hid (hT5.out.up hn.out)
  replace hA5 := Lib.hid (hA5.out.up hn.out)
  replace hB6 := Lib.hid (hB6.out.up hn.out)
  replace hB7 := Lib.hid (hB7.out.up hn.out)
  replace hb := Lib.hid (Below.up hb.out hn.out)
  clear hn
  have hS := hS'
  clear hS'
  go_wp2_with fail
  refine (kv 0 _).mono ?_
  rintro e w53 ⟨rfl, hn⟩
  replace hI1 := Lib.hid (hI1.out.up hn.out)
  replace hT4 := Lib.hid (hT4.out.up hn.out)
  replace hA4 := Lib.hid (hA4.out.up hn.out)
  replace hT5 := Lib.hid (hT5.out.up hn.out)
  replace hA5 := Lib.hid (hA5.out.up hn.out)
  replace hB6 := Lib.hid (hB6.out.up hn.out)
  replace hB7 := Lib.hid (hB7.out.up hn.out)
  replace hS := Lib.hid (hS.out.up hn.out)
  replace hb := Lib.hid (Below.up hb.out hn.out)
  clear hn
  go_wp2_with fail
  refine (kv 0 _).mono ?_
  rintro e w54 ⟨rfl, hn⟩
  replace hI1 := Lib.hid (hI1.out.up hn.out)
  replace hT4 := Lib.hid (hT4.out.up hn.out)
  replace hA4 := Lib.hid (hA4.out.up hn.out)
  replace hT5 := Lib.hid (hT5.out.up hn.out)
  replace hA5 := Lib.hid (hA5.out.up hn.out)
  replace hB6 := Lib.hid (hB6.out.up hn.out)
  replace hB7 := Lib.hid (hB7.out.up hn.out)
  replace hS := Lib.hid (hS.out.up hn.out)
  replace hb := Lib.hid (Below.up hb.out hn.out)
  clear hn
  have hM : Hid (Liv (w54.alloc (.cells #[.int .i64 1, .int .i64 0, .slice none 0 0] 28)) (dS 3 3 w54.heap.size (dN 1 0))) := Lib.hid (Liv.S 3 3 (Liv.N _ 1 0))
  replace hI1 := Lib.hid (hI1.out.up (bal w54 (.cells #[.int .i64 1, .int .i64 0, .slice none 0 0] 28)))
  replace hT4 := Lib.hid (hT4.out.up (bal w54 (.cells #[.int .i64 1, .int .i64 0, .slice none 0 0] 28)))
  replace hA4 := Lib.hid (hA4.out.up (bal w54 (.cells #[.int .i64 1, .int .i64 0, .slice none 0 0] 28)))
  replace hT5 := Lib.hid (hT5.out.up (bal w54 (.cells #[.int .i64 1, .int .i64 0, .slice none 0 0] 28)))
  replace hA5 := Lib.hid (hA5.out.up (bal w54 (.cells #[.int .i64 1, .int .i64 0, .slice none 0 0] 28)))
  replace hB6 := Lib.hid (hB6.out.up (bal w54 (.cells #[.int .i64 1, .int .i64 0, .slice none 0 0] 28)))
  replace hB7 := Lib.hid (hB7.out.up (bal w54 (.cells #[.int .i64 1, .int .i64 0, .slice none 0 0] 28)))
  replace hS := Lib.hid (hS.out.up (bal w54 (.cells #[.int .i64 1, .int .i64 0, .slice none 0 0] 28)))
  replace hb := Lib.hid (Below.up hb.out (bal w54 (.cells #[.int .i64 1, .int .i64 0, .slice none 0 0] 28)))
  go_wp2_with fail
  refine (kcon 3 (some ⟨w54.heap.size, 0, none⟩) 1 1 _).mono ?_
  rintro e w55 ⟨rfl, hn⟩
  replace hI1 := Lib.hid (hI1.out.up hn.out)
  replace hT4 := Lib.hid (hT4.out.up hn.out)
  replace hA4 := Lib.hid (hA4.out.up hn.out)
  replace hT5 := Lib.hid (hT5.out.up hn.out)
  replace hA5 := Lib.hid (hA5.out.up hn.out)
  replace hB6 := Lib.hid (hB6.out.up hn.out)
  replace hB7 := Lib.hid (hB7.out.up hn.out)
  replace hS := Lib.hid (hS.out.up hn.out)
  replace hM := Lib.hid (hM.out.up hn.out)
  replace hb := Lib.hid (Below.up hb.out hn.out)
  clear hn
  go_wp2_with fail
  refine (kUnify (dN 1 0) (dS 3 3 w54.heap.size (dN 1 0)) [] 5 (by simp [DT.size, dsizes]) (by simp [DT.size, dsizes]) hS (Liv.N _ 1 0) hM (by rw [chkV]; rfl) (u8 (w54.heap.size))).mono ?_
  rintro e w56 ⟨va8, vl8, vc8, rfl, hB8, hn⟩
  replace hI1 := Lib.hid (hI1.out.up hn.out)
  replace hT4 := Lib.hid (hT4.out.up hn.out)
  replace hA4 := Lib.hid (hA4.out.up hn.out)
  replace hT5 := Lib.hid (hT5.out.up hn.out)
  replace hA5 := Lib.hid (hA5.out.up hn.out)
  replace hB6 := Lib.hid (hB6.out.up hn.out)
  replace hB7 := Lib.hid (hB7.out.up hn.out)
  replace hS := Lib.hid (hS.out.up hn.out)
  replace hM := Lib.hid (hM.out.up hn.out)
  replace hb := Lib.hid (Below.up hb.out hn.out)
  clear hn
  clear hS hM
  clear hB8
  go_wp2_with fail
  refine (kS _).mono ?_
  rintro e w57 ⟨A56, B56, rfl, hS', hn⟩
  replace hI1 := Lib.hid (hI1.out.up hn.out)
  replace hT4 := Lib.hid (hT4.out.up hn.out)
  replace hA4 := Lib.hid (hA4.out.up hn.out)
  replace hT5 := Lib.hid (hT5.out.up hn.out)
  replace hA5 := Lib.hid (hA5.out.up hn.out)
  replace hB6 := Lib.hid (hB6.out.up hn.out)
  replace hB7 := Lib.hid (hB7.out.up hn.out)
  replace hb := Lib.hid (Below.up hb.out hn.out)
  clear hn
  have hS := hS'
  clear hS'
  go_wp2_with fail
  refine (kcon 2 none 0 0 _).mono ?_
  rintro e w58 ⟨rfl, hn⟩
  replace hI1 := Lib.hid (hI1.out.up hn.out)
  replace hT4 := Lib.hid (hT4.out.up hn.out)
  replace hA4 := Lib.hid (hA4.out.up hn.out)
  replace hT5 := Lib.hid (hT5.out.up hn.out)
  replace hA5 := Lib.hid (hA5.out.up hn.out)
  replace hB6 := Lib.hid (hB6.out.up hn.out)
  replace hB7 := Lib.hid (hB7.out.up hn.out)
  replace hS := Lib.hid (hS.out.up hn.out)
  replace hb := Lib.hid (Below.up hb.out hn.out)
  clear hn
  go_wp2_with fail
  refine (knode 2 7 none 0 0 _).mono ?_
  rintro e w59 ⟨rfl, hn⟩
  replace hI1 := Lib.hid (hI1.out.up hn.out)
  replace hT4 := Lib.hid (hT4.out.up hn.out)
  replace hA4 := Lib.hid (hA4.out.up hn.out)
  replace hT5 := Lib.hid (hT5.out.up hn.out)
  replace hA5 := Lib.hid (hA5.out.up hn.out)
  replace hB6 := Lib.hid (hB6.out.up hn.out)
  replace hB7 := Lib.hid (hB7.out.up hn.out)
  replace hS := Lib.hid (hS.out.up hn.out)
  replace hb := Lib.hid (Below.up hb.out hn.out)
  clear hn
  go_wp2_with fail
  refine (kCompare (dN 3 2) (dN 2 7) 1 (by simp [DT.size, dsizes]) (by simp [DT.size, dsizes]) hS (Liv.N _ 3 2) (Liv.N _ 2 7) (by rw [chkV]; rfl) rfl).mono ?_
  rintro e w60 ⟨rfl, hn⟩
  replace hI1 := Lib.hid (hI1.out.up hn.out)
  replace hT4 := Lib.hid (hT4.out.up hn.out)
  replace hA4 := Lib.hid (hA4.out.up hn.out)
  replace hT5 := Lib.hid (hT5.out.up hn.out)
  replace hA5 := Lib.hid (hA5.out.up hn.out)
  replace hB6 := Lib.hid (hB6.out.up hn.out)
  replace hB7 := Lib.hid (hB7.out.up hn.out)
  replace hS := Lib.hid (hS.out.up hn.out)
  replace hb := Lib.hid (Below.up hb.out hn.out)
  clear hn
  clear hS
  go_upto_region 12 with fail
  have hK : Hid (∀ W, Below w60.heap.size w60 W → (W.cell? ⟨w28.heap.size, 0, none⟩ = some (.int .i64 8) ∧ W.cell? ⟨w28.heap.size, 1, none⟩ = some (.int .i64 3) ∧ W.cell? ⟨w28.heap.size, 2, none⟩ = some (.slice a4 l4 c4)) ∧ (W.cell? ⟨w35.heap.size, 0, none⟩ = some (.int .i64 3) ∧ W.cell? ⟨w35.heap.size, 1, none⟩ = some (.int .i64 5) ∧ W.cell? ⟨w35.heap.size, 2, none⟩ = some (.slice a5 l5 c5))) := Lib.hid (fun W h => ⟨(c3_cells (hA4.out.up h)).1, (c3_cells (hA5.out.up h)).1⟩)
  clear hA4 hA5
  refine region_named (S := fun W' => Below w60.heap.size w60 W') (by kernel_rfl) (fun w61 hw61 => ?_)
  have hq : Hid (Below w60.heap.size w60 w60.drew) := Lib.hid ((Below.refl _ _).drew)
  have hdr : Hid (Below w60.heap.size w60 w60.drew) := hq
  replace hI1 := Lib.hid (hI1.out.up hdr.out)
  replace hT4 := Lib.hid (hT4.out.up hdr.out)
  replace hT5 := Lib.hid (hT5.out.up hdr.out)
  replace hB6 := Lib.hid (hB6.out.up hdr.out)
  replace hB7 := Lib.hid (hB7.out.up hdr.out)
  replace hb := Lib.hid (Below.up hb.out hdr.out)
  clear hdr
  rw [← hw61] at hI1
  rw [← hw61] at hT4
  rw [← hw61] at hT5
  rw [← hw61] at hB6
  rw [← hw61] at hB7
  rw [← hw61] at hb
  rw [← hw61] at hq
  clear hw61
  refine takeH 0 149 (.slice va1 vl1 vc1) rfl rfl (by kernel_rfl) (by kernel_rfl) (by kernel_rfl) (fun _ _ _ h => h) (by rfl) (by intro W hSw; clear hSw; go_simp) hq.out ?_
  try simp only [List.setIfInBounds_toArray, List.set_cons_zero, List.set_cons_succ]
  refine wpAnyH_ready (rs := [1]) (by kernel_rfl) (by simp) ?_
  refine AllReadyH.cons rfl (fun K hKc => ?_) AllReadyH.nil
  go_simp
  have hI2 : Hid (Iv (w61.alloc (.cells #[.int .i64 1, .int .i64 2] 3)) [1, 2] (some ⟨w61.heap.size, 0, none⟩) 2 2) := Lib.hid (Iv.two _ 1 2)
  replace hI1 := Lib.hid (hI1.out.up (bal w61 (.cells #[.int .i64 1, .int .i64 2] 3)))
  replace hT4 := Lib.hid (hT4.out.up (bal w61 (.cells #[.int .i64 1, .int .i64 2] 3)))
  replace hT5 := Lib.hid (hT5.out.up (bal w61 (.cells #[.int .i64 1, .int .i64 2] 3)))
  replace hB6 := Lib.hid (hB6.out.up (bal w61 (.cells #[.int .i64 1, .int .i64 2] 3)))
  replace hB7 := Lib.hid (hB7.out.up (bal w61 (.cells #[.int .i64 1, .int .i64 2] 3)))
  replace hb := Lib.hid (Below.up hb.out (bal w61 (.cells #[.int .i64 1, .int .i64 2] 3)))
  replace hq := Lib.hid (Below.up hq.out (bal w61 (.cells #[.int .i64 1, .int .i64 2] 3)))
  obtain ⟨w62, hw62⟩ : ∃ w62, w62 = w61.alloc (.cells #[.int .i64 1, .int .i64 2] 3) := ⟨_, rfl⟩
  rw [← hw62]
  rw [← hw62] at hI1
  rw [← hw62] at hT4
  rw [← hw62] at hT5
  rw [← hw62] at hB6
  rw [← hw62] at hB7
  rw [← hw62] at hI2
  rw [← hw62] at hb
  rw [← hw62] at hq
  clear hw62
  refine hKc _ _ hq.out (fun _ => ?_)
  clear hKc K
  try simp only [List.setIfInBounds_toArray, List.set_cons_zero, List.set_cons_succ]
  refine wpAnyH_ready (rs := [2]) (by kernel_rfl) (by simp) ?_
  refine AllReadyH.cons rfl (fun K hKc => ?_) AllReadyH.nil
  go_simp
  refine (kSameInts hI1 hI2 rfl).mono ?_
  rintro e w63 ⟨rfl, hn⟩
  replace hI1 := Lib.hid (hI1.out.up hn.out)
  replace hT4 := Lib.hid (hT4.out.up hn.out)
  replace hT5 := Lib.hid (hT5.out.up hn.out)
  replace hB6 := Lib.hid (hB6.out.up hn.out)
  replace hB7 := Lib.hid (hB7.out.up hn.out)
  replace hI2 := Lib.hid (hI2.out.up hn.out)
  replace hb := Lib.hid (Below.up hb.out hn.out)
  replace hq := Lib.hid (Below.up hq.out hn.out)
  refine hKc _ _ hq.out (fun _ => ?_)
  clear hKc K hn
  try simp only [List.setIfInBounds_toArray, List.set_cons_zero, List.set_cons_succ]
  clear hI1 hI2
  refine takeH 3 152 (.bool true) rfl rfl (by kernel_rfl) (by kernel_rfl) (by kernel_rfl) (fun _ _ _ h => h) (by rfl) (by intro W hSw; clear hSw; go_simp) hq.out ?_
  try simp only [List.setIfInBounds_toArray, List.set_cons_zero, List.set_cons_succ]
  refine takeH 4 153 (.agg #[.int .i64 8, .int .i64 3, .slice a4 l4 c4]) rfl rfl (by kernel_rfl) (by kernel_rfl) (by kernel_rfl) (fun _ _ _ h => h) (by rfl) (by intro W hSw; obtain ⟨⟨j1, j2, j3⟩, ⟨j4, j5, j6⟩⟩ := hK.out W hSw; clear hSw; go_simp) hq.out ?_
  try simp only [List.setIfInBounds_toArray, List.set_cons_zero, List.set_cons_succ]
  refine wpAnyH_ready (rs := [5]) (by kernel_rfl) (by simp) ?_
  refine AllReadyH.cons rfl (fun K hKc => ?_) AllReadyH.nil
  go_simp
  refine (kSmall hT4 rfl).mono ?_
  rintro e w64 ⟨rfl, hn⟩
  replace hT4 := Lib.hid (hT4.out.up hn.out)
  replace hT5 := Lib.hid (hT5.out.up hn.out)
  replace hB6 := Lib.hid (hB6.out.up hn.out)
  replace hB7 := Lib.hid (hB7.out.up hn.out)
  replace hb := Lib.hid (Below.up hb.out hn.out)
  replace hq := Lib.hid (Below.up hq.out hn.out)
  refine hKc _ _ hq.out (fun _ => ?_)
  clear hKc K hn
  try simp only [List.setIfInBounds_toArray, List.set_cons_zero, List.set_cons_succ]
  refine takeH 6 155 (.bool true) rfl rfl (by kernel_rfl) (by kernel_rfl) (by kernel_rfl) (fun _ _ _ h => h) (by rfl) (by intro W hSw; clear hSw; go_simp) hq.out ?_
  try simp only [List.setIfInBounds_toArray, List.set_cons_zero, List.set_cons_succ]
  refine takeH 7 156 (.bool true) rfl rfl (by kernel_rfl) (by kernel_rfl) (by kernel_rfl) (fun _ _ _ h => h) (by rfl) (by intro W hSw; clear hSw; go_simp) hq.out ?_
  try simp only [List.setIfInBounds_toArray, List.set_cons_zero, List.set_cons_succ]
  refine takeH 8 157 (.agg #[.int .i64 8, .int .i64 3, .slice a4 l4 c4]) rfl rfl (by kernel_rfl) (by kernel_rfl) (by kernel_rfl) (fun _ _ _ h => h) (by rfl) (by intro W hSw; obtain ⟨⟨j1, j2, j3⟩, ⟨j4, j5, j6⟩⟩ := hK.out W hSw; clear hSw; go_simp) hq.out ?_
  try simp only [List.setIfInBounds_toArray, List.set_cons_zero, List.set_cons_succ]
  refine wpAnyH_ready (rs := [9]) (by kernel_rfl) (by simp) ?_
  refine AllReadyH.cons rfl (fun K hKc => ?_) AllReadyH.nil
  go_simp
  refine (kv 1 _).mono ?_
  rintro e w65 ⟨rfl, hn⟩
  replace hT4 := Lib.hid (hT4.out.up hn.out)
  replace hT5 := Lib.hid (hT5.out.up hn.out)
  replace hB6 := Lib.hid (hB6.out.up hn.out)
  replace hB7 := Lib.hid (hB7.out.up hn.out)
  replace hb := Lib.hid (Below.up hb.out hn.out)
  replace hq := Lib.hid (Below.up hq.out hn.out)
  refine hKc _ _ hq.out (fun _ => ?_)
  clear hKc K hn
  try simp only [List.setIfInBounds_toArray, List.set_cons_zero, List.set_cons_succ]
  refine wpAnyH_ready (rs := [10]) (by kernel_rfl) (by simp) ?_
  refine AllReadyH.cons rfl (fun K hKc => ?_) AllReadyH.nil
  go_simp
  refine (kv 3 _).mono ?_
  rintro e w66 ⟨rfl, hn⟩
  replace hT4 := Lib.hid (hT4.out.up hn.out)
  replace hT5 := Lib.hid (hT5.out.up hn.out)
  replace hB6 := Lib.hid (hB6.out.up hn.out)
  replace hB7 := Lib.hid (hB7.out.up hn.out)
  replace hb := Lib.hid (Below.up hb.out hn.out)
  replace hq := Lib.hid (Below.up hq.out hn.out)
  refine hKc _ _ hq.out (fun _ => ?_)
  clear hKc K hn
  try simp only [List.setIfInBounds_toArray, List.set_cons_zero, List.set_cons_succ]
  refine wpAnyH_ready (rs := [11]) (by kernel_rfl) (by simp) ?_
  refine AllReadyH.cons rfl (fun K hKc => ?_) AllReadyH.nil
  go_simp
  refine (kv 0 _).mono ?_
  rintro e w67 ⟨rfl, hn⟩
  replace hT4 := Lib.hid (hT4.out.up hn.out)
  replace hT5 := Lib.hid (hT5.out.up hn.out)
  replace hB6 := Lib.hid (hB6.out.up hn.out)
  replace hB7 := Lib.hid (hB7.out.up hn.out)
  replace hb := Lib.hid (Below.up hb.out hn.out)
  replace hq := Lib.hid (Below.up hq.out hn.out)
  refine hKc _ _ hq.out (fun _ => ?_)
  clear hKc K hn
  try simp only [List.setIfInBounds_toArray, List.set_cons_zero, List.set_cons_succ]
  refine wpAnyH_ready (rs := [12]) (by kernel_rfl) (by simp) ?_
  refine AllReadyH.cons rfl (fun K hKc => ?_) AllReadyH.nil
  go_simp
  have hL1 : Hid (Liv (w67.alloc (.cells #[.int .i64 1, .int .i64 0, .slice none 0 0] 28)) (dS 3 3 w67.heap.size (dN 1 0))) := Lib.hid (Liv.S 3 3 (Liv.N _ 1 0))
  replace hT4 := Lib.hid (hT4.out.up (bal w67 (.cells #[.int .i64 1, .int .i64 0, .slice none 0 0] 28)))
  replace hT5 := Lib.hid (hT5.out.up (bal w67 (.cells #[.int .i64 1, .int .i64 0, .slice none 0 0] 28)))
  replace hB6 := Lib.hid (hB6.out.up (bal w67 (.cells #[.int .i64 1, .int .i64 0, .slice none 0 0] 28)))
  replace hB7 := Lib.hid (hB7.out.up (bal w67 (.cells #[.int .i64 1, .int .i64 0, .slice none 0 0] 28)))
  replace hb := Lib.hid (Below.up hb.out (bal w67 (.cells #[.int .i64 1, .int .i64 0, .slice none 0 0] 28)))
  replace hq := Lib.hid (Below.up hq.out (bal w67 (.cells #[.int .i64 1, .int .i64 0, .slice none 0 0] 28)))
  obtain ⟨w68, hw68⟩ : ∃ w68, w68 = w67.alloc (.cells #[.int .i64 1, .int .i64 0, .slice none 0 0] 28) := ⟨_, rfl⟩
  rw [← hw68]
  rw [← hw68] at hT4
  rw [← hw68] at hT5
  rw [← hw68] at hB6
  rw [← hw68] at hB7
  rw [← hw68] at hL1
  rw [← hw68] at hb
  rw [← hw68] at hq
  clear hw68
  refine hKc _ _ hq.out (fun _ => ?_)
  clear hKc K
  try simp only [List.setIfInBounds_toArray, List.set_cons_zero, List.set_cons_succ]
  refine wpAnyH_ready (rs := [13]) (by kernel_rfl) (by simp) ?_
  refine AllReadyH.cons rfl (fun K hKc => ?_) AllReadyH.nil
  go_simp
  refine (kcon 3 (some ⟨w67.heap.size, 0, none⟩) 1 1 _).mono ?_
  rintro e w69 ⟨rfl, hn⟩
  replace hT4 := Lib.hid (hT4.out.up hn.out)
  replace hT5 := Lib.hid (hT5.out.up hn.out)
  replace hB6 := Lib.hid (hB6.out.up hn.out)
  replace hB7 := Lib.hid (hB7.out.up hn.out)
  replace hL1 := Lib.hid (hL1.out.up hn.out)
  replace hb := Lib.hid (Below.up hb.out hn.out)
  replace hq := Lib.hid (Below.up hq.out hn.out)
  refine hKc _ _ hq.out (fun _ => ?_)
  clear hKc K hn
  try simp only [List.setIfInBounds_toArray, List.set_cons_zero, List.set_cons_succ]
  refine wpAnyH_ready (rs := [14]) (by kernel_rfl) (by simp) ?_
  refine AllReadyH.cons rfl (fun K hKc => ?_) AllReadyH.nil
  go_simp
  have hL2 : Hid (Liv (w69.alloc (.cells #[.int .i64 1, .int .i64 3, .slice none 0 0, .int .i64 3, .int .i64 3, .slice (some ⟨w67.heap.size, 0, none⟩) 1 1] 28)) (dP 3 5 w69.heap.size (dN 1 3) (dS 3 3 w67.heap.size (dN 1 0)))) := Lib.hid (Liv.P 3 5 (Liv.N _ 1 3) hL1.out)
  clear hL1
  replace hT4 := Lib.hid (hT4.out.up (bal w69 (.cells #[.int .i64 1, .int .i64 3, .slice none 0 0, .int .i64 3, .int .i64 3, .slice (some ⟨w67.heap.size, 0, none⟩) 1 1] 28)))
  replace hT5 := Lib.hid (hT5.out.up (bal w69 (.cells #[.int .i64 1, .int .i64 3, .slice none 0 0, .int .i64 3, .int .i64 3, .slice (some ⟨w67.heap.size, 0, none⟩) 1 1] 28)))
  replace hB6 := Lib.hid (hB6.out.up (bal w69 (.cells #[.int .i64 1, .int .i64 3, .slice none 0 0, .int .i64 3, .int .i64 3, .slice (some ⟨w67.heap.size, 0, none⟩) 1 1] 28)))
  replace hB7 := Lib.hid (hB7.out.up (bal w69 (.cells #[.int .i64 1, .int .i64 3, .slice none 0 0, .int .i64 3, .int .i64 3, .slice (some ⟨w67.heap.size, 0, none⟩) 1 1] 28)))
  replace hb := Lib.hid (Below.up hb.out (bal w69 (.cells #[.int .i64 1, .int .i64 3, .slice none 0 0, .int .i64 3, .int .i64 3, .slice (some ⟨w67.heap.size, 0, none⟩) 1 1] 28)))
  replace hq := Lib.hid (Below.up hq.out (bal w69 (.cells #[.int .i64 1, .int .i64 3, .slice none 0 0, .int .i64 3, .int .i64 3, .slice (some ⟨w67.heap.size, 0, none⟩) 1 1] 28)))
  obtain ⟨w70, hw70⟩ : ∃ w70, w70 = w69.alloc (.cells #[.int .i64 1, .int .i64 3, .slice none 0 0, .int .i64 3, .int .i64 3, .slice (some ⟨w67.heap.size, 0, none⟩) 1 1] 28) := ⟨_, rfl⟩
  rw [← hw70]
  rw [← hw70] at hT4
  rw [← hw70] at hT5
  rw [← hw70] at hB6
  rw [← hw70] at hB7
  rw [← hw70] at hL2
  rw [← hw70] at hb
  rw [← hw70] at hq
  clear hw70
  refine hKc _ _ hq.out (fun _ => ?_)
  clear hKc K
  try simp only [List.setIfInBounds_toArray, List.set_cons_zero, List.set_cons_succ]
  refine wpAnyH_ready (rs := [15]) (by kernel_rfl) (by simp) ?_
  refine AllReadyH.cons rfl (fun K hKc => ?_) AllReadyH.nil
  go_simp
  refine (kcon 5 (some ⟨w69.heap.size, 0, none⟩) 2 2 _).mono ?_
  rintro e w71 ⟨rfl, hn⟩
  replace hT4 := Lib.hid (hT4.out.up hn.out)
  replace hT5 := Lib.hid (hT5.out.up hn.out)
  replace hB6 := Lib.hid (hB6.out.up hn.out)
  replace hB7 := Lib.hid (hB7.out.up hn.out)
  replace hL2 := Lib.hid (hL2.out.up hn.out)
  replace hb := Lib.hid (Below.up hb.out hn.out)
  replace hq := Lib.hid (Below.up hq.out hn.out)
  refine hKc _ _ hq.out (fun _ => ?_)
  clear hKc K hn
  try simp only [List.setIfInBounds_toArray, List.set_cons_zero, List.set_cons_succ]
  refine wpAnyH_ready (rs := [16]) (by kernel_rfl) (by simp) ?_
  refine AllReadyH.cons rfl (fun K hKc => ?_) AllReadyH.nil
  go_simp
  have hL3 : Hid (Liv (w71.alloc (.cells #[.int .i64 1, .int .i64 1, .slice none 0 0, .int .i64 3, .int .i64 5, .slice (some ⟨w69.heap.size, 0, none⟩) 2 2] 28)) (dP 8 3 w71.heap.size (dN 1 1) (dP 3 5 w69.heap.size (dN 1 3) (dS 3 3 w67.heap.size (dN 1 0))))) := Lib.hid (Liv.P 8 3 (Liv.N _ 1 1) hL2.out)
  clear hL2
  replace hT4 := Lib.hid (hT4.out.up (bal w71 (.cells #[.int .i64 1, .int .i64 1, .slice none 0 0, .int .i64 3, .int .i64 5, .slice (some ⟨w69.heap.size, 0, none⟩) 2 2] 28)))
  replace hT5 := Lib.hid (hT5.out.up (bal w71 (.cells #[.int .i64 1, .int .i64 1, .slice none 0 0, .int .i64 3, .int .i64 5, .slice (some ⟨w69.heap.size, 0, none⟩) 2 2] 28)))
  replace hB6 := Lib.hid (hB6.out.up (bal w71 (.cells #[.int .i64 1, .int .i64 1, .slice none 0 0, .int .i64 3, .int .i64 5, .slice (some ⟨w69.heap.size, 0, none⟩) 2 2] 28)))
  replace hB7 := Lib.hid (hB7.out.up (bal w71 (.cells #[.int .i64 1, .int .i64 1, .slice none 0 0, .int .i64 3, .int .i64 5, .slice (some ⟨w69.heap.size, 0, none⟩) 2 2] 28)))
  replace hb := Lib.hid (Below.up hb.out (bal w71 (.cells #[.int .i64 1, .int .i64 1, .slice none 0 0, .int .i64 3, .int .i64 5, .slice (some ⟨w69.heap.size, 0, none⟩) 2 2] 28)))
  replace hq := Lib.hid (Below.up hq.out (bal w71 (.cells #[.int .i64 1, .int .i64 1, .slice none 0 0, .int .i64 3, .int .i64 5, .slice (some ⟨w69.heap.size, 0, none⟩) 2 2] 28)))
  obtain ⟨w72, hw72⟩ : ∃ w72, w72 = w71.alloc (.cells #[.int .i64 1, .int .i64 1, .slice none 0 0, .int .i64 3, .int .i64 5, .slice (some ⟨w69.heap.size, 0, none⟩) 2 2] 28) := ⟨_, rfl⟩
  rw [← hw72]
  rw [← hw72] at hT4
  rw [← hw72] at hT5
  rw [← hw72] at hB6
  rw [← hw72] at hB7
  rw [← hw72] at hL3
  rw [← hw72] at hb
  rw [← hw72] at hq
  clear hw72
  refine hKc _ _ hq.out (fun _ => ?_)
  clear hKc K
  try simp only [List.setIfInBounds_toArray, List.set_cons_zero, List.set_cons_succ]
  refine wpAnyH_ready (rs := [17]) (by kernel_rfl) (by simp) ?_
  refine AllReadyH.cons rfl (fun K hKc => ?_) AllReadyH.nil
  go_simp
  refine (knode 8 3 (some ⟨w71.heap.size, 0, none⟩) 2 2 _).mono ?_
  rintro e w73 ⟨rfl, hn⟩
  replace hT4 := Lib.hid (hT4.out.up hn.out)
  replace hT5 := Lib.hid (hT5.out.up hn.out)
  replace hB6 := Lib.hid (hB6.out.up hn.out)
  replace hB7 := Lib.hid (hB7.out.up hn.out)
  replace hL3 := Lib.hid (hL3.out.up hn.out)
  replace hb := Lib.hid (Below.up hb.out hn.out)
  replace hq := Lib.hid (Below.up hq.out hn.out)
  refine hKc _ _ hq.out (fun _ => ?_)
  clear hKc K hn
  try simp only [List.setIfInBounds_toArray, List.set_cons_zero, List.set_cons_succ]
  refine wpAnyH_ready (rs := [18]) (by kernel_rfl) (by simp) ?_
  refine AllReadyH.cons rfl (fun K hKc => ?_) AllReadyH.nil
  go_simp
  refine (kSame (dP 8 3 w71.heap.size (dN 1 1) (dP 3 5 w69.heap.size (dN 1 3) (dS 3 3 w67.heap.size (dN 1 0)))) hT4 hL3 rfl).mono ?_
  rintro e w74 ⟨rfl, hn⟩
  replace hT4 := Lib.hid (hT4.out.up hn.out)
  replace hT5 := Lib.hid (hT5.out.up hn.out)
  replace hB6 := Lib.hid (hB6.out.up hn.out)
  replace hB7 := Lib.hid (hB7.out.up hn.out)
  replace hL3 := Lib.hid (hL3.out.up hn.out)
  replace hb := Lib.hid (Below.up hb.out hn.out)
  replace hq := Lib.hid (Below.up hq.out hn.out)
  refine hKc _ _ hq.out (fun _ => ?_)
  clear hKc K hn
  try simp only [List.setIfInBounds_toArray, List.set_cons_zero, List.set_cons_succ]
  clear hT4 hL3
  refine takeH 19 168 (.bool true) rfl rfl (by kernel_rfl) (by kernel_rfl) (by kernel_rfl) (fun _ _ _ h => h) (by rfl) (by intro W hSw; clear hSw; go_simp) hq.out ?_
  try simp only [List.setIfInBounds_toArray, List.set_cons_zero, List.set_cons_succ]
  refine takeH 20 169 (.bool true) rfl rfl (by kernel_rfl) (by kernel_rfl) (by kernel_rfl) (fun _ _ _ h => h) (by rfl) (by intro W hSw; clear hSw; go_simp) hq.out ?_
  try simp only [List.setIfInBounds_toArray, List.set_cons_zero, List.set_cons_succ]
  refine takeH 21 170 (.agg #[.int .i64 3, .int .i64 5, .slice a5 l5 c5]) rfl rfl (by kernel_rfl) (by kernel_rfl) (by kernel_rfl) (fun _ _ _ h => h) (by rfl) (by intro W hSw; obtain ⟨⟨j1, j2, j3⟩, ⟨j4, j5, j6⟩⟩ := hK.out W hSw; clear hSw; go_simp) hq.out ?_
  try simp only [List.setIfInBounds_toArray, List.set_cons_zero, List.set_cons_succ]
  refine wpAnyH_ready (rs := [22]) (by kernel_rfl) (by simp) ?_
  refine AllReadyH.cons rfl (fun K hKc => ?_) AllReadyH.nil
  go_simp
  refine (kSmall hT5 rfl).mono ?_
  rintro e w75 ⟨rfl, hn⟩
  replace hT5 := Lib.hid (hT5.out.up hn.out)
  replace hB6 := Lib.hid (hB6.out.up hn.out)
  replace hB7 := Lib.hid (hB7.out.up hn.out)
  replace hb := Lib.hid (Below.up hb.out hn.out)
  replace hq := Lib.hid (Below.up hq.out hn.out)
  refine hKc _ _ hq.out (fun _ => ?_)
  clear hKc K hn
  try simp only [List.setIfInBounds_toArray, List.set_cons_zero, List.set_cons_succ]
  refine takeH 23 172 (.bool true) rfl rfl (by kernel_rfl) (by kernel_rfl) (by kernel_rfl) (fun _ _ _ h => h) (by rfl) (by intro W hSw; clear hSw; go_simp) hq.out ?_
  try simp only [List.setIfInBounds_toArray, List.set_cons_zero, List.set_cons_succ]
  refine takeH 24 173 (.bool true) rfl rfl (by kernel_rfl) (by kernel_rfl) (by kernel_rfl) (fun _ _ _ h => h) (by rfl) (by intro W hSw; clear hSw; go_simp) hq.out ?_
  try simp only [List.setIfInBounds_toArray, List.set_cons_zero, List.set_cons_succ]
  refine takeH 25 174 (.agg #[.int .i64 3, .int .i64 5, .slice a5 l5 c5]) rfl rfl (by kernel_rfl) (by kernel_rfl) (by kernel_rfl) (fun _ _ _ h => h) (by rfl) (by intro W hSw; obtain ⟨⟨j1, j2, j3⟩, ⟨j4, j5, j6⟩⟩ := hK.out W hSw; clear hSw; go_simp) hq.out ?_
  try simp only [List.setIfInBounds_toArray, List.set_cons_zero, List.set_cons_succ]
  refine wpAnyH_ready (rs := [26]) (by kernel_rfl) (by simp) ?_
  refine AllReadyH.cons rfl (fun K hKc => ?_) AllReadyH.nil
  go_simp
  refine (kv 0 _).mono ?_
  rintro e w76 ⟨rfl, hn⟩
  replace hT5 := Lib.hid (hT5.out.up hn.out)
  replace hB6 := Lib.hid (hB6.out.up hn.out)
  replace hB7 := Lib.hid (hB7.out.up hn.out)
  replace hb := Lib.hid (Below.up hb.out hn.out)
  replace hq := Lib.hid (Below.up hq.out hn.out)
  refine hKc _ _ hq.out (fun _ => ?_)
  clear hKc K hn
  try simp only [List.setIfInBounds_toArray, List.set_cons_zero, List.set_cons_succ]
  refine wpAnyH_ready (rs := [27]) (by kernel_rfl) (by simp) ?_
  refine AllReadyH.cons rfl (fun K hKc => ?_) AllReadyH.nil
  go_simp
  refine (kv 2 _).mono ?_
  rintro e w77 ⟨rfl, hn⟩
  replace hT5 := Lib.hid (hT5.out.up hn.out)
  replace hB6 := Lib.hid (hB6.out.up hn.out)
  replace hB7 := Lib.hid (hB7.out.up hn.out)
  replace hb := Lib.hid (Below.up hb.out hn.out)
  replace hq := Lib.hid (Below.up hq.out hn.out)
  refine hKc _ _ hq.out (fun _ => ?_)
  clear hKc K hn
  try simp only [List.setIfInBounds_toArray, List.set_cons_zero, List.set_cons_succ]
  refine wpAnyH_ready (rs := [28]) (by kernel_rfl) (by simp) ?_
  refine AllReadyH.cons rfl (fun K hKc => ?_) AllReadyH.nil
  go_simp
  refine (kv 1 _).mono ?_
  rintro e w78 ⟨rfl, hn⟩
  replace hT5 := Lib.hid (hT5.out.up hn.out)
  replace hB6 := Lib.hid (hB6.out.up hn.out)
  replace hB7 := Lib.hid (hB7.out.up hn.out)
  replace hb := Lib.hid (Below.up hb.out hn.out)
  replace hq := Lib.hid (Below.up hq.out hn.out)
  refine hKc _ _ hq.out (fun _ => ?_)
  clear hKc K hn
  try simp only [List.setIfInBounds_toArray, List.set_cons_zero, List.set_cons_succ]
  refine wpAnyH_ready (rs := [29]) (by kernel_rfl) (by simp) ?_
  refine AllReadyH.cons rfl (fun K hKc => ?_) AllReadyH.nil
  go_simp
  have hL1 : Hid (Liv (w78.alloc (.cells #[.int .i64 1, .int .i64 2, .slice none 0 0, .int .i64 1, .int .i64 1, .slice none 0 0] 28)) (dP 8 1 w78.heap.size (dN 1 2) (dN 1 1))) := Lib.hid (Liv.P 8 1 (Liv.N _ 1 2) (Liv.N _ 1 1))
  replace hT5 := Lib.hid (hT5.out.up (bal w78 (.cells #[.int .i64 1, .int .i64 2, .slice none 0 0, .int .i64 1, .int .i64 1, .slice none 0 0] 28)))
  replace hB6 := Lib.hid (hB6.out.up (bal w78 (.cells #[.int .i64 1, .int .i64 2, .slice none 0 0, .int .i64 1, .int .i64 1, .slice none 0 0] 28)))
  replace hB7 := Lib.hid (hB7.out.up (bal w78 (.cells #[.int .i64 1, .int .i64 2, .slice none 0 0, .int .i64 1, .int .i64 1, .slice none 0 0] 28)))
  replace hb := Lib.hid (Below.up hb.out (bal w78 (.cells #[.int .i64 1, .int .i64 2, .slice none 0 0, .int .i64 1, .int .i64 1, .slice none 0 0] 28)))
  replace hq := Lib.hid (Below.up hq.out (bal w78 (.cells #[.int .i64 1, .int .i64 2, .slice none 0 0, .int .i64 1, .int .i64 1, .slice none 0 0] 28)))
  obtain ⟨w79, hw79⟩ : ∃ w79, w79 = w78.alloc (.cells #[.int .i64 1, .int .i64 2, .slice none 0 0, .int .i64 1, .int .i64 1, .slice none 0 0] 28) := ⟨_, rfl⟩
  rw [← hw79]
  rw [← hw79] at hT5
  rw [← hw79] at hB6
  rw [← hw79] at hB7
  rw [← hw79] at hL1
  rw [← hw79] at hb
  rw [← hw79] at hq
  clear hw79
  refine hKc _ _ hq.out (fun _ => ?_)
  clear hKc K
  try simp only [List.setIfInBounds_toArray, List.set_cons_zero, List.set_cons_succ]
  refine wpAnyH_ready (rs := [30]) (by kernel_rfl) (by simp) ?_
  refine AllReadyH.cons rfl (fun K hKc => ?_) AllReadyH.nil
  go_simp
  refine (knode 8 1 (some ⟨w78.heap.size, 0, none⟩) 2 2 _).mono ?_
  rintro e w80 ⟨rfl, hn⟩
  replace hT5 := Lib.hid (hT5.out.up hn.out)
  replace hB6 := Lib.hid (hB6.out.up hn.out)
  replace hB7 := Lib.hid (hB7.out.up hn.out)
  replace hL1 := Lib.hid (hL1.out.up hn.out)
  replace hb := Lib.hid (Below.up hb.out hn.out)
  replace hq := Lib.hid (Below.up hq.out hn.out)
  refine hKc _ _ hq.out (fun _ => ?_)
  clear hKc K hn
  try simp only [List.setIfInBounds_toArray, List.set_cons_zero, List.set_cons_succ]
  refine wpAnyH_ready (rs := [31]) (by kernel_rfl) (by simp) ?_
  refine AllReadyH.cons rfl (fun K hKc => ?_) AllReadyH.nil
  go_simp
  have hL2 : Hid (Liv (w80.alloc (.cells #[.int .i64 1, .int .i64 0, .slice none 0 0, .int .i64 8, .int .i64 1, .slice (some ⟨w78.heap.size, 0, none⟩) 2 2] 28)) (dP 3 5 w80.heap.size (dN 1 0) (dP 8 1 w78.heap.size (dN 1 2) (dN 1 1)))) := Lib.hid (Liv.P 3 5 (Liv.N _ 1 0) hL1.out)
  clear hL1
  replace hT5 := Lib.hid (hT5.out.up (bal w80 (.cells #[.int .i64 1, .int .i64 0, .slice none 0 0, .int .i64 8, .int .i64 1, .slice (some ⟨w78.heap.size, 0, none⟩) 2 2] 28)))
  replace hB6 := Lib.hid (hB6.out.up (bal w80 (.cells #[.int .i64 1, .int .i64 0, .slice none 0 0, .int .i64 8, .int .i64 1, .slice (some ⟨w78.heap.size, 0, none⟩) 2 2] 28)))
  replace hB7 := Lib.hid (hB7.out.up (bal w80 (.cells #[.int .i64 1, .int .i64 0, .slice none 0 0, .int .i64 8, .int .i64 1, .slice (some ⟨w78.heap.size, 0, none⟩) 2 2] 28)))
  replace hb := Lib.hid (Below.up hb.out (bal w80 (.cells #[.int .i64 1, .int .i64 0, .slice none 0 0, .int .i64 8, .int .i64 1, .slice (some ⟨w78.heap.size, 0, none⟩) 2 2] 28)))
  replace hq := Lib.hid (Below.up hq.out (bal w80 (.cells #[.int .i64 1, .int .i64 0, .slice none 0 0, .int .i64 8, .int .i64 1, .slice (some ⟨w78.heap.size, 0, none⟩) 2 2] 28)))
  obtain ⟨w81, hw81⟩ : ∃ w81, w81 = w80.alloc (.cells #[.int .i64 1, .int .i64 0, .slice none 0 0, .int .i64 8, .int .i64 1, .slice (some ⟨w78.heap.size, 0, none⟩) 2 2] 28) := ⟨_, rfl⟩
  rw [← hw81]
  rw [← hw81] at hT5
  rw [← hw81] at hB6
  rw [← hw81] at hB7
  rw [← hw81] at hL2
  rw [← hw81] at hb
  rw [← hw81] at hq
  clear hw81
  refine hKc _ _ hq.out (fun _ => ?_)
  clear hKc K
  try simp only [List.setIfInBounds_toArray, List.set_cons_zero, List.set_cons_succ]
  refine wpAnyH_ready (rs := [32]) (by kernel_rfl) (by simp) ?_
  refine AllReadyH.cons rfl (fun K hKc => ?_) AllReadyH.nil
  go_simp
  refine (kcon 5 (some ⟨w80.heap.size, 0, none⟩) 2 2 _).mono ?_
  rintro e w82 ⟨rfl, hn⟩
  replace hT5 := Lib.hid (hT5.out.up hn.out)
  replace hB6 := Lib.hid (hB6.out.up hn.out)
  replace hB7 := Lib.hid (hB7.out.up hn.out)
  replace hL2 := Lib.hid (hL2.out.up hn.out)
  replace hb := Lib.hid (Below.up hb.out hn.out)
  replace hq := Lib.hid (Below.up hq.out hn.out)
  refine hKc _ _ hq.out (fun _ => ?_)
  clear hKc K hn
  try simp only [List.setIfInBounds_toArray, List.set_cons_zero, List.set_cons_succ]
  refine wpAnyH_ready (rs := [33]) (by kernel_rfl) (by simp) ?_
  refine AllReadyH.cons rfl (fun K hKc => ?_) AllReadyH.nil
  go_simp
  refine (kSame (dP 3 5 w80.heap.size (dN 1 0) (dP 8 1 w78.heap.size (dN 1 2) (dN 1 1))) hT5 hL2 rfl).mono ?_
  rintro e w83 ⟨rfl, hn⟩
  replace hT5 := Lib.hid (hT5.out.up hn.out)
  replace hB6 := Lib.hid (hB6.out.up hn.out)
  replace hB7 := Lib.hid (hB7.out.up hn.out)
  replace hL2 := Lib.hid (hL2.out.up hn.out)
  replace hb := Lib.hid (Below.up hb.out hn.out)
  replace hq := Lib.hid (Below.up hq.out hn.out)
  refine hKc _ _ hq.out (fun _ => ?_)
  clear hKc K hn
  try simp only [List.setIfInBounds_toArray, List.set_cons_zero, List.set_cons_succ]
  clear hT5 hL2
  refine takeH 34 183 (.bool true) rfl rfl (by kernel_rfl) (by kernel_rfl) (by kernel_rfl) (fun _ _ _ h => h) (by rfl) (by intro W hSw; clear hSw; go_simp) hq.out ?_
  try simp only [List.setIfInBounds_toArray, List.set_cons_zero, List.set_cons_succ]
  refine takeH 35 184 (.bool true) rfl rfl (by kernel_rfl) (by kernel_rfl) (by kernel_rfl) (fun _ _ _ h => h) (by rfl) (by intro W hSw; clear hSw; go_simp) hq.out ?_
  try simp only [List.setIfInBounds_toArray, List.set_cons_zero, List.set_cons_succ]
  refine takeH 36 185 (.slice va6 vl6 vc6) rfl rfl (by kernel_rfl) (by kernel_rfl) (by kernel_rfl) (fun _ _ _ h => h) (by rfl) (by intro W hSw; clear hSw; go_simp) hq.out ?_
  try simp only [List.setIfInBounds_toArray, List.set_cons_zero, List.set_cons_succ]
  refine wpAnyH_ready (rs := [37]) (by kernel_rfl) (by simp) ?_
  refine AllReadyH.cons rfl (fun K hKc => ?_) AllReadyH.nil
  go_simp
  refine (kSmallBinds hB6 rfl).mono ?_
  rintro e w84 ⟨rfl, hn⟩
  replace hB6 := Lib.hid (hB6.out.up hn.out)
  replace hB7 := Lib.hid (hB7.out.up hn.out)
  replace hb := Lib.hid (Below.up hb.out hn.out)
  replace hq := Lib.hid (Below.up hq.out hn.out)
  refine hKc _ _ hq.out (fun _ => ?_)
  clear hKc K hn
  try simp only [List.setIfInBounds_toArray, List.set_cons_zero, List.set_cons_succ]
  refine takeH 38 187 (.bool true) rfl rfl (by kernel_rfl) (by kernel_rfl) (by kernel_rfl) (fun _ _ _ h => h) (by rfl) (by intro W hSw; clear hSw; go_simp) hq.out ?_
  try simp only [List.setIfInBounds_toArray, List.set_cons_zero, List.set_cons_succ]
  refine takeH 39 188 (.bool true) rfl rfl (by kernel_rfl) (by kernel_rfl) (by kernel_rfl) (fun _ _ _ h => h) (by rfl) (by intro W hSw; clear hSw; go_simp) hq.out ?_
  try simp only [List.setIfInBounds_toArray, List.set_cons_zero, List.set_cons_succ]
  refine takeH 40 189 (.slice va6 vl6 vc6) rfl rfl (by kernel_rfl) (by kernel_rfl) (by kernel_rfl) (fun _ _ _ h => h) (by rfl) (by intro W hSw; clear hSw; go_simp) hq.out ?_
  try simp only [List.setIfInBounds_toArray, List.set_cons_zero, List.set_cons_succ]
  refine wpAnyH_ready (rs := [41]) (by kernel_rfl) (by simp) ?_
  refine AllReadyH.cons rfl (fun K hKc => ?_) AllReadyH.nil
  go_simp
  refine (kcon 2 none 0 0 _).mono ?_
  rintro e w85 ⟨rfl, hn⟩
  replace hB6 := Lib.hid (hB6.out.up hn.out)
  replace hB7 := Lib.hid (hB7.out.up hn.out)
  replace hb := Lib.hid (Below.up hb.out hn.out)
  replace hq := Lib.hid (Below.up hq.out hn.out)
  refine hKc _ _ hq.out (fun _ => ?_)
  clear hKc K hn
  try simp only [List.setIfInBounds_toArray, List.set_cons_zero, List.set_cons_succ]
  refine takeH 42 191 (.agg #[.int .i64 0, .int .i64 3, .int .i64 2, .slice none 0 0]) rfl rfl (by kernel_rfl) (by kernel_rfl) (by kernel_rfl) (fun _ _ _ h => h) (by rfl) (by intro W hSw; clear hSw; go_simp) hq.out ?_
  try simp only [List.setIfInBounds_toArray, List.set_cons_zero, List.set_cons_succ]
  refine wpAnyH_ready (rs := [43]) (by kernel_rfl) (by simp) ?_
  refine AllReadyH.cons rfl (fun K hKc => ?_) AllReadyH.nil
  go_simp
  refine (kcon 4 none 0 0 _).mono ?_
  rintro e w86 ⟨rfl, hn⟩
  replace hB6 := Lib.hid (hB6.out.up hn.out)
  replace hB7 := Lib.hid (hB7.out.up hn.out)
  replace hb := Lib.hid (Below.up hb.out hn.out)
  replace hq := Lib.hid (Below.up hq.out hn.out)
  refine hKc _ _ hq.out (fun _ => ?_)
  clear hKc K hn
  try simp only [List.setIfInBounds_toArray, List.set_cons_zero, List.set_cons_succ]
  refine takeH 44 193 (.agg #[.int .i64 1, .int .i64 3, .int .i64 4, .slice none 0 0]) rfl rfl (by kernel_rfl) (by kernel_rfl) (by kernel_rfl) (fun _ _ _ h => h) (by rfl) (by intro W hSw; clear hSw; go_simp) hq.out ?_
  try simp only [List.setIfInBounds_toArray, List.set_cons_zero, List.set_cons_succ]
  refine wpAnyH_ready (rs := [45]) (by kernel_rfl) (by simp) ?_
  refine AllReadyH.cons rfl (fun K hKc => ?_) AllReadyH.nil
  go_simp
  have hM6 : Hid (Bv (w86.alloc (.cells #[.int .i64 0, .int .i64 3, .int .i64 2, .slice none 0 0, .int .i64 1, .int .i64 3, .int .i64 4, .slice none 0 0] 70)) [(0, tc 2), (1, tc 4)] (some ⟨w86.heap.size, 0, none⟩) 2 2) := Lib.hid (Bv.two (x := dN 3 2) (y := dN 3 4) 0 1 (Liv.N _ 3 2) (Liv.N _ 3 4))
  replace hB6 := Lib.hid (hB6.out.up (bal w86 (.cells #[.int .i64 0, .int .i64 3, .int .i64 2, .slice none 0 0, .int .i64 1, .int .i64 3, .int .i64 4, .slice none 0 0] 70)))
  replace hB7 := Lib.hid (hB7.out.up (bal w86 (.cells #[.int .i64 0, .int .i64 3, .int .i64 2, .slice none 0 0, .int .i64 1, .int .i64 3, .int .i64 4, .slice none 0 0] 70)))
  replace hb := Lib.hid (Below.up hb.out (bal w86 (.cells #[.int .i64 0, .int .i64 3, .int .i64 2, .slice none 0 0, .int .i64 1, .int .i64 3, .int .i64 4, .slice none 0 0] 70)))
  replace hq := Lib.hid (Below.up hq.out (bal w86 (.cells #[.int .i64 0, .int .i64 3, .int .i64 2, .slice none 0 0, .int .i64 1, .int .i64 3, .int .i64 4, .slice none 0 0] 70)))
  obtain ⟨w87, hw87⟩ : ∃ w87, w87 = w86.alloc (.cells #[.int .i64 0, .int .i64 3, .int .i64 2, .slice none 0 0, .int .i64 1, .int .i64 3, .int .i64 4, .slice none 0 0] 70) := ⟨_, rfl⟩
  rw [← hw87]
  rw [← hw87] at hB6
  rw [← hw87] at hB7
  rw [← hw87] at hM6
  rw [← hw87] at hb
  rw [← hw87] at hq
  clear hw87
  refine hKc _ _ hq.out (fun _ => ?_)
  clear hKc K
  try simp only [List.setIfInBounds_toArray, List.set_cons_zero, List.set_cons_succ]
  refine wpAnyH_ready (rs := [46]) (by kernel_rfl) (by simp) ?_
  refine AllReadyH.cons rfl (fun K hKc => ?_) AllReadyH.nil
  go_simp
  refine (kSameBinds hB6 hM6 rfl).mono ?_
  rintro e w88 ⟨rfl, hn⟩
  replace hB6 := Lib.hid (hB6.out.up hn.out)
  replace hB7 := Lib.hid (hB7.out.up hn.out)
  replace hM6 := Lib.hid (hM6.out.up hn.out)
  replace hb := Lib.hid (Below.up hb.out hn.out)
  replace hq := Lib.hid (Below.up hq.out hn.out)
  refine hKc _ _ hq.out (fun _ => ?_)
  clear hKc K hn
  try simp only [List.setIfInBounds_toArray, List.set_cons_zero, List.set_cons_succ]
  clear hB6 hM6
  refine takeH 47 196 (.bool true) rfl rfl (by kernel_rfl) (by kernel_rfl) (by kernel_rfl) (fun _ _ _ h => h) (by rfl) (by intro W hSw; clear hSw; go_simp) hq.out ?_
  try simp only [List.setIfInBounds_toArray, List.set_cons_zero, List.set_cons_succ]
  refine takeH 48 197 (.bool true) rfl rfl (by kernel_rfl) (by kernel_rfl) (by kernel_rfl) (fun _ _ _ h => h) (by rfl) (by intro W hSw; clear hSw; go_simp) hq.out ?_
  try simp only [List.setIfInBounds_toArray, List.set_cons_zero, List.set_cons_succ]
  refine takeH 49 198 (.slice va7 vl7 vc7) rfl rfl (by kernel_rfl) (by kernel_rfl) (by kernel_rfl) (fun _ _ _ h => h) (by rfl) (by intro W hSw; clear hSw; go_simp) hq.out ?_
  try simp only [List.setIfInBounds_toArray, List.set_cons_zero, List.set_cons_succ]
  refine wpAnyH_ready (rs := [50]) (by kernel_rfl) (by simp) ?_
  refine AllReadyH.cons rfl (fun K hKc => ?_) AllReadyH.nil
  go_simp
  refine (kSmallBinds hB7 rfl).mono ?_
  rintro e w89 ⟨rfl, hn⟩
  replace hB7 := Lib.hid (hB7.out.up hn.out)
  replace hb := Lib.hid (Below.up hb.out hn.out)
  replace hq := Lib.hid (Below.up hq.out hn.out)
  refine hKc _ _ hq.out (fun _ => ?_)
  clear hKc K hn
  try simp only [List.setIfInBounds_toArray, List.set_cons_zero, List.set_cons_succ]
  refine takeH 51 200 (.bool true) rfl rfl (by kernel_rfl) (by kernel_rfl) (by kernel_rfl) (fun _ _ _ h => h) (by rfl) (by intro W hSw; clear hSw; go_simp) hq.out ?_
  try simp only [List.setIfInBounds_toArray, List.set_cons_zero, List.set_cons_succ]
  refine takeH 52 201 (.bool true) rfl rfl (by kernel_rfl) (by kernel_rfl) (by kernel_rfl) (fun _ _ _ h => h) (by rfl) (by intro W hSw; clear hSw; go_simp) hq.out ?_
  try simp only [List.setIfInBounds_toArray, List.set_cons_zero, List.set_cons_succ]
  refine takeH 53 202 (.slice va7 vl7 vc7) rfl rfl (by kernel_rfl) (by kernel_rfl) (by kernel_rfl) (fun _ _ _ h => h) (by rfl) (by intro W hSw; clear hSw; go_simp) hq.out ?_
  try simp only [List.setIfInBounds_toArray, List.set_cons_zero, List.set_cons_succ]
  refine wpAnyH_ready (rs := [54]) (by kernel_rfl) (by simp) ?_
  refine AllReadyH.cons rfl (fun K hKc => ?_) AllReadyH.nil
  go_simp
  refine (kcon 4 none 0 0 _).mono ?_
  rintro e w90 ⟨rfl, hn⟩
  replace hB7 := Lib.hid (hB7.out.up hn.out)
  replace hb := Lib.hid (Below.up hb.out hn.out)
  replace hq := Lib.hid (Below.up hq.out hn.out)
  refine hKc _ _ hq.out (fun _ => ?_)
  clear hKc K hn
  try simp only [List.setIfInBounds_toArray, List.set_cons_zero, List.set_cons_succ]
  refine takeH 55 204 (.agg #[.int .i64 0, .int .i64 3, .int .i64 4, .slice none 0 0]) rfl rfl (by kernel_rfl) (by kernel_rfl) (by kernel_rfl) (fun _ _ _ h => h) (by rfl) (by intro W hSw; clear hSw; go_simp) hq.out ?_
  try simp only [List.setIfInBounds_toArray, List.set_cons_zero, List.set_cons_succ]
  refine wpAnyH_ready (rs := [56]) (by kernel_rfl) (by simp) ?_
  refine AllReadyH.cons rfl (fun K hKc => ?_) AllReadyH.nil
  go_simp
  refine (kcon 4 none 0 0 _).mono ?_
  rintro e w91 ⟨rfl, hn⟩
  replace hB7 := Lib.hid (hB7.out.up hn.out)
  replace hb := Lib.hid (Below.up hb.out hn.out)
  replace hq := Lib.hid (Below.up hq.out hn.out)
  refine hKc _ _ hq.out (fun _ => ?_)
  clear hKc K hn
  try simp only [List.setIfInBounds_toArray, List.set_cons_zero, List.set_cons_succ]
  refine takeH 57 206 (.agg #[.int .i64 1, .int .i64 3, .int .i64 4, .slice none 0 0]) rfl rfl (by kernel_rfl) (by kernel_rfl) (by kernel_rfl) (fun _ _ _ h => h) (by rfl) (by intro W hSw; clear hSw; go_simp) hq.out ?_
  try simp only [List.setIfInBounds_toArray, List.set_cons_zero, List.set_cons_succ]
  refine wpAnyH_ready (rs := [58]) (by kernel_rfl) (by simp) ?_
  refine AllReadyH.cons rfl (fun K hKc => ?_) AllReadyH.nil
  go_simp
  have hM7 : Hid (Bv (w91.alloc (.cells #[.int .i64 0, .int .i64 3, .int .i64 4, .slice none 0 0, .int .i64 1, .int .i64 3, .int .i64 4, .slice none 0 0] 70)) [(0, tc 4), (1, tc 4)] (some ⟨w91.heap.size, 0, none⟩) 2 2) := Lib.hid (Bv.two (x := dN 3 4) (y := dN 3 4) 0 1 (Liv.N _ 3 4) (Liv.N _ 3 4))
  replace hB7 := Lib.hid (hB7.out.up (bal w91 (.cells #[.int .i64 0, .int .i64 3, .int .i64 4, .slice none 0 0, .int .i64 1, .int .i64 3, .int .i64 4, .slice none 0 0] 70)))
  replace hb := Lib.hid (Below.up hb.out (bal w91 (.cells #[.int .i64 0, .int .i64 3, .int .i64 4, .slice none 0 0, .int .i64 1, .int .i64 3, .int .i64 4, .slice none 0 0] 70)))
  replace hq := Lib.hid (Below.up hq.out (bal w91 (.cells #[.int .i64 0, .int .i64 3, .int .i64 4, .slice none 0 0, .int .i64 1, .int .i64 3, .int .i64 4, .slice none 0 0] 70)))
  obtain ⟨w92, hw92⟩ : ∃ w92, w92 = w91.alloc (.cells #[.int .i64 0, .int .i64 3, .int .i64 4, .slice none 0 0, .int .i64 1, .int .i64 3, .int .i64 4, .slice none 0 0] 70) := ⟨_, rfl⟩
  rw [← hw92]
  rw [← hw92] at hB7
  rw [← hw92] at hM7
  rw [← hw92] at hb
  rw [← hw92] at hq
  clear hw92
  refine hKc _ _ hq.out (fun _ => ?_)
  clear hKc K
  try simp only [List.setIfInBounds_toArray, List.set_cons_zero, List.set_cons_succ]
  refine wpAnyH_ready (rs := [59]) (by kernel_rfl) (by simp) ?_
  refine AllReadyH.cons rfl (fun K hKc => ?_) AllReadyH.nil
  go_simp
  refine (kSameBinds hB7 hM7 rfl).mono ?_
  rintro e w93 ⟨rfl, hn⟩
  replace hB7 := Lib.hid (hB7.out.up hn.out)
  replace hM7 := Lib.hid (hM7.out.up hn.out)
  replace hb := Lib.hid (Below.up hb.out hn.out)
  replace hq := Lib.hid (Below.up hq.out hn.out)
  refine hKc _ _ hq.out (fun _ => ?_)
  clear hKc K hn
  try simp only [List.setIfInBounds_toArray, List.set_cons_zero, List.set_cons_succ]
  clear hB7 hM7
  refine takeH 60 209 (.bool true) rfl rfl (by kernel_rfl) (by kernel_rfl) (by kernel_rfl) (fun _ _ _ h => h) (by rfl) (by intro W hSw; clear hSw; go_simp) hq.out ?_
  try simp only [List.setIfInBounds_toArray, List.set_cons_zero, List.set_cons_succ]
  refine takeH 61 0 (.bool true) rfl rfl (by kernel_rfl) (by kernel_rfl) (by kernel_rfl) (fun _ _ _ h => h) (by rfl) (by intro W hSw; clear hSw; go_simp) hq.out ?_
  try simp only [List.setIfInBounds_toArray, List.set_cons_zero]
  refine wpAnyH_done (by kernel_rfl) ?_ _
  go_wp2_with fail
  go_ret
  exact ⟨rfl, hb.out⟩

end Go.Proofs.YtaieplfegngjnaaGreat

namespace Go.Proofs.YtaieplfegngjnaaGreat
open Go.RowKit Go.Shelf

def strVals (l : List ByteArray) : List Value := l.map fun s => .string s
theorem inf9 : (Tryz.prog.info? 9).map (fun i => (i.zero, i.size, i.bytes)) = some (some (.string ByteArray.empty), 1, 16) := by kernel_rfl
theorem u85 : Tryz.prog.underlying 85 = some (.slice 9) := by kernel_rfl
theorem owns_form {w : World} {base : Nat} {v : Value} {l : List ByteArray} (h : w.ownsRow base 9 1 v l.length (strVals l)) :
    (v = .slice none 0 0 ∧ l = []) ∨ ∃ g cv, v = .slice (some ⟨g, 0, none⟩) l.length cv ∧ l.length ≤ cv ∧ cv ≤ maxLen ∧ base ≤ g ∧ g < w.heap.size ∧ ∀ j (hj : j < l.length), w.cell? ⟨g, j, none⟩ = some (.string l[j]) := by
  rcases h.2 with ⟨h1, h2⟩ | ⟨g, cap, cur, h1, h2, h3, h4, h5, h6, h7⟩
  · exact .inl ⟨h1, List.length_eq_zero_iff.1 h2⟩
  · refine .inr ⟨g, cap, h1, h4, h5, h2, (h.lt g (by rw [h1]; rfl)).2, fun j hj => ?_⟩
    subst h1
    rw [h.cellAt j (by omega)]
    simp [strVals, hj]

def curN (bf : List ByteArray) (ds : List Nm) (k : Nat) : List ByteArray := bf ++ (ds.take k).map (·.1)

theorem nmsR_eq : ∀ (a : List Nm) (seen : List ByteArray), nmsR a seen = (a.map (·.1)).reverse ++ seen
  | [], _ => rfl
  | y :: r, seen => by simp only [nmsR, nmsR_eq r (y.1 :: seen)]; simp
theorem OkNames_step {bf : List ByteArray} {ds : List Nm} {k : Nat} (h : k < ds.length) :
    OkNames bf.reverse (ds.take (k + 1)) ↔ OkNames bf.reverse (ds.take k) ∧ ds[k].1 ∉ curN bf ds k ∧ nameB ds[k].1 = true ∧ 0 ≤ ds[k].2 ∧ ds[k].2 ≤ 4 := by
  rw [List.take_succ_eq_append_getElem h, OkNames_append]
  simp only [OkNames, and_true]
  have e : nmsR (ds.take k) bf.reverse = (curN bf ds k).reverse := by rw [nmsR_eq, curN, List.reverse_append]
  rw [e, List.mem_reverse]
theorem OkNames_no {bf : List ByteArray} {ds : List Nm} {k : Nat} (h : k < ds.length) (hn : ¬ (ds[k].1 ∉ curN bf ds k ∧ nameB ds[k].1 = true ∧ 0 ≤ ds[k].2 ∧ ds[k].2 ≤ 4)) : ¬ OkNames bf.reverse ds := fun ho => by
  have h1 : OkNames bf.reverse (ds.take (k + 1)) := by
    rw [← List.take_append_drop (k + 1) ds] at ho
    exact ((OkNames_append _ _ _).1 ho).1
  exact hn ((OkNames_step h).1 h1).2
theorem owns_form' {w : World} {base : Nat} {v : Value} {l : List ByteArray} (h : w.ownsRow base 9 1 v l.length (strVals l)) :
    ∃ av cv, v = .slice av l.length cv ∧ l.length ≤ cv ∧ cv ≤ maxLen ∧ Hid ((l = [] ∧ av = none ∧ cv = 0) ∨ ∃ g, av = some ⟨g, 0, none⟩ ∧ base ≤ g ∧ g < w.heap.size ∧ ∀ j (hj : j < l.length), w.cell? ⟨g, j, none⟩ = some (.string l[j])) := by
  rcases owns_form h with ⟨rfl, rfl⟩ | ⟨g, cv, rfl, h1, h2, h3, h4, h5⟩
  · exact ⟨none, 0, rfl, by simp, by simp, Lib.hid (.inl ⟨rfl, rfl, rfl⟩)⟩
  · exact ⟨_, cv, rfl, h1, h2, Lib.hid (.inr ⟨g, rfl, h3, h4, h5⟩)⟩

theorem ownsRow_wider {w : World} {b b' : Nat} {e : TypeId} {size : Nat} {v : Value} {n : Nat} {xs : List Value} (hb : b' ≤ b) (h : w.ownsRow b e size v n xs) : w.ownsRow b' e size v n xs := by
  refine ⟨h.1, ?_⟩
  rcases h.2 with h2 | ⟨g, cap, cur, h2, h3, h4⟩
  · exact .inl h2
  · exact .inr ⟨g, cap, cur, h2, by omega, h4⟩
theorem app1_run (W : World) (base : Nat) (v : Value) (cur : List ByteArray) (hl : cur.length ≤ 200) (h : W.ownsRow base 9 1 v cur.length (strVals cur)) :
    ∃ v1 W1, (Builtin.append_ #[85, 85] 85 #[.slice none 0 0, v]).run Tryz.prog W = .ok v1 W1 ∧ W1.ownsRow W.heap.size 9 1 v1 cur.length (strVals cur) ∧ W.grownBy W1 none := by
  obtain ⟨i0, hi, hz0, hz1, hz2⟩ := info_parts inf9
  rcases h.2 with ⟨rfl, h2⟩ | ⟨g, cap, cs, rfl, h3⟩
  · obtain rfl := List.length_eq_zero_iff.1 h2
    exact ⟨.slice none 0 0, W, by simp [Builtin.append_, run_underlying u85, sizeOf, typeInfo, hi, Builtin.lenOf, Builtin.firstCells], W.ownsRow_nil _ _ _, World.grownBy.refl _ _⟩
  · obtain ⟨v1, W1, h4, h5, h6, h7⟩ := run_append_own (P := Tryz.prog) W W.heap.size 85 85 9 i0 (.string ByteArray.empty) 1 16 u85 hi hz0 hz1 hz2 rfl (by decide) (.slice none 0 0) 0 [] (W.ownsRow_nil _ _ _) ⟨g, 0, none⟩ cur.length cap (strVals cur) (by simp [strVals])
      (h.cells rfl) (fun u hu => by simp [strVals] at hu; obtain ⟨x, _, rfl⟩ := hu; rfl) (by unfold maxLen; omega) (by omega) (Nat.le_refl _)
    exact ⟨v1, W1, h4, by simpa using h5, h6⟩
theorem wp_builtin_append {P : Program} {o : Oper} {a : Act} {w : World} {K : Act → World → Prop} {Q : Exit → Act → World → Prop} {s x : Operand} {t : TypeId} {v y v1 : Value} {W1 : World}
    (ho : o.op = .call { callee := .builtin .append, args := #[s, x], argTypes := #[t, t] }) (hs : a.eval s = v) (hx : a.eval x = y) (hr : (Builtin.append_ #[t, t] o.type #[v, y]).run P w = .ok v1 W1) (h : K (a.put o.dst v1) W1) : o.wp P a w K Q := by
  unfold Oper.wp execOp
  simp only [ho, resolve, invoke, builtin, Sem.run_bind, Sem.run_pure, Result.andThen_ok, List.map_toArray, List.map_cons, List.map_nil, hs, hx, hr]
  exact h

set_option maxRecDepth 100000 in
set_option maxHeartbeats 1000000 in
theorem rnames_any (ds : List Nm) (n₀ : Nat) (w : World) (a : Option Addr) (l c : Nat) (hs : IsNames n₀ w ds a l c) (hn : n₀ ≤ w.heap.size) (bf : List ByteArray) (base : Nat) (v : Value)
    (hv : w.ownsRow base 9 1 v bf.length (strVals bf)) (hbase : base ≤ w.heap.size) (hlen : ds.length ≤ 100 ∧ bf.length ≤ 100) :
    Calls Tryz.prog 59 #[.slice a l c, v] w fun e w' => ((OkNames bf.reverse ds ∧ ∃ v', e = .returned (.tuple #[v', .bool true]) ∧ w'.ownsRow base 9 1 v' (bf ++ ds.map (·.1)).length (strVals (bf ++ ds.map (·.1)))) ∨ (¬ OkNames bf.reverse ds ∧ e = .returned (.tuple #[.slice none 0 0, .bool false]))) ∧ Below w.heap.size w w' := by
  obtain ⟨rfl, h1, h2, hk⟩ := hs
  have hnm := fun s W hs => name_any s W hs
  replace hnm := Lib.hid hnm
  have hin := fun n W => in_any n 0 4 W
  replace hin := Lib.hid hin
  replace hk := Lib.hid hk
  go_enter Tryz.func59, Tryz.ntmps59
  go_wp2_with fail
  go_loopw [1, 6, 7] (fun v i _ wi => ∃ k : Nat, k ≤ ds.length ∧ i = .int .i64 k ∧ Hid (OkNames bf.reverse (ds.take k)) ∧ Hid (wi.ownsRow base 9 1 v (curN bf ds k).length (strVals (curN bf ds k))) ∧ Hid (Below w.heap.size w wi)) (fun _ i _ _ => ds.length - (intOf i).toNat)
  case atStart => exact ⟨0, by omega, rfl, Lib.hid (by simp [OkNames]), Lib.hid (by simpa [curN] using hv), Lib.hid (Below.refl _ _)⟩
  case round =>
    obtain ⟨k, hkk, rfl, hok, hown, hb⟩ := hrel
    clear hv
    by_cases hp : k < ds.length
    · have o1 : (k : Int) < (ds.length : Int) := by omega
      have hcl : (curN bf ds k).length ≤ 200 := by simp [curN]; omega
      obtain ⟨b, off, ha, hbn, hks⟩ : ∃ b off, a = some ⟨b, off, none⟩ ∧ b < n₀ ∧ Hid (∀ (k : Nat) (h : k < ds.length), w.cell? ⟨b, off + k * 2, none⟩ = some (.string ds[k].1) ∧ w.cell? ⟨b, off + k * 2 + 1, none⟩ = some (.int .i64 ds[k].2) ∧ ds[k].1.size ≤ 140737488351232) := by
        rcases hk.out with hk | ⟨b, off, ha, hbn, hks⟩
        · rw [hk] at hp; simp at hp
        · exact ⟨b, off, ha, hbn, Lib.hid hks⟩
      subst ha
      clear hk
      have hx := Lib.hid (List.take_succ_eq_append_getElem hp)
      obtain ⟨nm, hnm'⟩ : ∃ x, x = ds[k].1 := ⟨_, rfl⟩
      obtain ⟨ar, har⟩ : ∃ x, x = ds[k].2 := ⟨_, rfl⟩
      have c0 := (hb.out.cell (p := ⟨b, off + k * 2, none⟩) (show b < w.heap.size by omega)).trans (hks.out k hp).1
      have c1 := (hb.out.cell (p := ⟨b, off + k * 2 + 1, none⟩) (show b < w.heap.size by omega)).trans (hks.out k hp).2.1
      rw [← hnm'] at c0
      rw [← har] at c1
      have hsz := (hks.out k hp).2.2
      rw [← hnm'] at hsz
      replace hnm' := Lib.hid hnm'
      replace har := Lib.hid har
      obtain ⟨cur, hcur⟩ : ∃ x, x = curN bf ds k := ⟨_, rfl⟩
      rw [← hcur] at hcl hown
      replace hcur := Lib.hid hcur
      obtain ⟨av, cv, rfl, hcv, hcm, hcs⟩ := owns_form' hown.out
      go_wp2_with fail
      go_loopw [7] (fun q wj => ∃ m : Nat, m ≤ cur.length ∧ q = .int .i64 m ∧ Hid (wj.ownsRow base 9 1 (.slice av cur.length cv) cur.length (strVals cur)) ∧ Hid (Below w.heap.size w wj) ∧ Hid (∀ j (hj : j < cur.length), j < m → cur[j] ≠ nm)) (fun q _ => cur.length - (intOf q).toNat)
      case atStart => exact ⟨0, by omega, rfl, hown, hb, Lib.hid (fun j hj h => by omega)⟩
      case round =>
        clear hcs hown hb c0 c1
        rename_i wr
        obtain ⟨m, hm, rfl, hown, hb, hall⟩ := hrel
        have c0 := (hb.out.cell (p := ⟨b, off + k * 2, none⟩) (show b < w.heap.size by omega)).trans (hks.out k hp).1
        have c1 := (hb.out.cell (p := ⟨b, off + k * 2 + 1, none⟩) (show b < w.heap.size by omega)).trans (hks.out k hp).2.1
        rw [← hnm'.out] at c0
        rw [← har.out] at c1
        obtain ⟨av', cv', hve, hcv', hcm', hcs⟩ := owns_form' hown.out
        simp only [Value.slice.injEq] at hve
        obtain ⟨rfl, -, rfl⟩ := hve
        clear hcv' hcm'
        by_cases hq : m < cur.length
        · have o2 : (m : Int) < (cur.length : Int) := by omega
          obtain ⟨g, rfl, hgb, hgl, hcells⟩ : ∃ g, av = some ⟨g, 0, none⟩ ∧ base ≤ g ∧ g < wr.heap.size ∧ Hid (∀ j (hj : j < cur.length), wr.cell? ⟨g, j, none⟩ = some (.string cur[j])) := by
            rcases hcs.out with ⟨h0, _⟩ | ⟨g, h3, h4, h5, h6⟩
            · rw [h0] at hq; simp at hq
            · exact ⟨g, h3, h4, h5, Lib.hid h6⟩
          have c2 := hcells.out m hq
          obtain ⟨cm, hcm'⟩ : ∃ x, x = cur[m] := ⟨_, rfl⟩
          rw [← hcm'] at c2
          replace hcm' := Lib.hid hcm'
          by_cases he : cm = nm
          · have hno : Hid (¬ OkNames bf.reverse ds) := Lib.hid (OkNames_no hp (fun h => h.1 (by rw [← hnm'.out, ← he, hcm'.out, ← hcur.out]; exact List.getElem_mem hq)))
            subst he
            clear hall hcells hcs
            go_wp2_with fail
            go_quiet (fail)
            go_wp2_with fail
            refine bodyPost_ret (v := .tuple #[.slice none 0 0, .bool false]) (by simp [results, Tryz.f59, go_sem]) rfl ⟨.inr ⟨hno.out, rfl⟩, hb.out.trans (below_drewN _ _ _)⟩
          · have hall' : Hid (∀ j (hj : j < cur.length), j < m + 1 → cur[j] ≠ nm) := Lib.hid (fun j hj h => by
              by_cases e : j = m
              · subst e; rw [← hcm'.out]; exact he
              · exact hall.out j hj (by omega))
            have e1 : (cm.toList == nm.toList) = false := by
              rw [beq_eq_false_iff_ne]; exact fun h => he (toList_inj h)
            replace he := Lib.hid he
            clear hall hcells hcs
            go_wp2_with fail
            go_quiet (fail)
            go_wp2_with fail
            go_roundw
            case rel => exact ⟨m + 1, by omega, by go_num, hown, Lib.hid (hb.out.trans (below_drewN _ _ _)), hall'⟩
            case measure => simp [intOf]; omega
        · have hnotin : Hid (nm ∉ cur) := Lib.hid (fun hmem => by
            obtain ⟨j, hj, e⟩ := List.getElem_of_mem hmem
            exact hall.out j hj (by omega) e)
          have o2 : ¬ (m : Int) < (cur.length : Int) := by omega
          clear hall
          cases hnb : nameB nm
          · have hno : Hid (¬ OkNames bf.reverse ds) := Lib.hid (OkNames_no hp (fun h => by rw [← hnm'.out, hnb] at h; simp at h))
            clear hcs
            go_wp2_with (go_at_call 90; refine (hnm.out nm _ hsz).mono ?_; rintro e w' ⟨rfl, rfl⟩)
            refine bodyPost_ret (v := .tuple #[.slice none 0 0, .bool false]) (by simp [results, Tryz.f59, go_sem]) rfl ⟨.inr ⟨hno.out, rfl⟩, hb.out⟩
          cases hib : inB ar 0 4
          · have hno : Hid (¬ OkNames bf.reverse ds) := Lib.hid (OkNames_no hp (fun h => by rw [← har.out] at h; simp [inB] at hib; omega))
            clear hcs
            go_wp2_with (first | (go_at_call 90; refine (hnm.out nm _ hsz).mono ?_; rintro e w' ⟨rfl, rfl⟩) | (go_at_call 58; refine (hin.out ar _).mono ?_; rintro e w' ⟨rfl, rfl⟩))
            refine bodyPost_ret (v := .tuple #[.slice none 0 0, .bool false]) (by simp [results, Tryz.f59, go_sem]) rfl ⟨.inr ⟨hno.out, rfl⟩, hb.out⟩
          have hstep : Hid (OkNames bf.reverse (ds.take (k + 1))) := Lib.hid ((OkNames_step hp).2 ⟨hok.out, by rw [← hnm'.out, ← hcur.out]; exact hnotin.out, by rw [← hnm'.out]; exact hnb, by rw [← har.out]; simp [inB] at hib; omega⟩)
          have hnext : Hid (curN bf ds (k + 1) = cur ++ [nm]) := Lib.hid (by rw [curN, hx.out, List.map_append, ← List.append_assoc, hcur.out, curN, hnm'.out]; rfl)
          obtain ⟨i0, hi, hz0, hz1, hz2⟩ := info_parts inf9
          clear hcs hnotin
          go_upto_region 11 with (first | (go_at_call 90; refine (hnm.out nm _ hsz).mono ?_; rintro e w' ⟨rfl, rfl⟩) | (go_at_call 58; refine (hin.out ar _).mono ?_; rintro e w' ⟨rfl, rfl⟩))
          have hcell : Hid (∀ W', Below w.heap.size wr W' → W'.cell? ⟨b, off + k * 2, none⟩ = some (.string nm)) := Lib.hid (fun W' h => (h.cell (p := ⟨b, off + k * 2, none⟩) (show b < w.heap.size by omega)).trans c0)
          clear c0 c1
          have hwr := hb.out.size
          refine region_named (S := fun W' => Below w.heap.size wr W') (by kernel_rfl) (fun W hW => ?_)
          have hq : Hid (Below w.heap.size wr W) := Lib.hid (by rw [hW]; exact (Below.refl _ _).drew)
          replace hown : Hid (W.ownsRow base 9 1 (.slice av cur.length cv) cur.length (strVals cur)) := Lib.hid (by rw [hW]; exact hown.out)
          have hWs : w.heap.size ≤ W.heap.size := by rw [hW]; exact hwr
          clear hW
          refine takeH 0 46 (.slice av cur.length cv) rfl rfl (by kernel_rfl) (by kernel_rfl) (by kernel_rfl) (fun _ _ _ h => h) (by rfl) (by intro W hSw; clear hSw; go_simp) hq.out ?_
          try simp only [List.setIfInBounds_toArray, List.set_cons_zero, List.set_cons_succ]
          refine takeH 2 48 (.slice (some ⟨b, off, none⟩) ds.length c) rfl rfl (by kernel_rfl) (by kernel_rfl) (by kernel_rfl) (fun _ _ _ h => h) (by rfl) (by intro W hSw; clear hSw; go_simp) hq.out ?_
          try simp only [List.setIfInBounds_toArray, List.set_cons_zero, List.set_cons_succ]
          refine takeH 3 49 (.int .i64 k) rfl rfl (by kernel_rfl) (by kernel_rfl) (by kernel_rfl) (fun _ _ _ h => h) (by rfl) (by intro W hSw; clear hSw; go_simp) hq.out ?_
          try simp only [List.setIfInBounds_toArray, List.set_cons_zero, List.set_cons_succ]
          refine takeH 4 50 (.pointer (some ⟨b, off + k * 2, none⟩)) rfl rfl (by kernel_rfl) (by kernel_rfl) (by kernel_rfl) (fun _ _ _ h => h) (by rfl) (by intro W hSw; clear hSw; go_simp) hq.out ?_
          try simp only [List.setIfInBounds_toArray, List.set_cons_zero, List.set_cons_succ]
          refine takeH 5 51 (.pointer (some ⟨b, off + k * 2, none⟩)) rfl rfl (by kernel_rfl) (by kernel_rfl) (by kernel_rfl) (fun _ _ _ h => h) (by rfl) (by intro W hSw; clear hSw; go_simp) hq.out ?_
          try simp only [List.setIfInBounds_toArray, List.set_cons_zero, List.set_cons_succ]
          refine takeH 6 52 (.string nm) rfl rfl (by kernel_rfl) (by kernel_rfl) (by kernel_rfl) (fun _ _ _ h => h) (by rfl) (by intro W hSw; have j := hcell.out W hSw; clear hSw; go_simp) hq.out ?_
          try simp only [List.setIfInBounds_toArray, List.set_cons_zero, List.set_cons_succ]
          refine wpAnyH_ready (rs := [1, 7]) (by kernel_rfl) (by simp) ?_
          refine AllReadyH.cons rfl (fun K hKc => ?_) (AllReadyH.cons rfl (fun K hKc => ?_) AllReadyH.nil)
          · rw [if_pos (by rfl)]
            obtain ⟨v1, W1, hr1, ho1, hg1⟩ := app1_run W base (.slice av cur.length cv) cur hcl hown.out
            refine wp_builtin_append rfl rfl rfl hr1 ?_
            replace hq := Lib.hid (hq.out.grown hg1 hWs (fun q hq => by cases hq))
            have hWs1 : W.heap.size ≤ W1.heap.size := hg1.size
            refine hKc _ _ hq.out (fun _ => ?_)
            clear hKc K hr1
            try simp only [Act.put, List.setIfInBounds_toArray]
            refine wpAnyH_ready (rs := [7]) (by kernel_rfl) (by simp) ?_
            refine AllReadyH.cons rfl (fun K hKc => ?_) AllReadyH.nil
            go_simp
            replace hq := Lib.hid (hq.out.alloc (by omega) (.cells #[.string nm] 9))
            refine hKc _ _ hq.out (fun _ => ?_)
            clear hKc K
            try simp only [Act.put, List.setIfInBounds_toArray, List.set_cons_zero, List.set_cons_succ]
            refine wpAnyH_ready (rs := [8]) (by kernel_rfl) (by simp) ?_
            refine AllReadyH.cons rfl (fun K hKc => ?_) AllReadyH.nil
            rw [if_pos (by rfl)]
            refine wp_append_own _ _ _ 85 rfl W.heap.size 9 i0 (.string ByteArray.empty) 1 16 u85 hi hz0 hz1 hz2 rfl (by decide) v1 cur.length (strVals cur) rfl (ho1.alloc _) ⟨W1.heap.size, 0, none⟩ 1 1 [.string nm] rfl rfl (cell_one_new _ _ _) (fun x hx => by simp at hx; subst hx; rfl) (by unfold maxLen; omega) (by omega) (by first | omega | (simp; omega)) ?_
            intro v2 W2 ho2 hg2 _
            replace hq := Lib.hid (hq.out.grown hg2 (by first | omega | (simp; omega)) (fun q hq => by have := (ho1.lt q hq).1; first | omega | (simp at this; omega)))
            have hfin : Hid (W2.ownsRow base 9 1 v2 (curN bf ds (k + 1)).length (strVals (curN bf ds (k + 1)))) := Lib.hid (by
              rw [hnext.out, List.length_append, strVals, List.map_append]
              exact ownsRow_wider (by first | omega | (simp; omega)) ho2)
            refine hKc _ _ hq.out (fun _ => ?_)
            clear hKc K ho1 ho2 hg1 hg2
            try simp only [Act.put, List.setIfInBounds_toArray]
            refine takeH 9 1 v2 rfl rfl (by kernel_rfl) (by kernel_rfl) (by kernel_rfl) (fun _ _ _ h => h) (by rfl) (by intro W hSw; clear hSw; go_simp) hq.out ?_
            try simp only [List.setIfInBounds_toArray, List.set_cons_zero, List.set_cons_succ]
            refine wpAnyH_done (by kernel_rfl) ?_ _
            go_wp2_with fail
            go_roundw
            case rel => exact ⟨k + 1, by omega, by go_num, hstep, hfin, Lib.hid (hb.out.trans hq.out)⟩
            case measure => simp [intOf]; omega

          · go_simp
            replace hq := Lib.hid (hq.out.alloc hWs (.cells #[.string nm] 9))
            refine hKc _ _ hq.out (fun _ => ?_)
            clear hKc K
            try simp only [Act.put, List.setIfInBounds_toArray, List.set_cons_zero, List.set_cons_succ]
            refine wpAnyH_ready (rs := [1]) (by kernel_rfl) (by simp) ?_
            refine AllReadyH.cons rfl (fun K hKc => ?_) AllReadyH.nil
            rw [if_pos (by rfl)]
            obtain ⟨v1, W1, hr1, ho1, hg1⟩ := app1_run (W.alloc (.cells #[.string nm] 9)) base (.slice av cur.length cv) cur hcl (hown.out.alloc _)
            refine wp_builtin_append rfl rfl rfl hr1 ?_
            replace hq := Lib.hid (hq.out.grown hg1 (by simp; omega) (fun q hq => by cases hq))
            have hWs1 : W.heap.size + 1 ≤ W1.heap.size := by have := hg1.size; simpa using this
            refine hKc _ _ hq.out (fun _ => ?_)
            clear hKc K hr1
            try simp only [Act.put, List.setIfInBounds_toArray]
            refine wpAnyH_ready (rs := [8]) (by kernel_rfl) (by simp) ?_
            refine AllReadyH.cons rfl (fun K hKc => ?_) AllReadyH.nil
            rw [if_pos (by rfl)]
            refine wp_append_own _ _ _ 85 rfl (W.alloc (.cells #[.string nm] 9)).heap.size 9 i0 (.string ByteArray.empty) 1 16 u85 hi hz0 hz1 hz2 rfl (by decide) v1 cur.length (strVals cur) rfl ho1 ⟨W.heap.size, 0, none⟩ 1 1 [.string nm] rfl rfl (fun j u hj => hg1.cell (cell_one_new W (.string nm) 9 j u hj) (fun h => by cases h)) (fun x hx => by simp at hx; subst hx; rfl) (by unfold maxLen; omega) (by omega) (by first | omega | (simp; omega)) ?_
            intro v2 W2 ho2 hg2 _
            replace hq := Lib.hid (hq.out.grown hg2 (by first | omega | (simp; omega)) (fun q hq => by have := (ho1.lt q hq).1; first | omega | (simp at this; omega)))
            have hfin : Hid (W2.ownsRow base 9 1 v2 (curN bf ds (k + 1)).length (strVals (curN bf ds (k + 1)))) := Lib.hid (by
              rw [hnext.out, List.length_append, strVals, List.map_append]
              exact ownsRow_wider (by first | omega | (simp; omega)) ho2)
            refine hKc _ _ hq.out (fun _ => ?_)
            clear hKc K ho1 ho2 hg1 hg2
            try simp only [Act.put]
            refine takeH 9 1 v2 rfl rfl (by kernel_rfl) (by kernel_rfl) (by kernel_rfl) (fun _ _ _ h => h) (by rfl) (by intro W hSw; clear hSw; go_simp) hq.out ?_
            try simp only [List.setIfInBounds_toArray, List.set_cons_zero, List.set_cons_succ]
            refine wpAnyH_done (by kernel_rfl) ?_ _
            go_wp2_with fail
            go_roundw
            case rel => exact ⟨k + 1, by omega, by go_num, hstep, hfin, Lib.hid (hb.out.trans hq.out)⟩
            case measure => simp [intOf]; omega

    · have hke : k = ds.length := by omega
      subst hke
      have o1 : ¬ ((ds.length : Int) < (ds.length : Int)) := by omega
      have hfin : Hid (OkNames bf.reverse ds) := Lib.hid (by simpa using hok.out)
      replace hown : Hid (wr.ownsRow base 9 1 u1 (bf ++ ds.map (·.1)).length (strVals (bf ++ ds.map (·.1)))) := Lib.hid (by simpa [curN] using hown.out)
      clear hk hok
      go_wp2_with fail
      refine bodyPost_ret (v := .tuple #[u1, .bool true]) (by simp [results, Tryz.f59, go_sem]) rfl ⟨.inl ⟨hfin.out, u1, rfl, by have := hown.out; simpa using this⟩, hb.out⟩

end Go.Proofs.YtaieplfegngjnaaGreat

namespace Go.Proofs.YtaieplfegngjnaaGreat
open Go.RowKit Go.Shelf

set_option maxRecDepth 100000 in
set_option maxHeartbeats 2000000 in
theorem Sig_any (s : Sg) (n₀ : Nat) (w : World) (ac : Option Addr) (lc cc : Nat) (af : Option Addr) (lf cf : Nat) (hs : IsSg n₀ w s ac lc cc af lf cf) (hn : n₀ ≤ w.heap.size) :
    Calls Tryz.prog 18 #[.agg #[.slice ac lc cc, .slice af lf cf]] w fun e w' => e = .returned (.bool (sigB s)) ∧ Below w.heap.size w w' := by
  obtain ⟨rfl, hc1, hc2, hk⟩ := hs.cons
  obtain ⟨rfl, hf1, hf2, hkf⟩ := hs.funs
  have hb1 : Below w.heap.size w (w.alloc (.cells #[.slice ac s.cons.length cc, .slice af s.funs.length cf] 24)) := (Below.refl _ _).alloc (Nat.le_refl _) _
  have hin := fun W => in_any (s.cons.length : Nat) 2 12 W
  replace hin := Lib.hid hin
  by_cases hi : inB (s.cons.length : Nat) 2 12 = true
  rotate_left
  · replace hi : inB (s.cons.length : Nat) 2 12 = false := Bool.eq_false_iff.2 hi
    have hv := Lib.hid (sigB_false (s := s) (fun h => by have h3 := h.1; have h4 := h.2.1; simp [inB] at hi; omega))
    clear hk hkf hs
    go_enter Tryz.func18, Tryz.ntmps18
    go_wp2_with (go_at_call 58; refine (hin.out _).mono ?_; rintro e w' ⟨rfl, rfl⟩)
    go_ret
    exact ⟨by rw [hv.out]; rfl, hb1⟩
  have h2 : 2 ≤ s.cons.length := by simp [inB] at hi; omega
  have h12 : s.cons.length ≤ 12 := by simp [inB] at hi; omega
  by_cases h8 : s.funs.length ≤ 8
  rotate_left
  · have hv := Lib.hid (sigB_false (s := s) (fun h => h8 h.2.2.1))
    clear hk hkf hs
    go_enter Tryz.func18, Tryz.ntmps18
    go_wp2_with (go_at_call 58; refine (hin.out _).mono ?_; rintro e w' ⟨rfl, rfl⟩)
    go_ret
    exact ⟨by rw [hv.out]; rfl, hb1⟩
  rcases hk with hk | ⟨b, off, rfl, hbn, hks⟩
  · rw [hk] at h2; simp at h2
  have k0 := hks 0 (by omega)
  have k1 := hks 1 (by omega)
  have g0 := (hb1.cell (p := ⟨b, off + 0 * 2, none⟩) (show b < w.heap.size by omega)).trans k0.1
  have g1 := (hb1.cell (p := ⟨b, off + 0 * 2 + 1, none⟩) (show b < w.heap.size by omega)).trans k0.2.1
  have g2 := (hb1.cell (p := ⟨b, off + 1 * 2, none⟩) (show b < w.heap.size by omega)).trans k1.1
  have g3 := (hb1.cell (p := ⟨b, off + 1 * 2 + 1, none⟩) (show b < w.heap.size by omega)).trans k1.2.1
  simp only [Nat.zero_mul, Nat.one_mul, Nat.add_zero] at g0 g1 g2 g3
  have gs0 : s.cons[0]? = some s.cons[0] := List.getElem?_eq_getElem (by omega)
  have gs1 : s.cons[1]? = some s.cons[1] := List.getElem?_eq_getElem (by omega)
  replace gs0 := Lib.hid gs0
  replace gs1 := Lib.hid gs1
  by_cases e0 : s.cons[0].1.toList = [70, 97, 108, 115, 101]
  rotate_left
  · have hv := Lib.hid (sigB_false (s := s) (fun h => e0 (by have := h.2.2.2.1; rw [gs0.out] at this; injection this with this; rw [this]; exact sFalse_list)))
    clear hkf hs hks k0 k1
    go_enter Tryz.func18, Tryz.ntmps18
    go_wp2_with (go_at_call 58; refine (hin.out _).mono ?_; rintro e w' ⟨rfl, rfl⟩)
    go_ret
    exact ⟨by rw [hv.out]; rfl, hb1⟩
  by_cases e1 : s.cons[0].2 = 0
  rotate_left
  · have hv := Lib.hid (sigB_false (s := s) (fun h => e1 (by have := h.2.2.2.1; rw [gs0.out] at this; injection this with this; rw [this])))
    clear hkf hs hks k0 k1
    go_enter Tryz.func18, Tryz.ntmps18
    go_wp2_with (go_at_call 58; refine (hin.out _).mono ?_; rintro e w' ⟨rfl, rfl⟩)
    go_ret
    exact ⟨by rw [hv.out]; rfl, hb1⟩
  by_cases e2 : s.cons[1].1.toList = [84, 114, 117, 101]
  rotate_left
  · have hv := Lib.hid (sigB_false (s := s) (fun h => e2 (by have := h.2.2.2.2.1; rw [gs1.out] at this; injection this with this; rw [this]; exact sTrue_list)))
    clear hkf hs hks k0 k1
    go_enter Tryz.func18, Tryz.ntmps18
    go_wp2_with (go_at_call 58; refine (hin.out _).mono ?_; rintro e w' ⟨rfl, rfl⟩)
    go_ret
    exact ⟨by rw [hv.out]; rfl, hb1⟩
  by_cases e3 : s.cons[1].2 = 0
  rotate_left
  · have hv := Lib.hid (sigB_false (s := s) (fun h => e3 (by have := h.2.2.2.2.1; rw [gs1.out] at this; injection this with this; rw [this])))
    clear hkf hs hks k0 k1
    go_enter Tryz.func18, Tryz.ntmps18
    go_wp2_with (go_at_call 58; refine (hin.out _).mono ?_; rintro e w' ⟨rfl, rfl⟩)
    go_ret
    exact ⟨by rw [hv.out]; rfl, hb1⟩
  have hv : Hid (SigOk s ↔ OkNames [] (s.cons ++ s.funs)) := Lib.hid ⟨fun h => h.2.2.2.2.2, fun h => ⟨h2, h12, h8, by rw [gs0.out, show s.cons[0] = (sFalse, 0) from Prod.ext (toList_inj (e0.trans sFalse_list.symm)) e1], by rw [gs1.out, show s.cons[1] = (sTrue, 0) from Prod.ext (toList_inj (e2.trans sTrue_list.symm)) e3], h⟩⟩
  have o16 : s.cons.length ≤ 100 := by omega
  obtain ⟨w1, hw1⟩ : ∃ w1, w1 = (w.alloc (.cells #[.slice (some ⟨b, off, none⟩) s.cons.length cc, .slice af s.funs.length cf] 24)) := ⟨_, rfl⟩
  have f0 : w1.cell? ⟨w.heap.size, 0, none⟩ = some (.slice (some ⟨b, off, none⟩) s.cons.length cc) := by rw [hw1]; go_cell
  have f1 : w1.cell? ⟨w.heap.size, 1, none⟩ = some (.slice af s.funs.length cf) := by rw [hw1]; go_cell
  have hz : w1.heap.size = w.heap.size + 1 := by rw [hw1]; simp
  have hC := rnames_any s.cons n₀ w1 (some ⟨b, off, none⟩) s.cons.length cc (by rw [hw1]; exact hs.cons.below (hb1.mono hn)) (by omega) [] w1.heap.size (.slice none 0 0) (World.ownsRow_nil _ _ _ _) (Nat.le_refl _) ⟨o16, by simp⟩
  replace hC := Lib.hid hC
  have hb1' : Hid (Below w.heap.size w w1) := Lib.hid (by rw [hw1]; exact hb1)
  have hsf := Lib.hid hs.funs
  clear hs hkf hks k0 k1
  go_enter Tryz.func18, Tryz.ntmps18
  subst hw1
  go_wp2_with (first | (go_at_call 58; refine (hin.out _).mono ?_; rintro e w' ⟨rfl, rfl⟩))
  refine (hC.out).mono ?_
  rintro e w2 ⟨⟨hok, v', rfl, hown⟩ | ⟨hno, rfl⟩, hbe⟩
  · have f2 : w2.cell? ⟨w.heap.size, 1, none⟩ = some (.slice af s.funs.length cf) := (hbe.cell (p := ⟨w.heap.size, 1, none⟩) (by simp)).trans f1
    have hnf : IsNames n₀ w2 s.funs af s.funs.length cf := (hsf.out.below (hb1.mono hn)).below (hbe.mono (by simp; omega))
    have hsz := hbe.size
    simp only [List.nil_append] at hown
    have hD := rnames_any s.funs n₀ w2 af s.funs.length cf hnf (by simp at hsz; omega) (s.cons.map (·.1)) _ v' hown (by simpa using hsz) ⟨by omega, by simpa using o16⟩
    replace hD := Lib.hid hD
    replace hbe := Lib.hid hbe
    replace hok := Lib.hid hok
    clear f0 f1 hnf hsf hC g0 g1 g2 g3 hown
    go_wp2_with fail
    refine (hD.out).mono ?_
    have hiff : SigOk s ↔ OkNames (s.cons.map (·.1)).reverse s.funs := by
      rw [hv.out, OkNames_append, nmsR_eq, List.append_nil]
      exact ⟨fun h => h.2, fun h => ⟨hok.out, h⟩⟩
    replace hiff := Lib.hid hiff
    rintro e w3 ⟨⟨hok2, v2, rfl, -⟩ | ⟨hno, rfl⟩, hbe2⟩
    · have hv' := Lib.hid (sigB_true (hiff.out.2 hok2))
      replace hbe2 := Lib.hid hbe2
      clear hok2
      go_wp2_with fail
      go_ret
      exact ⟨by rw [hv'.out]; rfl, hb1'.out.trans ((hbe.out.mono (by simp)).trans (hbe2.out.mono (by simp at hsz; omega)))⟩
    · have hv' := Lib.hid (sigB_false (fun h => hno (hiff.out.1 h)))
      replace hbe2 := Lib.hid hbe2
      clear hno
      go_wp2_with fail
      go_ret
      exact ⟨by rw [hv'.out]; rfl, hb1'.out.trans ((hbe.out.mono (by simp)).trans (hbe2.out.mono (by simp at hsz; omega)))⟩
  · have hv' := Lib.hid (sigB_false (fun h => hno (by simpa using OkNames_prefix (hv.out.1 h))))
    replace hbe := Lib.hid hbe
    clear hno f0 f1 hsf hC g0 g1 g2 g3
    go_wp2_with fail
    go_ret
    exact ⟨by rw [hv'.out]; rfl, hb1'.out.trans (hbe.out.mono (by simp))⟩

end Go.Proofs.YtaieplfegngjnaaGreat

namespace Go.Proofs.YtaieplfegngjnaaGreat
open Go.RowKit Go.Shelf Go.Sort

theorem three_lies {n₀ : Nat} {w : World} {d x y : DT} (h1 : Lies n₀ w d) (h2 : Lies n₀ w x) (h3 : Lies n₀ w y) (hn : n₀ ≤ w.heap.size) :
    LiesAll (w.heap.size + 1) (w.alloc (.cells #[.int .i64 d.op, .int .i64 d.n, .slice d.a d.l d.c, .int .i64 x.op, .int .i64 x.n, .slice x.a x.l x.c, .int .i64 y.op, .int .i64 y.n, .slice y.a y.l y.c] 28)) [d, x, y] w.heap.size 0 := by
  have hb : Below n₀ w (w.alloc (.cells #[.int .i64 d.op, .int .i64 d.n, .slice d.a d.l d.c, .int .i64 x.op, .int .i64 x.n, .slice x.a x.l x.c, .int .i64 y.op, .int .i64 y.n, .slice y.a y.l y.c] 28)) := (Below.refl _ _).alloc hn _
  simp only [LiesAll]
  exact ⟨⟨⟨by go_cell, by go_cell, by go_cell⟩, (h1.below hb).wider (by omega)⟩, ⟨⟨by go_cell, by go_cell, by go_cell⟩, (h2.below hb).wider (by omega)⟩, ⟨⟨by go_cell, by go_cell, by go_cell⟩, (h3.below hb).wider (by omega)⟩, trivial⟩
theorem two_lies' {n₀ : Nat} {w : World} {d x : DT} (h1 : Lies n₀ w d) (h2 : Lies n₀ w x) (hn : n₀ ≤ w.heap.size) :
    LiesAll (w.heap.size + 1) (w.alloc (.cells #[.int .i64 d.op, .int .i64 d.n, .slice d.a d.l d.c, .int .i64 x.op, .int .i64 x.n, .slice x.a x.l x.c] 28)) [d, x] w.heap.size 0 := by
  have hb : Below n₀ w (w.alloc (.cells #[.int .i64 d.op, .int .i64 d.n, .slice d.a d.l d.c, .int .i64 x.op, .int .i64 x.n, .slice x.a x.l x.c] 28)) := (Below.refl _ _).alloc hn _
  simp only [LiesAll]
  exact ⟨⟨⟨by go_cell, by go_cell, by go_cell⟩, (h1.below hb).wider (by omega)⟩, ⟨⟨by go_cell, by go_cell, by go_cell⟩, (h2.below hb).wider (by omega)⟩, trivial⟩
theorem one_lies' {n₀ : Nat} {w : World} {d : DT} (h1 : Lies n₀ w d) (hn : n₀ ≤ w.heap.size) :
    LiesAll (w.heap.size + 1) (w.alloc (.cells #[.int .i64 d.op, .int .i64 d.n, .slice d.a d.l d.c] 28)) [d] w.heap.size 0 := by
  have hb : Below n₀ w (w.alloc (.cells #[.int .i64 d.op, .int .i64 d.n, .slice d.a d.l d.c] 28)) := (Below.refl _ _).alloc hn _
  simp only [LiesAll]
  exact ⟨⟨⟨by go_cell, by go_cell, by go_cell⟩, (h1.below hb).wider (by omega)⟩, trivial⟩

def smallDs (ds : List DT) : Bool := ds.all fun d => smallT d.tm
def formedDs (s : Sg) (ds : List DT) : Bool := ds.all fun d => formedB s d.tm
theorem all_no {ds : List DT} {f : DT → Bool} {k : Nat} (h : k < ds.length) (hf : f ds[k] = false) : ds.all f = false := List.all_eq_false.2 ⟨ds[k], List.getElem_mem h, by simp [hf]⟩
theorem all_yes {ds : List DT} {f : DT → Bool} (h : ∀ k (hk : k < ds.length), f ds[k] = true) : ds.all f = true := by
  rw [List.all_eq_true]
  intro x hx
  obtain ⟨k, hk, rfl⟩ := List.getElem_of_mem hx
  exact h k hk

/-- The box of the signature. -/
theorem box_sig {w W : World} {ac : Option Addr} {lc cc : Nat} {af : Option Addr} {lf cf : Nat} (h : Below (w.heap.size + 1) (w.alloc (.cells #[.slice ac lc cc, .slice af lf cf] 24)) W) :
    W.cell? ⟨w.heap.size, 0, none⟩ = some (.slice ac lc cc) ∧ W.cell? ⟨w.heap.size, 1, none⟩ = some (.slice af lf cf) ∧ Below w.heap.size w W ∧ w.heap.size + 1 ≤ W.heap.size := by
  refine ⟨?_, ?_, ((Below.refl _ w).alloc (Nat.le_refl _) _).trans (h.mono (Nat.le_succ _)), by have := h.size; simpa using this⟩
  · rw [h.cell (by simp)]; go_cell
  · rw [h.cell (by simp)]; go_cell

set_option maxRecDepth 100000 in
set_option maxHeartbeats 1000000 in
theorem small_any (s : Sg) (ds : List DT) (n₀ : Nat) (w : World) (ac : Option Addr) (lc cc : Nat) (af : Option Addr) (lf cf : Nat) (b off c : Nat) (hs : IsSg n₀ w s ac lc cc af lf cf) (hL : LiesAll n₀ w ds b off) (hbn : b < n₀) (hc : ds.length ≤ c ∧ c ≤ 1000) (hn : n₀ ≤ w.heap.size) :
    Calls Tryz.prog 11 #[.agg #[.slice ac lc cc, .slice af lf cf], .slice (some ⟨b, off, none⟩) ds.length c] w fun e w' => e = .returned (.bool (smallDs ds && smallB s)) ∧ Below w.heap.size w w' := by
  replace hs := Lib.hid hs
  replace hL := Lib.hid hL
  go_enter Tryz.func11, Tryz.ntmps11
  go_wp2_with fail
  go_loopw [5] (fun i wi => ∃ k : Nat, k ≤ ds.length ∧ i = .int .i64 k ∧ Hid (Below (w.heap.size + 1) (w.alloc (.cells #[.slice ac lc cc, .slice af lf cf] 24)) wi) ∧ Hid (∀ j (hj : j < ds.length), j < k → smallT ds[j].tm = true)) (fun i _ => ds.length - (intOf i).toNat)
  case atStart => exact ⟨0, by omega, rfl, Lib.hid (Below.refl _ _), Lib.hid (fun j h h0 => by omega)⟩
  case round =>
    obtain ⟨k, hkk, rfl, hb, hall⟩ := hrel
    obtain ⟨s0, s1, hbw, hz⟩ := box_sig hb.out
    replace hbw := Lib.hid hbw
    by_cases hp : k < ds.length
    · have o1 : (k : Int) < (ds.length : Int) := by omega
      obtain ⟨q2, q3⟩ := LiesAll.get _ (LiesAll.below (hbw.out.mono hn) _ hbn hL.out) k hp
      obtain ⟨p0, p1, p2⟩ := q2
      have hC := Small_any ds[k].tm n₀ wr ds[k].a ds[k].l ds[k].c (Lies.isTm _ q3) (by omega)
      rw [show decide (0 ≤ weigh ds[k].tm 50 14) = smallT ds[k].tm from rfl, DT.tm_op, DT.tm_n] at hC
      clear q3
      cases he : smallT ds[k].tm
      · have hv : Hid (smallDs ds = false) := Lib.hid (all_no hp he)
        rw [he] at hC
        replace hC := Lib.hid hC
        clear hall he
        go_wp2_with (go_at_call 31; refine (hC.out).mono ?_; rintro e w1 ⟨rfl, hbe⟩)
        go_ret
        exact ⟨by rw [hv.out]; rfl, hbw.out.trans (hbe.mono (by omega))⟩
      · have hall' : Hid (∀ j (hj : j < ds.length), j < k + 1 → smallT ds[j].tm = true) := Lib.hid (fun j hj h => by
          by_cases e : j = k
          · subst e; exact he
          · exact hall.out j hj (by omega))
        rw [he] at hC
        replace hC := Lib.hid hC
        clear hall he
        go_wp2_with (go_at_call 31; refine (hC.out).mono ?_; rintro e w1 ⟨rfl, hbe⟩)
        go_roundw
        case rel => exact ⟨k + 1, by omega, by go_num, Lib.hid (hb.out.trans (hbe.mono (by omega))), hall'⟩
        case measure => simp [intOf]; omega
    · have o1 : ¬ (k : Int) < (ds.length : Int) := by omega
      have hv : Hid (smallDs ds = true) := Lib.hid (all_yes fun j hj => hall.out j hj (by omega))
      have hC := SmallSig_any s n₀ wr ac lc cc af lf cf (hs.out.below (hbw.out.mono hn)) (by omega)
      replace hC := Lib.hid hC
      clear hall
      go_wp2_with (go_at_call 47; refine (hC.out).mono ?_; rintro e w1 ⟨rfl, hbe⟩)
      go_ret
      exact ⟨by rw [hv.out]; rfl, hbw.out.trans (hbe.mono (by omega))⟩

set_option maxRecDepth 100000 in
set_option maxHeartbeats 1000000 in
theorem given_any (s : Sg) (ds : List DT) (n₀ : Nat) (w : World) (ac : Option Addr) (lc cc : Nat) (af : Option Addr) (lf cf : Nat) (b off c : Nat) (hs : IsSg n₀ w s ac lc cc af lf cf) (hL : LiesAll n₀ w ds b off) (hbn : b < n₀) (hc : ds.length ≤ c ∧ c ≤ 1000) (hn : n₀ ≤ w.heap.size) :
    Calls Tryz.prog 19 #[.agg #[.slice ac lc cc, .slice af lf cf], .slice (some ⟨b, off, none⟩) ds.length c] w fun e w' => e = .returned (.bool (sigB s && formedDs s ds)) ∧ Below w.heap.size w w' := by
  have hb1 : Below w.heap.size w (w.alloc (.cells #[.slice ac lc cc, .slice af lf cf] 24)) := (Below.refl _ _).alloc (Nat.le_refl _) _
  have hSg := Sig_any s n₀ (w.alloc (.cells #[.slice ac lc cc, .slice af lf cf] 24)) ac lc cc af lf cf (hs.below (hb1.mono hn)) (by simp; omega)
  replace hs := Lib.hid hs
  replace hL := Lib.hid hL
  cases hsb : sigB s
  · rw [hsb] at hSg
    replace hSg := Lib.hid hSg
    go_enter Tryz.func19, Tryz.ntmps19
    go_wp2_with (go_at_call 18; refine (hSg.out).mono ?_; rintro e w1 ⟨rfl, hbe⟩)
    go_ret
    exact ⟨rfl, hb1.trans (hbe.mono (by simp))⟩
  rw [hsb] at hSg
  replace hSg := Lib.hid hSg
  go_enter Tryz.func19, Tryz.ntmps19
  go_wp2_with (go_at_call 18; refine (hSg.out).mono ?_; rintro e w1 ⟨rfl, hbe⟩)
  go_loopw [5] (fun i wi => ∃ k : Nat, k ≤ ds.length ∧ i = .int .i64 k ∧ Hid (Below (w.heap.size + 1) (w.alloc (.cells #[.slice ac lc cc, .slice af lf cf] 24)) wi) ∧ Hid (∀ j (hj : j < ds.length), j < k → formedB s ds[j].tm = true)) (fun i _ => ds.length - (intOf i).toNat)
  case atStart => exact ⟨0, by omega, rfl, Lib.hid (by simpa using hbe), Lib.hid (fun j h h0 => by omega)⟩
  case round =>
    obtain ⟨k, hkk, rfl, hb, hall⟩ := hrel
    clear hbe hb1
    have hbw := Lib.hid (box_sig hb.out).2.2.1
    have hz := (box_sig hb.out).2.2.2
    by_cases hp : k < ds.length
    · have o1 : (k : Int) < (ds.length : Int) := by omega
      have hX : Hid (∀ W, Below (w.heap.size + 1) (w.alloc (.cells #[.slice ac lc cc, .slice af lf cf] 24)) W → W.cell? ⟨w.heap.size, 0, none⟩ = some (.slice ac lc cc) ∧ W.cell? ⟨w.heap.size, 1, none⟩ = some (.slice af lf cf) ∧ Cells3 W b (off + k * 3) ds[k].op ds[k].n ds[k].a ds[k].l ds[k].c) := Lib.hid (fun W h => by
        obtain ⟨x0, x1, x2, x3⟩ := box_sig h
        exact ⟨x0, x1, (LiesAll.get _ (LiesAll.below (x2.mono hn) _ hbn hL.out) k hp).1⟩)
      have hC := fun W (h : Below (w.heap.size + 1) (w.alloc (.cells #[.slice ac lc cc, .slice af lf cf] 24)) W) => by
        obtain ⟨x0, x1, x2, x3⟩ := box_sig h
        have hC := Term_any s ds[k].tm n₀ W ac lc cc af lf cf ds[k].a ds[k].l ds[k].c (hs.out.below (x2.mono hn)) (Lies.isTm _ (LiesAll.get _ (LiesAll.below (x2.mono hn) _ hbn hL.out) k hp).2) (by omega)
        rw [DT.tm_op, DT.tm_n] at hC
        exact hC
      go_wp2_with fail
      refine region_named (S := fun W' => Below (w.heap.size + 1) (w.alloc (.cells #[.slice ac lc cc, .slice af lf cf] 24)) W') (by kernel_rfl) (fun W hW => ?_)
      have hq : Hid (Below (w.heap.size + 1) (w.alloc (.cells #[.slice ac lc cc, .slice af lf cf] 24)) W) := Lib.hid (by rw [hW]; exact hb.out.drew)
      have hzW := (box_sig hq.out).2.2.2
      have hCW := hC W hq.out
      clear hW hC hb hbw hz
      refine takeH 0 15 (.agg #[.slice ac lc cc, .slice af lf cf]) rfl rfl (by kernel_rfl) (by kernel_rfl) (by kernel_rfl) (fun _ _ _ h => h) (by rfl) (by intro W hSw; obtain ⟨j1, j2, j3⟩ := hX.out W hSw; clear hSw j3; go_simp) hq.out ?_
      try simp only [List.setIfInBounds_toArray, List.set_cons_zero, List.set_cons_succ]
      refine takeH 1 16 (.slice (some ⟨b, off, none⟩) ds.length c) rfl rfl (by kernel_rfl) (by kernel_rfl) (by kernel_rfl) (fun _ _ _ h => h) (by rfl) (by intro W hSw; clear hSw; go_simp) hq.out ?_
      try simp only [List.setIfInBounds_toArray, List.set_cons_zero, List.set_cons_succ]
      refine takeH 2 17 (.int .i64 k) rfl rfl (by kernel_rfl) (by kernel_rfl) (by kernel_rfl) (fun _ _ _ h => h) (by rfl) (by intro W hSw; clear hSw; go_simp) hq.out ?_
      try simp only [List.setIfInBounds_toArray, List.set_cons_zero, List.set_cons_succ]
      refine takeH 3 18 (.pointer (some ⟨b, off + k * 3, none⟩)) rfl rfl (by kernel_rfl) (by kernel_rfl) (by kernel_rfl) (fun _ _ _ h => h) (by rfl) (by intro W hSw; clear hSw; go_simp) hq.out ?_
      try simp only [List.setIfInBounds_toArray, List.set_cons_zero, List.set_cons_succ]
      refine takeH 4 19 (.agg #[.int .i64 ds[k].op, .int .i64 ds[k].n, .slice ds[k].a ds[k].l ds[k].c]) rfl rfl (by kernel_rfl) (by kernel_rfl) (by kernel_rfl) (fun _ _ _ h => h) (by rfl) (by intro W hSw; obtain ⟨-, -, ⟨j1, j2, j3⟩⟩ := hX.out W hSw; clear hSw; go_simp) hq.out ?_
      try simp only [List.setIfInBounds_toArray, List.set_cons_zero, List.set_cons_succ]
      refine wpAnyH_ready (rs := [5]) (by kernel_rfl) (by simp) ?_
      refine AllReadyH.cons rfl (fun K hKc => ?_) AllReadyH.nil
      go_simp
      refine hCW.mono ?_
      rintro e w1 ⟨rfl, hbe⟩
      replace hq := Lib.hid (hq.out.trans (hbe.mono hzW))
      refine hKc _ _ hq.out (fun _ => ?_)
      clear hKc K hbe hCW
      try simp only [List.setIfInBounds_toArray, List.set_cons_zero, List.set_cons_succ]
      refine takeH 6 21 (.bool (!formedB s ds[k].tm)) rfl rfl (by kernel_rfl) (by kernel_rfl) (by kernel_rfl) (fun _ _ _ h => h) (by rfl) (by intro W hSw; clear hSw; go_simp) hq.out ?_
      try simp only [List.setIfInBounds_toArray, List.set_cons_zero, List.set_cons_succ]
      refine wpAnyH_done (by kernel_rfl) ?_ _
      cases he : formedB s ds[k].tm
      · have hv : Hid (formedDs s ds = false) := Lib.hid (all_no hp he)
        clear hall he
        go_wp2_with fail
        go_ret
        exact ⟨by rw [hv.out]; rfl, (box_sig hq.out).2.2.1⟩
      · have hall' : Hid (∀ j (hj : j < ds.length), j < k + 1 → formedB s ds[j].tm = true) := Lib.hid (fun j hj h => by
          by_cases e : j = k
          · subst e; exact he
          · exact hall.out j hj (by omega))
        clear hall he
        go_wp2_with fail
        go_roundw
        case rel => exact ⟨k + 1, by omega, by go_num, hq, hall'⟩
        case measure => simp [intOf]; omega
    · have o1 : ¬ (k : Int) < (ds.length : Int) := by omega
      have hv : Hid (formedDs s ds = true) := Lib.hid (all_yes fun j hj => hall.out j hj (by omega))
      clear hall
      go_wp2_with fail
      go_ret
      exact ⟨by rw [hv.out]; rfl, hbw.out⟩

end Go.Proofs.YtaieplfegngjnaaGreat

namespace Go.Proofs.YtaieplfegngjnaaGreat
open Go.RowKit Go.Shelf Go.Sort

noncomputable def valB (s : Sg) (d x : DT) : Bool := ((sigB s && formedDs s [d, x]) && isVal d.tm) && isVal x.tm

abbrev bs1 (w : World) (ac : Option Addr) (lc cc : Nat) (af : Option Addr) (lf cf : Nat) : World := w.alloc (.cells #[.slice ac lc cc, .slice af lf cf] 24)
abbrev bt1 (w : World) (d : DT) : World := w.alloc (.cells #[.int .i64 d.op, .int .i64 d.n, .slice d.a d.l d.c] 28)

theorem given2 (s : Sg) (d x : DT) (n₀ : Nat) (w : World) (ac : Option Addr) (lc cc : Nat) (af : Option Addr) (lf cf : Nat) (hs : IsSg n₀ w s ac lc cc af lf cf) (h1 : Lies n₀ w d) (h2 : Lies n₀ w x) (hn : n₀ ≤ w.heap.size) :
    Calls Tryz.prog 19 #[.agg #[.slice ac lc cc, .slice af lf cf], .slice (some ⟨w.heap.size, 0, none⟩) 2 2] (w.alloc (.cells #[.int .i64 d.op, .int .i64 d.n, .slice d.a d.l d.c, .int .i64 x.op, .int .i64 x.n, .slice x.a x.l x.c] 28))
      fun e w' => e = .returned (.bool (sigB s && formedDs s [d, x])) ∧ Below w.heap.size w w' := by
  have hb := bal w (.cells #[.int .i64 d.op, .int .i64 d.n, .slice d.a d.l d.c, .int .i64 x.op, .int .i64 x.n, .slice x.a x.l x.c] 28)
  refine (given_any s [d, x] (w.heap.size + 1) _ ac lc cc af lf cf w.heap.size 0 2 ((hs.below (hb.mono hn)).wider (by omega)) (two_lies' h1 h2 hn) (by omega) ⟨by simp, by omega⟩ (by simp)).mono ?_
  rintro e w' ⟨he, h⟩
  exact ⟨he, hb.trans (h.mono (by simp))⟩
theorem small3 (s : Sg) (d x y : DT) (n₀ : Nat) (w : World) (ac : Option Addr) (lc cc : Nat) (af : Option Addr) (lf cf : Nat) (hs : IsSg n₀ w s ac lc cc af lf cf) (h1 : Lies n₀ w d) (h2 : Lies n₀ w x) (h3 : Lies n₀ w y) (hn : n₀ ≤ w.heap.size) :
    Calls Tryz.prog 11 #[.agg #[.slice ac lc cc, .slice af lf cf], .slice (some ⟨w.heap.size, 0, none⟩) 3 3] (w.alloc (.cells #[.int .i64 d.op, .int .i64 d.n, .slice d.a d.l d.c, .int .i64 x.op, .int .i64 x.n, .slice x.a x.l x.c, .int .i64 y.op, .int .i64 y.n, .slice y.a y.l y.c] 28))
      fun e w' => e = .returned (.bool (smallDs [d, x, y] && smallB s)) ∧ Below w.heap.size w w' := by
  have hb := bal w (.cells #[.int .i64 d.op, .int .i64 d.n, .slice d.a d.l d.c, .int .i64 x.op, .int .i64 x.n, .slice x.a x.l x.c, .int .i64 y.op, .int .i64 y.n, .slice y.a y.l y.c] 28)
  refine (small_any s [d, x, y] (w.heap.size + 1) _ ac lc cc af lf cf w.heap.size 0 3 ((hs.below (hb.mono hn)).wider (by omega)) (three_lies h1 h2 h3 hn) (by omega) ⟨by simp, by omega⟩ (by simp)).mono ?_
  rintro e w' ⟨he, h⟩
  exact ⟨he, hb.trans (h.mono (by simp))⟩

theorem box_t {w W : World} {k : Nat} {d : DT} {w1 : World} (hw : w1 = bt1 w d) (hk : w1.heap.size ≤ k) (h : Below k w1 W) :
    W.cell? ⟨w.heap.size, 0, none⟩ = some (.int .i64 d.op) ∧ W.cell? ⟨w.heap.size, 1, none⟩ = some (.int .i64 d.n) ∧ W.cell? ⟨w.heap.size, 2, none⟩ = some (.slice d.a d.l d.c) := by
  subst hw
  have hk' : w.heap.size < k := by simp at hk; omega
  exact ⟨by rw [h.cell hk']; go_cell, by rw [h.cell hk']; go_cell, by rw [h.cell hk']; go_cell⟩
theorem box_s {w W : World} {k : Nat} {ac : Option Addr} {lc cc : Nat} {af : Option Addr} {lf cf : Nat} {w1 : World} (hw : w1 = bs1 w ac lc cc af lf cf) (hk : w1.heap.size ≤ k) (h : Below k w1 W) :
    W.cell? ⟨w.heap.size, 0, none⟩ = some (.slice ac lc cc) ∧ W.cell? ⟨w.heap.size, 1, none⟩ = some (.slice af lf cf) := by
  subst hw
  have hk' : w.heap.size < k := by simp at hk; omega
  exact ⟨by rw [h.cell hk']; go_cell, by rw [h.cell hk']; go_cell⟩

set_option maxRecDepth 100000 in
set_option maxHeartbeats 1000000 in
theorem values_any (s : Sg) (d x : DT) (n₀ : Nat) (w : World) (ac : Option Addr) (lc cc : Nat) (af : Option Addr) (lf cf : Nat) (hs : IsSg n₀ w s ac lc cc af lf cf) (h1 : Lies n₀ w d) (h2 : Lies n₀ w x) (hn : n₀ ≤ w.heap.size) :
    Calls Tryz.prog 40 #[.agg #[.slice ac lc cc, .slice af lf cf], .agg #[.int .i64 d.op, .int .i64 d.n, .slice d.a d.l d.c], .agg #[.int .i64 x.op, .int .i64 x.n, .slice x.a x.l x.c]] w
      fun e w' => e = .returned (.bool (valB s d x)) ∧ Below w.heap.size w w' := by
  obtain ⟨wa, hwa⟩ : ∃ W, W = bs1 w ac lc cc af lf cf := ⟨_, rfl⟩
  obtain ⟨wb, hwb⟩ : ∃ W, W = bt1 wa d := ⟨_, rfl⟩
  obtain ⟨W0, hW0⟩ : ∃ W, W = bt1 wb x := ⟨_, rfl⟩
  have hza : wa.heap.size = w.heap.size + 1 := by rw [hwa]; simp
  have hzb : wb.heap.size = w.heap.size + 1 + 1 := by rw [hwb]; simp [hza]
  have hz0 : W0.heap.size = w.heap.size + 1 + 1 + 1 := by rw [hW0]; simp [hzb]
  have ba : Below w.heap.size w wa := by rw [hwa]; exact bal _ _
  have bb : Below wa.heap.size wa wb := by rw [hwb]; exact bal _ _
  have bc : Below wb.heap.size wb W0 := by rw [hW0]; exact bal _ _
  have hB0 : Below w.heap.size w W0 := Below.up ba (Below.up bb bc)
  have hcells : Hid (∀ W, Below W0.heap.size W0 W → (W.cell? ⟨w.heap.size + 1, 0, none⟩ = some (.int .i64 d.op) ∧ W.cell? ⟨w.heap.size + 1, 1, none⟩ = some (.int .i64 d.n) ∧ W.cell? ⟨w.heap.size + 1, 2, none⟩ = some (.slice d.a d.l d.c)) ∧ (W.cell? ⟨w.heap.size + 1 + 1, 0, none⟩ = some (.int .i64 x.op) ∧ W.cell? ⟨w.heap.size + 1 + 1, 1, none⟩ = some (.int .i64 x.n) ∧ W.cell? ⟨w.heap.size + 1 + 1, 2, none⟩ = some (.slice x.a x.l x.c))) := Lib.hid (fun W h => by
    have e1 := box_t hwb (Nat.le_refl _) (Below.up bc h)
    have e2 := box_t hW0 (Nat.le_refl _) h
    rw [hza] at e1; rw [hzb] at e2
    exact ⟨e1, e2⟩)
  have hG := given2 s d x n₀ W0 ac lc cc af lf cf (hs.below (hB0.mono hn)) (h1.below (hB0.mono hn)) (h2.below (hB0.mono hn)) (by omega)
  have hV1 := fun W (h : Below W0.heap.size W0 W) => Value_any d.tm.size d.tm n₀ W d.a d.l d.c (Nat.le_refl _) (Lies.isTm _ (h1.below ((Below.up hB0 h).mono hn))) (by have := h.size; omega)
  have hV2 := fun W (h : Below W0.heap.size W0 W) => Value_any x.tm.size x.tm n₀ W x.a x.l x.c (Nat.le_refl _) (Lies.isTm _ (h2.below ((Below.up hB0 h).mono hn))) (by have := h.size; omega)
  simp only [DT.tm_op, DT.tm_n] at hV1 hV2
  have hb0 : Hid (∀ W, Below (w.heap.size + 1 + 1 + 1) (bt1 (bt1 (bs1 w ac lc cc af lf cf) d) x) W → Below W0.heap.size W0 W) := Lib.hid (fun W h => by rw [hz0, hW0, hwb, hwa]; exact h)
  rw [hz0, hW0, hwb, hwa] at hG
  have hv : Hid (valB s d x = (((sigB s && formedDs s [d, x]) && isVal d.tm) && isVal x.tm)) := Lib.hid rfl
  obtain ⟨g, hg⟩ : ∃ g, g = (sigB s && formedDs s [d, x]) := ⟨_, rfl⟩
  obtain ⟨u, hu⟩ : ∃ u, u = isVal d.tm := ⟨_, rfl⟩
  obtain ⟨v, hv'⟩ : ∃ u, u = isVal x.tm := ⟨_, rfl⟩
  rw [← hg, ← hu, ← hv'] at hv
  rw [← hg] at hG
  rw [← hu] at hV1
  rw [← hv'] at hV2
  replace hG := Lib.hid hG
  replace hV1 := Lib.hid hV1
  replace hV2 := Lib.hid hV2
  replace hB0 := Lib.hid hB0
  clear hs h1 h2 ba bb bc hW0 hz0 hza hzb hwa hwb hg hu hv'
  go_enter Tryz.func40, Tryz.ntmps40
  go_upto_region 3 with fail
  refine (hG.out).mono ?_
  rintro e w1 ⟨rfl, hbe⟩
  replace hbe := Lib.hid (hb0.out _ hbe)
  clear hG
  cases g
  · go_wp2_with fail
    go_ret
    exact ⟨by rw [hv.out]; rfl, Below.up hB0.out hbe.out⟩
  obtain ⟨⟨p0, p1, p2⟩, -⟩ := hcells.out _ hbe.out
  have hC1 := Lib.hid (hV1.out _ hbe.out)
  cases u
  · go_wp2_with (go_at_call 20; refine (hC1.out).mono ?_; rintro e w2 ⟨rfl, hbe2⟩)
    go_ret
    exact ⟨by rw [hv.out]; rfl, Below.up hB0.out (Below.up hbe.out hbe2)⟩
  go_upto_region 9 with fail
  refine (hC1.out).mono ?_
  rintro e w2 ⟨rfl, hbe2⟩
  clear hC1 p0 p1 p2
  replace hbe := Lib.hid (Below.up hbe.out hbe2)
  obtain ⟨-, ⟨p0, p1, p2⟩⟩ := hcells.out _ hbe.out
  have hC1 := Lib.hid (hV2.out _ hbe.out)
  go_wp2_with (go_at_call 20; refine (hC1.out).mono ?_; rintro e w2 ⟨rfl, hbe2⟩)
  go_ret
  exact ⟨by rw [hv.out]; rfl, Below.up hB0.out (Below.up hbe.out hbe2)⟩

end Go.Proofs.YtaieplfegngjnaaGreat

namespace Go.Proofs.YtaieplfegngjnaaGreat
open Go.RowKit Go.Shelf Go.Sort

theorem small_size {d : DT} (h : smallT d.tm = true) : 1 + d.size ≤ 1000000 := by
  unfold smallT at h
  have h1 : 0 ≤ weigh d.tm 50 14 := by simpa using h
  have h2 := ((weigh_iff d.tm 50 14 (by omega)).1.1 h1).1
  rw [size_tm] at h2
  omega
theorem valB_yes {s : Sg} {d x : DT} (h : valB s d x = true) : checkV s [d, x] = true := by
  unfold valB formedDs at h
  simp only [Bool.and_eq_true] at h
  unfold checkV checkB
  rw [h.1.1.1, h.1.1.2]
  simp only [List.all_cons, List.all_nil, ← isVal_allN, h.1.2, h.2]
  rfl
theorem valB_swap (s : Sg) (d x : DT) : valB s x d = valB s d x := by
  unfold valB formedDs
  simp only [List.all_cons, List.all_nil, Bool.and_true]
  cases sigB s <;> cases formedB s d.tm <;> cases formedB s x.tm <;> cases isVal d.tm <;> cases isVal x.tm <;> rfl
theorem valB_ends {s : Sg} {d x y : DT} (h : valB s d x = true) (h2 : valB s x y = true) : valB s d y = true := by
  unfold valB formedDs at *
  simp only [List.all_cons, List.all_nil, Bool.and_true, Bool.and_eq_true] at *
  exact ⟨⟨⟨h.1.1.1, h.1.1.2.1, h2.1.1.2.2⟩, h.1.2⟩, h2.2⟩
theorem compare_of {s : Sg} {d x : DT} {n₀ : Nat} {w : World} {ac : Option Addr} {lc cc : Nat} {af : Option Addr} {lf cf : Nat} (hv : valB s d x = true) (h1 : smallT d.tm = true) (h2 : smallT x.tm = true) (hn : n₀ ≤ w.heap.size) (hS : IsSg n₀ w s ac lc cc af lf cf) (hL1 : Lies n₀ w d) (hL2 : Lies n₀ w x) :
    Calls Tryz.prog 39 #[.agg #[.slice ac lc cc, .slice af lf cf], .agg #[.int .i64 d.op, .int .i64 d.n, .slice d.a d.l d.c], .agg #[.int .i64 x.op, .int .i64 x.n, .slice x.a x.l x.c]] w fun e w' =>
      e = .returned (.tuple #[.int .i64 (cmpT d.tm x.tm), .int .i64 0]) ∧ Below w.heap.size w w' :=
  (Compare_any s d x n₀ w ac lc cc af lf cf (small_size h1) (small_size h2) hn hS hL1 hL2).mono fun e w' ⟨he, hb⟩ => by
    unfold cmpV at he
    rw [valB_yes hv, if_pos rfl] at he
    exact ⟨he, hb⟩
theorem same_cmp (t u : Tm) : sameB t u = decide (cmpT t u = 0) := by
  by_cases h : t = u
  · subst h; rw [sameB_refl, cmpT_self]; rfl
  · rw [Bool.eq_false_iff.2 (fun e => h (sameB_of _ _ e)), decide_eq_false (fun e => h (cmpT_zero _ _ e))]

set_option maxRecDepth 100000 in
set_option maxHeartbeats 4000000 in
theorem TermSorts_any (s : Sg) (d x y : DT) (n₀ : Nat) (w : World) (ac : Option Addr) (lc cc : Nat) (af : Option Addr) (lf cf : Nat) (hs : IsSg n₀ w s ac lc cc af lf cf) (h1 : Lies n₀ w d) (h2 : Lies n₀ w x) (h3 : Lies n₀ w y) (hn : n₀ ≤ w.heap.size) :
    Calls Tryz.prog 10 #[.agg #[.slice ac lc cc, .slice af lf cf], .agg #[.int .i64 d.op, .int .i64 d.n, .slice d.a d.l d.c], .agg #[.int .i64 x.op, .int .i64 x.n, .slice x.a x.l x.c], .agg #[.int .i64 y.op, .int .i64 y.n, .slice y.a y.l y.c]] w
      fun e w' => e = .returned (.bool true) ∧ Below w.heap.size w w' := by
  obtain ⟨wa, hwa⟩ : ∃ W, W = bs1 w ac lc cc af lf cf := ⟨_, rfl⟩
  obtain ⟨wb, hwb⟩ : ∃ W, W = bt1 wa d := ⟨_, rfl⟩
  obtain ⟨wc, hwc⟩ : ∃ W, W = bt1 wb x := ⟨_, rfl⟩
  obtain ⟨W0, hW0⟩ : ∃ W, W = bt1 wc y := ⟨_, rfl⟩
  have hza : wa.heap.size = w.heap.size + 1 := by rw [hwa]; simp
  have hzb : wb.heap.size = w.heap.size + 1 + 1 := by rw [hwb]; simp [hza]
  have hzc : wc.heap.size = w.heap.size + 1 + 1 + 1 := by rw [hwc]; simp [hzb]
  have hz0 : W0.heap.size = w.heap.size + 1 + 1 + 1 + 1 := by rw [hW0]; simp [hzc]
  have ba : Below w.heap.size w wa := by rw [hwa]; exact bal _ _
  have bb : Below wa.heap.size wa wb := by rw [hwb]; exact bal _ _
  have bc : Below wb.heap.size wb wc := by rw [hwc]; exact bal _ _
  have bd : Below wc.heap.size wc W0 := by rw [hW0]; exact bal _ _
  have hB0 : Below w.heap.size w W0 := Below.up ba (Below.up bb (Below.up bc bd))
  have hcells : Hid (∀ W, Below W0.heap.size W0 W → (W.cell? ⟨w.heap.size, 0, none⟩ = some (.slice ac lc cc) ∧ W.cell? ⟨w.heap.size, 1, none⟩ = some (.slice af lf cf)) ∧ (W.cell? ⟨w.heap.size + 1, 0, none⟩ = some (.int .i64 d.op) ∧ W.cell? ⟨w.heap.size + 1, 1, none⟩ = some (.int .i64 d.n) ∧ W.cell? ⟨w.heap.size + 1, 2, none⟩ = some (.slice d.a d.l d.c)) ∧ (W.cell? ⟨w.heap.size + 1 + 1, 0, none⟩ = some (.int .i64 x.op) ∧ W.cell? ⟨w.heap.size + 1 + 1, 1, none⟩ = some (.int .i64 x.n) ∧ W.cell? ⟨w.heap.size + 1 + 1, 2, none⟩ = some (.slice x.a x.l x.c)) ∧ (W.cell? ⟨w.heap.size + 1 + 1 + 1, 0, none⟩ = some (.int .i64 y.op) ∧ W.cell? ⟨w.heap.size + 1 + 1 + 1, 1, none⟩ = some (.int .i64 y.n) ∧ W.cell? ⟨w.heap.size + 1 + 1 + 1, 2, none⟩ = some (.slice y.a y.l y.c))) := Lib.hid (fun W h => by
    have e0 := box_s hwa (Nat.le_refl _) (Below.up bb (Below.up bc (Below.up bd h)))
    have e1 := box_t hwb (Nat.le_refl _) (Below.up bc (Below.up bd h))
    have e2 := box_t hwc (Nat.le_refl _) (Below.up bd h)
    have e3 := box_t hW0 (Nat.le_refl _) h
    rw [hza] at e1; rw [hzb] at e2; rw [hzc] at e3
    exact ⟨e0, e1, e2, e3⟩)
  have hlie : Hid (∀ W, Below W0.heap.size W0 W → n₀ ≤ W.heap.size ∧ IsSg n₀ W s ac lc cc af lf cf ∧ Lies n₀ W d ∧ Lies n₀ W x ∧ Lies n₀ W y) := Lib.hid (fun W h => by
    have hb := (Below.up hB0 h).mono hn
    exact ⟨by have := h.size; omega, hs.below hb, h1.below hb, h2.below hb, h3.below hb⟩)
  have hG : Calls Tryz.prog 11 #[.agg #[.slice ac lc cc, .slice af lf cf], .slice (some ⟨W0.heap.size, 0, none⟩) 3 3] (W0.alloc (.cells #[.int .i64 d.op, .int .i64 d.n, .slice d.a d.l d.c, .int .i64 x.op, .int .i64 x.n, .slice x.a x.l x.c, .int .i64 y.op, .int .i64 y.n, .slice y.a y.l y.c] 28))
      fun e w' => e = .returned (.bool (smallDs [d, x, y] && smallB s)) ∧ Below W0.heap.size W0 w' := by
    obtain ⟨q0, q1, q2, q3, q4⟩ := hlie.out W0 (Below.refl _ _)
    exact small3 s d x y n₀ W0 ac lc cc af lf cf q1 q2 q3 q4 q0
  have hb0 : Hid (∀ W, Below (w.heap.size + 1 + 1 + 1 + 1) (bt1 (bt1 (bt1 (bs1 w ac lc cc af lf cf) d) x) y) W → Below W0.heap.size W0 W) := Lib.hid (fun W h => by rw [hz0, hW0, hwc, hwb, hwa]; exact h)
  rw [hz0, hW0, hwc, hwb, hwa] at hG
  have hsm : Hid ((smallDs [d, x, y] && smallB s) = true → smallT d.tm = true ∧ smallT x.tm = true ∧ smallT y.tm = true) := Lib.hid (fun h => by
    simp only [smallDs, List.all_cons, List.all_nil, Bool.and_true, Bool.and_eq_true] at h
    exact h.1)
  obtain ⟨g, hg⟩ : ∃ g, g = (smallDs [d, x, y] && smallB s) := ⟨_, rfl⟩
  rw [← hg] at hG hsm
  have hKn := fun W => known_any W
  have hV1 := fun W (h : Below W0.heap.size W0 W) => values_any s d x n₀ W ac lc cc af lf cf (hlie.out W h).2.1 (hlie.out W h).2.2.1 (hlie.out W h).2.2.2.1 (hlie.out W h).1
  have hV2 := fun W (h : Below W0.heap.size W0 W) => values_any s x y n₀ W ac lc cc af lf cf (hlie.out W h).2.1 (hlie.out W h).2.2.2.1 (hlie.out W h).2.2.2.2 (hlie.out W h).1
  obtain ⟨u, hu⟩ : ∃ u, u = valB s d x := ⟨_, rfl⟩
  obtain ⟨v, hv⟩ : ∃ u, u = valB s x y := ⟨_, rfl⟩
  rw [← hu] at hV1
  rw [← hv] at hV2
  replace hu := Lib.hid hu
  replace hv := Lib.hid hv
  replace hG := Lib.hid hG
  replace hV1 := Lib.hid hV1
  replace hV2 := Lib.hid hV2
  replace hKn := Lib.hid hKn
  replace hB0 := Lib.hid hB0
  clear hs h1 h2 h3 ba bb bc bd hW0 hz0 hza hzb hzc hwa hwb hwc hg
  go_enter Tryz.func10, Tryz.ntmps10
  go_upto_region 9 with fail
  refine (hG.out).mono ?_
  rintro e w1 ⟨rfl, hbe⟩
  replace hbe := Lib.hid (hb0.out _ hbe)
  clear hG
  cases g
  · go_wp2_with (go_at_call 12; refine (hKn.out _).mono ?_; rintro e w2 ⟨rfl, hbe2⟩)
    go_ret
    exact ⟨rfl, Below.up hB0.out (Below.up hbe.out hbe2)⟩
  obtain ⟨sm1, sm2, sm3⟩ := hsm.out rfl
  replace sm1 := Lib.hid sm1
  replace sm2 := Lib.hid sm2
  replace sm3 := Lib.hid sm3
  clear hsm
  obtain ⟨⟨s0, s1⟩, ⟨p0, p1, p2⟩, ⟨p3, p4, p5⟩, ⟨p6, p7, p8⟩⟩ := hcells.out _ hbe.out
  have hC1 := Lib.hid (hV1.out _ hbe.out)
  go_upto_region 9 with fail
  refine (hC1.out).mono ?_
  rintro e w2 ⟨rfl, hbe2⟩
  clear hC1 s0 s1 p0 p1 p2 p3 p4 p5 p6 p7 p8 hV1
  replace hbe := Lib.hid (Below.up hbe.out hbe2)
  cases u
  · go_wp2_with (go_at_call 12; refine (hKn.out _).mono ?_; rintro e w3 ⟨rfl, hbe2⟩)
    go_ret
    exact ⟨rfl, Below.up hB0.out (Below.up hbe.out hbe2)⟩
  obtain ⟨⟨s0, s1⟩, ⟨p0, p1, p2⟩, ⟨p3, p4, p5⟩, ⟨p6, p7, p8⟩⟩ := hcells.out _ hbe.out
  have hC1 := Lib.hid (hV2.out _ hbe.out)
  go_upto_region 9 with fail
  refine (hC1.out).mono ?_
  rintro e w3 ⟨rfl, hbe3⟩
  clear hC1 s0 s1 p0 p1 p2 p3 p4 p5 p6 p7 p8 hV2 hbe2
  replace hbe := Lib.hid (Below.up hbe.out hbe3)
  clear hbe3
  cases v
  · go_wp2_with (go_at_call 12; refine (hKn.out _).mono ?_; rintro e w3 ⟨rfl, hbe2⟩)
    go_ret
    exact ⟨rfl, Below.up hB0.out (Below.up hbe.out hbe2)⟩
  obtain ⟨p, hp⟩ : ∃ p, p = cmpT d.tm x.tm := ⟨_, rfl⟩
  obtain ⟨q, hq⟩ : ∃ p, p = cmpT x.tm y.tm := ⟨_, rfl⟩
  obtain ⟨t, ht⟩ : ∃ p, p = cmpT d.tm y.tm := ⟨_, rfl⟩
  have hpr : Hid ((p = -1 ∨ p = 0 ∨ p = 1) ∧ (q = -1 ∨ q = 0 ∨ q = 1) ∧ (t = -1 ∨ t = 0 ∨ t = 1) ∧ (p ≤ 0 → q ≤ 0 → t ≤ 0) ∧ (0 ≤ p → 0 ≤ q → 0 ≤ t)) := Lib.hid (by
    have r1 := cmpT_range d.tm x.tm
    have r2 := cmpT_range x.tm y.tm
    have r3 := cmpT_range d.tm y.tm
    have r4 := cmpT_trans d.tm x.tm y.tm
    have r5 := cmpT_trans y.tm x.tm d.tm
    have r6 := cmpT_neg d.tm x.tm
    have r7 := cmpT_neg x.tm y.tm
    have r8 := cmpT_neg d.tm y.tm
    rw [r6, r7, r8] at r5
    rw [← hp] at r1 r4 r5
    rw [← hq] at r2 r4 r5
    rw [← ht] at r3 r4 r5
    exact ⟨by omega, by omega, by omega, r4, fun a b => by have := r5 (by omega) (by omega); omega⟩)
  have hneg : Hid (cmpT x.tm d.tm = -p) := Lib.hid (by rw [hp]; exact cmpT_neg _ _)
  have hsame : Hid (sameB d.tm x.tm = decide (p = 0)) := Lib.hid (by rw [hp]; exact same_cmp _ _)
  replace hp := Lib.hid hp
  replace hq := Lib.hid hq
  replace ht := Lib.hid ht
  obtain ⟨⟨s0, s1⟩, ⟨p0, p1, p2⟩, ⟨p3, p4, p5⟩, ⟨p6, p7, p8⟩⟩ := hcells.out _ hbe.out
  have hC1 : Hid (Calls Tryz.prog 39 #[.agg #[.slice ac lc cc, .slice af lf cf], .agg #[.int .i64 d.op, .int .i64 d.n, .slice d.a d.l d.c], .agg #[.int .i64 x.op, .int .i64 x.n, .slice x.a x.l x.c]] w3 fun e w' =>
      e = .returned (.tuple #[.int .i64 (p), .int .i64 0]) ∧ Below w3.heap.size w3 w') := Lib.hid (by
    obtain ⟨q0, q1, q2, q3, q4⟩ := hlie.out _ hbe.out
    have := compare_of (hu.out.symm) sm1.out sm2.out q0 q1 q2 q3
    rw [← hp.out] at this
    exact this)
  go_upto_region 9 with fail
  refine (hC1.out).mono ?_
  rintro e w4 ⟨rfl, hbe3⟩
  clear hC1 s0 s1 p0 p1 p2 p3 p4 p5 p6 p7 p8
  replace hbe := Lib.hid (Below.up hbe.out hbe3)
  clear hbe3
  obtain ⟨⟨s0, s1⟩, ⟨p0, p1, p2⟩, ⟨p3, p4, p5⟩, ⟨p6, p7, p8⟩⟩ := hcells.out _ hbe.out
  have hC1 : Hid (Calls Tryz.prog 39 #[.agg #[.slice ac lc cc, .slice af lf cf], .agg #[.int .i64 x.op, .int .i64 x.n, .slice x.a x.l x.c], .agg #[.int .i64 d.op, .int .i64 d.n, .slice d.a d.l d.c]] w4 fun e w' =>
      e = .returned (.tuple #[.int .i64 (-p), .int .i64 0]) ∧ Below w4.heap.size w4 w') := Lib.hid (by
    obtain ⟨q0, q1, q2, q3, q4⟩ := hlie.out _ hbe.out
    have := compare_of (by rw [valB_swap]; exact hu.out.symm) sm2.out sm1.out q0 q1 q3 q2
    rw [hneg.out] at this
    exact this)
  go_upto_region 9 with fail
  refine (hC1.out).mono ?_
  rintro e w5 ⟨rfl, hbe3⟩
  clear hC1 s0 s1 p0 p1 p2 p3 p4 p5 p6 p7 p8
  replace hbe := Lib.hid (Below.up hbe.out hbe3)
  clear hbe3
  obtain ⟨⟨s0, s1⟩, ⟨p0, p1, p2⟩, ⟨p3, p4, p5⟩, ⟨p6, p7, p8⟩⟩ := hcells.out _ hbe.out
  have hC1 : Hid (Calls Tryz.prog 39 #[.agg #[.slice ac lc cc, .slice af lf cf], .agg #[.int .i64 x.op, .int .i64 x.n, .slice x.a x.l x.c], .agg #[.int .i64 y.op, .int .i64 y.n, .slice y.a y.l y.c]] w5 fun e w' =>
      e = .returned (.tuple #[.int .i64 (q), .int .i64 0]) ∧ Below w5.heap.size w5 w') := Lib.hid (by
    obtain ⟨q0, q1, q2, q3, q4⟩ := hlie.out _ hbe.out
    have := compare_of (hv.out.symm) sm2.out sm3.out q0 q1 q3 q4
    rw [← hq.out] at this
    exact this)
  go_upto_region 9 with fail
  refine (hC1.out).mono ?_
  rintro e w6 ⟨rfl, hbe3⟩
  clear hC1 s0 s1 p0 p1 p2 p3 p4 p5 p6 p7 p8
  replace hbe := Lib.hid (Below.up hbe.out hbe3)
  clear hbe3
  obtain ⟨⟨s0, s1⟩, ⟨p0, p1, p2⟩, ⟨p3, p4, p5⟩, ⟨p6, p7, p8⟩⟩ := hcells.out _ hbe.out
  have hC1 : Hid (Calls Tryz.prog 39 #[.agg #[.slice ac lc cc, .slice af lf cf], .agg #[.int .i64 d.op, .int .i64 d.n, .slice d.a d.l d.c], .agg #[.int .i64 y.op, .int .i64 y.n, .slice y.a y.l y.c]] w6 fun e w' =>
      e = .returned (.tuple #[.int .i64 (t), .int .i64 0]) ∧ Below w6.heap.size w6 w') := Lib.hid (by
    obtain ⟨q0, q1, q2, q3, q4⟩ := hlie.out _ hbe.out
    have := compare_of (valB_ends hu.out.symm hv.out.symm) sm1.out sm3.out q0 q1 q2 q4
    rw [← ht.out] at this
    exact this)
  go_upto_region 9 with fail
  refine (hC1.out).mono ?_
  rintro e w7 ⟨rfl, hbe3⟩
  clear hC1 s0 s1 p0 p1 p2 p3 p4 p5 p6 p7 p8
  replace hbe := Lib.hid (Below.up hbe.out hbe3)
  clear hbe3
  obtain ⟨-, ⟨p0, p1, p2⟩, ⟨p3, p4, p5⟩, -⟩ := hcells.out _ hbe.out
  have hS : Hid (Calls Tryz.prog 32 #[.agg #[.int .i64 d.op, .int .i64 d.n, .slice d.a d.l d.c], .agg #[.int .i64 x.op, .int .i64 x.n, .slice x.a x.l x.c]] w7 fun e w' => e = .returned (.bool (decide (p = 0))) ∧ Below w7.heap.size w7 w') := Lib.hid (by
    obtain ⟨q0, q1, q2, q3, q4⟩ := hlie.out _ hbe.out
    have := Same_any d.tm.size d.tm x.tm n₀ w7 d.a d.l d.c x.a x.l x.c (Nat.le_refl _) (Lies.isTm _ q2) (Lies.isTm _ q3) q0
    rw [DT.tm_op, DT.tm_n, DT.tm_op, DT.tm_n, hsame.out] at this
    exact this)
  clear hcells hlie hp hq ht hneg hsame
  obtain ⟨rp, rq, rt, r4, r5⟩ := hpr.out
  clear hpr
  rcases rp with rfl | rfl | rfl
  all_goals
    go_upto_region 9 with fail
    refine (hS.out).mono ?_
    rintro e w8 ⟨rfl, hbe8⟩
    replace hbe := Lib.hid (Below.up hbe.out hbe8)
    clear hbe8 hS p0 p1 p2 p3 p4 p5
    go_upto_region 9 with fail
    rcases rq with rfl | rfl | rfl <;> rcases rt with rfl | rfl | rfl <;> first
      | (exfalso; revert r4 r5; decide)
      | (clear r4 r5
         go_wp2_with (go_at_call 12; refine (hKn.out _).mono ?_; rintro e w9 ⟨rfl, hbe2⟩)
         go_ret
         exact ⟨rfl, Below.up hB0.out (Below.up hbe.out hbe2)⟩)

end Go.Proofs.YtaieplfegngjnaaGreat
