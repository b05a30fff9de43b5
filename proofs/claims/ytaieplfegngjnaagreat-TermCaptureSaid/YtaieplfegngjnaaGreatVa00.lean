/- Own text, joined of: Y0. The weight of an expression in order. -/
import Derived.Test.YtaieplfegngjnaaGreatOr06
import Derived.Test.YtaieplfegngjnaaGreatOr22

namespace Go.Proofs.YtaieplfegngjnaaGreat
open Go.RowKit Go.Shelf Go.Sort

/-! The weight of an expression in order -/
mutual
theorem weigh_ord : ∀ (t : Tm) (fb : Int → Option Int) (s : OS) (left depth : Int), OkV t → weigh (ordT fb s t).1 left depth = weigh t left depth
  | .mk op n ks, fb, s, left, depth, hO => by
    rw [OkV] at hO
    rw [ordT]
    split
    · next h1 => rw [hO.2.1 h1, weigh, weigh]
    · split
      · rw [weigh, weigh, weighs_ordL ks fb _ s.next (left - 1) (depth - 1) hO.2.2.2]
      · rw [weigh, weigh, weighs_ord ks fb s (left - 1) (depth - 1) hO.2.2.2]
theorem weighs_ord : ∀ (ks : List Tm) (fb : Int → Option Int) (s : OS) (left depth : Int), OkVs ks → weighs (ordTs fb s ks).1 left depth = weighs ks left depth
  | [], fb, s, left, depth, _ => by rw [ordTs]
  | t :: ts, fb, s, left, depth, hO => by
    rw [OkVs] at hO
    rw [ordTs, weighs, weighs, weigh_ord t fb s left depth hO.1, weighs_ord ts fb _ _ depth hO.2]
theorem weighs_ordL : ∀ (ks : List Tm) (fb fi : Int → Option Int) (s : OS) (left depth : Int), OkVs ks → weighs (ordL fb fi s ks).1 left depth = weighs ks left depth
  | [], fb, fi, s, left, depth, _ => by rw [ordL]
  | t :: ts, fb, fi, s, left, depth, hO => by
    rw [OkVs] at hO
    rw [ordL, weighs, weighs, weigh_ord t fb s left depth hO.1, weighs_ord ts fi _ _ depth hO.2]
end
theorem small_ordE {t : Tm} (hO : OkV t) (h : smallT t = true) : decide (0 ≤ weigh (ordE t).1 50 14) = true := by
  unfold ordE
  rw [weigh_ord t _ _ 50 14 hO]
  exact h

/-! The count only grows -/
theorem numO_le (fb : Int → Option Int) (s : OS) (v : Int) : s.count ≤ (numO fb s v).2.count := by
  unfold numO
  split
  · exact Nat.le_refl _
  · split
    · exact Nat.le_refl _
    · exact Nat.le_succ _
mutual
theorem ordT_le : ∀ (t : Tm) (fb : Int → Option Int) (s : OS), s.count ≤ (ordT fb s t).2.count
  | .mk op n ks, fb, s => by
    rw [ordT]
    split
    · exact numO_le fb s n
    · split
      · exact Nat.le_trans (Nat.le_succ _) (ordL_le ks fb _ s.next)
      · exact ordTs_le ks fb s
theorem ordTs_le : ∀ (ks : List Tm) (fb : Int → Option Int) (s : OS), s.count ≤ (ordTs fb s ks).2.count
  | [], _, s => by rw [ordTs]; exact Nat.le_refl _
  | t :: ts, fb, s => by rw [ordTs]; exact Nat.le_trans (ordT_le t fb s) (ordTs_le ts fb _)
theorem ordL_le : ∀ (ks : List Tm) (fb fi : Int → Option Int) (s : OS), s.count ≤ (ordL fb fi s ks).2.count
  | [], _, _, s => by rw [ordL]; exact Nat.le_refl _
  | t :: ts, fb, fi, s => by rw [ordL]; exact Nat.le_trans (ordT_le t fb s) (ordTs_le ts fi _)
end

end Go.Proofs.YtaieplfegngjnaaGreat
