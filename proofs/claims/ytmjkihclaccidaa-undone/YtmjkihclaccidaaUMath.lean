/- What is undone again. -/
import Derived.Test.YtmjkihclaccidaaUSum
namespace Go.Proofs.Ytmjkihclaccidaa
open Ieee

theorem mag_pow (u : Nat) : mag (4503599627370496 * (u + 1)) = 2 ^ (u + 52) := by
  rw [show 4503599627370496 * (u + 1) = u * 4503599627370496 + 4503599627370496 from by rw [Nat.mul_comm, Nat.succ_mul], mag_mk (Or.inr (Nat.le_refl _)) (by decide), pow52]
theorem mag_shift {B s : Nat} (h : 4503599627370496 ≤ B) : mag (B + 4503599627370496 * s) = mag B * 2 ^ s := by
  obtain ⟨L, k, e, k1, k2, m, _⟩ := norm_split h
  rw [show B + 4503599627370496 * s = (L + s) * 4503599627370496 + k from by rw [e, Nat.add_mul, Nat.mul_comm s]; exact Nat.add_right_comm _ _ _, mag_mk (Or.inr k1) (by omega), m, Nat.mul_assoc, ← Nat.pow_add]

/-- A plain number's magnitude. -/
theorem plain_mag {A : Nat} (h : plainB A = true) : 2805742567851819008 ≤ A ∧ A ≤ 6408622269748215808 ∧ ∃ u t : Nat, u = 674 ∧ t = 1474 ∧ 2 ^ u ≤ mag A ∧ mag A ≤ 2 ^ t := by
  unfold plainB at h; rw [decide_eq_true_eq] at h
  refine ⟨h.1, h.2, ?_⟩
  obtain ⟨u, hu⟩ : ∃ u : Nat, u = 622 := ⟨_, rfl⟩
  obtain ⟨t, ht⟩ : ∃ t : Nat, t = 1422 := ⟨_, rfl⟩
  refine ⟨u + 52, t + 52, by omega, by omega, ?_, ?_⟩
  · rw [← mag_pow]; exact mag_le_iff.2 (by omega)
  · rw [← mag_pow]; exact mag_le_iff.2 (by omega)

theorem sums_down {A B : Nat} (hA : plainB A = true) (hB : plainB B = true) : od (word (sumF (word (sumF A B false)) (ng B) false)) ≤ od A := by
  obtain ⟨a1, a2, _⟩ := plain_mag hA
  obtain ⟨b1, b2, _⟩ := plain_mag hB
  have oA : od A = A := od_rung (by omega)
  obtain ⟨⟨D, d1, d2, d3⟩, _⟩ := add_spec (A := A) (B := B) (by omega) (by omega) (by omega) (by omega)
  rw [d1]
  have pA : 0 < mag A := by have := @mag_lt_iff 0 A; rw [mag_zero] at this; omega
  have hBD : B ≤ D := by
    have : mag B < mag (D + 1) := by omega
    have := mag_lt_iff.1 this; omega
  have hD : D ≤ 6413125869375586304 := by
    have h1 := mag_dbl (P := 6408622269748215808) (by omega)
    have h2 : mag A ≤ mag 6408622269748215808 := mag_le_iff.2 a2
    have h3 : mag B ≤ mag 6408622269748215808 := mag_le_iff.2 b2
    have h4 : mag D ≤ mag (6408622269748215808 + 4503599627370496) := by omega
    have := mag_le_iff.1 h4; omega
  by_cases c : D = B
  · rw [c, diff_zero (by omega)]; omega
  · obtain ⟨⟨E, e1, e2, e3⟩, _⟩ := diff_spec (S := D) (B := B) (by omega) (by omega) (by omega)
    rw [e1]
    have : mag E ≤ mag A := by omega
    have hE := mag_le_iff.1 this
    rw [oA, od_rung (by omega)]; omega
theorem sums_up {A B : Nat} (hA : plainB A = true) (hB : plainB B = true) : od A ≤ od (word (sumF (word (sumF A B true)) (ng B) true)) := by
  obtain ⟨a1, a2, _⟩ := plain_mag hA
  obtain ⟨b1, b2, _⟩ := plain_mag hB
  have oA : od A = A := od_rung (by omega)
  obtain ⟨_, U, d1, d0, d2, d3⟩ := add_spec (A := A) (B := B) (by omega) (by omega) (by omega) (by omega)
  rw [d1]
  have pA : 0 < mag A := by have := @mag_lt_iff 0 A; rw [mag_zero] at this; omega
  have hBU : B < U := by
    have : mag B < mag U := by omega
    exact mag_lt_iff.1 this
  have hU : U ≤ 6413125869375586305 := by
    have h1 := mag_dbl (P := 6408622269748215808) (by omega)
    have h2 : mag A ≤ mag 6408622269748215808 := mag_le_iff.2 a2
    have h3 : mag B ≤ mag 6408622269748215808 := mag_le_iff.2 b2
    have h4 : mag (U - 1) ≤ mag (6408622269748215808 + 4503599627370496) := by omega
    have := mag_le_iff.1 h4; omega
  obtain ⟨_, V, e1, e0, e2, e3⟩ := diff_spec (S := U) (B := B) (by omega) (by omega) hBU
  rw [e1]
  have : mag A ≤ mag V := by omega
  have hE := mag_le_iff.1 this
  have hV : V ≤ U := by
    have h1 : mag (V - 1) < mag U := by omega
    have := mag_lt_iff.1 h1; omega
  rw [oA, od_rung (by omega)]; omega

/-- The product's place beside the second factor's. -/
theorem prod_range {A B : Nat} (hA : plainB A = true) (hB : plainB B = true) : ∀ q, (mag A * mag B < mag (q + 1) * one → B - 1801439850948198400 ≤ q) ∧ (mag q * one ≤ mag A * mag B → q ≤ B + 1801439850948198400) := by
  obtain ⟨a1, a2, u, t, hu, ht, m1, m2⟩ := plain_mag hA
  obtain ⟨b1, b2, _⟩ := plain_mag hB
  obtain ⟨c, hc, hone⟩ := one_eq
  obtain ⟨s, hs⟩ : ∃ s : Nat, s = 400 := ⟨_, rfl⟩
  intro q
  have hS1 := mag_shift (B := B - 1801439850948198400) (s := s) (by omega)
  rw [show B - 1801439850948198400 + 4503599627370496 * s = B from by omega] at hS1
  have hS2 := mag_shift (B := B) (s := s) (by omega)
  rw [show B + 4503599627370496 * s = B + 1801439850948198400 from by omega] at hS2
  have hO : 0 < one := by rw [hone]; exact Nat.two_pow_pos _
  constructor
  · intro h
    have k1 : mag (B - 1801439850948198400) * one ≤ mag A * mag B := by
      rw [hS1, hone, show c = s + u from by omega, Nat.pow_add, Nat.mul_comm (mag A), ← Nat.mul_assoc]
      exact Nat.mul_le_mul_left _ m1
    have k2 : mag (B - 1801439850948198400) < mag (q + 1) := Nat.lt_of_mul_lt_mul_right (Nat.lt_of_le_of_lt k1 h)
    have := mag_lt_iff.1 k2; omega
  · intro h
    have k1 : mag A * mag B ≤ mag (B + 1801439850948198400) * one := by
      rw [hS2, hone, Nat.mul_assoc, ← Nat.pow_add, show s + c = t from by omega, Nat.mul_comm]
      exact Nat.mul_le_mul_left _ m2
    have k2 : mag q ≤ mag (B + 1801439850948198400) := Nat.le_of_mul_le_mul_right (Nat.le_trans h k1) hO
    exact mag_le_iff.1 k2

theorem mag_pos {r : Nat} (h : 1 ≤ r) : 0 < mag r := by have := @mag_lt_iff 0 r; rw [mag_zero] at this; omega

theorem quo_down {A B : Nat} (hA : plainB A = true) (hB : plainB B = true) : ∃ c, word (quoF (word (prodF A B false)) B false) = c ∧ c ≤ A ∧ A ≤ c + 2 ∧ word (prodF A B false) < 18446744073709551616 := by
  obtain ⟨a1, a2, _⟩ := plain_mag hA
  obtain ⟨b1, b2, _⟩ := plain_mag hB
  obtain ⟨⟨P, p1, p2, p3⟩, _⟩ := prod_spec (x := A) (y := B) (by omega) (by omega) (by omega) (by omega) (by omega) (by omega)
  have hP1 := (prod_range hA hB P).1 p3
  have hP2 := (prod_range hA hB P).2 p2
  rw [p1]
  obtain ⟨⟨c, c1, c2, c3⟩, _⟩ := quo_spec (x := P) (y := B) (by omega) (by omega) (by omega) (by omega) (by omega) (by omega)
  have pB := mag_pos (r := B) (by omega)
  have hcA : c ≤ A := mag_le_iff.1 (Nat.le_of_mul_le_mul_right (Nat.le_trans c2 p2) pB)
  refine ⟨c, c1, hcA, ?_, by omega⟩
  apply Nat.le_of_not_lt; intro hc
  have k1 : mag (c + 1) * mag B ≤ mag (A - 2) * mag B := Nat.mul_le_mul_right _ (mag_le_iff.2 (by omega))
  have k2 := Nat.mul_le_mul_right one (step_small (r := P) (by omega))
  have k3 := Nat.mul_le_mul_right (mag B) (down2 (r := A) (by omega))
  have k4 : mag (A - 2) * mag B ≤ mag A * mag B := Nat.mul_le_mul_right _ (mag_le_iff.2 (by omega))
  have k5 : mag P * one ≤ mag (P + 1) * one := Nat.mul_le_mul_right _ (mag_le_iff.2 (by omega))
  rw [Nat.mul_assoc, Nat.sub_mul] at k2 k3
  generalize mag P * one = X at *
  generalize mag (P + 1) * one = X1 at *
  generalize mag A * mag B = Y at *
  generalize mag (A - 2) * mag B = Y2 at *
  generalize mag (c + 1) * mag B = W at *
  omega
theorem quo_up {A B : Nat} (hA : plainB A = true) (hB : plainB B = true) : ∃ d, word (quoF (word (prodF A B true)) B true) = d ∧ A ≤ d ∧ d ≤ A + 2 ∧ word (prodF A B true) < 18446744073709551616 := by
  obtain ⟨a1, a2, _⟩ := plain_mag hA
  obtain ⟨b1, b2, _⟩ := plain_mag hB
  obtain ⟨_, P, p1, p0, p2, p3⟩ := prod_spec (x := A) (y := B) (by omega) (by omega) (by omega) (by omega) (by omega) (by omega)
  have hP1 : B - 1801439850948198400 ≤ P := by
    have := (prod_range hA hB P).1 (Nat.lt_of_le_of_lt p3 (Nat.mul_lt_mul_of_pos_right (mag_succ_lt P) (by obtain ⟨c, _, h⟩ := one_eq; rw [h]; exact Nat.two_pow_pos _)))
    exact this
  have hP2 := (prod_range hA hB (P - 1)).2 (Nat.le_of_lt p2)
  rw [p1]
  obtain ⟨_, d, d1, d0, d2, d3⟩ := quo_spec (x := P) (y := B) (by omega) (by omega) (by omega) (by omega) (by omega) (by omega)
  have pB := mag_pos (r := B) (by omega)
  have hAd : A ≤ d := mag_le_iff.1 (Nat.le_of_mul_le_mul_right (Nat.le_trans p3 d3) pB)
  refine ⟨d, d1, hAd, ?_, by omega⟩
  apply Nat.le_of_not_lt; intro hc
  have k1 : mag (A + 2) * mag B ≤ mag (d - 1) * mag B := Nat.mul_le_mul_right _ (mag_le_iff.2 (by omega))
  have k2 := Nat.mul_le_mul_right one (step_small (r := P - 1) (by omega))
  rw [show P - 1 + 1 = P from by omega] at k2
  have k3 := Nat.mul_le_mul_right (mag B) (up2 (r := A) (by omega))
  have k4 : mag A * mag B ≤ mag (A + 2) * mag B := Nat.mul_le_mul_right _ (mag_le_iff.2 (by omega))
  have k5 : mag (P - 1) * one ≤ mag P * one := Nat.mul_le_mul_right _ (mag_le_iff.2 (by omega))
  rw [Nat.mul_assoc, Nat.sub_mul] at k2
  rw [Nat.mul_assoc, Nat.sub_mul, Nat.add_mul] at k3
  generalize mag P * one = X at *
  generalize mag (P - 1) * one = X0 at *
  generalize mag A * mag B = Y at *
  generalize mag (A + 2) * mag B = Y2 at *
  generalize mag (d - 1) * mag B = W at *
  omega

/-- The root's place. -/
theorem root_range {A : Nat} (hA : plainB A = true) : ∀ q, (mag A * one < mag (q + 1) * mag (q + 1) → 2702159776422297600 ≤ q) ∧ (mag q * mag q ≤ mag A * one → q ≤ 6755399441055744000) := by
  obtain ⟨a1, a2, u, t, hu, ht, m1, m2⟩ := plain_mag hA
  obtain ⟨c, hc, hone⟩ := one_eq
  obtain ⟨s, hs⟩ : ∃ s : Nat, s = 599 := ⟨_, rfl⟩
  obtain ⟨v, hv⟩ : ∃ v : Nat, v = 1499 := ⟨_, rfl⟩
  intro q
  constructor
  · intro h
    have k1 : mag (4503599627370496 * (s + 1)) * mag (4503599627370496 * (s + 1)) ≤ mag A * one := by
      rw [mag_pow, ← Nat.pow_add, hone]
      refine Nat.le_trans ?_ (Nat.mul_le_mul_right _ m1)
      rw [← Nat.pow_add]; exact Nat.pow_le_pow_right (by decide) (by omega)
    have k2 := mag_lt_iff.1 (sq_lt (Nat.lt_of_le_of_lt k1 h))
    omega
  · intro h
    have k1 : mag A * one ≤ mag (4503599627370496 * (v + 1)) * mag (4503599627370496 * (v + 1)) := by
      rw [mag_pow, ← Nat.pow_add, hone]
      refine Nat.le_trans (Nat.mul_le_mul_right _ m2) ?_
      rw [← Nat.pow_add]; exact Nat.pow_le_pow_right (by decide) (by omega)
    have k2 := mag_le_iff.1 (sq_le (Nat.le_trans h k1))
    omega

theorem one_pos : 0 < one := by obtain ⟨c, _, h⟩ := one_eq; rw [h]; exact Nat.two_pow_pos _

theorem square_step {g : Nat} (h : 4503599627370496 ≤ g) : 20282409603651670423947251286016 * (mag (g + 1) * mag (g + 1)) ≤ 20282409603651679431146506027009 * (mag g * mag g) := by
  have k := step_small h
  have k' := mag_succ_lt g
  have h1 : 4503599627370496 * mag (g + 1) ≤ 4503599627370497 * mag g := by omega
  have h2 := Nat.mul_le_mul h1 h1
  rw [Nat.mul_mul_mul_comm, Nat.mul_mul_mul_comm 4503599627370497] at h2
  exact h2

theorem square_down {A : Nat} (hA : plainB A = true) : ∃ e, word (prodF (word (rootF A false)) (word (rootF A false)) false) = e ∧ e ≤ A ∧ A ≤ e + 4 ∧ word (rootF A false) < 18446744073709551616 := by
  obtain ⟨a1, a2, _⟩ := plain_mag hA
  obtain ⟨⟨g, g1, g2, g3⟩, _⟩ := root_spec (x := A) (by omega) (by omega)
  have hg1 := (root_range hA g).1 g3
  have hg2 := (root_range hA g).2 g2
  rw [g1]
  obtain ⟨⟨e, e1, e2, e3⟩, _⟩ := prod_spec (x := g) (y := g) (by omega) (by omega) (by omega) (by omega) (by omega) (by omega)
  have e2' : mag e * one ≤ mag g * mag g := e2
  have e3' : mag g * mag g < mag (e + 1) * one := e3
  have heA : e ≤ A := mag_le_iff.1 (Nat.le_of_mul_le_mul_right (Nat.le_trans e2' g2) one_pos)
  refine ⟨e, e1, heA, ?_, by omega⟩
  apply Nat.le_of_not_lt; intro hc
  have k1 : mag (e + 1) * one ≤ mag (A - 4) * one := Nat.mul_le_mul_right _ (mag_le_iff.2 (by omega))
  have k2 := square_step (g := g) (by omega)
  have k3 := Nat.mul_le_mul_right one (down4 (r := A) (by omega))
  have k4 : mag (A - 4) * one ≤ mag A * one := Nat.mul_le_mul_right _ (mag_le_iff.2 (by omega))
  rw [Nat.mul_assoc, Nat.mul_assoc, Nat.sub_mul] at k3
  generalize mag g * mag g = G at *
  generalize mag (g + 1) * mag (g + 1) = G1 at *
  generalize mag A * one = Y at *
  generalize mag (A - 4) * one = Y4 at *
  generalize mag (e + 1) * one = W at *
  omega
theorem square_up {A : Nat} (hA : plainB A = true) : ∃ f, word (prodF (word (rootF A true)) (word (rootF A true)) true) = f ∧ A ≤ f ∧ f ≤ A + 4 ∧ word (rootF A true) < 18446744073709551616 := by
  obtain ⟨a1, a2, _⟩ := plain_mag hA
  obtain ⟨_, g, g1, g0, g2, g3⟩ := root_spec (x := A) (by omega) (by omega)
  have hg1 := (root_range hA g).1 (Nat.lt_of_le_of_lt g3 (Nat.mul_lt_mul_of_lt_of_lt (mag_succ_lt g) (mag_succ_lt g)))
  have hg2 := (root_range hA (g - 1)).2 (Nat.le_of_lt g2)
  rw [g1]
  obtain ⟨_, f, f1, f0, f2, f3⟩ := prod_spec (x := g) (y := g) (by omega) (by omega) (by omega) (by omega) (by omega) (by omega)
  have f2' : mag (f - 1) * one < mag g * mag g := f2
  have f3' : mag g * mag g ≤ mag f * one := f3
  have hAf : A ≤ f := mag_le_iff.1 (Nat.le_of_mul_le_mul_right (Nat.le_trans g3 f3') one_pos)
  refine ⟨f, f1, hAf, ?_, by omega⟩
  apply Nat.le_of_not_lt; intro hc
  have k1 : mag (A + 4) * one ≤ mag (f - 1) * one := Nat.mul_le_mul_right _ (mag_le_iff.2 (by omega))
  have k2 := square_step (g := g - 1) (by omega)
  rw [show g - 1 + 1 = g from by omega] at k2
  have k3 := Nat.mul_le_mul_right one (up4 (r := A) (by omega))
  have k4 : mag A * one ≤ mag (A + 4) * one := Nat.mul_le_mul_right _ (mag_le_iff.2 (by omega))
  rw [Nat.mul_assoc, Nat.mul_assoc, Nat.sub_mul] at k3
  generalize mag g * mag g = G at *
  generalize mag (g - 1) * mag (g - 1) = G0 at *
  generalize mag A * one = Y at *
  generalize mag (A + 4) * one = Y4 at *
  generalize mag (f - 1) * one = W at *
  omega
end Go.Proofs.Ytmjkihclaccidaa
