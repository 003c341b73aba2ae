/- Rungs side by side: how far apart they lie. -/
import Derived.Test.YtmjkihclaccidaaMirrorMath
namespace Go.Proofs.Ytmjkihclaccidaa
open Ieee

/-- A normal rung: place and significand. -/
theorem norm_split {r : Nat} (h : 4503599627370496 ≤ r) : ∃ L k, r = L * 4503599627370496 + k ∧ 4503599627370496 ≤ k ∧ k < 9007199254740992 ∧ mag r = k * 2 ^ L ∧ L = r / 4503599627370496 - 1 ∧ mm r = k ∧ pp r = (L : Int) - 1074 ∧ r / 4503599627370496 = L + 1 ∧ r % 4503599627370496 = k - 4503599627370496 := by
  refine ⟨r / 4503599627370496 - 1, 4503599627370496 + r % 4503599627370496, by omega, by omega, by omega, ?_, rfl, ?_, ?_, by omega, by omega⟩
  · unfold mag; rw [if_neg (by omega)]
  · unfold mm; rw [if_neg (by omega)]
  · unfold pp; rw [if_neg (by omega)]; omega

theorem mag_next {r L k : Nat} (hr : r = L * 4503599627370496 + k) (h1 : 4503599627370496 ≤ k) (h2 : k < 9007199254740992) : mag (r + 1) = mag r + 2 ^ L := by
  subst hr
  rw [show L * 4503599627370496 + k + 1 = L * 4503599627370496 + (k + 1) from by omega, mag_mk (Or.inr (by omega)) (by omega), mag_mk (Or.inr h1) (by omega), Nat.add_mul, Nat.one_mul]

/-- One step up is at most a 2^52nd part. -/
theorem step_small {r : Nat} (h : 4503599627370496 ≤ r) : 4503599627370496 * (mag (r + 1) - mag r) ≤ mag r := by
  obtain ⟨L, k, e, h1, h2, h3, _⟩ := norm_split h
  rw [mag_next e h1 h2, h3, Nat.add_sub_cancel_left]
  exact Nat.mul_le_mul_right _ h1
/-- j steps up from a rung are at least j times its own. -/
theorem steps_up {r L k : Nat} (hr : r = L * 4503599627370496 + k) (h1 : 4503599627370496 ≤ k) (h2 : k < 9007199254740992) : ∀ j, mag r + j * 2 ^ L ≤ mag (r + j)
  | 0 => by simp
  | j + 1 => by
    have ih := steps_up hr h1 h2 j
    obtain ⟨L', k', e, g1, g2, g3, g4, _⟩ := norm_split (r := r + j) (by omega)
    have hL : L ≤ L' := by omega
    have := mag_next e g1 g2
    have hp : 2 ^ L ≤ 2 ^ L' := Nat.pow_le_pow_right (by decide) hL
    rw [← Nat.add_assoc, this, Nat.add_mul, Nat.one_mul]; omega
theorem up2 {r : Nat} (h : 4503599627370496 ≤ r) : mag r + mag r ≤ 9007199254740992 * (mag (r + 2) - mag r) := by
  obtain ⟨L, k, e, h1, h2, h3, _⟩ := norm_split h
  have := steps_up e h1 h2 2
  have hk : k * 2 ^ L ≤ 9007199254740992 * 2 ^ L := Nat.mul_le_mul_right _ (by omega)
  rw [h3] at this ⊢
  generalize 2 ^ L = P at *
  generalize mag (r + 2) = M at *
  omega
theorem up4 {r : Nat} (h : 4503599627370496 ≤ r) : 9007199254740993 * mag r ≤ 20282409603651670423947251286016 * (mag (r + 4) - mag r) := by
  obtain ⟨L, k, e, h1, h2, h3, _⟩ := norm_split h
  have := steps_up e h1 h2 4
  have hk : k * 2 ^ L ≤ 9007199254740991 * 2 ^ L := Nat.mul_le_mul_right _ (by omega)
  rw [h3] at this ⊢
  generalize 2 ^ L = P at *
  generalize mag (r + 4) = M at *
  generalize k * P = Q at *
  omega

/-- j steps down. -/
theorem steps_down {r j : Nat} (h : 9007199254740992 ≤ r) (hj : j ≤ 4) : ∃ P f : Nat, (f < j ∧ mag r = (9007199254740992 + 2 * f) * P ∧ mag (r - j) = (9007199254740992 + f - j) * P) ∨ (j ≤ f ∧ f < 4503599627370496 ∧ mag r = (4503599627370496 + f) * P ∧ mag (r - j) = (4503599627370496 + f - j) * P) := by
  obtain ⟨L, k, e, h1, h2, h3, h4, _⟩ := norm_split (r := r) (by omega)
  by_cases c : 4503599627370496 + j ≤ k
  · refine ⟨2 ^ L, k - 4503599627370496, Or.inr ⟨by omega, by omega, ?_, ?_⟩⟩
    · rw [h3, show 4503599627370496 + (k - 4503599627370496) = k from by omega]
    · rw [show r - j = L * 4503599627370496 + (k - j) from by omega, mag_mk (Or.inr (by omega)) (by omega), show 4503599627370496 + (k - 4503599627370496) - j = k - j from by omega]
  · have hL : 1 ≤ L := by omega
    refine ⟨2 ^ (L - 1), k - 4503599627370496, Or.inl ⟨by omega, ?_, ?_⟩⟩
    · have hp : 2 ^ L = 2 * 2 ^ (L - 1) := by rw [show L = L - 1 + 1 from by omega, Nat.pow_succ, Nat.mul_comm, show L - 1 + 1 - 1 = L - 1 from by omega]
      rw [h3, hp, ← Nat.mul_assoc, show k * 2 = 9007199254740992 + 2 * (k - 4503599627370496) from by omega]
    · rw [show r - j = (L - 1) * 4503599627370496 + (9007199254740992 + (k - 4503599627370496) - j) from by omega, mag_mk (Or.inr (by omega)) (by omega)]
theorem down2 {r : Nat} (h : 9007199254740992 ≤ r) : mag r ≤ 4503599627370496 * (mag r - mag (r - 2)) := by
  obtain ⟨P, f, ⟨h1, h2, h3⟩ | ⟨h1, h0, h2, h3⟩⟩ := steps_down h (show 2 ≤ 4 by omega)
  · rw [h2, h3]
    have : f = 0 ∨ f = 1 := by omega
    rcases this with rfl | rfl <;> omega
  · rw [h2, h3, ← Nat.sub_mul, show 4503599627370496 + f - (4503599627370496 + f - 2) = 2 from by omega, ← Nat.mul_assoc]
    exact Nat.mul_le_mul_right _ (by omega)
theorem down4 {r : Nat} (h : 9007199254740992 ≤ r) : 9007199254740993 * mag (r - 4) ≤ 20282409603651670423947251286016 * (mag r - mag (r - 4)) := by
  obtain ⟨P, f, ⟨h1, h2, h3⟩ | ⟨h1, h0, h2, h3⟩⟩ := steps_down h (show 4 ≤ 4 by omega)
  · rw [h2, h3]
    have : f = 0 ∨ f = 1 ∨ f = 2 ∨ f = 3 := by omega
    rcases this with rfl | rfl | rfl | rfl <;> omega
  · rw [h2, h3, ← Nat.sub_mul, show 4503599627370496 + f - (4503599627370496 + f - 4) = 4 from by omega, ← Nat.mul_assoc, ← Nat.mul_assoc]
    exact Nat.mul_le_mul_right _ (by omega)

/-- What the format has: up to 53 digits at a place. -/
theorem repr_of : ∀ (L k : Nat), k ≤ 9007199254740992 → ∃ q, mag q = k * 2 ^ L
  | 0, k, h => ⟨0 * 4503599627370496 + k, mag_mk (Or.inl rfl) h⟩
  | L + 1, k, h => by
    by_cases c : 4503599627370496 ≤ k
    · exact ⟨(L + 1) * 4503599627370496 + k, mag_mk (Or.inr c) h⟩
    · obtain ⟨q, h1⟩ := repr_of L (2 * k) (by omega)
      refine ⟨q, ?_⟩
      rw [h1, Nat.pow_succ]
      generalize 2 ^ L = P
      rw [Nat.mul_comm 2 k, Nat.mul_assoc, Nat.mul_comm 2 P]
/-- A rung not below a normal one is a multiple of its unit. -/
theorem mult_of {r q L k : Nat} (hr : r = L * 4503599627370496 + k) (h1 : 4503599627370496 ≤ k) (h : r ≤ q) : ∃ j, mag q = j * 2 ^ L := by
  obtain ⟨L', k', e, g1, g2, g3, g4, _⟩ := norm_split (r := q) (by omega)
  have hL : L ≤ L' := by omega
  refine ⟨k' * 2 ^ (L' - L), ?_⟩
  rw [g3, Nat.mul_assoc, ← Nat.pow_add, show L' - L + L = L' from by omega]
theorem sg_rung {r : Nat} (h : r < 9223372036854775808) : sg r = false := by unfold sg; rw [decide_eq_false (by omega)]
theorem rg_rung {r : Nat} (h : r < 9223372036854775808) : rg r = r := by unfold rg; omega
end Go.Proofs.Ytmjkihclaccidaa
