/- Sums, products, quotients of finite words: what they are rounded from. -/
import Derived.Test.YtmjkihclaccidaaRound
import Derived.Test.YtmjkihclaccidaaBits
namespace Go.Proofs.Ytmjkihclaccidaa
open Ieee

/-- A finite rung's significand and place. -/
def mm (r : Nat) : Nat := if r < 4503599627370496 then r else 4503599627370496 + r % 4503599627370496
def pp (r : Nat) : Int := if r < 4503599627370496 then -1074 else -1074 + ((r / 4503599627370496 - 1 : Nat) : Int)

theorem rd_mp {s : Bool} {r : Nat} (h : r < 9218868437227405312) : rd s r = .number s (mm r) (pp r) := by
  unfold rd mm pp
  by_cases c : r < 4503599627370496
  · rw [if_pos c, if_pos c, if_pos c]
  · rw [if_neg c, if_pos h, if_neg c, if_neg c]
theorem pp_ge (r : Nat) : -1074 ≤ pp r := by unfold pp; split <;> omega
theorem pp_le {r : Nat} (h : r < 9218868437227405312) : pp r ≤ 971 := by unfold pp; split <;> omega
theorem mm_lt (r : Nat) : mm r < 9007199254740992 := by unfold mm; split <;> omega
theorem mm_mag (r : Nat) : mm r * 2 ^ (pp r + 1074).toNat = mag r := by
  unfold mm pp mag
  by_cases c : r < 4503599627370496
  · rw [if_pos c, if_pos c, if_pos c]; simp
  · rw [if_neg c, if_neg c, if_neg c, show (-1074 + ((r / 4503599627370496 - 1 : Nat) : Int) + 1074).toNat = r / 4503599627370496 - 1 from by omega]
theorem mm_zero {r : Nat} : mm r = 0 ↔ r = 0 := by unfold mm; split <;> omega

theorem write_fl (s : Bool) (m : Nat) (p : Int) : double.write (.number s m p) = fl s (double.nearest false m p) := nearest_sign s m p

theorem mul_eq {x y : Nat} (hx : x < 18446744073709551616) (hy : y < 18446744073709551616) (fx : rg x < 9218868437227405312) (fy : rg y < 9218868437227405312) :
    double.mul x y = some (fl (sg x ^^ sg y) (double.nearest false (mm (rg x) * mm (rg y)) (pp (rg x) + pp (rg y)))) := by
  unfold Format.mul
  rw [read_eq hx, read_eq hy, rd_mp fx, rd_mp fy]
  simp only [Datum.product, Option.map_some, write_fl]

theorem near_lt_S (m : Nat) (p : Int) : double.nearest false m p < 9223372036854775808 := by have := nearest_le m p; omega

/-- What normalize makes of a number below the normal ones. -/
theorem mul52 {x : Nat} (hx : x < 18446744073709551616) (zx : rg x ≠ 0) (cx : rg x < 4503599627370496) :
    ∃ r, double.mul x 4841369599423283200 = some (fl (sg x) r) ∧ 4503599627370496 ≤ r ∧ r ≤ 238690780250636288 ∧ mag r = rg x * 4503599627370496 := by
  have e := mul_eq hx (y := 4841369599423283200) (by decide) (by omega) (by decide)
  rw [show sg 4841369599423283200 = false from by decide, show mm (rg 4841369599423283200) = 4503599627370496 from by decide, show pp (rg 4841369599423283200) = 0 from by decide, Bool.xor_false] at e
  have e1 : mm (rg x) = rg x := by unfold mm; rw [if_pos cx]
  have e2 : pp (rg x) = -1074 := by unfold pp; rw [if_pos cx]
  rw [e1, e2] at e
  refine ⟨_, e, ?_, ?_, ?_⟩
  · refine near_ge (K := 1074) (by omega) (by omega) (by omega) ?_
    rw [show mag 4503599627370496 = 4503599627370496 from by decide]; simp; omega
  · refine near_le (K := 1074) (by omega) (by omega) ?_
    rw [show (238690780250636288 : Nat) = 52 * 4503599627370496 + 4503599627370496 from rfl, mag_mk (by omega) (by omega)]; simp
    omega
  · -- exact: the significand, shifted to 53 bits
    obtain ⟨q, hq1, hq2⟩ : ∃ q, mag q = rg x * 4503599627370496 ∧ q ≤ 9218868437227405312 := by
      have hr : rg x ≠ 0 := zx
      obtain ⟨g1, g2⟩ := log2_bounds hr
      have hl : (rg x).log2 < 52 := (Nat.log2_lt hr).2 cx
      refine ⟨(rg x).log2 * 4503599627370496 + rg x * 2 ^ (52 - (rg x).log2), ?_, ?_⟩
      · have a1 : 2 ^ (rg x).log2 * 2 ^ (52 - (rg x).log2) ≤ rg x * 2 ^ (52 - (rg x).log2) := Nat.mul_le_mul_right _ g1
        have a2 : rg x * 2 ^ (52 - (rg x).log2) ≤ 2 ^ ((rg x).log2 + 1) * 2 ^ (52 - (rg x).log2) := Nat.mul_le_mul_right _ (by omega)
        rw [← Nat.pow_add, show (rg x).log2 + (52 - (rg x).log2) = 52 from by omega] at a1
        rw [← Nat.pow_add, show (rg x).log2 + 1 + (52 - (rg x).log2) = 53 from by omega] at a2
        rw [mag_mk (Or.inr a1) a2, Nat.mul_assoc, ← Nat.pow_add, show 52 - (rg x).log2 + (rg x).log2 = 52 from by omega]
      · have a2 : rg x * 2 ^ (52 - (rg x).log2) ≤ 2 ^ ((rg x).log2 + 1) * 2 ^ (52 - (rg x).log2) := Nat.mul_le_mul_right _ (by omega)
        rw [← Nat.pow_add, show (rg x).log2 + 1 + (52 - (rg x).log2) = 53 from by omega, show (2 : Nat) ^ 53 = 9007199254740992 from rfl] at a2
        omega
    rw [near_exact (K := 1074) (q := q) (by omega) (by omega) hq2 (by rw [hq1]; simp), hq1]
end Go.Proofs.Ytmjkihclaccidaa
