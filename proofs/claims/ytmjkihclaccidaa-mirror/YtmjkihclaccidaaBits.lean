/- Bit operations on words, as sign, rung and fields. -/
import Derived.Test.YtmjkihclaccidaaPure
import Derived.RowKit
import Derived.Laws.BitsAllLaws
import GoSem.Op.Unary
namespace Go.Proofs.Ytmjkihclaccidaa
open Ieee Go.RowKit

theorem and_low63 (x : Nat) : x &&& 9223372036854775807 = rg x := by
  have : (9223372036854775807 : Nat) = 2 ^ 63 - 1 := by decide
  rw [this, Nat.and_two_pow_sub_one_eq_mod]; rfl

theorem abs_bits {x : Nat} (hx : x < 18446744073709551616) : bits .andNot .u64 (x : Int) 9223372036854775808 = ((rg x : Nat) : Int) := by
  have := u64_andNot_nat x 9223372036854775808 hx (by decide)
  rw [show ((9223372036854775808 : Nat) : Int) = 9223372036854775808 from rfl] at this
  rw [this]; congr 1; exact and_low63 x

/-- The sign bit alone. -/
def sb (x : Nat) : Nat := if sg x then 9223372036854775808 else 0
theorem sb_cases (x : Nat) : sb x = 0 ∨ sb x = 9223372036854775808 := by unfold sb; split <;> simp

theorem and_top {x : Nat} (hx : x < 18446744073709551616) : x &&& 9223372036854775808 = sb x := by
  have h : x = 2 ^ 63 * (x / 2 ^ 63) + x % 2 ^ 63 := by omega
  unfold sb sg
  have hq : x / 2 ^ 63 = 0 ∨ x / 2 ^ 63 = 1 := by omega
  apply Nat.eq_of_testBit_eq
  intro i
  rw [Nat.testBit_and, show (9223372036854775808 : Nat) = 2 ^ 63 from rfl, Nat.testBit_two_pow]
  by_cases c : 2 ^ 63 ≤ x
  · simp only [c, decide_true, if_true, Nat.testBit_two_pow]
    by_cases d : 63 = i
    · subst d
      simp only [decide_true, Bool.and_true]
      rw [Nat.testBit_eq_decide_div_mod_eq]
      have : x / 2 ^ 63 = 1 := by omega
      simp [this]
    · simp [d]
  · simp only [c, decide_false, Bool.false_eq_true, if_false, Nat.zero_testBit]
    by_cases d : 63 = i
    · subst d
      simp only [decide_true, Bool.and_true]
      rw [Nat.testBit_eq_decide_div_mod_eq]
      have : x / 2 ^ 63 = 0 := by omega
      simp [this]
    · simp [d]

theorem top_bits {x : Nat} (hx : x < 18446744073709551616) : bits .and .u64 (x : Int) 9223372036854775808 = ((sb x : Nat) : Int) := by
  have := u64_and_nat x 9223372036854775808 hx (by decide)
  rw [show ((9223372036854775808 : Nat) : Int) = 9223372036854775808 from rfl] at this
  rw [this, and_top hx]
theorem low_bits {x : Nat} (hx : x < 18446744073709551616) : bits .and .u64 (x : Int) 9223372036854775807 = ((rg x : Nat) : Int) := by
  have := u64_and_nat x 9223372036854775807 hx (by decide)
  rw [show ((9223372036854775807 : Nat) : Int) = 9223372036854775807 from rfl] at this
  rw [this, and_low63 x]

theorem or_sign {r x : Nat} (hr : r < 9223372036854775808) : r ||| sb x = fl (sg x) r := by
  unfold sb fl; cases sg x
  · simp
  · simp only [if_true]
    rw [Nat.or_comm, show (9223372036854775808 : Nat) = 2 ^ 63 * 1 from rfl]
    exact (Nat.two_pow_add_eq_or_of_lt (i := 63) hr 1).symm

theorem xor_top {x : Nat} (hx : x < 18446744073709551616) : x ^^^ 9223372036854775808 = fl (!sg x) (rg x) := by
  have e := fl_eq hx
  have hr := rg_lt x
  generalize sg x = s at e ⊢; generalize rg x = r at e hr ⊢
  subst e
  cases s
  · simp only [fl, Bool.not_false, if_true, Bool.false_eq_true, if_false]
    rw [Nat.add_comm, show (9223372036854775808 : Nat) = 2 ^ 63 * 1 from rfl, Nat.add_comm r, Nat.two_pow_add_eq_or_of_lt (i := 63) hr 1, Nat.or_comm]
    apply Nat.eq_of_testBit_eq; intro i
    rw [Nat.testBit_xor, Nat.testBit_or]
    simp only [Nat.mul_one, Nat.testBit_two_pow]
    by_cases d : 63 = i
    · subst d; rw [Nat.testBit_lt_two_pow hr]; rfl
    · simp [d]
  · simp only [fl, Bool.not_true, if_true, Bool.false_eq_true, if_false]
    have h1 : 9223372036854775808 + r = 2 ^ 63 * 1 + r := rfl
    rw [h1, Nat.two_pow_add_eq_or_of_lt (i := 63) hr 1]
    apply Nat.eq_of_testBit_eq; intro i
    rw [Nat.testBit_xor, Nat.testBit_or, show (9223372036854775808 : Nat) = 2 ^ 63 from rfl, Nat.mul_one, Nat.testBit_two_pow]
    by_cases d : 63 = i
    · subst d; rw [Nat.testBit_lt_two_pow hr]; rfl
    · simp [d]

/-- The word with the other sign. -/
def ng (x : Nat) : Nat := fl (!sg x) (rg x)
theorem ng_lt (x : Nat) : ng x < 18446744073709551616 := fl_lt (rg_lt x)
theorem sg_ng (x : Nat) : sg (ng x) = !sg x := sg_fl (rg_lt x)
theorem rg_ng (x : Nat) : rg (ng x) = rg x := rg_fl (rg_lt x)
theorem ng_ng {x : Nat} (h : x < 18446744073709551616) : ng (ng x) = x := by
  unfold ng; rw [sg_fl (rg_lt x), rg_fl (rg_lt x), Bool.not_not, fl_eq h]
theorem minus_bits {x : Nat} (hx : x < 18446744073709551616) : bits .xor .u64 (x : Int) 9223372036854775808 = ((ng x : Nat) : Int) := by
  have := u64_xor_nat x 9223372036854775808 hx (by decide)
  rw [show ((9223372036854775808 : Nat) : Int) = 9223372036854775808 from rfl] at this
  rw [this, xor_top hx]; rfl
theorem negFloat_eq {x : Nat} (hx : x < 18446744073709551616) : Op.negFloat .f64 x = ng x := by
  have : Op.negFloat .f64 x = x ^^^ 9223372036854775808 := rfl
  rw [this, xor_top hx]; rfl

/-- Not a number, an infinity. -/
def nanB (x : Nat) : Bool := decide (9218868437227405312 < rg x)
def infB (x : Nat) : Bool := decide (rg x = 9218868437227405312)
/-- The place of a word. -/
def od (x : Nat) : Int := ordI (sg x) (rg x)

theorem order_eq {x y : Nat} (hx : x < 18446744073709551616) (hy : y < 18446744073709551616) (nx : nanB x = false) (ny : nanB y = false) :
    FloatKind.f64.format.order x y = some (compare (od x) (od y)) := by
  show (double.read x).order (double.read y) = _
  unfold nanB at nx ny
  rw [decide_eq_false_iff_not] at nx ny
  rw [read_eq hx, read_eq hy, order_rd (by omega) (by omega)]; rfl
theorem order_none {x y : Nat} (hx : x < 18446744073709551616) (hy : y < 18446744073709551616) (nx : nanB x = true) :
    FloatKind.f64.format.order x y = none := by
  show (double.read x).order (double.read y) = _
  unfold nanB at nx
  rw [decide_eq_true_eq] at nx
  rw [read_eq hx, read_eq hy, order_nan_left nx]

theorem isnan_eq {x : Nat} (hx : x < 18446744073709551616) : (FloatKind.f64.format.order x x != some .eq) = nanB x := by
  cases h : nanB x
  · rw [order_eq hx hx h h, cmp_eq rfl]; rfl
  · rw [order_none hx hx h]; rfl

theorem od_rung {r : Nat} (h : r < 9223372036854775808) : od r = r := by
  unfold od ordI sg rg
  rw [decide_eq_false (by omega)]; simp; omega
theorem nanB_rung {r : Nat} (h : r < 9223372036854775808) : nanB r = decide (9218868437227405312 < r) := by
  unfold nanB rg; rw [Nat.mod_eq_of_lt h]
theorem nanB_rg (x : Nat) : nanB (rg x) = nanB x := by
  rw [nanB_rung (rg_lt x)]; rfl

theorem isinf_eq {x : Nat} : (FloatKind.f64.format.order (rg x) 9218868437227405311 == some .gt) = infB x := by
  have hr := rg_lt x
  cases h : nanB x
  · rw [order_eq (by omega) (by decide) (by rw [nanB_rg]; exact h) (by decide), od_rung hr, od_rung (by decide)]
    unfold nanB at h; unfold infB
    rw [decide_eq_false_iff_not] at h
    by_cases c : rg x = 9218868437227405312
    · rw [c]; decide
    · rw [decide_eq_false c]
      by_cases d : rg x = 9218868437227405311
      · rw [d]; decide
      · rw [cmp_lt (by omega)]; rfl
  · rw [order_none (by omega) (by decide) (by rw [nanB_rg]; exact h)]
    unfold nanB at h; unfold infB
    rw [decide_eq_true_eq] at h
    rw [decide_eq_false (by omega)]; rfl

/-- Above 0, below 0, equal to 0. -/
theorem gt0_eq {x : Nat} (hx : x < 18446744073709551616) (nx : nanB x = false) : (FloatKind.f64.format.order x 0 == some .gt) = decide (0 < od x) := by
  rw [order_eq hx (by decide) nx (by decide), show od 0 = 0 from rfl]
  rcases Int.lt_trichotomy (od x) 0 with h | h | h
  · rw [cmp_lt h, decide_eq_false (by omega)]; rfl
  · rw [cmp_eq h, decide_eq_false (by omega)]; rfl
  · rw [cmp_gt h, decide_eq_true h]; rfl
theorem lt0_eq {x : Nat} (hx : x < 18446744073709551616) (nx : nanB x = false) : (FloatKind.f64.format.order x 0 == some .lt) = decide (od x < 0) := by
  rw [order_eq hx (by decide) nx (by decide), show od 0 = 0 from rfl]
  rcases Int.lt_trichotomy (od x) 0 with h | h | h
  · rw [cmp_lt h, decide_eq_true h]; rfl
  · rw [cmp_eq h, decide_eq_false (by omega)]; rfl
  · rw [cmp_gt h, decide_eq_false (by omega)]; rfl
theorem od_zero {x : Nat} : od x = 0 ↔ rg x = 0 := by unfold od ordI; split <;> omega
theorem eq0_eq {x : Nat} (hx : x < 18446744073709551616) : (FloatKind.f64.format.order x 0 == some .eq) = decide (rg x = 0) := by
  cases h : nanB x
  · rw [order_eq hx (by decide) h (by decide), show od 0 = 0 from rfl]
    rcases Int.lt_trichotomy (od x) 0 with h | h | h
    · rw [cmp_lt h, decide_eq_false (by have := @od_zero x; omega)]; rfl
    · rw [cmp_eq h, decide_eq_true (od_zero.1 h)]; rfl
    · rw [cmp_gt h, decide_eq_false (by have := @od_zero x; omega)]; rfl
  · rw [order_none hx (by decide) h]
    unfold nanB at h; rw [decide_eq_true_eq] at h
    rw [decide_eq_false (by omega)]; rfl
end Go.Proofs.Ytmjkihclaccidaa
