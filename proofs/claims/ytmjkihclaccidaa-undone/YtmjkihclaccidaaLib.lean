/- Contracts of package math's functions that the program calls: words to words. -/
import Derived.Test.YtmjkihclaccidaaProg
import Derived.Test.YtmjkihclaccidaaBits
import Derived.WalkKit
import Derived.WalkSpells
import Derived.WalkLawsBesides
import Derived.Laws.Externs
namespace Go.Proofs.Ytmjkihclaccidaa
open Go.RowKit

theorem run_frombits (n : Nat) (w : World) : (callFunc 18 #[.int .u64 (n : Int)]).run Try.prog w = .ok (.value (.float .f64 n)) w := by
  rw [run_callFunc_extern Try.func18 (by kernel_rfl) (by kernel_rfl) (by kernel_rfl) (e := Extern.MathFloatBits.float64frombits) (by kernel_rfl)]
  rfl
theorem run_bits (x : Nat) (w : World) : (callFunc 23 #[.float .f64 x]).run Try.prog w = .ok (.value (.int .u64 (x : Int))) w := by
  rw [run_callFunc_extern Try.func23 (by kernel_rfl) (by kernel_rfl) (by kernel_rfl) (e := Extern.MathFloatBits.float64bits) (by kernel_rfl)]
  rfl
theorem run_fma {x y z r : Nat} (h : FloatKind.f64.format.fma x y z = some r) (w : World) : (callFunc 39 #[.float .f64 x, .float .f64 y, .float .f64 z]).run Try.prog w = .ok (.value (.float .f64 r)) w := by
  rw [run_callFunc_extern Try.func39 (by kernel_rfl) (by kernel_rfl) (by kernel_rfl) (e := Extern.MathFMA.fma) (by kernel_rfl)]
  change Result.andThen ((match FloatKind.f64.format.fma x y z with
    | some r => pure (.float .f64 r)
    | none => do
      let (a, b) := if Extern.MathFMA.isNaN x then (x, y) else if Extern.MathFMA.isNaN y then (y, z) else (z, z)
      pure (.float .f64 (← choose (.nanBits .f64 a b))) : Sem Value).run Try.prog w) _ = _
  rw [h]; rfl
theorem run_sqrt {x r : Nat} (h : FloatKind.f64.format.sqrt x = some r) (w : World) : (callFunc 41 #[.float .f64 x]).run Try.prog w = .ok (.value (.float .f64 r)) w := by
  rw [run_callFunc_extern Try.func41 (by kernel_rfl) (by kernel_rfl) (by kernel_rfl) (e := Extern.MathSqrt.sqrt) (by kernel_rfl)]
  change Result.andThen ((match FloatKind.f64.format.sqrt x with
    | some r => pure (.float .f64 r)
    | none => do pure (.float .f64 (← choose (.nanBits .f64 x x))) : Sem Value).run Try.prog w) _ = _
  rw [h]; rfl
/-- The bits of a NaN that the tape gives. -/
def drawnNaN (x y : Nat) (w : World) : Nat := (Question.nanBits .f64 x y).cut (w.tape w.drawn (.nanBits .f64 x y))
theorem drawnNaN_lt (x y : Nat) (w : World) : drawnNaN x y w < 18446744073709551616 := by
  unfold drawnNaN Question.cut; simp only; omega
theorem drawnNaN_nan (x y : Nat) (w : World) : nanB (drawnNaN x y w) = true := by
  unfold nanB rg drawnNaN Question.cut; simp only [decide_eq_true_eq]
  generalize w.tape w.drawn (Question.nanBits FloatKind.f64 x y) = t
  have h1 : t % 2 = 0 ∨ t % 2 = 1 := by omega
  have h2 : t / 2 % (2 ^ 52 - 1) < 2 ^ 52 - 1 := Nat.mod_lt _ (by decide)
  generalize t / 2 % (2 ^ 52 - 1) = u at h2 ⊢
  rcases h1 with h | h <;> rw [h] <;> omega
theorem run_sqrt_nan {x : Nat} (h : FloatKind.f64.format.sqrt x = none) (w : World) : (callFunc 41 #[.float .f64 x]).run Try.prog w = .ok (.value (.float .f64 (drawnNaN x x w))) w.drew := by
  rw [run_callFunc_extern Try.func41 (by kernel_rfl) (by kernel_rfl) (by kernel_rfl) (e := Extern.MathSqrt.sqrt) (by kernel_rfl)]
  change Result.andThen ((match FloatKind.f64.format.sqrt x with
    | some r => pure (.float .f64 r)
    | none => do pure (.float .f64 (← choose (.nanBits .f64 x x))) : Sem Value).run Try.prog w) _ = _
  rw [h]; simp [drawnNaN, Question.forced]
theorem run_arith_nan (op : BinOp) (t : TypeId) (x y : Nat) (hop : op = .add ∨ op = .sub ∨ op = .mul ∨ op = .quo) (h : floatBits op .f64 x y = none) (w : World) :
    (binOp op t (.float .f64 x) (.float .f64 y)).run Try.prog w = .ok (.float .f64 (drawnNaN x y w)) w.drew := by
  unfold floatBits at h
  rcases hop with rfl | rfl | rfl | rfl <;> simp only at h <;> simp [binOp, Op.floatArith, h, drawnNaN, Question.forced]

set_option maxHeartbeats 400000 in
theorem isnan_any (x : Nat) (hx : x < 18446744073709551616) (w : World) :
    Calls Try.prog 22 #[.float .f64 x] w fun e w' => e = .returned (.bool (nanB x)) ∧ w' = w := by
  go_enter Try.func22, Try.ntmps22
  go_wp2
  all_goals (go_ret; rw [isnan_eq hx]; exact ⟨rfl, rfl⟩)

set_option maxHeartbeats 400000 in
theorem abs_any (x : Nat) (hx : x < 18446744073709551616) (w : World) :
    Calls Try.prog 33 #[.float .f64 x] w fun e w' => e = .returned (.float .f64 (rg x)) ∧ w' = w := by
  have h1 := run_bits x
  have h2 := abs_bits hx
  have h3 := run_frombits (rg x)
  go_enter Try.func33, Try.ntmps33
  go_wp2
  all_goals (go_ret; exact ⟨rfl, rfl⟩)

set_option maxHeartbeats 400000 in
theorem isinf_any (x : Nat) (hx : x < 18446744073709551616) (w : World) :
    Calls Try.prog 24 #[.float .f64 x, .int .i64 0] w fun e w' => e = .returned (.bool (infB x)) ∧ w' = w := by
  go_enter Try.func24, Try.ntmps24
  go_wp2_with (first | (go_at_call 33; refine (abs_any _ hx _).mono ?_; rintro e w' ⟨rfl, rfl⟩))
  all_goals (go_ret; rw [isinf_eq]; exact ⟨rfl, rfl⟩)

set_option maxHeartbeats 400000 in
theorem signbit_any (x : Nat) (hx : x < 18446744073709551616) (w : World) :
    Calls Try.prog 34 #[.float .f64 x] w fun e w' => e = .returned (.bool (sg x)) ∧ w' = w := by
  have h1 := run_bits x
  go_enter Try.func34, Try.ntmps34
  go_wp2
  have e : decide (wrap64 (x : Int) < 0) = sg x := by
    unfold wrap64 sg
    by_cases c : 9223372036854775808 ≤ x
    · rw [decide_eq_true c, decide_eq_true (by omega)]
    · rw [decide_eq_false c, decide_eq_false (by omega)]
  all_goals (go_ret; rw [e]; exact ⟨rfl, rfl⟩)

set_option maxHeartbeats 400000 in
theorem copysign_any (x y : Nat) (hx : x < 18446744073709551616) (hy : y < 18446744073709551616) (w : World) :
    Calls Try.prog 35 #[.float .f64 x, .float .f64 y] w fun e w' => e = .returned (.float .f64 (fl (sg y) (rg x))) ∧ w' = w := by
  have h1 := run_bits x
  have h1' := run_bits y
  have h2 := abs_bits hx
  have h3 := top_bits hy
  have h4 := run_frombits (fl (sg y) (rg x))
  have h5 : bits .or .u64 (rg x : Int) (sb y : Int) = ((fl (sg y) (rg x) : Nat) : Int) := by
    rw [u64_or_nat _ _ (by have := rg_lt x; omega) (by have := sb_cases y; omega), or_sign (rg_lt x)]
  go_enter Try.func35, Try.ntmps35
  go_wp2
  all_goals (go_ret; exact ⟨rfl, rfl⟩)

set_option maxHeartbeats 400000 in
theorem infpos_any (w : World) :
    Calls Try.prog 37 #[.int .i64 1] w fun e w' => e = .returned (.float .f64 9218868437227405312) ∧ w' = w := by
  have h := run_frombits 9218868437227405312
  rw [show ((9218868437227405312 : Nat) : Int) = 9218868437227405312 from rfl] at h
  go_enter Try.func37, Try.ntmps37
  go_wp2
  all_goals (go_ret; exact ⟨rfl, rfl⟩)
set_option maxHeartbeats 400000 in
theorem infneg_any (w : World) :
    Calls Try.prog 37 #[.int .i64 (-1)] w fun e w' => e = .returned (.float .f64 18442240474082181120) ∧ w' = w := by
  have h := run_frombits 18442240474082181120
  rw [show ((18442240474082181120 : Nat) : Int) = 18442240474082181120 from rfl] at h
  go_enter Try.func37, Try.ntmps37
  go_wp2
  all_goals (go_ret; exact ⟨rfl, rfl⟩)
end Go.Proofs.Ytmjkihclaccidaa
