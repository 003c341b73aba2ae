/- Contracts of the law package's own small functions. -/
import Derived.Test.YtmjkihclaccidaaOpsb
namespace Go.Proofs.Ytmjkihclaccidaa
open Go.RowKit

set_option maxHeartbeats 1000000 in
theorem number_any (a : Nat) (ha : a < 18446744073709551616) (w : World) :
    Calls Try.prog 11 #[.int .u64 a] w fun e w' => e = .returned (.bool (!nanB a)) ∧ w' = w := by
  have h := low_bits ha
  have e0 : decide ((rg a : Int) ≤ 9218868437227405312) = !nanB a := by
    unfold nanB; by_cases c : 9218868437227405312 < rg a
    · rw [decide_eq_true c, decide_eq_false (by omega)]; rfl
    · rw [decide_eq_false c, decide_eq_true (by omega)]; rfl
  go_enter Try.func11, Try.ntmps11
  go_wp2
  go_ret
  (try rw [e0]); exact ⟨rfl, rfl⟩

set_option maxHeartbeats 1000000 in
theorem order_any (a : Nat) (ha : a < 18446744073709551616) (w : World) :
    Calls Try.prog 12 #[.int .u64 a] w fun e w' => e = .returned (.int .i64 (od a)) ∧ w' = w := by
  have h := low_bits ha
  have hr := rg_lt a
  have hr' : (rg a : Int) < 9223372036854775808 := by omega
  by_cases c : 9223372036854775808 ≤ a
  · have e0 : od a = -(rg a : Int) := by unfold od ordI sg; rw [decide_eq_true c]; rfl
    have c' : (9223372036854775808 : Int) ≤ (a : Int) := by omega
    rw [e0]
    clear e0 c
    go_enter Try.func12, Try.ntmps12
    go_wp2
    go_ret
    exact ⟨rfl, rfl⟩
  · have e0 : od a = (rg a : Int) := by unfold od ordI sg; rw [decide_eq_false c]; rfl
    have c' : ¬ (9223372036854775808 : Int) ≤ (a : Int) := by omega
    rw [e0]
    clear e0 c
    go_enter Try.func12, Try.ntmps12
    go_wp2
    go_ret
    exact ⟨rfl, rfl⟩

set_option maxHeartbeats 1000000 in
theorem minus_any (a : Nat) (ha : a < 18446744073709551616) (w : World) :
    Calls Try.prog 13 #[.int .u64 a] w fun e w' => e = .returned (.int .u64 ((ng a : Nat) : Int)) ∧ w' = w := by
  have h := minus_bits ha
  go_enter Try.func13, Try.ntmps13
  go_wp2
  go_ret
  exact ⟨rfl, rfl⟩

def otherF (a : Nat) : Nat := if nanB a then a else ng a
set_option maxHeartbeats 1000000 in
theorem other_any (a : Nat) (ha : a < 18446744073709551616) (w : World) :
    Calls Try.prog 14 #[.int .u64 a] w fun e w' => e = .returned (.int .u64 ((otherF a : Nat) : Int)) ∧ w' = w := by
  unfold otherF
  cases h : nanB a
  · rw [if_neg (by decide)]
    go_enter Try.func14, Try.ntmps14
    go_wp2_with (first | (go_at_call 11; refine (number_any _ ha _).mono ?_; rintro e w' ⟨rfl, rfl⟩) | (go_at_call 13; refine (minus_any _ ha _).mono ?_; rintro e w' ⟨rfl, rfl⟩))
    go_ret
    exact ⟨rfl, rfl⟩
  · rw [if_pos rfl]
    go_enter Try.func14, Try.ntmps14
    go_wp2_with (first | (go_at_call 11; refine (number_any _ ha _).mono ?_; rintro e w' ⟨rfl, rfl⟩))
    go_ret
    exact ⟨rfl, rfl⟩

/-- The same or neighbours, or both no number. -/
def NearOk (lo hi : Nat) : Prop := (lo = 9221120237041090560 ∧ hi = 9221120237041090560) ∨ (lo < 18446744073709551616 ∧ hi < 18446744073709551616 ∧ nanB lo = false ∧ nanB hi = false ∧ (od hi = od lo ∨ od hi = od lo + 1))

set_option maxHeartbeats 1000000 in
theorem near_any (lo hi : Nat) (h : NearOk lo hi) (w : World) :
    Calls Try.prog 10 #[.int .u64 lo, .int .u64 hi] w fun e w' => e = .returned (.bool true) ∧ w' = w := by
  rcases h with ⟨rfl, rfl⟩ | ⟨hl, hh, nl, nh, hd⟩
  · have nu := number_any 9221120237041090560 (by decide)
    rw [show nanB 9221120237041090560 = true from by decide, show ((9221120237041090560 : Nat) : Int) = 9221120237041090560 from rfl] at nu
    rw [show ((9221120237041090560 : Nat) : Int) = 9221120237041090560 from rfl]
    go_enter Try.func10, Try.ntmps10
    go_wp2_with (first | (go_at_call 11; refine (nu _).mono ?_; rintro e w' ⟨rfl, rfl⟩))
    go_ret
    exact ⟨rfl, rfl⟩
  · have b1 := (od_bound nl).1; have b2 := (od_bound nl).2
    have b3 := (od_bound nh).1; have b4 := (od_bound nh).2
    rcases hd with hd | hd
    · have h0 : (wrap64 (od hi - od lo) == 0) = true := by rw [beq_iff_eq]; unfold wrap64; omega
      clear hd
      go_enter Try.func10, Try.ntmps10
      go_wp2_with (first | (go_at_call 11; refine (number_any _ (by first | exact hl | exact hh) _).mono ?_; rintro e w' ⟨rfl, rfl⟩) | (go_at_call 12; refine (order_any _ (by first | exact hl | exact hh) _).mono ?_; rintro e w' ⟨rfl, rfl⟩))
      go_ret
      exact ⟨rfl, rfl⟩
    · have h0 : (wrap64 (od hi - od lo) == 0) = false := by rw [beq_eq_false_iff_ne]; unfold wrap64; omega
      have h1 : (wrap64 (od hi - od lo) == 1) = true := by rw [beq_iff_eq]; unfold wrap64; omega
      clear hd
      go_enter Try.func10, Try.ntmps10
      go_wp2_with (first | (go_at_call 11; refine (number_any _ (by first | exact hl | exact hh) _).mono ?_; rintro e w' ⟨rfl, rfl⟩) | (go_at_call 12; refine (order_any _ (by first | exact hl | exact hh) _).mono ?_; rintro e w' ⟨rfl, rfl⟩))
      go_ret
      exact ⟨rfl, rfl⟩

def plainB (a : Nat) : Bool := decide (2805742567851819008 ≤ a ∧ a ≤ 6408622269748215808)
set_option maxHeartbeats 1000000 in
theorem plain_any (a : Nat) (w : World) :
    Calls Try.prog 15 #[.int .u64 a] w fun e w' => e = .returned (.bool (plainB a)) ∧ w' = w := by
  unfold plainB
  by_cases c1 : 2805742567851819008 ≤ a
  · by_cases c2 : a ≤ 6408622269748215808
    · rw [decide_eq_true ⟨c1, c2⟩]
      have c1' : (2805742567851819008 : Int) ≤ (a : Int) := by omega
      have c2' : (a : Int) ≤ 6408622269748215808 := by omega
      clear c1 c2
      go_enter Try.func15, Try.ntmps15
      go_wp2
      go_ret
      exact ⟨rfl, rfl⟩
    · rw [decide_eq_false (by omega)]
      have c1' : (2805742567851819008 : Int) ≤ (a : Int) := by omega
      have c2' : ¬ (a : Int) ≤ 6408622269748215808 := by omega
      clear c1 c2
      go_enter Try.func15, Try.ntmps15
      go_wp2
      go_ret
      exact ⟨rfl, rfl⟩
  · rw [decide_eq_false (by omega)]
    have c1' : ¬ (2805742567851819008 : Int) ≤ (a : Int) := by omega
    clear c1
    go_enter Try.func15, Try.ntmps15
    go_wp2
    go_ret
    exact ⟨rfl, rfl⟩
end Go.Proofs.Ytmjkihclaccidaa
