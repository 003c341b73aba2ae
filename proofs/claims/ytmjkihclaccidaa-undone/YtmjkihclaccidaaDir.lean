/- Contracts of package round's small functions. -/
import Derived.Test.YtmjkihclaccidaaLibb
import Derived.Test.YtmjkihclaccidaaNums
namespace Go.Proofs.Ytmjkihclaccidaa
open Go.RowKit

def ordB (x : Nat) : Bool := decide (rg x ≠ 0 ∧ rg x < 9218868437227405312)
theorem ne0_eq {x : Nat} (hx : x < 18446744073709551616) : (FloatKind.f64.format.order x 0 != some .eq) = !decide (rg x = 0) := by
  rw [← eq0_eq hx]; rfl

set_option maxHeartbeats 1000000 in
theorem ordinary_any (x : Nat) (hx : x < 18446744073709551616) (w : World) :
    Calls Try.prog 28 #[.float .f64 x] w fun e w' => e = .returned (.bool (ordB x)) ∧ w' = w := by
  have o := ne0_eq hx
  by_cases c0 : rg x = 0
  · have e0 : ordB x = false := by unfold ordB; rw [decide_eq_false (by omega)]
    rw [decide_eq_true c0] at o
    simp only [Bool.not_true] at o
    go_enter Try.func28, Try.ntmps28
    go_wp2_with (first | (go_at_call 24; refine (isinf_any _ hx _).mono ?_; rintro e w' ⟨rfl, rfl⟩) | (go_at_call 22; refine (isnan_any _ hx _).mono ?_; rintro e w' ⟨rfl, rfl⟩))
    go_ret
    (try rw [e0]); exact ⟨rfl, rfl⟩
  · rw [decide_eq_false c0] at o
    simp only [Bool.not_false] at o
    by_cases c1 : rg x = 9218868437227405312
    · have e0 : ordB x = false := by unfold ordB; rw [decide_eq_false (by omega)]
      have i0 : infB x = true := by unfold infB; rw [decide_eq_true c1]
      go_enter Try.func28, Try.ntmps28
      go_wp2_with (first | (go_at_call 24; refine (isinf_any _ hx _).mono ?_; rintro e w' ⟨rfl, rfl⟩) | (go_at_call 22; refine (isnan_any _ hx _).mono ?_; rintro e w' ⟨rfl, rfl⟩))
      go_ret
      (try rw [e0]); exact ⟨rfl, rfl⟩
    · have i0 : infB x = false := by unfold infB; rw [decide_eq_false c1]
      by_cases c2 : rg x < 9218868437227405312
      · have e0 : ordB x = true := by unfold ordB; rw [decide_eq_true (by omega)]
        have n0 : nanB x = false := by unfold nanB; rw [decide_eq_false (by omega)]
        go_enter Try.func28, Try.ntmps28
        go_wp2_with (first | (go_at_call 24; refine (isinf_any _ hx _).mono ?_; rintro e w' ⟨rfl, rfl⟩) | (go_at_call 22; refine (isnan_any _ hx _).mono ?_; rintro e w' ⟨rfl, rfl⟩))
        go_ret
        (try rw [e0]); exact ⟨rfl, rfl⟩
      · have e0 : ordB x = false := by unfold ordB; rw [decide_eq_false (by omega)]
        have n0 : nanB x = true := by unfold nanB; rw [decide_eq_true (by omega)]
        go_enter Try.func28, Try.ntmps28
        go_wp2_with (first | (go_at_call 24; refine (isinf_any _ hx _).mono ?_; rintro e w' ⟨rfl, rfl⟩) | (go_at_call 22; refine (isnan_any _ hx _).mono ?_; rintro e w' ⟨rfl, rfl⟩))
        go_ret
        (try rw [e0]); exact ⟨rfl, rfl⟩

/-- What Directed answers. -/
def dirF (near : Nat) (miss : Nat) (up : Bool) : Nat :=
  if up then (if 0 < od miss then nextUp near else near) else (if od miss < 0 then nextDn near else near)

set_option maxHeartbeats 1000000 in
theorem directed_any (x y : Nat) (up : Bool) (hx : x < 18446744073709551616) (hy : y < 18446744073709551616) (nx : nanB x = false) (ny : nanB y = false) (w : World) :
    Calls Try.prog 26 #[.float .f64 x, .float .f64 y, .bool up] w fun e w' => e = .returned (.float .f64 (dirF x y up)) ∧ w' = w := by
  have o1 := gt0_eq hy ny
  have o2 := lt0_eq hy ny
  cases up
  · by_cases c : od y < 0
    · rw [decide_eq_true c] at o2
      have e0 : dirF x y false = nextDn x := by unfold dirF; rw [if_neg (by decide), if_pos c]
      go_enter Try.func26, Try.ntmps26
      go_wp2_with (first | (go_at_call 37; refine (infneg_any _).mono ?_; rintro e w' ⟨rfl, rfl⟩) | (go_at_call 36; refine (nextafter_dn _ hx nx _).mono ?_; rintro e w' ⟨rfl, rfl⟩))
      go_ret
      (try rw [e0]); exact ⟨rfl, rfl⟩
    · rw [decide_eq_false c] at o2
      have e0 : dirF x y false = x := by unfold dirF; rw [if_neg (by decide), if_neg c]
      go_enter Try.func26, Try.ntmps26
      go_wp2
      go_ret
      (try rw [e0]); exact ⟨rfl, rfl⟩
  · by_cases c : 0 < od y
    · rw [decide_eq_true c] at o1
      have e0 : dirF x y true = nextUp x := by unfold dirF; rw [if_pos rfl, if_pos c]
      go_enter Try.func26, Try.ntmps26
      go_wp2_with (first | (go_at_call 37; refine (infpos_any _).mono ?_; rintro e w' ⟨rfl, rfl⟩) | (go_at_call 36; refine (nextafter_up _ hx nx _).mono ?_; rintro e w' ⟨rfl, rfl⟩))
      go_ret
      (try rw [e0]); exact ⟨rfl, rfl⟩
    · rw [decide_eq_false c] at o1
      have e0 : dirF x y true = x := by unfold dirF; rw [if_pos rfl, if_neg c]
      go_enter Try.func26, Try.ntmps26
      go_wp2
      go_ret
      (try rw [e0]); exact ⟨rfl, rfl⟩

def zsF (a b : Nat) (up : Bool) : Nat := if sg a = sg b then a else if up then 0 else 9223372036854775808
set_option maxHeartbeats 1000000 in
theorem zerosum_any (a b : Nat) (up : Bool) (ha : a < 18446744073709551616) (hb : b < 18446744073709551616) (w : World) :
    Calls Try.prog 25 #[.float .f64 a, .float .f64 b, .bool up] w fun e w' => e = .returned (.float .f64 (zsF a b up)) ∧ w' = w := by
  by_cases c : sg a = sg b
  · have e0 : zsF a b up = a := by unfold zsF; rw [if_pos c]
    have c' : (sg a == sg b) = true := by rw [c]; simp
    clear c
    go_enter Try.func25, Try.ntmps25
    go_wp2_with (first | (go_at_call 34; refine (signbit_any _ (by first | exact ha | exact hb) _).mono ?_; rintro e w' ⟨rfl, rfl⟩))
    go_ret
    (try rw [e0]); exact ⟨rfl, rfl⟩
  · have c' : (sg a == sg b) = false := by simpa using c
    clear c
    have d : sg a ≠ sg b := by simpa using c'
    cases up
    · have e0 : zsF a b false = 9223372036854775808 := by unfold zsF; rw [if_neg d, if_neg (by decide)]
      clear d
      have cs := copysign_any 0 13830554455654793216 (by decide) (by decide)
      rw [show fl (sg 13830554455654793216) (rg 0) = 9223372036854775808 from by decide] at cs
      go_enter Try.func25, Try.ntmps25
      go_wp2_with (first | (go_at_call 34; refine (signbit_any _ (by first | exact ha | exact hb) _).mono ?_; rintro e w' ⟨rfl, rfl⟩) | (go_at_call 35; refine (cs _).mono ?_; rintro e w' ⟨rfl, rfl⟩))
      go_ret
      (try rw [e0]); exact ⟨rfl, rfl⟩
    · have e0 : zsF a b true = 0 := by unfold zsF; rw [if_neg d, if_pos rfl]
      clear d
      go_enter Try.func25, Try.ntmps25
      go_wp2_with (first | (go_at_call 34; refine (signbit_any _ (by first | exact ha | exact hb) _).mono ?_; rintro e w' ⟨rfl, rfl⟩))
      go_ret
      (try rw [e0]); exact ⟨rfl, rfl⟩

/-- What missOfSum answers. -/
def msF (a b n : Nat) : Nat :=
  if rg a < rg b then (Ieee.double.sub a ((Ieee.double.sub n b).getD 0)).getD 0 else (Ieee.double.sub b ((Ieee.double.sub n a).getD 0)).getD 0
theorem msF_num {a b n : Nat} (ha : a < 18446744073709551616) (hb : b < 18446744073709551616) (hn : n < 18446744073709551616) (fa : rg a < 9218868437227405312) (fb : rg b < 9218868437227405312) (nn : nanB n = false) :
    nanB (msF a b n) = false ∧ msF a b n < 18446744073709551616 := by
  have na : nanB a = false := by unfold nanB; rw [decide_eq_false (by omega)]
  have nb : nanB b = false := by unfold nanB; rw [decide_eq_false (by omega)]
  unfold msF; split
  · obtain ⟨r, h1⟩ := sub_some hn hb nn nb (Or.inr fb)
    obtain ⟨h3, h4⟩ := sub_num h1
    obtain ⟨q, h2⟩ := sub_some ha h4 na h3 (Or.inl fa)
    rw [h1]; simp only [Option.getD_some]; rw [h2]; exact sub_num h2
  · obtain ⟨r, h1⟩ := sub_some hn ha nn na (Or.inr fa)
    obtain ⟨h3, h4⟩ := sub_num h1
    obtain ⟨q, h2⟩ := sub_some hb h4 nb h3 (Or.inl fb)
    rw [h1]; simp only [Option.getD_some]; rw [h2]; exact sub_num h2

theorem abslt_eq {a b : Nat} (na : nanB a = false) (nb : nanB b = false) : (FloatKind.f64.format.order (rg a) (rg b) == some .lt) = decide (rg a < rg b) := by
  have h1 := rg_lt a; have h2 := rg_lt b
  rw [order_eq (by omega) (by omega) (by rw [nanB_rg]; exact na) (by rw [nanB_rg]; exact nb), od_rung h1, od_rung h2]
  rcases Nat.lt_trichotomy (rg a) (rg b) with h | h | h
  · rw [cmp_lt (by omega), decide_eq_true h]; rfl
  · rw [cmp_eq (by omega), decide_eq_false (by omega)]; rfl
  · rw [cmp_gt (by omega), decide_eq_false (by omega)]; rfl

set_option maxHeartbeats 1000000 in
theorem misssum_any (a b n : Nat) (ha : a < 18446744073709551616) (hb : b < 18446744073709551616) (hn : n < 18446744073709551616) (fa : rg a < 9218868437227405312) (fb : rg b < 9218868437227405312) (nn : nanB n = false) (w : World) :
    Calls Try.prog 27 #[.float .f64 a, .float .f64 b, .float .f64 n] w fun e w' => e = .returned (.float .f64 (msF a b n)) ∧ w' = w := by
  have na : nanB a = false := by unfold nanB; rw [decide_eq_false (by omega)]
  have nb : nanB b = false := by unfold nanB; rw [decide_eq_false (by omega)]
  have o := abslt_eq na nb
  by_cases c : rg a < rg b
  · rw [decide_eq_true c] at o
    obtain ⟨r, h1⟩ := sub_some hn hb nn nb (Or.inr fb)
    obtain ⟨h3, h4⟩ := sub_num h1
    obtain ⟨q, h2⟩ := sub_some ha h4 na h3 (Or.inl fa)
    have e0 : msF a b n = q := by unfold msF; rw [if_pos c, h1]; simp only [Option.getD_some]; rw [h2]; rfl
    have m1 := fun w => run_float_arith (P := Try.prog) w .sub 34 .f64 n b r h1
    have m2 := fun w => run_float_arith (P := Try.prog) w .sub 34 .f64 a r q h2
    go_enter Try.func27, Try.ntmps27
    go_wp2_with (first | (go_at_call 33; refine (abs_any _ (by first | exact ha | exact hb) _).mono ?_; rintro e w' ⟨rfl, rfl⟩))
    go_ret
    (try rw [e0]); exact ⟨rfl, rfl⟩
  · rw [decide_eq_false c] at o
    obtain ⟨r, h1⟩ := sub_some hn ha nn na (Or.inr fa)
    obtain ⟨h3, h4⟩ := sub_num h1
    obtain ⟨q, h2⟩ := sub_some hb h4 nb h3 (Or.inl fb)
    have e0 : msF a b n = q := by unfold msF; rw [if_neg c, h1]; simp only [Option.getD_some]; rw [h2]; rfl
    have m1 := fun w => run_float_arith (P := Try.prog) w .sub 34 .f64 n a r h1
    have m2 := fun w => run_float_arith (P := Try.prog) w .sub 34 .f64 b r q h2
    go_enter Try.func27, Try.ntmps27
    go_wp2_with (first | (go_at_call 33; refine (abs_any _ (by first | exact ha | exact hb) _).mono ?_; rintro e w' ⟨rfl, rfl⟩))
    go_ret
    (try rw [e0]); exact ⟨rfl, rfl⟩
end Go.Proofs.Ytmjkihclaccidaa
