/- Nextafter, normalize, Frexp, Ldexp: words to words. -/
import Derived.Test.YtmjkihclaccidaaLib
import Derived.Test.YtmjkihclaccidaaArith
namespace Go.Proofs.Ytmjkihclaccidaa
open Go.RowKit

/-- The next word upwards, downwards. -/
def nextUp (x : Nat) : Nat := if x = 9218868437227405312 then x else if rg x = 0 then 1 else if x < 9223372036854775808 then x + 1 else x - 1
def nextDn (x : Nat) : Nat := if x = 18442240474082181120 then x else if rg x = 0 then 9223372036854775809 else if x < 9223372036854775808 then x - 1 else x + 1

theorem od_eq_inf {x : Nat} (hx : x < 18446744073709551616) (nx : nanB x = false) : (od x = 9218868437227405312 ↔ x = 9218868437227405312) ∧ (od x = -9218868437227405312 ↔ x = 18442240474082181120) := by
  unfold nanB at nx; rw [decide_eq_false_iff_not] at nx
  unfold od ordI sg rg at *
  by_cases c : 9223372036854775808 ≤ x
  · rw [decide_eq_true c]; simp; omega
  · rw [decide_eq_false c]; simp; omega
theorem od_bound {x : Nat} (nx : nanB x = false) : -9218868437227405312 ≤ od x ∧ od x ≤ 9218868437227405312 := by
  unfold nanB at nx; rw [decide_eq_false_iff_not] at nx
  unfold od ordI; split <;> omega

set_option maxHeartbeats 1000000 in
theorem nextafter_up (x : Nat) (hx : x < 18446744073709551616) (nx : nanB x = false) (w : World) :
    Calls Try.prog 36 #[.float .f64 x, .float .f64 9218868437227405312] w fun e w' => e = .returned (.float .f64 (nextUp x)) ∧ w' = w := by
  have hb := od_bound nx
  have hi := od_eq_inf hx nx
  have n1 : nanB 9218868437227405312 = false := by decide
  have o1 : FloatKind.f64.format.order x 9218868437227405312 = some (compare (od x) 9218868437227405312) := order_eq hx (by decide) nx (by decide)
  have o2 : FloatKind.f64.format.order 9218868437227405312 x = some (compare 9218868437227405312 (od x)) := order_eq (by decide) hx (by decide) nx
  have o3 := gt0_eq hx nx
  have o4 := eq0_eq hx
  have r1 := run_bits x
  have r2 := run_frombits 1
  rw [show ((1 : Nat) : Int) = 1 from rfl] at r2
  have cs := copysign_any 1 9218868437227405312 (by decide) (by decide)
  rw [show fl (sg 9218868437227405312) (rg 1) = 1 from by decide] at cs
  by_cases c1 : x = 9218868437227405312
  · subst c1
    have e0 : nextUp 9218868437227405312 = 9218868437227405312 := by decide
    have e1 : (FloatKind.f64.format.order 9218868437227405312 9218868437227405312 == some .eq) = true := by rw [o1]; decide
    clear hb hi o1 o2 o3 o4 r1
    go_enter Try.func36, Try.ntmps36
    go_wp2_with (first | (go_at_call 22; refine (isnan_any _ (by decide) _).mono ?_; rintro e w' ⟨rfl, rfl⟩))
    all_goals (go_ret; rw [e0]; exact ⟨rfl, rfl⟩)
  · have e1 : (FloatKind.f64.format.order x 9218868437227405312 == some .eq) = false := by rw [o1, cmp_lt (by omega)]; rfl
    have e2 : (FloatKind.f64.format.order 9218868437227405312 x == some .gt) = true := by rw [o2, cmp_gt (by omega)]; rfl
    by_cases c2 : rg x = 0
    · have e0 : nextUp x = 1 := by unfold nextUp; rw [if_neg c1, if_pos c2]
      rw [decide_eq_true c2] at o4
      clear hb hi o1 o2 o3 r1 c1 c2
      go_enter Try.func36, Try.ntmps36
      go_wp2_with (first | (go_at_call 22; refine (isnan_any _ (by first | exact hx | decide) _).mono ?_; rintro e w' ⟨rfl, rfl⟩) | (go_at_call 35; refine (cs _).mono ?_; rintro e w' ⟨rfl, rfl⟩))
      all_goals (go_ret; rw [e0]; exact ⟨rfl, rfl⟩)
    · rw [decide_eq_false c2] at o4
      by_cases c3 : x < 9223372036854775808
      · have e0 : nextUp x = x + 1 := by unfold nextUp; rw [if_neg c1, if_neg c2, if_pos c3]
        have : 0 < od x := by rw [od_rung c3]; unfold rg at c2; omega
        rw [decide_eq_true this] at o3
        have r3 := run_frombits (x + 1)
        rw [show ((x + 1 : Nat) : Int) = (x : Int) + 1 from rfl] at r3
        have b1 : (x : Int) + 1 < 18446744073709551616 := by omega
        clear hb hi o1 o2 c1 c2 this
        go_enter Try.func36, Try.ntmps36
        go_wp2_with (first | (go_at_call 22; refine (isnan_any _ (by first | exact hx | decide) _).mono ?_; rintro e w' ⟨rfl, rfl⟩))
        all_goals (go_ret; rw [e0]; exact ⟨rfl, rfl⟩)
      · have e0 : nextUp x = x - 1 := by unfold nextUp; rw [if_neg c1, if_neg c2, if_neg c3]
        have : ¬ 0 < od x := by unfold od ordI sg; rw [decide_eq_true (by omega)]; simp
        rw [decide_eq_false this] at o3
        have r3 := run_frombits (x - 1)
        rw [show ((x - 1 : Nat) : Int) = (x : Int) - 1 from by omega] at r3
        have b1 : 1 ≤ (x : Int) := by omega
        clear hb hi o1 o2 c1 c2 this
        go_enter Try.func36, Try.ntmps36
        go_wp2_with (first | (go_at_call 22; refine (isnan_any _ (by first | exact hx | decide) _).mono ?_; rintro e w' ⟨rfl, rfl⟩))
        all_goals (go_ret; rw [e0]; exact ⟨rfl, rfl⟩)
set_option maxHeartbeats 1000000 in
theorem nextafter_dn (x : Nat) (hx : x < 18446744073709551616) (nx : nanB x = false) (w : World) :
    Calls Try.prog 36 #[.float .f64 x, .float .f64 18442240474082181120] w fun e w' => e = .returned (.float .f64 (nextDn x)) ∧ w' = w := by
  have hb := od_bound nx
  have hi := od_eq_inf hx nx
  have n1 : nanB 18442240474082181120 = false := by decide
  have o1 : FloatKind.f64.format.order x 18442240474082181120 = some (compare (od x) (-9218868437227405312)) := order_eq hx (by decide) nx (by decide)
  have o2 : FloatKind.f64.format.order 18442240474082181120 x = some (compare (-9218868437227405312) (od x)) := order_eq (by decide) hx (by decide) nx
  have o3 := gt0_eq hx nx
  have o4 := eq0_eq hx
  have r1 := run_bits x
  have r2 := run_frombits 1
  rw [show ((1 : Nat) : Int) = 1 from rfl] at r2
  have cs := copysign_any 1 18442240474082181120 (by decide) (by decide)
  rw [show fl (sg 18442240474082181120) (rg 1) = 9223372036854775809 from by decide] at cs
  by_cases c1 : x = 18442240474082181120
  · subst c1
    have e0 : nextDn 18442240474082181120 = 18442240474082181120 := by decide
    have e1 : (FloatKind.f64.format.order 18442240474082181120 18442240474082181120 == some .eq) = true := by rw [o1]; decide
    clear hb hi o1 o2 o3 o4 r1
    go_enter Try.func36, Try.ntmps36
    go_wp2_with (first | (go_at_call 22; refine (isnan_any _ (by decide) _).mono ?_; rintro e w' ⟨rfl, rfl⟩))
    all_goals (go_ret; rw [e0]; exact ⟨rfl, rfl⟩)
  · have e1 : (FloatKind.f64.format.order x 18442240474082181120 == some .eq) = false := by rw [o1, cmp_gt (by omega)]; rfl
    have e2 : (FloatKind.f64.format.order 18442240474082181120 x == some .gt) = false := by rw [o2, cmp_lt (by omega)]; rfl
    by_cases c2 : rg x = 0
    · have e0 : nextDn x = 9223372036854775809 := by unfold nextDn; rw [if_neg c1, if_pos c2]
      rw [decide_eq_true c2] at o4
      clear hb hi o1 o2 o3 r1 c1 c2
      go_enter Try.func36, Try.ntmps36
      go_wp2_with (first | (go_at_call 22; refine (isnan_any _ (by first | exact hx | decide) _).mono ?_; rintro e w' ⟨rfl, rfl⟩) | (go_at_call 35; refine (cs _).mono ?_; rintro e w' ⟨rfl, rfl⟩))
      all_goals (go_ret; rw [e0]; exact ⟨rfl, rfl⟩)
    · rw [decide_eq_false c2] at o4
      by_cases c3 : x < 9223372036854775808
      · have e0 : nextDn x = x - 1 := by unfold nextDn; rw [if_neg c1, if_neg c2, if_pos c3]
        have : 0 < od x := by rw [od_rung c3]; unfold rg at c2; omega
        rw [decide_eq_true this] at o3
        have r3 := run_frombits (x - 1)
        rw [show ((x - 1 : Nat) : Int) = (x : Int) - 1 from by unfold rg at c2; omega] at r3
        have b1 : 1 ≤ (x : Int) := by unfold rg at c2; omega
        clear hb hi o1 o2 c1 c2 this
        go_enter Try.func36, Try.ntmps36
        go_wp2_with (first | (go_at_call 22; refine (isnan_any _ (by first | exact hx | decide) _).mono ?_; rintro e w' ⟨rfl, rfl⟩))
        all_goals (go_ret; rw [e0]; exact ⟨rfl, rfl⟩)
      · have e0 : nextDn x = x + 1 := by unfold nextDn; rw [if_neg c1, if_neg c2, if_neg c3]
        have : ¬ 0 < od x := by unfold od ordI sg; rw [decide_eq_true (by omega)]; simp
        rw [decide_eq_false this] at o3
        have r3 := run_frombits (x + 1)
        rw [show ((x + 1 : Nat) : Int) = (x : Int) + 1 from rfl] at r3
        have b1 : (x : Int) + 1 < 18446744073709551616 := by unfold nanB rg at nx; rw [decide_eq_false_iff_not] at nx; omega
        clear hb hi o1 o2 c1 c2 this
        go_enter Try.func36, Try.ntmps36
        go_wp2_with (first | (go_at_call 22; refine (isnan_any _ (by first | exact hx | decide) _).mono ?_; rintro e w' ⟨rfl, rfl⟩))
        all_goals (go_ret; rw [e0]; exact ⟨rfl, rfl⟩)

/-- What normalize gives: the number made normal, and the exponent. -/
def nrm (x : Nat) : Nat := if rg x < 4503599627370496 then (FloatKind.f64.format.mul x 4841369599423283200).getD 0 else x
def nre (x : Nat) : Int := if rg x < 4503599627370496 then -52 else 0
theorem rd_fin {s : Bool} {r : Nat} (h : r < 9218868437227405312) : ∃ m p, rd s r = .number s m p := by
  obtain ⟨m, e, h1, _⟩ := rd_number h s; exact ⟨_, _, h1⟩
theorem mul_fin {x y : Nat} (hx : x < 18446744073709551616) (hy : y < 18446744073709551616) (fx : rg x < 9218868437227405312) (fy : rg y < 9218868437227405312) :
    ∃ r, FloatKind.f64.format.mul x y = some r ∧ r < 18446744073709551616 := by
  obtain ⟨m, p, h1⟩ := rd_fin (s := sg x) fx
  obtain ⟨n, q, h2⟩ := rd_fin (s := sg y) fy
  have : ∃ r, FloatKind.f64.format.mul x y = some r := by
    show ∃ r, ((Ieee.double.read x).product (Ieee.double.read y)).map Ieee.double.write = some r
    rw [read_eq hx, read_eq hy, h1, h2]; exact ⟨_, rfl⟩
  obtain ⟨r, hr⟩ := this
  exact ⟨r, hr, Ieee.Format.mul_lt _ hr⟩
theorem nrm_lt {x : Nat} (hx : x < 18446744073709551616) : nrm x < 18446744073709551616 := by
  unfold nrm; split
  · rename_i c
    obtain ⟨r, h1, h2⟩ := mul_fin hx (y := 4841369599423283200) (by decide) (by omega) (by decide)
    rw [h1]; exact h2
  · exact hx

theorem nrm_props {x : Nat} (hx : x < 18446744073709551616) (fx : rg x < 9218868437227405312) (zx : rg x ≠ 0) :
    sg (nrm x) = sg x ∧ 4503599627370496 ≤ rg (nrm x) ∧ rg (nrm x) < 9218868437227405312 := by
  unfold nrm; split
  · rename_i c
    obtain ⟨r, h1, h2, h3, _⟩ := mul52 hx zx c
    have h1' : FloatKind.f64.format.mul x 4841369599423283200 = some (fl (sg x) r) := h1
    rw [h1']; simp only [Option.getD_some]
    rw [sg_fl (by omega), rg_fl (by omega)]; exact ⟨rfl, h2, by omega⟩
  · exact ⟨rfl, by omega, fx⟩

set_option maxHeartbeats 1000000 in
theorem normalize_any (x : Nat) (hx : x < 18446744073709551616) (fx : rg x < 9218868437227405312) (w : World) :
    Calls Try.prog 47 #[.float .f64 x] w fun e w' => e = .returned (.tuple #[.float .f64 (nrm x), .int .i64 (nre x)]) ∧ w' = w := by
  have nr : nanB (rg x) = false := by rw [nanB_rg]; unfold nanB; rw [decide_eq_false (by omega)]
  have o := order_eq (x := rg x) (y := 4503599627370496) (by have := rg_lt x; omega) (by decide) nr (by decide)
  rw [od_rung (rg_lt x), od_rung (by decide)] at o
  by_cases c : rg x < 4503599627370496
  · obtain ⟨r, h1, h2⟩ := mul_fin hx (y := 4841369599423283200) (by decide) (by omega) (by decide)
    have e0 : nrm x = r := by unfold nrm; rw [if_pos c, h1]; rfl
    have e1 : nre x = -52 := by unfold nre; rw [if_pos c]
    have o1 : (FloatKind.f64.format.order (rg x) 4503599627370496 == some .lt) = true := by rw [o, cmp_lt (by omega)]; rfl
    have hm := fun w => run_float_arith (P := Try.prog) w .mul 34 .f64 x 4841369599423283200 r h1
    clear o
    go_enter Try.func47, Try.ntmps47
    go_wp2_with (first | (go_at_call 33; refine (abs_any _ hx _).mono ?_; rintro e w' ⟨rfl, rfl⟩))
    all_goals (go_ret2; rw [e0, e1]; exact ⟨rfl, rfl⟩)
  · have e0 : nrm x = x := by unfold nrm; rw [if_neg c]
    have e1 : nre x = 0 := by unfold nre; rw [if_neg c]
    have o1 : (FloatKind.f64.format.order (rg x) 4503599627370496 == some .lt) = false := by
      rw [o]
      rcases Nat.lt_or_ge 4503599627370496 (rg x) with h | h
      · rw [cmp_gt (by omega)]; rfl
      · rw [cmp_eq (by omega)]; rfl
    clear o
    go_enter Try.func47, Try.ntmps47
    go_wp2_with (first | (go_at_call 33; refine (abs_any _ hx _).mono ?_; rintro e w' ⟨rfl, rfl⟩))
    all_goals (go_ret2; rw [e0, e1]; exact ⟨rfl, rfl⟩)

/-- The exponent field and the fraction field. -/
def fe (y : Nat) : Nat := rg y / 4503599627370496
def fm (y : Nat) : Nat := rg y % 4503599627370496
theorem fe_le (y : Nat) : fe y ≤ 2047 := by have := rg_lt y; unfold fe; omega
theorem fm_lt (y : Nat) : fm y < 4503599627370496 := by unfold fm; omega
/-- A sign, an exponent field, a fraction field. -/
def mk (s : Bool) (e m : Nat) : Nat := fl s (e * 4503599627370496 + m)
theorem mk_lt {s : Bool} {e m : Nat} (he : e ≤ 2047) (hm : m < 4503599627370496) : mk s e m < 18446744073709551616 := fl_lt (by omega)

theorem or_sb (s : Bool) {r : Nat} (hr : r < 9223372036854775808) : r ||| (if s then 9223372036854775808 else 0) = fl s r := by
  unfold fl; cases s
  · simp
  · simp only [if_true]
    rw [Nat.or_comm, show (9223372036854775808 : Nat) = 2 ^ 63 * 1 from rfl]
    exact (Nat.two_pow_add_eq_or_of_lt (i := 63) hr 1).symm

theorem fe_bits {y : Nat} (hy : y < 18446744073709551616) : bits .and .u64 ((y : Int) / 4503599627370496) 2047 = ((fe y : Nat) : Int) := by
  have := u64_and_nat (y / 4503599627370496) 2047 (by omega) (by decide)
  rw [show ((2047 : Nat) : Int) = 2047 from rfl, show ((y / 4503599627370496 : Nat) : Int) = (y : Int) / 4503599627370496 from by omega] at this
  rw [this]; congr 1
  rw [show (2047 : Nat) = 2 ^ 11 - 1 from rfl, Nat.and_two_pow_sub_one_eq_mod]; unfold fe rg; omega
theorem fe_bits2 {y : Nat} (hy : y < 18446744073709551616) : bits .and .i64 ((y : Int) / 4503599627370496) 2047 = ((fe y : Nat) : Int) := by
  have hq : y / 4503599627370496 < 4096 := by omega
  unfold bits
  rw [show (y : Int) / 4503599627370496 = ((y / 4503599627370496 : Nat) : Int) from by omega]
  have h1 : fe y = (y / 4503599627370496) % 2048 := by unfold fe rg; omega
  generalize y / 4503599627370496 = q at hq h1 ⊢
  have e1 : BitVec.ofInt IntKind.i64.bits (q : Int) = BitVec.ofNat 64 q := by
    apply BitVec.eq_of_toNat_eq; simp [IntKind.bits]
  have e2 : BitVec.ofInt IntKind.i64.bits 2047 = BitVec.ofNat 64 2047 := rfl
  simp only [e1, e2]
  have e3 : (BitVec.ofNat 64 q &&& BitVec.ofNat 64 2047).toNat = fe y := by
    rw [BitVec.toNat_and, BitVec.toNat_ofNat, BitVec.toNat_ofNat, Nat.mod_eq_of_lt (show q < 2 ^ 64 by omega), show 2047 % 2 ^ 64 = 2 ^ 11 - 1 from by decide, Nat.and_two_pow_sub_one_eq_mod, h1]
  have hf := fe_le y
  show IntKind.wrap .i64 (((BitVec.ofNat 64 q &&& BitVec.ofNat 64 2047).toNat : Nat) : Int) = _
  rw [e3]
  have : IntKind.wrap .i64 ((fe y : Nat) : Int) = wrap64 (fe y : Nat) := by simp [wrap64, IntKind.wrap_i64]
  rw [this]; unfold wrap64; omega
theorem fo_bits {y : Nat} (hy : y < 18446744073709551616) : bits .andNot .u64 (y : Int) 9218868437227405312 = ((fl (sg y) (fm y) : Nat) : Int) := by
  have := u64_andNot_nat y 9218868437227405312 hy (by decide)
  rw [show ((9218868437227405312 : Nat) : Int) = 9218868437227405312 from rfl] at this
  rw [this]; congr 1
  rw [show 18446744073709551615 - 9218868437227405312 = 9223372036854775808 ||| (2 ^ 52 - 1) from by decide, Nat.and_or_distrib_left, and_top hy, Nat.and_two_pow_sub_one_eq_mod]
  have hm := fm_lt y
  rw [← or_sb (sg y) (by omega), Nat.or_comm]; congr 1; unfold fm rg; omega
theorem mk_bits {s : Bool} {m e : Nat} (hm : m < 4503599627370496) (he : e ≤ 2047) : bits .or .u64 ((fl s m : Nat) : Int) ((e * 4503599627370496 : Nat) : Int) = ((mk s e m : Nat) : Int) := by
  rw [u64_or_nat _ _ (fl_lt (by omega)) (by omega)]; congr 1
  rw [← or_sb s (r := m) (by omega), Nat.or_comm, ← Nat.or_assoc]
  have : e * 4503599627370496 ||| m = e * 4503599627370496 + m := by
    have := Nat.two_pow_add_eq_or_of_lt (i := 52) (b := m) (by omega) e
    rw [show (2 : Nat) ^ 52 = 4503599627370496 from rfl, Nat.mul_comm] at this; exact this.symm
  rw [this, or_sb s (by omega)]; rfl

/-- What Frexp gives. -/
def frF (x : Nat) : Nat := mk (sg (nrm x)) 1022 (fm (nrm x))
def frE (x : Nat) : Int := nre x + (((fe (nrm x) : Nat) : Int) - 1023 + 1)
theorem frF_lt (x : Nat) : frF x < 18446744073709551616 := mk_lt (by omega) (fm_lt _)
theorem frE_bound (x : Nat) : -1074 ≤ frE x ∧ frE x ≤ 1025 := by
  have := fe_le (nrm x); unfold frE nre; split <;> omega

set_option maxHeartbeats 1000000 in
theorem frexp_in (x : Nat) (hx : x < 18446744073709551616) (fx : rg x < 9218868437227405312) (zx : rg x ≠ 0) (w : World) :
    Calls Try.prog 44 #[.float .f64 x] w fun e w' => e = .returned (.tuple #[.float .f64 (frF x), .int .i64 (frE x)]) ∧ w' = w := by
  have n0 : nanB x = false := by unfold nanB; rw [decide_eq_false (by omega)]
  have i0 : infB x = false := by unfold infB; rw [decide_eq_false (by omega)]
  have o4 := eq0_eq hx
  rw [decide_eq_false zx] at o4
  have b1 : -100 ≤ nre x := by unfold nre; split <;> omega
  have b2 : nre x ≤ 0 := by unfold nre; split <;> omega
  have r1 := run_bits (nrm x)
  have b3 := nrm_lt hx
  have q1 := fe_bits b3
  have q2 := fo_bits b3
  have q3 := mk_bits (s := sg (nrm x)) (e := 1022) (fm_lt (nrm x)) (by omega)
  rw [show ((1022 * 4503599627370496 : Nat) : Int) = 4602678819172646912 from rfl] at q3
  have r2 := run_frombits (mk (sg (nrm x)) 1022 (fm (nrm x)))
  have q4 := fe_le (nrm x)
  go_enter Try.func44, Try.ntmps44
  go_wp2_with (first | (go_at_call 24; refine (isinf_any _ hx _).mono ?_; rintro e w' ⟨rfl, rfl⟩) | (go_at_call 22; refine (isnan_any _ hx _).mono ?_; rintro e w' ⟨rfl, rfl⟩) | (go_at_call 47; refine (normalize_any _ hx fx _).mono ?_; rintro e w' ⟨rfl, rfl⟩))
  go_ret2
  exact ⟨rfl, rfl⟩

set_option maxHeartbeats 1000000 in
theorem frexp_any (x : Nat) (hx : x < 18446744073709551616) (fx : rg x < 9218868437227405312) (zx : rg x ≠ 0) (w : World) :
    Calls Try.prog 38 #[.float .f64 x] w fun e w' => e = .returned (.tuple #[.float .f64 (frF x), .int .i64 (frE x)]) ∧ w' = w := by
  go_enter Try.func38, Try.ntmps38
  go_wp2_with (first | (go_at_call 44; refine (frexp_in _ hx fx zx _).mono ?_; rintro e w' ⟨rfl, rfl⟩))
  go_ret2
  exact ⟨rfl, rfl⟩

/-- What Ldexp gives of a finite number that is not 0: the exponent that comes of it; then the word. -/
def ldE (x : Nat) (e : Int) : Int := e + nre x + (((fe (nrm x) : Nat) : Int) - 1023)
def ldN (x : Nat) (e : Int) : Nat :=
  if ldE x e < -1075 then fl (sg (nrm x)) 0
  else if 1023 < ldE x e then fl (sg (nrm x)) 9218868437227405312
  else if ldE x e < -1022 then (FloatKind.f64.format.mul 4368491638549381120 (mk (sg (nrm x)) (ldE x e + 1076).toNat (fm (nrm x)))).getD 0
  else (FloatKind.f64.format.mul 4607182418800017408 (mk (sg (nrm x)) (ldE x e + 1023).toNat (fm (nrm x)))).getD 0
def ldF (x : Nat) (e : Int) : Nat := if rg x = 0 ∨ rg x = 9218868437227405312 then x else ldN x e

theorem od_neg_sg {x : Nat} (z : rg x ≠ 0) : decide (od x < 0) = sg x := by
  unfold od ordI; cases sg x
  · rw [decide_eq_false]; simp
  · rw [decide_eq_true]; simp; omega

set_option maxHeartbeats 1000000 in
theorem ldexp_zero (x : Nat) (e : Int) (hx : x < 18446744073709551616) (zx : rg x = 0) (w : World) :
    Calls Try.prog 46 #[.float .f64 x, .int .i64 e] w fun en w' => en = .returned (.float .f64 x) ∧ w' = w := by
  have o4 := eq0_eq hx
  rw [decide_eq_true zx] at o4
  go_enter Try.func46, Try.ntmps46
  go_wp2
  go_ret
  exact ⟨rfl, rfl⟩
set_option maxHeartbeats 1000000 in
theorem ldexp_inf (x : Nat) (e : Int) (hx : x < 18446744073709551616) (zx : rg x = 9218868437227405312) (w : World) :
    Calls Try.prog 46 #[.float .f64 x, .int .i64 e] w fun en w' => en = .returned (.float .f64 x) ∧ w' = w := by
  have o4 := eq0_eq hx
  rw [decide_eq_false (by omega)] at o4
  have i0 : infB x = true := by unfold infB; rw [decide_eq_true (by omega)]
  go_enter Try.func46, Try.ntmps46
  go_wp2_with (first | (go_at_call 24; refine (isinf_any _ hx _).mono ?_; rintro e w' ⟨rfl, rfl⟩))
  go_ret
  exact ⟨rfl, rfl⟩

set_option maxHeartbeats 2000000 in
theorem ldexp_fin (x : Nat) (e : Int) (hx : x < 18446744073709551616) (fx : rg x < 9218868437227405312) (zx : rg x ≠ 0) (le : -100000 ≤ e) (ue : e ≤ 100000) (w : World) :
    Calls Try.prog 46 #[.float .f64 x, .int .i64 e] w fun en w' => en = .returned (.float .f64 (ldN x e)) ∧ w' = w := by
  have n0 : nanB x = false := by unfold nanB; rw [decide_eq_false (by omega)]
  have i0 : infB x = false := by unfold infB; rw [decide_eq_false (by omega)]
  have o4 := eq0_eq hx
  rw [decide_eq_false zx] at o4
  have b1 : -100 ≤ nre x := by unfold nre; split <;> omega
  have b2 : nre x ≤ 0 := by unfold nre; split <;> omega
  have r1 := run_bits (nrm x)
  have b3 := nrm_lt hx
  have q1 := fe_bits2 b3
  have q2 := fo_bits b3
  have q4 := fe_le (nrm x)
  by_cases c1 : ldE x e < -1075
  · have e0 : ldN x e = fl (sg (nrm x)) (rg 0) := by unfold ldN; rw [if_pos c1]; rfl
    unfold ldE at c1
    go_enter Try.func46, Try.ntmps46
    go_wp2_with (first | (go_at_call 24; refine (isinf_any _ hx _).mono ?_; rintro e w' ⟨rfl, rfl⟩) | (go_at_call 22; refine (isnan_any _ hx _).mono ?_; rintro e w' ⟨rfl, rfl⟩) | (go_at_call 47; refine (normalize_any _ hx fx _).mono ?_; rintro e w' ⟨rfl, rfl⟩) | (go_at_call 35; refine (copysign_any 0 _ (by decide) b3 _).mono ?_; rintro e w' ⟨rfl, rfl⟩))
    go_ret
    rw [e0]
    exact ⟨rfl, rfl⟩
  · by_cases c2 : 1023 < ldE x e
    · obtain ⟨p1, p2, p3⟩ := nrm_props hx fx zx
      have e0 : ldN x e = fl (sg (nrm x)) 9218868437227405312 := by unfold ldN; rw [if_neg c1, if_pos c2]
      have o5 := lt0_eq b3 (by unfold nanB; rw [decide_eq_false (by omega)])
      rw [od_neg_sg (by omega)] at o5
      unfold ldE at c1 c2
      cases hs : sg (nrm x)
      · rw [hs] at o5 e0
        clear hs p1 p2 p3
        go_enter Try.func46, Try.ntmps46
        go_wp2_with (first | (go_at_call 24; refine (isinf_any _ hx _).mono ?_; rintro e w' ⟨rfl, rfl⟩) | (go_at_call 22; refine (isnan_any _ hx _).mono ?_; rintro e w' ⟨rfl, rfl⟩) | (go_at_call 47; refine (normalize_any _ hx fx _).mono ?_; rintro e w' ⟨rfl, rfl⟩) | (go_at_call 37; refine (infpos_any _).mono ?_; rintro e w' ⟨rfl, rfl⟩))
        go_ret
        rw [e0]
        exact ⟨rfl, rfl⟩
      · rw [hs] at o5 e0
        clear hs p1 p2 p3
        go_enter Try.func46, Try.ntmps46
        go_wp2_with (first | (go_at_call 24; refine (isinf_any _ hx _).mono ?_; rintro e w' ⟨rfl, rfl⟩) | (go_at_call 22; refine (isnan_any _ hx _).mono ?_; rintro e w' ⟨rfl, rfl⟩) | (go_at_call 47; refine (normalize_any _ hx fx _).mono ?_; rintro e w' ⟨rfl, rfl⟩) | (go_at_call 37; refine (infneg_any _).mono ?_; rintro e w' ⟨rfl, rfl⟩))
        go_ret
        rw [e0]
        exact ⟨rfl, rfl⟩
    · by_cases c3 : ldE x e < -1022
      · obtain ⟨E, hE⟩ : ∃ E : Nat, ldE x e + 1076 = (E : Int) := ⟨(ldE x e + 1076).toNat, by omega⟩
        have b4 : E ≤ 2046 := by omega
        have q3 := mk_bits (s := sg (nrm x)) (e := E) (fm_lt (nrm x)) (by omega)
        have b5 : mk (sg (nrm x)) E (fm (nrm x)) < 18446744073709551616 := mk_lt (by omega) (fm_lt _)
        have b6 : rg (mk (sg (nrm x)) E (fm (nrm x))) < 9218868437227405312 := by
          have := fm_lt (nrm x)
          unfold mk; rw [rg_fl (by omega)]; omega
        obtain ⟨r, h1, h2⟩ := mul_fin (x := 4368491638549381120) (by decide) b5 (by decide) b6
        have e0 : ldN x e = r := by unfold ldN; rw [if_neg c1, if_neg c2, if_pos c3, hE, Int.toNat_natCast, h1]; rfl
        have r2 := run_frombits (mk (sg (nrm x)) E (fm (nrm x)))
        have hm := fun w => run_float_arith (P := Try.prog) w .mul 34 .f64 4368491638549381120 (mk (sg (nrm x)) E (fm (nrm x))) r h1
        unfold ldE at c1 c2 c3 hE
        rw [show ((E * 4503599627370496 : Nat) : Int) = (e + nre x + (((fe (nrm x) : Nat) : Int) - 1023) + 53 + 1023) * 4503599627370496 from by omega] at q3
        clear hE
        generalize mk (sg (nrm x)) E (fm (nrm x)) = Z at *
        generalize fl (sg (nrm x)) (fm (nrm x)) = Y at *
        go_enter Try.func46, Try.ntmps46
        go_wp2_with (first | (go_at_call 24; refine (isinf_any _ hx _).mono ?_; rintro e w' ⟨rfl, rfl⟩) | (go_at_call 22; refine (isnan_any _ hx _).mono ?_; rintro e w' ⟨rfl, rfl⟩) | (go_at_call 47; refine (normalize_any _ hx fx _).mono ?_; rintro e w' ⟨rfl, rfl⟩))
        go_ret
        rw [e0]
        exact ⟨rfl, rfl⟩
      · obtain ⟨E, hE⟩ : ∃ E : Nat, ldE x e + 1023 = (E : Int) := ⟨(ldE x e + 1023).toNat, by omega⟩
        have b4 : E ≤ 2046 := by omega
        have q3 := mk_bits (s := sg (nrm x)) (e := E) (fm_lt (nrm x)) (by omega)
        have b5 : mk (sg (nrm x)) E (fm (nrm x)) < 18446744073709551616 := mk_lt (by omega) (fm_lt _)
        have b6 : rg (mk (sg (nrm x)) E (fm (nrm x))) < 9218868437227405312 := by
          have := fm_lt (nrm x)
          unfold mk; rw [rg_fl (by omega)]; omega
        obtain ⟨r, h1, h2⟩ := mul_fin (x := 4607182418800017408) (by decide) b5 (by decide) b6
        have e0 : ldN x e = r := by unfold ldN; rw [if_neg c1, if_neg c2, if_neg c3, hE, Int.toNat_natCast, h1]; rfl
        have r2 := run_frombits (mk (sg (nrm x)) E (fm (nrm x)))
        have hm := fun w => run_float_arith (P := Try.prog) w .mul 34 .f64 4607182418800017408 (mk (sg (nrm x)) E (fm (nrm x))) r h1
        unfold ldE at c1 c2 c3 hE
        rw [show ((E * 4503599627370496 : Nat) : Int) = (e + nre x + (((fe (nrm x) : Nat) : Int) - 1023) + 1023) * 4503599627370496 from by omega] at q3
        clear hE
        generalize mk (sg (nrm x)) E (fm (nrm x)) = Z at *
        generalize fl (sg (nrm x)) (fm (nrm x)) = Y at *
        go_enter Try.func46, Try.ntmps46
        go_wp2_with (first | (go_at_call 24; refine (isinf_any _ hx _).mono ?_; rintro e w' ⟨rfl, rfl⟩) | (go_at_call 22; refine (isnan_any _ hx _).mono ?_; rintro e w' ⟨rfl, rfl⟩) | (go_at_call 47; refine (normalize_any _ hx fx _).mono ?_; rintro e w' ⟨rfl, rfl⟩))
        go_ret
        rw [e0]
        exact ⟨rfl, rfl⟩

set_option maxHeartbeats 1000000 in
theorem ldexp_any (x : Nat) (e : Int) (hx : x < 18446744073709551616) (nx : nanB x = false) (le : -100000 ≤ e) (ue : e ≤ 100000) (w : World) :
    Calls Try.prog 40 #[.float .f64 x, .int .i64 e] w fun en w' => en = .returned (.float .f64 (ldF x e)) ∧ w' = w := by
  have key : Calls Try.prog 46 #[.float .f64 x, .int .i64 e] w fun en w' => en = .returned (.float .f64 (ldF x e)) ∧ w' = w := by
    unfold nanB at nx; rw [decide_eq_false_iff_not] at nx
    unfold ldF
    by_cases c0 : rg x = 0
    · rw [if_pos (Or.inl c0)]; exact ldexp_zero x e hx c0 w
    · by_cases c1 : rg x = 9218868437227405312
      · rw [if_pos (Or.inr c1)]; exact ldexp_inf x e hx c1 w
      · rw [if_neg (by omega)]; exact ldexp_fin x e hx (by omega) c0 le ue w
  generalize ldF x e = Z at key ⊢
  go_enter Try.func40, Try.ntmps40
  go_wp2_with (first | (go_at_call 46; refine key.mono ?_; rintro e w' ⟨rfl, rfl⟩))
  go_ret
  exact ⟨rfl, rfl⟩

theorem ldN_lt (x : Nat) (e : Int) : ldN x e < 18446744073709551616 := by
  unfold ldN
  split
  · exact fl_lt (by omega)
  · split
    · exact fl_lt (by omega)
    · split
      · cases h : FloatKind.f64.format.mul 4368491638549381120 (mk (sg (nrm x)) (ldE x e + 1076).toNat (fm (nrm x))) with
        | none => simp
        | some r => exact Ieee.Format.mul_lt _ h
      · cases h : FloatKind.f64.format.mul 4607182418800017408 (mk (sg (nrm x)) (ldE x e + 1023).toNat (fm (nrm x))) with
        | none => simp
        | some r => exact Ieee.Format.mul_lt _ h
theorem ldF_lt {x : Nat} (hx : x < 18446744073709551616) (e : Int) : ldF x e < 18446744073709551616 := by
  unfold ldF; split
  · exact hx
  · exact ldN_lt x e
end Go.Proofs.Ytmjkihclaccidaa
