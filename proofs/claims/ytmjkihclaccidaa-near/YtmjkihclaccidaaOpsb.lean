/- Contracts of Quotient, Root, bitsOf; Add, Mul, Div, Root. -/
import Derived.Test.YtmjkihclaccidaaOps
namespace Go.Proofs.Ytmjkihclaccidaa
open Go.RowKit

/-- The quotient of finite words, as it is written. -/
theorem div_some {a b : Nat} (ha : a < 18446744073709551616) (hb : b < 18446744073709551616) (fa : rg a < 9218868437227405312) (fb : rg b < 9218868437227405312) (zb : rg b ≠ 0) :
    Ieee.double.div a b = some (fl (sg a ^^ sg b) (Ieee.double.nearest false (2 * ((mm (rg a) <<< (54 + (mm (rg b)).log2 - (mm (rg a)).log2)) / mm (rg b)) + ((mm (rg a) <<< (54 + (mm (rg b)).log2 - (mm (rg a)).log2)) % mm (rg b) != 0).toNat) (pp (rg a) - pp (rg b) - ((54 + (mm (rg b)).log2 - (mm (rg a)).log2 : Nat) : Int) - 1))) := by
  unfold Ieee.Format.div
  rw [read_eq ha, read_eq hb, rd_mp fa, rd_mp fb]
  simp only [Ieee.Datum.quotient]
  rw [if_neg (by rw [mm_zero]; exact zb)]
  simp only [Option.map_some, write_fl]
  rfl

set_option maxHeartbeats 1000000 in
theorem quotient_any (a b : Nat) (up : Bool) (ha : a < 18446744073709551616) (hb : b < 18446744073709551616) (w : World) :
    Calls Try.prog 20 #[.float .f64 a, .float .f64 b, .bool up] w fun e w' => ∃ r k, e = .returned (.float .f64 r) ∧ Got (quoF a b up) r ∧ w' = w.drewN k := by
  cases h : Ieee.double.div a b with
  | none =>
    have hm := fun w => run_arith_nan .quo 34 a b (Or.inr (Or.inr (Or.inr rfl))) h w
    have hd := drawnNaN_nan a b
    have hl := drawnNaN_lt a b
    have hg : Got (quoF a b up) (drawnNaN a b w) := by
      unfold Got quoF; rw [h]; exact ⟨hl w, Or.inl ⟨rfl, hd w⟩⟩
    have no : (ordB a && ordB b) = false := by
      cases ca : ordB a with
      | false => rfl
      | true =>
        cases cb : ordB b with
        | false => rfl
        | true =>
          unfold ordB at ca cb; rw [decide_eq_true_eq] at ca cb
          rw [div_some ha hb ca.2 cb.2 cb.1] at h; cases h
    cases ca : ordB a with
    | false =>
      clear no h
      go_enter Try.func20, Try.ntmps20
      go_wp2_with (first | (go_at_call 28; refine (ordinary_any _ (by first | exact ha | exact hb) _).mono ?_; rintro e w' ⟨rfl, rfl⟩))
      go_ret
      exact ⟨_, 1, rfl, hg, rfl⟩
    | true =>
      have cb : ordB b = false := by rw [ca] at no; exact no
      clear no h
      go_enter Try.func20, Try.ntmps20
      go_wp2_with (first | (go_at_call 28; refine (ordinary_any _ (by first | exact ha | exact hb) _).mono ?_; rintro e w' ⟨rfl, rfl⟩))
      go_ret
      exact ⟨_, 1, rfl, hg, rfl⟩
  | some n =>
    obtain ⟨nn, hn⟩ := div_num h
    have hm := fun w => run_float_arith (P := Try.prog) w .quo 34 .f64 a b n h
    cases ca : ordB a with
    | false =>
      have hg : Got (quoF a b up) n := by unfold Got quoF; rw [h, ca]; exact ⟨hn, Or.inr ⟨rfl, nn⟩⟩
      clear h
      go_enter Try.func20, Try.ntmps20
      go_wp2_with (first | (go_at_call 28; refine (ordinary_any _ (by first | exact ha | exact hb) _).mono ?_; rintro e w' ⟨rfl, rfl⟩))
      go_ret
      exact ⟨_, 0, rfl, hg, rfl⟩
    | true =>
      cases cb : ordB b with
      | false =>
        have hg : Got (quoF a b up) n := by unfold Got quoF; rw [h, ca, cb]; exact ⟨hn, Or.inr ⟨rfl, nn⟩⟩
        clear h
        go_enter Try.func20, Try.ntmps20
        go_wp2_with (first | (go_at_call 28; refine (ordinary_any _ (by first | exact ha | exact hb) _).mono ?_; rintro e w' ⟨rfl, rfl⟩))
        go_ret
        exact ⟨_, 0, rfl, hg, rfl⟩
      | true =>
        have hz := dirF_num hn nn (mqF a b n) up
        have hg : Got (quoF a b up) (dirF n (mqF a b n) up) := by unfold Got quoF; rw [h, ca, cb]; exact ⟨hz.2, Or.inr ⟨rfl, hz.1⟩⟩
        have oa := ca; have ob := cb
        unfold ordB at oa ob; rw [decide_eq_true_eq] at oa ob
        obtain ⟨za, fa⟩ := oa; obtain ⟨zb, fb⟩ := ob
        obtain ⟨m1, m2⟩ := mqF_num a b nn
        clear h
        go_enter Try.func20, Try.ntmps20
        go_wp2_with (first | (go_at_call 28; refine (ordinary_any _ (by first | exact ha | exact hb) _).mono ?_; rintro e w' ⟨rfl, rfl⟩) | (go_at_call 30; refine (missquotient_any _ _ _ ha hb hn fa za fb zb nn _).mono ?_; rintro e w' ⟨rfl, rfl⟩) | (go_at_call 26; refine (directed_any _ _ _ hn m2 nn m1 _).mono ?_; rintro e w' ⟨rfl, rfl⟩))
        go_ret
        exact ⟨_, 0, rfl, hg, rfl⟩

theorem pow52 (n : Nat) : 4503599627370496 * 2 ^ n = 2 ^ (n + 52) := by rw [Nat.pow_add, Nat.mul_comm]
/-- Twice what Frexp gives. -/
theorem two_mk {s : Bool} {m : Nat} (hm : m < 4503599627370496) : Ieee.double.mul 4611686018427387904 (mk s 1022 m) = some (mk s 1023 m) := by
  have h1 : rg (mk s 1022 m) = 1022 * 4503599627370496 + m := rg_fl (by omega)
  have h2 : sg (mk s 1022 m) = s := sg_fl (by omega)
  rw [mul_eq (by decide) (mk_lt (by omega) hm) (by decide) (by rw [h1]; omega), h1, h2]
  rw [show sg 4611686018427387904 = false from by decide, show mm (rg 4611686018427387904) = 4503599627370496 from by decide, show pp (rg 4611686018427387904) = -51 from by decide, Bool.false_xor]
  have e1 : mm (1022 * 4503599627370496 + m) = 4503599627370496 + m := by unfold mm; rw [if_neg (by omega)]; omega
  have e2 : pp (1022 * 4503599627370496 + m) = -53 := by unfold pp; rw [if_neg (by omega)]; omega
  rw [e1, e2]; unfold mk
  have pw : 4503599627370496 * 2 ^ 970 = 2 ^ (970 + 52) := pow52 970
  rw [near_exact (K := 1074) (q := 1023 * 4503599627370496 + m) (by omega) (by omega) (by omega)]
  rw [show 1023 * 4503599627370496 + m = (970 + 52) * 4503599627370496 + (4503599627370496 + m) from by omega, mag_mk (Or.inr (by omega)) (by omega), show (-51 + -53 + ((1074 : Nat) : Int)).toNat = 970 from by decide, show 1074 - 1074 = 0 from rfl, Nat.pow_zero, Nat.mul_one, Nat.mul_comm 4503599627370496, Nat.mul_assoc, pw]

theorem rtX_eq (a : Nat) : rtX a = if (frE a).tmod 2 = 0 then mk (sg (nrm a)) 1022 (fm (nrm a)) else mk (sg (nrm a)) 1023 (fm (nrm a)) := by
  unfold rtX; split
  · rfl
  · unfold frF; rw [two_mk (fm_lt _)]; rfl
theorem rtX_fin (a : Nat) : rg (rtX a) < 9218868437227405312 := by
  have := fm_lt (nrm a)
  rw [rtX_eq]; split <;> (unfold mk; rw [rg_fl (by omega)]; omega)

theorem mr_some (a : Nat) {n : Nat} (hn : n < 18446744073709551616) (nn : nanB n = false) :
    ∃ r, Ieee.double.fma (ng (rtY a n)) (rtY a n) (rtX a) = some r ∧ mrF a n = r ∧ nanB r = false ∧ r < 18446744073709551616 := by
  have hy : rtY a n < 18446744073709551616 := ldF_lt hn _
  have ny : nanB (rtY a n) = false := ldF_num nn _
  have : ∃ r, Ieee.double.fma (ng (rtY a n)) (rtY a n) (rtX a) = some r := by
    unfold Ieee.Format.fma
    rw [read_eq (rtX_num a).1, rd_mp (rtX_fin a), read_eq (ng_lt _), sg_ng, rg_ng, rd_not, ← read_eq hy]
    rcases rd_cases hy ny with ⟨c, e⟩ | ⟨c, e⟩ <;> rw [e] <;> simp [Ieee.Datum.product, Ieee.Datum.sum, Ieee.Datum.opposite]
  obtain ⟨r, h⟩ := this
  exact ⟨r, h, by unfold mrF; rw [h]; rfl, fma_num h⟩

theorem sqrt_some {a : Nat} (ha : a < 18446744073709551616) (fa : rg a < 9218868437227405312) (sa : sg a = false) : ∃ r, Ieee.double.sqrt a = some r := by
  unfold Ieee.Format.sqrt
  rw [read_eq ha, rd_mp fa, sa]
  simp only [Ieee.Datum.root]
  split
  · exact ⟨_, rfl⟩
  · rw [if_neg (by decide)]; exact ⟨_, rfl⟩

set_option maxHeartbeats 1000000 in
theorem root_any (a : Nat) (up : Bool) (ha : a < 18446744073709551616) (w : World) :
    Calls Try.prog 21 #[.float .f64 a, .bool up] w fun e w' => ∃ r k, e = .returned (.float .f64 r) ∧ Got (rootF a up) r ∧ w' = w.drewN k := by
  cases h : Ieee.double.sqrt a with
  | none =>
    have hm := fun w => run_sqrt_nan (x := a) h w
    have hd := drawnNaN_nan a a
    have hl := drawnNaN_lt a a
    have hg : Got (rootF a up) (drawnNaN a a w) := by
      unfold Got rootF; rw [h]; exact ⟨hl w, Or.inl ⟨rfl, hd w⟩⟩
    cases ca : ordB a with
    | false =>
      clear h
      have sq : Calls Try.prog 31 #[.float .f64 a] w fun e w' => e = .returned (.float .f64 (drawnNaN a a w)) ∧ w' = w.drew := by
        go_enter Try.func31, Try.ntmps31
        go_wp2
        go_ret
        exact ⟨rfl, rfl⟩
      go_enter Try.func21, Try.ntmps21
      go_wp2_with (first | (go_at_call 31; refine sq.mono ?_; rintro e w' ⟨rfl, rfl⟩) | (go_at_call 28; refine (ordinary_any _ ha _).mono ?_; rintro e w' ⟨rfl, rfl⟩))
      go_ret
      exact ⟨_, 1, rfl, hg, rfl⟩
    | true =>
      have oa := ca
      unfold ordB at oa; rw [decide_eq_true_eq] at oa
      have o := lt0_eq ha (by unfold nanB; rw [decide_eq_false (by omega)])
      rw [od_neg_sg oa.1] at o
      cases hs : sg a with
      | false => obtain ⟨r, h'⟩ := sqrt_some ha oa.2 hs; rw [h'] at h; cases h
      | true =>
        rw [hs] at o
        clear h hs
        have sq : Calls Try.prog 31 #[.float .f64 a] w fun e w' => e = .returned (.float .f64 (drawnNaN a a w)) ∧ w' = w.drew := by
          go_enter Try.func31, Try.ntmps31
          go_wp2
          go_ret
          exact ⟨rfl, rfl⟩
        go_enter Try.func21, Try.ntmps21
        go_wp2_with (first | (go_at_call 31; refine sq.mono ?_; rintro e w' ⟨rfl, rfl⟩) | (go_at_call 28; refine (ordinary_any _ ha _).mono ?_; rintro e w' ⟨rfl, rfl⟩))
        go_ret
        exact ⟨_, 1, rfl, hg, rfl⟩
  | some n =>
    obtain ⟨nn, hn⟩ := sqrt_num h
    have hm := fun w => run_sqrt (x := a) h w
    have sq : Calls Try.prog 31 #[.float .f64 a] w fun e w' => e = .returned (.float .f64 n) ∧ w' = w := by
      go_enter Try.func31, Try.ntmps31
      go_wp2
      go_ret
      exact ⟨rfl, rfl⟩
    cases ca : ordB a with
    | false =>
      have hg : Got (rootF a up) n := by unfold Got rootF; rw [h, ca]; exact ⟨hn, Or.inr ⟨rfl, nn⟩⟩
      clear h
      go_enter Try.func21, Try.ntmps21
      go_wp2_with (first | (go_at_call 31; refine sq.mono ?_; rintro e w' ⟨rfl, rfl⟩) | (go_at_call 28; refine (ordinary_any _ ha _).mono ?_; rintro e w' ⟨rfl, rfl⟩))
      go_ret
      exact ⟨_, 0, rfl, hg, rfl⟩
    | true =>
      have oa := ca
      unfold ordB at oa; rw [decide_eq_true_eq] at oa
      have o := lt0_eq ha (by unfold nanB; rw [decide_eq_false (by omega)])
      rw [od_neg_sg oa.1] at o
      cases hs : sg a with
      | true =>
        have hg : Got (rootF a up) n := by unfold Got rootF; rw [h, ca, hs]; exact ⟨hn, Or.inr ⟨rfl, nn⟩⟩
        rw [hs] at o
        clear h hs
        go_enter Try.func21, Try.ntmps21
        go_wp2_with (first | (go_at_call 31; refine sq.mono ?_; rintro e w' ⟨rfl, rfl⟩) | (go_at_call 28; refine (ordinary_any _ ha _).mono ?_; rintro e w' ⟨rfl, rfl⟩))
        go_ret
        exact ⟨_, 0, rfl, hg, rfl⟩
      | false =>
        have hz := dirF_num hn nn (mrF a n) up
        have hg : Got (rootF a up) (dirF n (mrF a n) up) := by unfold Got rootF; rw [h, ca, hs]; exact ⟨hz.2, Or.inr ⟨rfl, hz.1⟩⟩
        rw [hs] at o
        obtain ⟨r, h1, h2, m1, m2⟩ := mr_some a hn nn
        rw [← h2] at m1 m2
        obtain ⟨za, fa⟩ := oa
        have ms := missroot_any a n r ha hn fa za nn h1
        clear h h2 h1 hs
        go_enter Try.func21, Try.ntmps21
        go_wp2_with (first | (go_at_call 31; refine sq.mono ?_; rintro e w' ⟨rfl, rfl⟩) | (go_at_call 28; refine (ordinary_any _ ha _).mono ?_; rintro e w' ⟨rfl, rfl⟩) | (go_at_call 32; refine (ms _).mono ?_; rintro e w' ⟨rfl, rfl⟩) | (go_at_call 26; refine (directed_any _ _ _ hn m2 nn m1 _).mono ?_; rintro e w' ⟨rfl, rfl⟩))
        go_ret
        exact ⟨_, 0, rfl, hg, rfl⟩

set_option maxHeartbeats 1000000 in
theorem bitsof_any (r : Nat) (hr : r < 18446744073709551616) (w : World) :
    Calls Try.prog 16 #[.float .f64 r] w fun e w' => e = .returned (.int .u64 ((if nanB r then 9221120237041090560 else r : Nat) : Int)) ∧ w' = w := by
  have r1 := run_bits r
  cases h : nanB r
  · rw [if_neg (by decide)]
    go_enter Try.func16, Try.ntmps16
    go_wp2_with (first | (go_at_call 22; refine (isnan_any _ hr _).mono ?_; rintro e w' ⟨rfl, rfl⟩))
    go_ret
    exact ⟨rfl, rfl⟩
  · rw [if_pos rfl]
    go_enter Try.func16, Try.ntmps16
    go_wp2_with (first | (go_at_call 22; refine (isnan_any _ hr _).mono ?_; rintro e w' ⟨rfl, rfl⟩))
    go_ret
    exact ⟨rfl, rfl⟩

/-- The bits of an answer. -/
def word (o : Option Nat) : Nat := o.getD 9221120237041090560
theorem got_word {o : Option Nat} {r : Nat} (h : Got o r) : (if nanB r then 9221120237041090560 else r : Nat) = word o := by
  obtain ⟨_, ⟨h1, h2⟩ | ⟨h1, h2⟩⟩ := h
  · rw [h1, h2]; rfl
  · rw [h1, h2]; rfl
theorem got_of (o : Option Nat) (r : Nat) (h : Got o r) (w : World) :
    Calls Try.prog 16 #[.float .f64 r] w fun e w' => e = .returned (.int .u64 ((word o : Nat) : Int)) ∧ w' = w := by
  rw [← got_word h]; exact bitsof_any r h.1 w

set_option maxHeartbeats 1000000 in
theorem add_any (a b : Nat) (up : Bool) (ha : a < 18446744073709551616) (hb : b < 18446744073709551616) (w : World) :
    Calls Try.prog 6 #[.int .u64 a, .int .u64 b, .bool up] w fun e w' => ∃ k, e = .returned (.int .u64 ((word (sumF a b up) : Nat) : Int)) ∧ w' = w.drewN k := by
  have r1 := run_frombits a
  have r2 := run_frombits b
  go_enter Try.func6, Try.ntmps6
  go_wp2_with (first | (go_at_call 17; refine (sum_any _ _ _ ha hb _).mono ?_; rintro e w' ⟨r, k, rfl, hg, rfl⟩) | (go_at_call 16; refine (got_of _ _ hg _).mono ?_; rintro e w' ⟨rfl, rfl⟩))
  go_ret
  exact ⟨_, rfl, rfl⟩
set_option maxHeartbeats 1000000 in
theorem mul_any (a b : Nat) (up : Bool) (ha : a < 18446744073709551616) (hb : b < 18446744073709551616) (w : World) :
    Calls Try.prog 7 #[.int .u64 a, .int .u64 b, .bool up] w fun e w' => ∃ k, e = .returned (.int .u64 ((word (prodF a b up) : Nat) : Int)) ∧ w' = w.drewN k := by
  have r1 := run_frombits a
  have r2 := run_frombits b
  go_enter Try.func7, Try.ntmps7
  go_wp2_with (first | (go_at_call 19; refine (product_any _ _ _ ha hb _).mono ?_; rintro e w' ⟨r, k, rfl, hg, rfl⟩) | (go_at_call 16; refine (got_of _ _ hg _).mono ?_; rintro e w' ⟨rfl, rfl⟩))
  go_ret
  exact ⟨_, rfl, rfl⟩
set_option maxHeartbeats 1000000 in
theorem div_any (a b : Nat) (up : Bool) (ha : a < 18446744073709551616) (hb : b < 18446744073709551616) (w : World) :
    Calls Try.prog 8 #[.int .u64 a, .int .u64 b, .bool up] w fun e w' => ∃ k, e = .returned (.int .u64 ((word (quoF a b up) : Nat) : Int)) ∧ w' = w.drewN k := by
  have r1 := run_frombits a
  have r2 := run_frombits b
  go_enter Try.func8, Try.ntmps8
  go_wp2_with (first | (go_at_call 20; refine (quotient_any _ _ _ ha hb _).mono ?_; rintro e w' ⟨r, k, rfl, hg, rfl⟩) | (go_at_call 16; refine (got_of _ _ hg _).mono ?_; rintro e w' ⟨rfl, rfl⟩))
  go_ret
  exact ⟨_, rfl, rfl⟩
set_option maxHeartbeats 1000000 in
theorem rt_any (a : Nat) (up : Bool) (ha : a < 18446744073709551616) (w : World) :
    Calls Try.prog 9 #[.int .u64 a, .bool up] w fun e w' => ∃ k, e = .returned (.int .u64 ((word (rootF a up) : Nat) : Int)) ∧ w' = w.drewN k := by
  have r1 := run_frombits a
  go_enter Try.func9, Try.ntmps9
  go_wp2_with (first | (go_at_call 21; refine (root_any _ _ ha _).mono ?_; rintro e w' ⟨r, k, rfl, hg, rfl⟩) | (go_at_call 16; refine (got_of _ _ hg _).mono ?_; rintro e w' ⟨rfl, rfl⟩))
  go_ret
  exact ⟨_, rfl, rfl⟩
end Go.Proofs.Ytmjkihclaccidaa
