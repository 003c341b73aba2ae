/- Contracts of the misses of products, quotients, roots. -/
import Derived.Test.YtmjkihclaccidaaDir
namespace Go.Proofs.Ytmjkihclaccidaa
open Go.RowKit

/-- What Frexp gives, of a finite number that is not 0: finite, not 0. -/
theorem frF_fin (x : Nat) : rg (frF x) < 9218868437227405312 ∧ rg (frF x) ≠ 0 := by
  have := fm_lt (nrm x)
  unfold frF mk; rw [rg_fl (by omega)]; omega
theorem frF_nan (x : Nat) : nanB (frF x) = false := by
  have := frF_fin x
  unfold nanB; rw [decide_eq_false (by omega)]
theorem nanB_ng (x : Nat) : nanB (ng x) = nanB x := by unfold nanB; rw [rg_ng]

theorem ldF_num {x : Nat} (nx : nanB x = false) (e : Int) : nanB (ldF x e) = false := by
  unfold ldF; split
  · exact nx
  · unfold ldN; split
    · unfold nanB; rw [rg_fl (by omega)]; decide
    · split
      · unfold nanB; rw [rg_fl (by omega)]; decide
      · split
        · cases h : FloatKind.f64.format.mul 4368491638549381120 (mk (sg (nrm x)) (ldE x e + 1076).toNat (fm (nrm x))) with
          | none => decide
          | some r => exact (mul_num h).1
        · cases h : FloatKind.f64.format.mul 4607182418800017408 (mk (sg (nrm x)) (ldE x e + 1023).toNat (fm (nrm x))) with
          | none => decide
          | some r => exact (mul_num h).1

theorem run_neg {z : Nat} (hz : z < 18446744073709551616) (w : World) : (Op.unary .neg (.float .f64 z)).run Try.prog w = .ok (.float .f64 (ng z)) w := by
  rw [← negFloat_eq hz]; rfl

/-- What missOfProduct answers. -/
def mpF (a b n : Nat) : Nat := (Ieee.double.fma (frF a) (frF b) (ng (ldF n (-frE a - frE b)))).getD 0
theorem mp_some (a b : Nat) {n : Nat} (nn : nanB n = false) :
    ∃ r, Ieee.double.fma (frF a) (frF b) (ng (ldF n (-frE a - frE b))) = some r ∧ mpF a b n = r ∧ nanB r = false ∧ r < 18446744073709551616 := by
  obtain ⟨r, h⟩ := fma_some (frF_lt a) (frF_lt b) (ng_lt _) (frF_fin a).1 (frF_fin b).1 (z := ng (ldF n (-frE a - frE b))) (by rw [nanB_ng]; exact ldF_num nn _)
  exact ⟨r, h, by unfold mpF; rw [h]; rfl, fma_num h⟩

set_option maxHeartbeats 1000000 in
theorem missproduct_any (a b n : Nat) (ha : a < 18446744073709551616) (hb : b < 18446744073709551616) (hn : n < 18446744073709551616) (fa : rg a < 9218868437227405312) (za : rg a ≠ 0) (fb : rg b < 9218868437227405312) (zb : rg b ≠ 0) (nn : nanB n = false) (w : World) :
    Calls Try.prog 29 #[.float .f64 a, .float .f64 b, .float .f64 n] w fun e w' => e = .returned (.float .f64 (mpF a b n)) ∧ w' = w := by
  obtain ⟨r, h1, h2, h3, h4⟩ := mp_some a b nn
  have b1 := (frE_bound a).1; have b2 := (frE_bound a).2
  have b3 := (frE_bound b).1; have b4 := (frE_bound b).2
  have ld := ldexp_any n (-frE a - frE b) hn nn (by omega) (by omega)
  have ng1 := run_neg (ldF_lt hn (-frE a - frE b))
  have rf := run_fma h1
  rw [h2]; clear h2 h1
  go_enter Try.func29, Try.ntmps29
  go_wp2_with (first | (go_at_call 38; refine (frexp_any _ (by first | exact ha | exact hb) (by first | exact fa | exact fb) (by first | exact za | exact zb) _).mono ?_; rintro e w' ⟨rfl, rfl⟩) | (go_at_call 40; refine (ld _).mono ?_; rintro e w' ⟨rfl, rfl⟩))
  go_ret
  exact ⟨rfl, rfl⟩

/-- What missOfQuotient answers. -/
def mqR (a b n : Nat) : Nat := (Ieee.double.fma (ng (ldF n (frE b - frE a))) (frF b) (frF a)).getD 0
def mqF (a b n : Nat) : Nat := if sg (frF b) then ng (mqR a b n) else mqR a b n
theorem mq_some (a b : Nat) {n : Nat} (nn : nanB n = false) :
    ∃ r, Ieee.double.fma (ng (ldF n (frE b - frE a))) (frF b) (frF a) = some r ∧ mqR a b n = r ∧ nanB r = false ∧ r < 18446744073709551616 := by
  obtain ⟨r, h⟩ := fma_some' (x := ng (ldF n (frE b - frE a))) (ng_lt _) (frF_lt b) (frF_lt a) (by rw [nanB_ng]; exact ldF_num nn _) (frF_fin b).1 (frF_fin b).2 (frF_fin a).1
  exact ⟨r, h, by unfold mqR; rw [h]; rfl, fma_num h⟩
theorem mqF_num (a b : Nat) {n : Nat} (nn : nanB n = false) : nanB (mqF a b n) = false ∧ mqF a b n < 18446744073709551616 := by
  obtain ⟨r, h1, h2, h3, h4⟩ := mq_some a b nn
  unfold mqF; rw [h2]; split
  · exact ⟨by rw [nanB_ng]; exact h3, ng_lt _⟩
  · exact ⟨h3, h4⟩

set_option maxHeartbeats 1000000 in
theorem missquotient_any (a b n : Nat) (ha : a < 18446744073709551616) (hb : b < 18446744073709551616) (hn : n < 18446744073709551616) (fa : rg a < 9218868437227405312) (za : rg a ≠ 0) (fb : rg b < 9218868437227405312) (zb : rg b ≠ 0) (nn : nanB n = false) (w : World) :
    Calls Try.prog 30 #[.float .f64 a, .float .f64 b, .float .f64 n] w fun e w' => e = .returned (.float .f64 (mqF a b n)) ∧ w' = w := by
  obtain ⟨r, h1, h2, h3, h4⟩ := mq_some a b nn
  have b1 := (frE_bound a).1; have b2 := (frE_bound a).2
  have b3 := (frE_bound b).1; have b4 := (frE_bound b).2
  have ld := ldexp_any n (frE b - frE a) hn nn (by omega) (by omega)
  have ng1 := run_neg (ldF_lt hn (frE b - frE a))
  have ng2 := run_neg h4
  have rf := run_fma h1
  have o := lt0_eq (frF_lt b) (frF_nan b)
  rw [od_neg_sg (frF_fin b).2] at o
  unfold mqF
  rw [h2]; clear h2 h1
  cases hs : sg (frF b)
  · rw [hs] at o
    rw [if_neg (by decide)]
    go_enter Try.func30, Try.ntmps30
    go_wp2_with (first | (go_at_call 38; refine (frexp_any _ (by first | exact ha | exact hb) (by first | exact fa | exact fb) (by first | exact za | exact zb) _).mono ?_; rintro e w' ⟨rfl, rfl⟩) | (go_at_call 40; refine (ld _).mono ?_; rintro e w' ⟨rfl, rfl⟩))
    go_ret
    exact ⟨rfl, rfl⟩
  · rw [hs] at o
    rw [if_pos rfl]
    go_enter Try.func30, Try.ntmps30
    go_wp2_with (first | (go_at_call 38; refine (frexp_any _ (by first | exact ha | exact hb) (by first | exact fa | exact fb) (by first | exact za | exact zb) _).mono ?_; rintro e w' ⟨rfl, rfl⟩) | (go_at_call 40; refine (ld _).mono ?_; rintro e w' ⟨rfl, rfl⟩))
    go_ret
    exact ⟨rfl, rfl⟩

/-- What missOfRoot answers. -/
def rtX (a : Nat) : Nat := if (frE a).tmod 2 = 0 then frF a else (Ieee.double.mul 4611686018427387904 (frF a)).getD 0
def rtE (a : Nat) : Int := if (frE a).tmod 2 = 0 then frE a else frE a - 1
def rtY (a n : Nat) : Nat := ldF n (-(rtE a).tdiv 2)
def mrF (a n : Nat) : Nat := (Ieee.double.fma (ng (rtY a n)) (rtY a n) (rtX a)).getD 0
theorem rtX_num (a : Nat) : rtX a < 18446744073709551616 ∧ nanB (rtX a) = false := by
  unfold rtX; split
  · exact ⟨frF_lt a, frF_nan a⟩
  · obtain ⟨r, h1, h2⟩ := mul_fin (x := 4611686018427387904) (by decide) (frF_lt a) (by decide) (frF_fin a).1
    have h1' : Ieee.double.mul 4611686018427387904 (frF a) = some r := h1
    rw [h1']; exact ⟨h2, (mul_num h1').1⟩

set_option maxHeartbeats 1000000 in
theorem missroot_any (a n r : Nat) (ha : a < 18446744073709551616) (hn : n < 18446744073709551616) (fa : rg a < 9218868437227405312) (za : rg a ≠ 0) (nn : nanB n = false)
    (h1 : Ieee.double.fma (ng (rtY a n)) (rtY a n) (rtX a) = some r) (w : World) :
    Calls Try.prog 32 #[.float .f64 a, .float .f64 n] w fun e w' => e = .returned (.float .f64 (mrF a n)) ∧ w' = w := by
  have h2 : mrF a n = r := by unfold mrF; rw [h1]; rfl
  have b1 := (frE_bound a).1; have b2 := (frE_bound a).2
  have b5 : -3000 ≤ rtE a := by unfold rtE; split <;> omega
  have b6 : rtE a ≤ 3000 := by unfold rtE; split <;> omega
  have b7 : -3000 ≤ (rtE a).tdiv 2 ∧ (rtE a).tdiv 2 ≤ 3000 := by
    rcases Int.le_total 0 (rtE a) with h | h
    · rw [Int.tdiv_eq_ediv_of_nonneg h]; omega
    · have := Int.neg_tdiv (a := rtE a) (b := 2)
      have h0 : 0 ≤ -rtE a := by omega
      rw [Int.tdiv_eq_ediv_of_nonneg h0] at this; omega
  have wr : wrap64 (-(rtE a).tdiv 2) = -(rtE a).tdiv 2 := by unfold wrap64; omega
  have ld := ldexp_any n (-(rtE a).tdiv 2) hn nn (by omega) (by omega)
  have ng1 := run_neg (ldF_lt hn (-(rtE a).tdiv 2))
  have rf := run_fma h1
  rw [h2]; clear h2 h1 b7
  unfold rtY at rf
  by_cases c : (frE a).tmod 2 = 0
  · have c' : ((frE a).tmod 2 != 0) = false := by simpa using c
    have e1 : rtE a = frE a := by unfold rtE; rw [if_pos c]
    have e2 : rtX a = frF a := by unfold rtX; rw [if_pos c]
    rw [e1] at b5 b6 wr ld ng1 rf; rw [e2] at rf
    clear c e1 e2
    go_enter Try.func32, Try.ntmps32
    go_wp2_with (first | (go_at_call 38; refine (frexp_any _ ha fa za _).mono ?_; rintro e w' ⟨rfl, rfl⟩) | (go_at_call 40; refine (ld _).mono ?_; rintro e w' ⟨rfl, rfl⟩))
    go_ret
    exact ⟨rfl, rfl⟩
  · have c' : ((frE a).tmod 2 != 0) = true := by simpa using c
    have e1 : rtE a = frE a - 1 := by unfold rtE; rw [if_neg c]
    obtain ⟨z, m1, m2⟩ := mul_fin (x := 4611686018427387904) (by decide) (frF_lt a) (by decide) (frF_fin a).1
    have e2 : rtX a = z := by
      have m1' : Ieee.double.mul 4611686018427387904 (frF a) = some z := m1
      unfold rtX; rw [if_neg c, m1']; rfl
    have mr := fun w => run_float_arith (P := Try.prog) w .mul 34 .f64 4611686018427387904 (frF a) z m1
    rw [e1] at b5 b6 wr ld ng1 rf; rw [e2] at rf
    clear c e1 e2 m1
    go_enter Try.func32, Try.ntmps32
    go_wp2_with (first | (go_at_call 38; refine (frexp_any _ ha fa za _).mono ?_; rintro e w' ⟨rfl, rfl⟩) | (go_at_call 40; refine (ld _).mono ?_; rintro e w' ⟨rfl, rfl⟩))
    go_ret
    exact ⟨rfl, rfl⟩
end Go.Proofs.Ytmjkihclaccidaa
