/- Contracts of Sum, Product, Quotient, Root, bitsOf; Add, Mul, Div, Root. -/
import Derived.Test.YtmjkihclaccidaaMiss
import Derived.Deep.Quiet
namespace Go.Proofs.Ytmjkihclaccidaa
open Go.RowKit

theorem nextUp_num {x : Nat} (hx : x < 18446744073709551616) (nx : nanB x = false) : nanB (nextUp x) = false ∧ nextUp x < 18446744073709551616 := by
  unfold nanB at nx ⊢; rw [decide_eq_false_iff_not] at nx; rw [decide_eq_false_iff_not]
  unfold nextUp; split
  · omega
  · split
    · exact ⟨by decide, by decide⟩
    · unfold rg at *; split <;> omega
theorem nextDn_num {x : Nat} (hx : x < 18446744073709551616) (nx : nanB x = false) : nanB (nextDn x) = false ∧ nextDn x < 18446744073709551616 := by
  unfold nanB at nx ⊢; rw [decide_eq_false_iff_not] at nx; rw [decide_eq_false_iff_not]
  unfold nextDn; split
  · omega
  · split
    · exact ⟨by decide, by decide⟩
    · unfold rg at *; split <;> omega
theorem dirF_num {x : Nat} (hx : x < 18446744073709551616) (nx : nanB x = false) (y : Nat) (up : Bool) : nanB (dirF x y up) = false ∧ dirF x y up < 18446744073709551616 := by
  unfold dirF; split
  · split
    · exact nextUp_num hx nx
    · exact ⟨nx, hx⟩
  · split
    · exact nextDn_num hx nx
    · exact ⟨nx, hx⟩

/-- What Sum answers; none: no number. -/
def sumF (a b : Nat) (up : Bool) : Option Nat :=
  (Ieee.double.add a b).map fun n => if infB a || infB b then n else if rg n = 0 then zsF a b up else dirF n (msF a b n) up
def prodF (a b : Nat) (up : Bool) : Option Nat :=
  (Ieee.double.mul a b).map fun n => if ordB a && ordB b then dirF n (mpF a b n) up else n
def quoF (a b : Nat) (up : Bool) : Option Nat :=
  (Ieee.double.div a b).map fun n => if ordB a && ordB b then dirF n (mqF a b n) up else n
def rootF (a : Nat) (up : Bool) : Option Nat :=
  (Ieee.double.sqrt a).map fun n => if ordB a && !sg a then dirF n (mrF a n) up else n

/-- The word that stands for an answer. -/
def Got (o : Option Nat) (r : Nat) : Prop := r < 18446744073709551616 ∧ (o = none ∧ nanB r = true ∨ o = some r ∧ nanB r = false)

set_option maxHeartbeats 1000000 in
theorem sum_any (a b : Nat) (up : Bool) (ha : a < 18446744073709551616) (hb : b < 18446744073709551616) (w : World) :
    Calls Try.prog 17 #[.float .f64 a, .float .f64 b, .bool up] w fun e w' => ∃ r k, e = .returned (.float .f64 r) ∧ Got (sumF a b up) r ∧ w' = w.drewN k := by
  cases h : Ieee.double.add a b with
  | none =>
    have hm := fun w => run_arith_nan .add 34 a b (Or.inl rfl) h w
    have hd := drawnNaN_nan a b
    have hl := drawnNaN_lt a b
    have hg : Got (sumF a b up) (drawnNaN a b w) := by
      unfold Got sumF; rw [h]; exact ⟨hl w, Or.inl ⟨rfl, hd w⟩⟩
    go_enter Try.func17, Try.ntmps17
    go_wp2_with (first | (go_at_call 22; refine (isnan_any _ (hl _) _).mono ?_; rintro e w' ⟨rfl, rfl⟩))
    go_ret
    exact ⟨_, 1, rfl, hg, rfl⟩
  | some n =>
    obtain ⟨nn, hn⟩ := add_num h
    have hm := fun w => run_float_arith (P := Try.prog) w .add 34 .f64 a b n h
    have na : nanB a = false := by cases c : nanB a with | false => rfl | true => rw [add_nan_l ha c] at h; cases h
    have nb : nanB b = false := by cases c : nanB b with | false => rfl | true => rw [add_nan_r hb c] at h; cases h
    cases ia : infB a with
    | true =>
      have hg : Got (sumF a b up) n := by unfold Got sumF; rw [h, ia]; exact ⟨hn, Or.inr ⟨rfl, nn⟩⟩
      clear h
      go_enter Try.func17, Try.ntmps17
      go_wp2_with (first | (go_at_call 22; refine (isnan_any _ hn _).mono ?_; rintro e w' ⟨rfl, rfl⟩) | (go_at_call 24; refine (isinf_any _ (by first | exact ha | exact hb) _).mono ?_; rintro e w' ⟨rfl, rfl⟩))
      go_ret
      exact ⟨_, 0, rfl, hg, rfl⟩
    | false =>
      cases ib : infB b with
      | true =>
        have hg : Got (sumF a b up) n := by unfold Got sumF; rw [h, ia, ib]; exact ⟨hn, Or.inr ⟨rfl, nn⟩⟩
        clear h
        go_enter Try.func17, Try.ntmps17
        go_wp2_with (first | (go_at_call 22; refine (isnan_any _ hn _).mono ?_; rintro e w' ⟨rfl, rfl⟩) | (go_at_call 24; refine (isinf_any _ (by first | exact ha | exact hb) _).mono ?_; rintro e w' ⟨rfl, rfl⟩))
        go_ret
        exact ⟨_, 0, rfl, hg, rfl⟩
      | false =>
        have fa : rg a < 9218868437227405312 := by unfold nanB at na; unfold infB at ia; rw [decide_eq_false_iff_not] at na ia; omega
        have fb : rg b < 9218868437227405312 := by unfold nanB at nb; unfold infB at ib; rw [decide_eq_false_iff_not] at nb ib; omega
        have o := eq0_eq hn
        by_cases c : rg n = 0
        · rw [decide_eq_true c] at o
          have hz : zsF a b up < 18446744073709551616 ∧ nanB (zsF a b up) = false := by
            unfold zsF; split
            · exact ⟨ha, na⟩
            · split <;> exact ⟨by decide, by decide⟩
          have hg : Got (sumF a b up) (zsF a b up) := by
            unfold Got sumF; rw [h, ia, ib]; simp only [Option.map_some, Bool.or_self, Bool.false_eq_true, if_false, if_pos c]
            exact ⟨hz.1, Or.inr ⟨trivial, hz.2⟩⟩
          clear h
          go_enter Try.func17, Try.ntmps17
          go_wp2_with (first | (go_at_call 22; refine (isnan_any _ hn _).mono ?_; rintro e w' ⟨rfl, rfl⟩) | (go_at_call 24; refine (isinf_any _ (by first | exact ha | exact hb) _).mono ?_; rintro e w' ⟨rfl, rfl⟩) | (go_at_call 25; refine (zerosum_any _ _ _ ha hb _).mono ?_; rintro e w' ⟨rfl, rfl⟩))
          go_ret
          exact ⟨_, 0, rfl, hg, rfl⟩
        · rw [decide_eq_false c] at o
          obtain ⟨m1, m2⟩ := msF_num ha hb hn fa fb nn
          have hz := dirF_num hn nn (msF a b n) up
          have hg : Got (sumF a b up) (dirF n (msF a b n) up) := by
            unfold Got sumF; rw [h, ia, ib]; simp only [Option.map_some, Bool.or_self, Bool.false_eq_true, if_false, if_neg c]
            exact ⟨hz.2, Or.inr ⟨trivial, hz.1⟩⟩
          clear h
          go_enter Try.func17, Try.ntmps17
          go_wp2_with (first | (go_at_call 22; refine (isnan_any _ hn _).mono ?_; rintro e w' ⟨rfl, rfl⟩) | (go_at_call 24; refine (isinf_any _ (by first | exact ha | exact hb) _).mono ?_; rintro e w' ⟨rfl, rfl⟩) | (go_at_call 27; refine (misssum_any _ _ _ ha hb hn fa fb nn _).mono ?_; rintro e w' ⟨rfl, rfl⟩) | (go_at_call 26; refine (directed_any _ _ _ hn m2 nn m1 _).mono ?_; rintro e w' ⟨rfl, rfl⟩))
          go_ret
          exact ⟨_, 0, rfl, hg, rfl⟩

set_option maxHeartbeats 1000000 in
theorem product_any (a b : Nat) (up : Bool) (ha : a < 18446744073709551616) (hb : b < 18446744073709551616) (w : World) :
    Calls Try.prog 19 #[.float .f64 a, .float .f64 b, .bool up] w fun e w' => ∃ r k, e = .returned (.float .f64 r) ∧ Got (prodF a b up) r ∧ w' = w.drewN k := by
  cases h : Ieee.double.mul a b with
  | none =>
    have hm := fun w => run_arith_nan .mul 34 a b (Or.inr (Or.inr (Or.inl rfl))) h w
    have hd := drawnNaN_nan a b
    have hl := drawnNaN_lt a b
    have hg : Got (prodF a b up) (drawnNaN a b w) := by
      unfold Got prodF; rw [h]; exact ⟨hl w, Or.inl ⟨rfl, hd w⟩⟩
    have no : (ordB a && ordB b) = false := by
      cases ca : ordB a with
      | false => rfl
      | true =>
        cases cb : ordB b with
        | false => rfl
        | true =>
          unfold ordB at ca cb; rw [decide_eq_true_eq] at ca cb
          rw [mul_eq ha hb ca.2 cb.2] at h; cases h
    cases ca : ordB a with
    | false =>
      clear no h
      go_enter Try.func19, Try.ntmps19
      go_wp2_with (first | (go_at_call 28; refine (ordinary_any _ (by first | exact ha | exact hb) _).mono ?_; rintro e w' ⟨rfl, rfl⟩))
      go_ret
      exact ⟨_, 1, rfl, hg, rfl⟩
    | true =>
      have cb : ordB b = false := by rw [ca] at no; exact no
      clear no h
      go_enter Try.func19, Try.ntmps19
      go_wp2_with (first | (go_at_call 28; refine (ordinary_any _ (by first | exact ha | exact hb) _).mono ?_; rintro e w' ⟨rfl, rfl⟩))
      go_ret
      exact ⟨_, 1, rfl, hg, rfl⟩
  | some n =>
    obtain ⟨nn, hn⟩ := mul_num h
    have hm := fun w => run_float_arith (P := Try.prog) w .mul 34 .f64 a b n h
    cases ca : ordB a with
    | false =>
      have hg : Got (prodF a b up) n := by unfold Got prodF; rw [h, ca]; exact ⟨hn, Or.inr ⟨rfl, nn⟩⟩
      clear h
      go_enter Try.func19, Try.ntmps19
      go_wp2_with (first | (go_at_call 28; refine (ordinary_any _ (by first | exact ha | exact hb) _).mono ?_; rintro e w' ⟨rfl, rfl⟩))
      go_ret
      exact ⟨_, 0, rfl, hg, rfl⟩
    | true =>
      cases cb : ordB b with
      | false =>
        have hg : Got (prodF a b up) n := by unfold Got prodF; rw [h, ca, cb]; exact ⟨hn, Or.inr ⟨rfl, nn⟩⟩
        clear h
        go_enter Try.func19, Try.ntmps19
        go_wp2_with (first | (go_at_call 28; refine (ordinary_any _ (by first | exact ha | exact hb) _).mono ?_; rintro e w' ⟨rfl, rfl⟩))
        go_ret
        exact ⟨_, 0, rfl, hg, rfl⟩
      | true =>
        have hz := dirF_num hn nn (mpF a b n) up
        have hg : Got (prodF a b up) (dirF n (mpF a b n) up) := by unfold Got prodF; rw [h, ca, cb]; exact ⟨hz.2, Or.inr ⟨rfl, hz.1⟩⟩
        have oa := ca; have ob := cb
        unfold ordB at oa ob; rw [decide_eq_true_eq] at oa ob
        obtain ⟨za, fa⟩ := oa; obtain ⟨zb, fb⟩ := ob
        obtain ⟨r, _, h2, m1, m2⟩ := mp_some a b nn
        rw [← h2] at m1 m2
        clear h h2
        go_enter Try.func19, Try.ntmps19
        go_wp2_with (first | (go_at_call 28; refine (ordinary_any _ (by first | exact ha | exact hb) _).mono ?_; rintro e w' ⟨rfl, rfl⟩) | (go_at_call 29; refine (missproduct_any _ _ _ ha hb hn fa za fb zb nn _).mono ?_; rintro e w' ⟨rfl, rfl⟩) | (go_at_call 26; refine (directed_any _ _ _ hn m2 nn m1 _).mono ?_; rintro e w' ⟨rfl, rfl⟩))
        go_ret
        exact ⟨_, 0, rfl, hg, rfl⟩
end Go.Proofs.Ytmjkihclaccidaa
