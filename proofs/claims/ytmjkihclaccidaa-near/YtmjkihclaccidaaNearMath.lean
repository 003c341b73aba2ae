/- What is answered down and up lies side by side. -/
import Derived.Test.YtmjkihclaccidaaLaws
namespace Go.Proofs.Ytmjkihclaccidaa
open Ieee

theorem od_nextUp {x : Nat} (hx : x < 18446744073709551616) (nx : nanB x = false) : od (nextUp x) = od x + 1 ∨ nextUp x = x := by
  unfold nanB at nx; rw [decide_eq_false_iff_not] at nx
  unfold nextUp; split
  · exact Or.inr rfl
  · left; split
    · rename_i h; rw [od_zero.2 h]; decide
    · split
      · rename_i h1 h2 h3
        rw [od_rung h3, od_rung (by unfold rg at nx; omega)]; omega
      · rename_i h1 h2 h3
        unfold od ordI sg rg at *
        rw [decide_eq_true (show 9223372036854775808 ≤ x from by omega), decide_eq_true (show 9223372036854775808 ≤ x - 1 from by omega)]
        simp only [if_true]; omega
theorem od_nextDn {x : Nat} (hx : x < 18446744073709551616) (nx : nanB x = false) : od (nextDn x) = od x - 1 ∨ nextDn x = x := by
  unfold nanB at nx; rw [decide_eq_false_iff_not] at nx
  unfold nextDn; split
  · exact Or.inr rfl
  · left; split
    · rename_i h; rw [od_zero.2 h]; decide
    · split
      · rename_i h1 h2 h3
        rw [od_rung h3, od_rung (by omega)]; unfold rg at h2; omega
      · rename_i h1 h2 h3
        unfold od ordI sg rg at *
        rw [decide_eq_true (show 9223372036854775808 ≤ x from by omega), decide_eq_true (show 9223372036854775808 ≤ x + 1 from by omega)]
        simp only [if_true]; omega

theorem dir_near {x : Nat} (y : Nat) (hx : x < 18446744073709551616) (nx : nanB x = false) : NearOk (dirF x y false) (dirF x y true) := by
  right
  have h1 := dirF_num hx nx y false
  have h2 := dirF_num hx nx y true
  refine ⟨h1.2, h2.2, h1.1, h2.1, ?_⟩
  unfold dirF
  simp only [Bool.false_eq_true, if_false, if_true]
  have u := od_nextUp hx nx
  have d := od_nextDn hx nx
  split
  · rw [if_neg (by omega)]
    rcases u with u | u
    · omega
    · rw [u]; omega
  · split
    · rcases d with d | d
      · omega
      · rw [d]; omega
    · omega
theorem same_near {x : Nat} (hx : x < 18446744073709551616) (nx : nanB x = false) : NearOk x x := Or.inr ⟨hx, hx, nx, nx, Or.inl rfl⟩
theorem none_near : NearOk (word none) (word none) := Or.inl ⟨rfl, rfl⟩

theorem sum_near (a b : Nat) (ha : a < 18446744073709551616) : NearOk (word (sumF a b false)) (word (sumF a b true)) := by
  unfold sumF
  cases h : double.add a b with
  | none => exact none_near
  | some n =>
    obtain ⟨nn, hn⟩ := add_num h
    have na : nanB a = false := by cases c : nanB a with | false => rfl | true => rw [add_nan_l ha c] at h; cases h
    simp only [Option.map_some, word, Option.getD_some]
    split
    · exact same_near hn nn
    · split
      · unfold zsF
        by_cases c : sg a = sg b
        · rw [if_pos c, if_pos c]; exact same_near ha na
        · rw [if_neg c, if_neg c]; exact Or.inr ⟨by decide, by decide, by decide, by decide, Or.inl (by decide)⟩
      · exact dir_near _ hn nn
theorem prod_near (a b : Nat) : NearOk (word (prodF a b false)) (word (prodF a b true)) := by
  unfold prodF
  cases h : double.mul a b with
  | none => exact none_near
  | some n =>
    obtain ⟨nn, hn⟩ := mul_num h
    simp only [Option.map_some, word, Option.getD_some]
    split
    · exact dir_near _ hn nn
    · exact same_near hn nn
theorem quo_near (a b : Nat) : NearOk (word (quoF a b false)) (word (quoF a b true)) := by
  unfold quoF
  cases h : double.div a b with
  | none => exact none_near
  | some n =>
    obtain ⟨nn, hn⟩ := div_num h
    simp only [Option.map_some, word, Option.getD_some]
    split
    · exact dir_near _ hn nn
    · exact same_near hn nn
theorem root_near (a : Nat) : NearOk (word (rootF a false)) (word (rootF a true)) := by
  unfold rootF
  cases h : double.sqrt a with
  | none => exact none_near
  | some n =>
    obtain ⟨nn, hn⟩ := sqrt_num h
    simp only [Option.map_some, word, Option.getD_some]
    split
    · exact dir_near _ hn nn
    · exact same_near hn nn

theorem near_le_od {lo hi : Nat} (h : NearOk lo hi) : od lo ≤ od hi := by
  rcases h with ⟨rfl, rfl⟩ | ⟨_, _, _, _, h⟩
  · exact Int.le_refl _
  · omega
theorem near_lt {lo hi : Nat} (h : NearOk lo hi) : lo < 18446744073709551616 ∧ hi < 18446744073709551616 := by
  rcases h with ⟨rfl, rfl⟩ | ⟨h1, h2, _⟩
  · exact ⟨by decide, by decide⟩
  · exact ⟨h1, h2⟩

theorem fl_false (r : Nat) : fl false r = r := by unfold fl; rw [if_neg (by decide)]
/-- The whole root. -/
theorem rootFrom_spec (n : Nat) : ∀ (todo root : Nat), root * root ≤ n → n < (root + 2 ^ todo) * (root + 2 ^ todo) →
    Datum.rootFrom n todo root * Datum.rootFrom n todo root ≤ n ∧ n < (Datum.rootFrom n todo root + 1) * (Datum.rootFrom n todo root + 1)
  | 0, root, h1, h2 => by simpa [Datum.rootFrom] using ⟨h1, h2⟩
  | todo + 1, root, h1, h2 => by
    simp only [Datum.rootFrom, Nat.shiftLeft_eq, Nat.one_mul]
    split
    · rename_i c
      refine rootFrom_spec n todo _ c ?_
      rw [show root + 2 ^ todo + 2 ^ todo = root + 2 ^ (todo + 1) from by rw [Nat.pow_succ]; omega]; exact h2
    · rename_i c
      exact rootFrom_spec n todo root h1 (by omega)

theorem whole_spec (n : Nat) : ∃ r, Datum.rootFrom n (n.log2 / 2 + 1) 0 = r ∧ r * r ≤ n ∧ n < (r + 1) * (r + 1) := by
  refine ⟨_, rfl, rootFrom_spec n _ 0 (by simp) ?_⟩
  rw [Nat.zero_add, ← Nat.pow_add]
  have h1 : n < 2 ^ (n.log2 + 1) := Nat.lt_log2_self
  have h2 : 2 ^ (n.log2 + 1) ≤ 2 ^ (n.log2 / 2 + 1 + (n.log2 / 2 + 1)) := Nat.pow_le_pow_right (by decide) (by omega)
  omega

/-- The root of a finite number above 0, as it is written. -/
theorem sqrt_eq {a : Nat} (ha : a < 18446744073709551616) (fa : rg a < 9218868437227405312) (za : rg a ≠ 0) (sa : sg a = false) :
    ∃ more r : Nat, double.sqrt a = some (double.nearest false (2 * r + (r * r != mm (rg a) * 2 ^ more).toNat) ((pp (rg a) - more) / 2 - 1)) ∧
      r * r ≤ mm (rg a) * 2 ^ more ∧ mm (rg a) * 2 ^ more < (r + 1) * (r + 1) ∧ (pp (rg a) - more) % 2 = 0 ∧ 108 ≤ more + (mm (rg a)).log2 ∧ more ≤ 109 := by
  have hm : mm (rg a) ≠ 0 := by rw [Ne, mm_zero]; exact za
  obtain ⟨g1, g2⟩ := log2_bounds hm
  have hl : (mm (rg a)).log2 < 53 := (Nat.log2_lt hm).2 (mm_lt _)
  obtain ⟨more, hmore⟩ : ∃ k : Nat, k = 2 * 54 - (mm (rg a)).log2 + ((pp (rg a) - ((2 * 54 - (mm (rg a)).log2 : Nat) : Int)) % 2).toNat := ⟨_, rfl⟩
  obtain ⟨r, hr, h1, h2⟩ := whole_spec (mm (rg a) * 2 ^ more)
  refine ⟨more, r, ?_, h1, h2, by omega, by omega, by omega⟩
  unfold Format.sqrt
  rw [read_eq ha, rd_mp fa, sa]
  simp only [Datum.root, if_neg hm, Bool.false_eq_true, if_false]
  rw [show (double.fractionBits + 2) = 54 from rfl, ← hmore, Nat.shiftLeft_eq, hr]
  simp only [Option.map_some, write_fl, fl_false]

/-- The root of a number above 0, down, is above 0. -/
theorem root_pos (a : Nat) (ha : a < 9218868437227405312) (za : a ≠ 0) : 0 < od (word (rootF a false)) := by
  have ha' : a < 18446744073709551616 := by omega
  have hrg : rg a = a := by unfold rg; omega
  have hsg : sg a = false := by unfold sg; rw [decide_eq_false (by omega)]
  obtain ⟨more, r, h, h1, h2, h3, h4, h5⟩ := sqrt_eq ha' (by rw [hrg]; exact ha) (by rw [hrg]; exact za) hsg
  have hm : mm (rg a) ≠ 0 := by rw [Ne, mm_zero, hrg]; exact za
  have hr : 1 ≤ r := by
    apply Nat.pos_of_ne_zero; intro c; subst c
    have : 1 ≤ mm (rg a) * 2 ^ more := Nat.mul_pos (Nat.pos_of_ne_zero hm) (Nat.two_pow_pos _)
    omega
  have hp := pp_ge (rg a)
  have big : 2 ≤ double.nearest false (2 * r + (r * r != mm (rg a) * 2 ^ more).toNat) ((pp (rg a) - more) / 2 - 1) := by
    refine near_ge (K := 1074) (by omega) (by omega) (by omega) ?_
    rw [show mag 2 = 2 from by decide, show 1074 - 1074 = 0 from rfl, Nat.pow_zero, Nat.mul_one]
    have : 2 * 1 ≤ (2 * r + (r * r != mm (rg a) * 2 ^ more).toNat) * 2 ^ ((pp (rg a) - more) / 2 - 1 + ((1074 : Nat) : Int)).toNat :=
      Nat.mul_le_mul (by omega) (Nat.two_pow_pos _)
    omega
  have hle := nearest_le (2 * r + (r * r != mm (rg a) * 2 ^ more).toNat) ((pp (rg a) - more) / 2 - 1)
  generalize double.nearest false (2 * r + (r * r != mm (rg a) * 2 ^ more).toNat) ((pp (rg a) - more) / 2 - 1) = n at h big hle
  unfold rootF; rw [h]
  simp only [Option.map_some, word, Option.getD_some]
  have nn : nanB n = false := by rw [nanB_rung (by omega), decide_eq_false (by omega)]
  have hn : od n = n := od_rung (by omega)
  split
  · unfold dirF; rw [if_neg (by decide)]; split
    · rcases od_nextDn (by omega) nn with d | d
      · omega
      · rw [d]; omega
    · omega
  · omega
end Go.Proofs.Ytmjkihclaccidaa
