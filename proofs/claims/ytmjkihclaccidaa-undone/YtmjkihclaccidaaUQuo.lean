/- Quotients of normal numbers above 0, down and up. -/
import Derived.Test.YtmjkihclaccidaaUProd
namespace Go.Proofs.Ytmjkihclaccidaa
open Ieee

theorem log2_52 {k : Nat} (h1 : 4503599627370496 ≤ k) (h2 : k < 9007199254740992) : k.log2 = 52 := by
  have hk : k ≠ 0 := by omega
  have a1 : k.log2 < 53 := (Nat.log2_lt hk).2 h2
  have a2 : ¬ k.log2 < 52 := by intro h; have := (Nat.log2_lt hk).1 h; omega
  omega

/-- What a number with a last digit for the rest is rounded to, against rungs that are whole in its units. -/
theorem sticky_near {F st e : Nat} {p' : Int} {K : Nat} (hst : st ≤ 1) (hK : 1074 ≤ K) (hp : 0 ≤ p' + K) (he : (e : Int) = p' + 1 + 1074) (t q : Nat) (ht : mag q = t * 2 ^ e) :
    (t ≤ F → q ≤ 9218868437227405312 → q ≤ double.nearest false (2 * F + st) p') ∧ ((F < t ∨ (F = t ∧ st = 0)) → double.nearest false (2 * F + st) p' ≤ q) := by
  have es : mag q * 2 ^ (K - 1074) = (2 * t) * 2 ^ (p' + K).toNat := by
    rw [ht, Nat.mul_assoc, ← Nat.pow_add, show e + (K - 1074) = 1 + (p' + K).toNat from by omega, Nat.pow_add, Nat.pow_one, ← Nat.mul_assoc, Nat.mul_comm t 2]
  constructor
  · intro h hq
    refine near_ge hK hp hq ?_
    rw [es]; exact Nat.mul_le_mul_right _ (by omega)
  · intro h
    refine near_le hK hp ?_
    rw [es]; exact Nat.mul_le_mul_right _ (by omega)

theorem room {e n : Nat} (h : (e + 1) * 4503599627370496 + 4503599627370496 ≤ n) : e * 4503599627370496 + 4503599627370496 ≤ n - 1 := by
  rw [Nat.succ_mul, Nat.add_assoc] at h
  exact Nat.le_sub_one_of_lt (Nat.lt_of_lt_of_le (Nat.add_lt_add_left (by decide) _) h)

/-- THE QUOTIENT, DOWN AND UP. -/
theorem quo_spec {x y : Nat} (hx1 : 4503599627370496 ≤ x) (hx2 : x < 9218868437227405312) (hy1 : 4503599627370496 ≤ y) (hy2 : y < 9218868437227405312)
    (lo : y / 4503599627370496 ≤ x / 4503599627370496 + 1020) (hi : x / 4503599627370496 ≤ y / 4503599627370496 + 1000) :
    (∃ D, word (quoF x y false) = D ∧ mag D * mag y ≤ mag x * one ∧ mag x * one < mag (D + 1) * mag y) ∧
      ∃ U, word (quoF x y true) = U ∧ 1 ≤ U ∧ mag (U - 1) * mag y < mag x * one ∧ mag x * one ≤ mag U * mag y := by
  obtain ⟨c, hc, hone⟩ := one_eq
  obtain ⟨K, hK⟩ : ∃ K : Nat, K = 5000 := ⟨_, rfl⟩
  obtain ⟨L, k, ex, k1, k2, mx, lx, mmx, ppx, _, _⟩ := norm_split hx1
  obtain ⟨M, j, ey, j1, j2, my, ly, mmy, ppy, _, _⟩ := norm_split hy1
  have rx : rg x = x := rg_rung (by omega)
  have ry : rg y = y := rg_rung (by omega)
  have sx : sg x = false := sg_rung (by omega)
  have sy : sg y = false := sg_rung (by omega)
  obtain ⟨P, hP⟩ : ∃ P : Nat, P = 18014398509481984 := ⟨_, rfl⟩
  obtain ⟨F, hF⟩ : ∃ F, F = k * P / j := ⟨_, rfl⟩
  obtain ⟨st, hst⟩ : ∃ st, st = (k * P % j != 0).toNat := ⟨_, rfl⟩
  have hdiv : double.div x y = some (double.nearest false (2 * F + st) ((L : Int) - 1074 - ((M : Int) - 1074) - ((54 : Nat) : Int) - 1)) := by
    rw [div_some (by omega) (by omega) (by omega) (by omega) (by omega), rx, ry, sx, sy, mmx, mmy, ppx, ppy, Bool.xor_self, fl_false, log2_52 k1 k2, log2_52 j1 j2, Nat.shiftLeft_eq, show 54 + 52 - 52 = 54 from rfl, show (2 : Nat) ^ 54 = P from by rw [hP], ← hF, ← hst]
  have hst1 : st ≤ 1 := by rw [hst]; cases (k * P % j != 0) <;> decide
  have hdm := Nat.div_add_mod (k * P) j
  have hlt := Nat.mod_lt (k * P) (show 0 < j by omega)
  rw [← hF] at hdm
  have hst0 : st = 0 → k * P % j = 0 := by
    intro h; rw [hst] at h
    cases hb : (k * P % j != 0) with
    | false => simpa using hb
    | true => rw [hb] at h; simp at h
  generalize k * P % j = R at hdm hlt hst0
  have cmp1 : ∀ t, t * j ≤ k * P → t ≤ F := by
    intro t h
    apply Nat.le_of_not_lt; intro hc
    have : (F + 1) * j ≤ t * j := Nat.mul_le_mul_right _ hc
    rw [Nat.add_mul, Nat.one_mul, Nat.mul_comm] at this; omega
  have cmp2 : ∀ t, k * P ≤ t * j → F < t ∨ (F = t ∧ st = 0) := by
    intro t h
    by_cases c1 : F < t
    · exact Or.inl c1
    · right
      have h1 : t * j ≤ F * j := Nat.mul_le_mul_right _ (by omega)
      rw [Nat.mul_comm F j] at h1
      have hR : R = 0 := by omega
      have h2 : F * j ≤ t * j := by rw [Nat.mul_comm F j]; omega
      have h3 : F ≤ t := Nat.le_of_mul_le_mul_right h2 (by omega)
      refine ⟨by omega, ?_⟩
      have hb : (k * P % j != 0) = false := by
        have h4 : k * P = j * F := by omega
        rw [h4, Nat.mul_mod_right]; rfl
      rw [hst, hb]; rfl
  have hF1 : 9007199254740992 ≤ F := cmp1 _ (by
    have : 4503599627370496 * P ≤ k * P := Nat.mul_le_mul_right _ k1
    have : 9007199254740992 * j ≤ 9007199254740992 * 9007199254740992 := Nat.mul_le_mul_left _ (by omega)
    omega)
  have hF2 : F < 36028797018963968 := by
    apply Nat.lt_of_not_le; intro hc
    have a1 : k * P ≤ 9007199254740992 * P := Nat.mul_le_mul_right _ (by omega)
    have a2 : 36028797018963968 * 4503599627370496 ≤ F * j := Nat.mul_le_mul hc j1
    have a3 : k * P < 9007199254740992 * P := Nat.mul_lt_mul_of_pos_right k2 (by omega)
    rw [Nat.mul_comm F j] at a2; omega
  obtain ⟨e, he⟩ : ∃ e : Nat, (e : Int) = (L : Int) - M + 1020 := ⟨((L : Int) - M + 1020).toNat, by omega⟩
  have near : ∀ t q, mag q = t * 2 ^ e → (t ≤ F → q ≤ 9218868437227405312 → q ≤ double.nearest false (2 * F + st) ((L : Int) - 1074 - ((M : Int) - 1074) - ((54 : Nat) : Int) - 1)) ∧ ((F < t ∨ (F = t ∧ st = 0)) → double.nearest false (2 * F + st) ((L : Int) - 1074 - ((M : Int) - 1074) - ((54 : Nat) : Int) - 1) ≤ q) := by
    intro t q h
    exact sticky_near (K := K) hst1 (by omega) (by omega) (by omega) t q h
  generalize double.nearest false (2 * F + st) ((L : Int) - 1074 - ((M : Int) - 1074) - ((54 : Nat) : Int) - 1) = n at hdiv near
  have n1 : (e + 1) * 4503599627370496 + 4503599627370496 ≤ n := by
    refine (near 9007199254740992 _ ?_).1 hF1 (by omega)
    rw [mag_mk (Or.inr (by omega)) (by omega), Nat.pow_succ]
    generalize 2 ^ e = Q; omega
  have n2 : n ≤ (e + 3) * 4503599627370496 + 4503599627370496 := by
    refine (near 36028797018963968 _ ?_).2 (Or.inl hF2)
    rw [mag_mk (Or.inr (by omega)) (by omega), Nat.pow_succ, Nat.pow_succ, Nat.pow_succ]
    generalize 2 ^ e = Q; omega
  have hn1 : 4503599627370496 ≤ n := by omega
  have hn2 : n < 9218868437227405312 := by omega
  obtain ⟨N, i, en, i1, i2, mn, ln, _, _, dn, _⟩ := norm_split hn1
  have nn : nanB n = false := by rw [nanB_rung (by omega), decide_eq_false (by omega)]
  -- against the exact quotient
  have key : mag x * one = k * P * 2 ^ (L + 1020) := by
    rw [mx, hone, hP, show (18014398509481984 : Nat) = 2 ^ 54 from rfl, Nat.mul_assoc, Nat.mul_assoc, ← Nat.pow_add, ← Nat.pow_add, show L + c = 54 + (L + 1020) from by omega]
  have hQ := Nat.two_pow_pos (L + 1020)
  have scale : ∀ t, t * 2 ^ e * mag y = t * j * 2 ^ (L + 1020) := by
    intro t
    rw [my, Nat.mul_mul_mul_comm, ← Nat.pow_add, show e + M = L + 1020 from by omega]
  have up1 : mag x * one < mag (n + 1) * mag y := by
    apply Nat.lt_of_not_le; intro h
    obtain ⟨t, ht⟩ := mult_of (r := e * 4503599627370496 + 4503599627370496) (L := e) (k := 4503599627370496) (q := n + 1) rfl (Nat.le_refl _) (Nat.le_trans (room n1) (Nat.le_trans (Nat.sub_le n 1) (Nat.le_succ n)))
    rw [ht, scale, key] at h
    have := (near t (n + 1) ht).1 (cmp1 t (Nat.le_of_mul_le_mul_right h hQ)) (by omega)
    omega
  have dn1 : mag (n - 1) * mag y < mag x * one := by
    apply Nat.lt_of_not_le; intro h
    obtain ⟨t, ht⟩ := mult_of (r := e * 4503599627370496 + 4503599627370496) (L := e) (k := 4503599627370496) (q := n - 1) rfl (Nat.le_refl _) (room n1)
    rw [ht, scale, key] at h
    have := (near t (n - 1) ht).2 (cmp2 t (Nat.le_of_mul_le_mul_right h hQ))
    omega
  -- the sign of the miss
  obtain ⟨fx1, fx2, _⟩ := fr_norm hx2 ex k1 k2
  obtain ⟨fy1, fy2, fy3, _, _, _⟩ := fr_norm hy2 ey j1 j2
  obtain ⟨z, hz⟩ : ∃ z : Nat, (z : Int) = (N : Int) + 1 + (frE y - frE x) := ⟨((N : Int) + 1 + (frE y - frE x)).toNat, by omega⟩
  obtain ⟨_, _, ld3, _⟩ := ld_norm hn2 en i1 i2 hz.symm (by omega) (by omega)
  obtain ⟨r, q1, q2, q3, q4⟩ := mq_some x y nn
  have sfy : sg (frF y) = false := by
    unfold frF mk; rw [fy3, sy, sg_fl]; have := fm_lt y; omega
  have hsum : ∃ d, Datum.sum (.number false k (-53)) (.number true (i * j) ((z : Int) - 1075 + -53)) = some d ∧ double.write d = r := by
    unfold Format.fma at q1
    obtain ⟨d, g1, g2⟩ := map_write q1
    refine ⟨d, ?_, g2⟩
    rw [fx1, fy1, ld3] at g1
    rw [sum_comm]
    simpa only [Datum.product, Option.bind_some, Bool.true_xor, Bool.not_false] using g1
  obtain ⟨d, g1, g2⟩ := hsum
  obtain ⟨a, ha⟩ : ∃ a : Nat, a = 1021 := ⟨_, rfl⟩
  obtain ⟨s1, s2⟩ := diff_sign (a := a) (b := z - 54) (by omega) (by omega) g1
  rw [g2, ← q2] at s1 s2
  have hB := Nat.two_pow_pos (L + 53)
  have w1 : k * 2 ^ a * 2 ^ (L + 53) = mag x * one := by
    rw [mx, hone, Nat.mul_assoc, ← Nat.pow_add, Nat.mul_assoc, ← Nat.pow_add, show a + (L + 53) = L + c from by omega]
  have w2 : i * j * 2 ^ (z - 54) * 2 ^ (L + 53) = mag n * mag y := by
    rw [mn, my, Nat.mul_assoc (i * j), ← Nat.pow_add, Nat.mul_mul_mul_comm, ← Nat.pow_add, show z - 54 + (L + 53) = N + M from by omega]
  have em : mqF x y n = mqR x y n := by unfold mqF; rw [sfy, if_neg (by decide)]
  have s1' : od (mqF x y n) < 0 ↔ mag x * one < mag n * mag y := by
    rw [em, s1, ← Nat.mul_lt_mul_right hB, w1, w2]
  have s2' : 0 < od (mqF x y n) ↔ mag n * mag y < mag x * one := by
    rw [em, s2, ← Nat.mul_lt_mul_right hB, w1, w2]
  have main := dir_spec (miss := mqF x y n) (fun q => mag q * mag y) (by omega) hn2 up1 dn1 s1' s2'
  have o1 : ordB x = true := by unfold ordB; rw [rx, decide_eq_true (by omega)]
  have o2 : ordB y = true := by unfold ordB; rw [ry, decide_eq_true (by omega)]
  have e0 : ∀ up, word (quoF x y up) = dirF n (mqF x y n) up := by
    intro up; unfold quoF; rw [hdiv]; simp only [Option.map_some, word, Option.getD_some]; rw [o1, o2, Bool.and_self, if_pos rfl]
  rw [e0, e0]; exact main
end Go.Proofs.Ytmjkihclaccidaa
