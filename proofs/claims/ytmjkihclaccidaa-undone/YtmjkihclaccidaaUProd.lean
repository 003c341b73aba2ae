/- Products of normal numbers above 0, down and up: they hold the exact product between them. -/
import Derived.Test.YtmjkihclaccidaaUBase
namespace Go.Proofs.Ytmjkihclaccidaa
open Ieee

/-- What Directed makes of the nearest and the sign of the miss. -/
theorem dir_spec {n miss v : Nat} (G : Nat → Nat) (h0 : 1 ≤ n) (hn : n < 9218868437227405312)
    (up1 : v < G (n + 1)) (dn1 : G (n - 1) < v) (s1 : od miss < 0 ↔ v < G n) (s2 : 0 < od miss ↔ G n < v) :
    (∃ D, dirF n miss false = D ∧ G D ≤ v ∧ v < G (D + 1)) ∧ ∃ U, dirF n miss true = U ∧ 1 ≤ U ∧ G (U - 1) < v ∧ v ≤ G U := by
  have hr : rg n = n := rg_rung (by omega)
  constructor
  · refine ⟨_, rfl, ?_⟩
    unfold dirF; rw [if_neg (by decide)]
    by_cases c : od miss < 0
    · rw [if_pos c]
      have : nextDn n = n - 1 := by unfold nextDn; rw [if_neg (by omega), hr, if_neg (by omega), if_pos (by omega)]
      rw [this, show n - 1 + 1 = n from by omega]
      exact ⟨by omega, s1.1 c⟩
    · rw [if_neg c]
      refine ⟨?_, up1⟩
      apply Nat.le_of_not_lt; intro h; exact c (s1.2 h)
  · refine ⟨_, rfl, ?_⟩
    unfold dirF; rw [if_pos rfl]
    by_cases c : 0 < od miss
    · rw [if_pos c]
      have : nextUp n = n + 1 := by unfold nextUp; rw [if_neg (by omega), hr, if_neg (by omega), if_pos (by omega)]
      rw [this, show n + 1 - 1 = n from by omega]
      exact ⟨by omega, s2.1 c, by omega⟩
    · rw [if_neg c]
      refine ⟨h0, dn1, ?_⟩
      apply Nat.le_of_not_lt; intro h; exact c (s2.2 h)

/-- The sign of a difference that is rounded once. -/
theorem diff_sign {m n a b : Nat} {i j : Int} {d : Datum} (ha : (a : Int) = i + 1074) (hb : (b : Int) = j + 1074) (h : Datum.sum (.number false m i) (.number true n j) = some d) :
    (od (double.write d) < 0 ↔ m * 2 ^ a < n * 2 ^ b) ∧ (0 < od (double.write d) ↔ n * 2 ^ b < m * 2 ^ a) := by
  simp only [Datum.sum] at h; cases h
  have hP := Nat.two_pow_pos (min i j + 1074).toNat
  have e1 : m * 2 ^ a = m * 2 ^ (i - min i j).toNat * 2 ^ (min i j + 1074).toNat := by
    rw [Nat.mul_assoc, ← Nat.pow_add, show (i - min i j).toNat + (min i j + 1074).toNat = a from by omega]
  have e2 : n * 2 ^ b = n * 2 ^ (j - min i j).toNat * 2 ^ (min i j + 1074).toNat := by
    rw [Nat.mul_assoc, ← Nat.pow_add, show (j - min i j).toNat + (min i j + 1074).toNat = b from by omega]
  rw [e1, e2]
  have hmin : -1074 ≤ min i j := by omega
  have f1 : signed false m (i - min i j).toNat = ((m * 2 ^ (i - min i j).toNat : Nat) : Int) := by unfold signed; rw [Nat.shiftLeft_eq]; simp
  have f2 : signed true n (j - min i j).toNat = -((n * 2 ^ (j - min i j).toNat : Nat) : Int) := by unfold signed; rw [Nat.shiftLeft_eq]; simp
  rw [f1, f2]
  generalize m * 2 ^ (i - min i j).toNat = M at *
  generalize n * 2 ^ (j - min i j).toNat = N at *
  have k1 : M * 2 ^ (min i j + 1074).toNat < N * 2 ^ (min i j + 1074).toNat ↔ M < N := Nat.mul_lt_mul_right hP
  have k2 : N * 2 ^ (min i j + 1074).toNat < M * 2 ^ (min i j + 1074).toNat ↔ N < M := Nat.mul_lt_mul_right hP
  rw [k1, k2]
  by_cases c : (M : Int) + -(N : Int) = 0
  · rw [c, if_pos rfl, Int.natAbs_zero, od_zero.2 (zero_write _ _)]; omega
  · rw [if_neg c, write_number]
    have big : 1 ≤ double.nearest false ((M : Int) + -(N : Int)).natAbs (min i j) := by
      refine near_ge (K := 1074) (by omega) (by omega) (by omega) ?_
      rw [show mag 1 = 1 from by decide, show 1074 - 1074 = 0 from rfl, Nat.pow_zero, Nat.mul_one]
      exact Nat.mul_pos (by omega) (Nat.two_pow_pos _)
    have hs := near_lt_S ((M : Int) + -(N : Int)).natAbs (min i j)
    generalize double.nearest false ((M : Int) + -(N : Int)).natAbs (min i j) = R at big hs
    unfold od; rw [sg_fl hs, rg_fl hs]
    by_cases d : (M : Int) + -(N : Int) < 0
    · rw [decide_eq_true d]; unfold ordI; simp only [if_true]; omega
    · rw [decide_eq_false d]; unfold ordI; simp only [Bool.false_eq_true, if_false]; omega

/-- Taking a normal number above 0 apart. -/
theorem fr_norm {x L k : Nat} (hx : x < 9218868437227405312) (e : x = L * 4503599627370496 + k) (h1 : 4503599627370496 ≤ k) (h2 : k < 9007199254740992) :
    double.read (frF x) = .number false k (-53) ∧ frE x = (L : Int) - 1021 ∧ nrm x = x ∧ nre x = 0 ∧ fe x = L + 1 ∧ fm x = k - 4503599627370496 := by
  have hr : rg x = x := rg_rung (by omega)
  have hs : sg x = false := sg_rung (by omega)
  have n1 : nrm x = x := by unfold nrm; rw [hr, if_neg (by omega)]
  have n2 : nre x = 0 := by unfold nre; rw [hr, if_neg (by omega)]
  have f1 : fe x = L + 1 := by unfold fe; rw [hr]; omega
  have f2 : fm x = k - 4503599627370496 := by unfold fm; rw [hr]; omega
  refine ⟨?_, ?_, n1, n2, f1, f2⟩
  · unfold frF mk; rw [n1, hs, f2, fl_false]
    rw [read_eq (by omega), sg_rung (by omega), rg_rung (by omega), rd_mp (by omega)]
    have e1 : mm (1022 * 4503599627370496 + (k - 4503599627370496)) = k := by unfold mm; rw [if_neg (by omega)]; omega
    have e2 : pp (1022 * 4503599627370496 + (k - 4503599627370496)) = -53 := by unfold pp; rw [if_neg (by omega)]; omega
    rw [e1, e2]
  · unfold frE; rw [n1, n2, f1]; omega

theorem one_mk {z m : Nat} (hz1 : 1 ≤ z) (hz2 : z ≤ 2046) (hm : m < 4503599627370496) : double.mul 4607182418800017408 (mk false z m) = some (mk false z m) := by
  have h1 : rg (mk false z m) = z * 4503599627370496 + m := rg_fl (by omega)
  have h2 : sg (mk false z m) = false := sg_fl (by omega)
  rw [mul_eq (by decide) (mk_lt (by omega) hm) (by decide) (by rw [h1]; omega), h1, h2]
  rw [show sg 4607182418800017408 = false from by decide, show mm (rg 4607182418800017408) = 4503599627370496 from by decide, show pp (rg 4607182418800017408) = -52 from by decide, Bool.xor_self]
  have e1 : mm (z * 4503599627370496 + m) = 4503599627370496 + m := by unfold mm; rw [if_neg (by omega)]; omega
  have e2 : pp (z * 4503599627370496 + m) = (z : Int) - 1075 := by unfold pp; rw [if_neg (by omega)]; omega
  rw [e1, e2]; unfold mk
  obtain ⟨K, hK⟩ : ∃ K : Nat, K = 2148 := ⟨_, rfl⟩
  rw [near_exact (K := K) (q := z * 4503599627370496 + m) (by omega) (by omega) (by omega)]
  rw [show z * 4503599627370496 + m = (z - 1) * 4503599627370496 + (4503599627370496 + m) from by omega, mag_mk (Or.inr (by omega)) (by omega), Nat.mul_comm 4503599627370496, Nat.mul_assoc, Nat.mul_assoc, pow52, ← Nat.pow_add]
  rw [show (-52 + ((z : Int) - 1075) + (K : Int)).toNat + 52 = z - 1 + (K - 1074) from by omega]

/-- Ldexp of a normal number above 0 that stays normal: exact. -/
theorem ld_norm {x L k z : Nat} {e : Int} (hx : x < 9218868437227405312) (he : x = L * 4503599627370496 + k) (h1 : 4503599627370496 ≤ k) (h2 : k < 9007199254740992)
    (hz : (L : Int) + 1 + e = z) (z1 : 1 ≤ z) (z2 : z ≤ 2046) :
    ldF x e = z * 4503599627370496 + (k - 4503599627370496) ∧ double.read (ldF x e) = .number false k ((z : Int) - 1075) ∧ double.read (ng (ldF x e)) = .number true k ((z : Int) - 1075) ∧ ldF x e < 9218868437227405312 := by
  obtain ⟨_, _, n1, n2, f1, f2⟩ := fr_norm hx he h1 h2
  have hr : rg x = x := rg_rung (by omega)
  have hs : sg x = false := sg_rung (by omega)
  have hE : ldE x e = (z : Int) - 1023 := by unfold ldE; rw [n1, n2, f1]; omega
  have v : ldF x e = z * 4503599627370496 + (k - 4503599627370496) := by
    unfold ldF; rw [hr, if_neg (by omega)]
    unfold ldN; rw [hE, if_neg (by omega), if_neg (by omega), if_neg (by omega), n1, hs, f2, show ((z : Int) - 1023 + 1023).toNat = z from by omega]
    have := one_mk (z := z) (m := k - 4503599627370496) z1 z2 (by omega)
    have this' : FloatKind.f64.format.mul 4607182418800017408 (mk false z (k - 4503599627370496)) = some (mk false z (k - 4503599627370496)) := this
    rw [this', Option.getD_some]; unfold mk; rw [fl_false]
  have rd : double.read (ldF x e) = .number false k ((z : Int) - 1075) := by
    rw [v, read_eq (by omega), sg_rung (by omega), rg_rung (by omega), rd_mp (by omega)]
    have e1 : mm (z * 4503599627370496 + (k - 4503599627370496)) = k := by unfold mm; rw [if_neg (by omega)]; omega
    have e2 : pp (z * 4503599627370496 + (k - 4503599627370496)) = (z : Int) - 1075 := by unfold pp; rw [if_neg (by omega)]; omega
    rw [e1, e2]
  have hl : ldF x e < 9218868437227405312 := by rw [v]; omega
  refine ⟨v, rd, ?_, hl⟩
  rw [read_ng (by omega), rd]; simp only [Datum.opposite, Bool.not_false]

/-- What makes a 1 of the least number. -/
def oneE : Nat := 1074
def one : Nat := 2 ^ oneE
theorem one_eq : ∃ c : Nat, c = 1074 ∧ one = 2 ^ c := ⟨oneE, rfl, rfl⟩

/-- THE PRODUCT, DOWN AND UP. -/
theorem prod_spec {x y : Nat} (hx1 : 4503599627370496 ≤ x) (hx2 : x < 9218868437227405312) (hy1 : 4503599627370496 ≤ y) (hy2 : y < 9218868437227405312)
    (lo : 1024 ≤ x / 4503599627370496 + y / 4503599627370496) (hi : x / 4503599627370496 + y / 4503599627370496 ≤ 3060) :
    (∃ D, word (prodF x y false) = D ∧ mag D * one ≤ mag x * mag y ∧ mag x * mag y < mag (D + 1) * one) ∧
      ∃ U, word (prodF x y true) = U ∧ 1 ≤ U ∧ mag (U - 1) * one < mag x * mag y ∧ mag x * mag y ≤ mag U * one := by
  obtain ⟨c, hc, hone⟩ := one_eq
  obtain ⟨K, hK⟩ : ∃ K : Nat, K = 2148 := ⟨_, rfl⟩
  obtain ⟨u, hu⟩ : ∃ u : Nat, u = 968 := ⟨_, rfl⟩
  have hKc : 2 ^ (K - 1074) = one := by rw [hone, show K - 1074 = c from by omega]
  obtain ⟨L, k, ex, k1, k2, mx, lx, mmx, ppx, _, _⟩ := norm_split hx1
  obtain ⟨M, j, ey, j1, j2, my, ly, mmy, ppy, _, _⟩ := norm_split hy1
  have rx : rg x = x := rg_rung (by omega)
  have ry : rg y = y := rg_rung (by omega)
  have sx : sg x = false := sg_rung (by omega)
  have sy : sg y = false := sg_rung (by omega)
  have hmul : double.mul x y = some (double.nearest false (k * j) ((L : Int) - 1074 + ((M : Int) - 1074))) := by
    rw [mul_eq (by omega) (by omega) (by omega) (by omega), rx, ry, sx, sy, mmx, mmy, ppx, ppy, Bool.xor_self, fl_false]
  have ev : k * j * 2 ^ ((L : Int) - 1074 + ((M : Int) - 1074) + (K : Int)).toNat = mag x * mag y := by
    rw [mx, my, show ((L : Int) - 1074 + ((M : Int) - 1074) + (K : Int)).toNat = L + M from by omega, Nat.pow_add, Nat.mul_mul_mul_comm]
  have hkj1 : 4503599627370496 * 2 ^ 52 ≤ k * j := Nat.mul_le_mul k1 j1
  have hkj2 : k * j ≤ 4503599627370496 * 2 ^ 54 := by
    have : k * j ≤ 9007199254740992 * 9007199254740992 := Nat.mul_le_mul (by omega) (by omega)
    omega
  have n1 : (L + M - 1022) * 4503599627370496 + 4503599627370496 ≤ double.nearest false (k * j) ((L : Int) - 1074 + ((M : Int) - 1074)) := by
    refine near_ge (K := K) (by omega) (by omega) (by omega) ?_
    rw [ev, mag_mk (Or.inr (by omega)) (by omega), mx, my, Nat.mul_mul_mul_comm k, ← Nat.pow_add, Nat.mul_assoc 4503599627370496, ← Nat.pow_add, show L + M - 1022 + (K - 1074) = 52 + (L + M) from by omega, Nat.pow_add 2 52 (L + M), ← Nat.mul_assoc 4503599627370496]
    exact Nat.mul_le_mul_right _ hkj1
  have n2 : double.nearest false (k * j) ((L : Int) - 1074 + ((M : Int) - 1074)) ≤ (L + M - 1020) * 4503599627370496 + 4503599627370496 := by
    refine near_le (K := K) (by omega) (by omega) ?_
    rw [ev, mag_mk (Or.inr (by omega)) (by omega), mx, my, Nat.mul_mul_mul_comm k, ← Nat.pow_add, Nat.mul_assoc 4503599627370496, ← Nat.pow_add, show L + M - 1020 + (K - 1074) = 54 + (L + M) from by omega, Nat.pow_add 2 54 (L + M), ← Nat.mul_assoc 4503599627370496]
    exact Nat.mul_le_mul_right _ hkj2
  have ge : ∀ q, q ≤ 9218868437227405312 → mag q * one ≤ mag x * mag y → q ≤ double.nearest false (k * j) ((L : Int) - 1074 + ((M : Int) - 1074)) := by
    intro q hq h
    refine near_ge (K := K) (by omega) (by omega) hq ?_
    rw [ev, hKc]; exact h
  have le : ∀ q, mag x * mag y ≤ mag q * one → double.nearest false (k * j) ((L : Int) - 1074 + ((M : Int) - 1074)) ≤ q := by
    intro q h
    refine near_le (K := K) (by omega) (by omega) ?_
    rw [ev, hKc]; exact h
  generalize double.nearest false (k * j) ((L : Int) - 1074 + ((M : Int) - 1074)) = n at hmul n1 n2 ge le
  have hn1 : 4503599627370496 ≤ n := by omega
  have hn2 : n < 9218868437227405312 := by omega
  obtain ⟨N, i, en, i1, i2, mn, ln, _, _, dn, _⟩ := norm_split hn1
  have hN1 : L + M - 1022 ≤ N := by omega
  have hN2 : N ≤ L + M - 1020 + 1 := by omega
  have nn : nanB n = false := by rw [nanB_rung (by omega), decide_eq_false (by omega)]
  obtain ⟨fx1, fx2, _⟩ := fr_norm hx2 ex k1 k2
  obtain ⟨fy1, fy2, _⟩ := fr_norm hy2 ey j1 j2
  obtain ⟨z, hz⟩ : ∃ z : Nat, (z : Int) = (N : Int) + 1 + (-frE x - frE y) := ⟨((N : Int) + 1 + (-frE x - frE y)).toNat, by omega⟩
  have hz' : N + 2043 = z + (L + M) := by omega
  obtain ⟨_, _, ld3, _⟩ := ld_norm hn2 en i1 i2 hz.symm (by omega) (by omega)
  obtain ⟨r, q1, q2, q3, q4⟩ := mp_some x y nn
  have hsum : ∃ d, Datum.sum (.number false (k * j) (-106)) (.number true i ((z : Int) - 1075)) = some d ∧ double.write d = r := by
    unfold Format.fma at q1
    obtain ⟨d, g1, g2⟩ := map_write q1
    refine ⟨d, ?_, g2⟩
    rw [fx1, fy1, ld3] at g1
    simpa [Datum.product] using g1
  obtain ⟨d, g1, g2⟩ := hsum
  obtain ⟨s1, s2⟩ := diff_sign (a := u) (b := z - 1) (by omega) (by omega) g1
  rw [g2, ← q2] at s1 s2
  have hP := Nat.two_pow_pos (L + M)
  have w1 : k * j * 2 ^ u * 2 ^ (L + M) = mag x * mag y * 2 ^ u := by
    rw [mx, my, Nat.mul_mul_mul_comm, ← Nat.pow_add]
    generalize 2 ^ (L + M) = P; generalize 2 ^ u = Q
    rw [Nat.mul_assoc, Nat.mul_comm Q P, ← Nat.mul_assoc]
  have w2 : i * 2 ^ (z - 1) * 2 ^ (L + M) = mag n * one * 2 ^ u := by
    rw [mn, hone, Nat.mul_assoc i, ← Nat.pow_add, Nat.mul_assoc i, ← Nat.pow_add, Nat.mul_assoc i, ← Nat.pow_add, show z - 1 + (L + M) = N + c + u from by omega]
  have hQ := Nat.two_pow_pos u
  have s1' : od (mpF x y n) < 0 ↔ mag x * mag y < mag n * one := by
    rw [s1, ← Nat.mul_lt_mul_right hP, w1, w2, Nat.mul_lt_mul_right hQ]
  have s2' : 0 < od (mpF x y n) ↔ mag n * one < mag x * mag y := by
    rw [s2, ← Nat.mul_lt_mul_right hP, w1, w2, Nat.mul_lt_mul_right hQ]
  have up1 : mag x * mag y < mag (n + 1) * one := by
    apply Nat.lt_of_not_le; intro h; have := ge (n + 1) (by omega) h; omega
  have dn1 : mag (n - 1) * one < mag x * mag y := by
    apply Nat.lt_of_not_le; intro h; have := le (n - 1) h; omega
  have main := dir_spec (miss := mpF x y n) (fun q => mag q * one) (by omega) hn2 up1 dn1 s1' s2'
  have o1 : ordB x = true := by unfold ordB; rw [rx, decide_eq_true (by omega)]
  have o2 : ordB y = true := by unfold ordB; rw [ry, decide_eq_true (by omega)]
  have e0 : ∀ up, word (prodF x y up) = dirF n (mpF x y n) up := by
    intro up; unfold prodF; rw [hmul]; simp only [Option.map_some, word, Option.getD_some]; rw [o1, o2, Bool.and_self, if_pos rfl]
  rw [e0, e0]; exact main
end Go.Proofs.Ytmjkihclaccidaa
