/- Sums and differences of normal numbers above 0, down and up. -/
import Derived.Test.YtmjkihclaccidaaURoot
namespace Go.Proofs.Ytmjkihclaccidaa
open Ieee

/-- The value of a word. -/
def vl (x : Nat) : Int := valI (sg x) (rg x)
theorem vl_rung {r : Nat} (h : r < 9223372036854775808) : vl r = mag r := by
  unfold vl; rw [sg_rung h, rg_rung h]; unfold valI; rw [if_neg (by decide)]
theorem vl_ng (x : Nat) : vl (ng x) = -vl x := by unfold vl; rw [sg_ng, rg_ng, val_neg]

theorem sub_add {x y : Nat} (hy : y < 18446744073709551616) : double.sub x y = double.add x (ng y) := by
  unfold Format.sub Format.add; rw [read_ng hy]

/-- A sum that the format has is exact; of every other the sign is right. -/
theorem add_exact {x y q : Nat} (hx : x < 18446744073709551616) (hy : y < 18446744073709551616) (fx : rg x < 9218868437227405312) (fy : rg y < 9218868437227405312)
    (hq : q < 9218868437227405312) (h : (vl x + vl y).natAbs = mag q) : ∃ r, double.add x y = some r ∧ rg r = q ∧ vl r = vl x + vl y ∧ r < 18446744073709551616 := by
  obtain ⟨T, base, s, h1, h2, h3, h4⟩ := add_fin hx hy fx fy
  have h3' : T * ((2 ^ (base + 1074).toNat : Nat) : Int) = vl x + vl y := h3
  have hP : (0 : Int) < ((2 ^ (base + 1074).toNat : Nat) : Int) := by have := Nat.two_pow_pos (base + 1074).toNat; omega
  have hm : T.natAbs * 2 ^ (base + 1074).toNat = mag q := by rw [← h, ← h3', Int.natAbs_mul, Int.natAbs_natCast]
  have hn : double.nearest false T.natAbs base = q := by
    refine near_exact (K := 1074) (by omega) (by omega) (by omega) ?_
    rw [show 1074 - 1074 = 0 from rfl, Nat.pow_zero, Nat.mul_one]; exact hm
  rw [hn] at h1
  refine ⟨_, h1, rg_fl (by omega), ?_, fl_lt (by omega)⟩
  unfold vl at h3' ⊢
  rw [sg_fl (by omega), rg_fl (by omega)]
  by_cases c : T = 0
  · subst c
    have : mag q = 0 := by rw [← hm]; simp
    have hq0 : q = 0 := mag_inj (by rw [this, mag_zero])
    subst hq0
    rw [← h3', Int.zero_mul]; unfold valI; rw [mag_zero]; cases s <;> simp
  · rw [h4 c, ← h3']
    unfold valI
    rw [← hm]
    by_cases d : T < 0
    · rw [decide_eq_true d, if_pos rfl, Int.natCast_mul, ← Int.neg_mul, show -((T.natAbs : Nat) : Int) = T from by omega]
    · rw [decide_eq_false d, if_neg (by decide), Int.natCast_mul, show ((T.natAbs : Nat) : Int) = T from by omega]
theorem add_sign {x y r : Nat} (hx : x < 18446744073709551616) (hy : y < 18446744073709551616) (fx : rg x < 9218868437227405312) (fy : rg y < 9218868437227405312) (h : double.add x y = some r) :
    (od r < 0 ↔ vl x + vl y < 0) ∧ (0 < od r ↔ 0 < vl x + vl y) := by
  obtain ⟨T, base, s, h1, h2, h3, h4⟩ := add_fin hx hy fx fy
  have h3' : T * ((2 ^ (base + 1074).toNat : Nat) : Int) = vl x + vl y := h3
  have hP : (0 : Int) < ((2 ^ (base + 1074).toNat : Nat) : Int) := by have := Nat.two_pow_pos (base + 1074).toNat; omega
  rw [h1] at h; cases h
  have hs := near_lt_S T.natAbs base
  have k1 : vl x + vl y < 0 ↔ T < 0 := by
    rw [← h3']; constructor
    · intro h; apply Int.lt_of_not_ge; intro hc; have := Int.mul_nonneg hc (Int.le_of_lt hP); omega
    · intro h; have := Int.mul_lt_mul_of_pos_right h hP; omega
  have k2 : 0 < vl x + vl y ↔ 0 < T := by
    rw [← h3']; constructor
    · intro h; apply Int.lt_of_not_ge; intro hc
      have := Int.mul_le_mul_of_nonneg_right hc (Int.le_of_lt hP); omega
    · intro h; exact Int.mul_pos h hP
  rw [k1, k2]
  unfold od; rw [sg_fl hs, rg_fl hs]
  by_cases c : T = 0
  · subst c
    rw [Int.natAbs_zero, nearest_zero]; unfold ordI; cases s <;> simp
  · have big : 1 ≤ double.nearest false T.natAbs base := by
      refine near_ge (K := 1074) (by omega) (by omega) (by omega) ?_
      rw [show mag 1 = 1 from by decide, show 1074 - 1074 = 0 from rfl, Nat.pow_zero, Nat.mul_one]
      exact Nat.mul_pos (by omega) (Nat.two_pow_pos _)
    rw [h4 c]
    generalize double.nearest false T.natAbs base = R at big
    unfold ordI
    by_cases d : T < 0
    · rw [decide_eq_true d]; simp only [if_true]; omega
    · rw [decide_eq_false d]; simp only [Bool.false_eq_true, if_false]; omega

/-- The sign of the miss, where the first difference is exact: P the greater one, y the other. -/
theorem miss_sign {P y n q : Nat} (hP : P < 9218868437227405312) (hy : y < 18446744073709551616) (fy : rg y < 9218868437227405312) (hn : n < 9218868437227405312)
    (hq : q < 9218868437227405312) (hd : ((mag n : Int) - mag P).natAbs = mag q) :
    ∃ m, (double.sub y ((double.sub n P).getD 0)).getD 0 = m ∧ (od m < 0 ↔ vl y + mag P < mag n) ∧ (0 < od m ↔ (mag n : Int) < vl y + mag P) := by
  have fP : rg P < 9218868437227405312 := by rw [rg_rung (by omega)]; exact hP
  have fn : rg n < 9218868437227405312 := by rw [rg_rung (by omega)]; exact hn
  have vP : vl P = mag P := vl_rung (by omega)
  have vn : vl n = mag n := vl_rung (by omega)
  obtain ⟨t, t1, t2, t3, t4⟩ := add_exact (x := n) (y := ng P) (q := q) (by omega) (ng_lt P) fn (by rw [rg_ng]; exact fP) hq (by rw [vl_ng, vn, vP]; exact hd)
  rw [← sub_add (by omega)] at t1
  rw [t1, Option.getD_some]
  have nt : nanB t = false := by unfold nanB; rw [t2, decide_eq_false (by omega)]
  have ny : nanB y = false := by unfold nanB; rw [decide_eq_false (by omega)]
  obtain ⟨m, m1⟩ := sub_some hy t4 ny nt (Or.inl fy)
  refine ⟨m, by rw [m1]; rfl, ?_⟩
  rw [sub_add t4] at m1
  obtain ⟨s1, s2⟩ := add_sign hy (ng_lt t) fy (by rw [rg_ng, t2]; exact hq) m1
  rw [vl_ng, t3, vl_ng, vn, vP] at s1 s2
  rw [s1, s2]; omega

/-- What the sum of two words with different places in size is made of. -/
theorem sum_near_of {x y : Nat} {v : Nat} (hx : x < 18446744073709551616) (hy : y < 18446744073709551616) (fx : rg x < 9218868437227405312) (fy : rg y < 9218868437227405312)
    (hv : vl x + vl y = (v : Int)) (hv0 : 0 < v) : ∃ n, double.add x y = some n ∧ (∀ q, q ≤ 9218868437227405312 → mag q ≤ v → q ≤ n) ∧ (∀ q, v ≤ mag q → n ≤ q) ∧ n < 9223372036854775808 := by
  obtain ⟨T, base, s, h1, h2, h3, h4⟩ := add_fin hx hy fx fy
  have h3' : T * ((2 ^ (base + 1074).toNat : Nat) : Int) = vl x + vl y := h3
  have hP : (0 : Int) < ((2 ^ (base + 1074).toNat : Nat) : Int) := by have := Nat.two_pow_pos (base + 1074).toNat; omega
  rw [hv] at h3'
  have hT : 0 < T := by
    apply Int.lt_of_not_ge; intro hc
    have := Int.mul_le_mul_of_nonneg_right hc (Int.le_of_lt hP); omega
  have hm : T.natAbs * 2 ^ (base + 1074).toNat = v := by
    have : ((T.natAbs * 2 ^ (base + 1074).toNat : Nat) : Int) = (v : Int) := by rw [Int.natCast_mul, ← h3', show ((T.natAbs : Nat) : Int) = T from by omega]
    exact Int.ofNat.inj this
  rw [h4 (by omega), decide_eq_false (by omega), fl_false] at h1
  refine ⟨_, h1, ?_, ?_, near_lt_S _ _⟩
  · intro q hq h
    refine near_ge (K := 1074) (by omega) (by omega) hq ?_
    rw [show 1074 - 1074 = 0 from rfl, Nat.pow_zero, Nat.mul_one]
    exact Nat.le_trans h (Nat.le_of_eq hm.symm)
  · intro q h
    refine near_le (K := 1074) (by omega) (by omega) ?_
    rw [show 1074 - 1074 = 0 from rfl, Nat.pow_zero, Nat.mul_one]
    exact Nat.le_trans (Nat.le_of_eq hm) h

theorem mag_dbl {P : Nat} (h : 4503599627370496 ≤ P) : mag (P + 4503599627370496) = 2 * mag P := by
  obtain ⟨L, k, e, k1, k2, m, _⟩ := norm_split h
  rw [show P + 4503599627370496 = (L + 1) * 4503599627370496 + k from by rw [e, Nat.succ_mul]; exact Nat.add_right_comm _ _ _, mag_mk (Or.inr k1) (by omega), m, Nat.pow_succ]
  generalize 2 ^ L = Q
  rw [Nat.mul_comm Q 2, ← Nat.mul_assoc, Nat.mul_comm k 2, Nat.mul_assoc]

/-- Two positive ones: the first difference is one that the format has. -/
theorem gap_sum {P n v : Nat} (hP : 4503599627370496 ≤ P) (hP2 : P + 4503599627370496 < 9218868437227405312) (h1 : mag P ≤ v) (h2 : v ≤ 2 * mag P)
    (ge : ∀ q, q ≤ 9218868437227405312 → mag q ≤ v → q ≤ n) (le : ∀ q, v ≤ mag q → n ≤ q) :
    P ≤ n ∧ n ≤ P + 4503599627370496 ∧ ∃ q, q < 9218868437227405312 ∧ ((mag n : Int) - mag P).natAbs = mag q := by
  have a1 : P ≤ n := ge P (by omega) h1
  have a2 : n ≤ P + 4503599627370496 := le _ (by rw [mag_dbl hP]; exact h2)
  refine ⟨a1, a2, ?_⟩
  obtain ⟨L, k, e, k1, k2, m, _⟩ := norm_split hP
  obtain ⟨j, hj⟩ := mult_of e k1 a1
  have b1 : mag P ≤ mag n := mag_le_iff.2 a1
  have b2 : mag n ≤ 2 * mag P := by rw [← mag_dbl hP]; exact mag_le_iff.2 a2
  have hQ := Nat.two_pow_pos L
  rw [m, hj] at b1 b2
  have c1 : k ≤ j := Nat.le_of_mul_le_mul_right b1 hQ
  have c2 : j ≤ 2 * k := Nat.le_of_mul_le_mul_right (by rw [Nat.mul_assoc]; exact b2) hQ
  obtain ⟨q, hq⟩ := repr_of L (j - k) (by omega)
  refine ⟨q, ?_, ?_⟩
  · have : mag q ≤ mag P := by rw [hq, m]; exact Nat.mul_le_mul_right _ (by omega)
    have := mag_le_iff.1 this; omega
  · rw [hq, m, hj, Nat.sub_mul]
    have : k * 2 ^ L ≤ j * 2 ^ L := Nat.mul_le_mul_right _ c1
    omega

/-- One taken from a greater one: the first difference is one that the format has. -/
theorem gap_diff {P Q n v : Nat} (hP : 9007199254740992 ≤ P) (hP2 : P < 9218868437227405312) (hQ1 : 4503599627370496 ≤ Q) (hQP : Q ≤ P) (hv : v + mag Q = mag P)
    (ge : ∀ q, q ≤ 9218868437227405312 → mag q ≤ v → q ≤ n) (le : ∀ q, v ≤ mag q → n ≤ q) :
    n ≤ P ∧ ∃ q, q < 9218868437227405312 ∧ ((mag n : Int) - mag P).natAbs = mag q := by
  have a2 : n ≤ P := le P (by omega)
  refine ⟨a2, ?_⟩
  obtain ⟨L, k, e, k1, k2, m, lP, _⟩ := norm_split (r := P) (by omega)
  obtain ⟨M, j, e', j1, j2, m', lQ, _⟩ := norm_split hQ1
  by_cases c : mag P ≤ 2 * mag Q
  · -- the difference itself is one that the format has
    obtain ⟨i, hi⟩ := mult_of e' j1 hQP
    have hB := Nat.two_pow_pos M
    have b1 : i * 2 ^ M ≤ 2 * j * 2 ^ M := by rw [← hi, Nat.mul_assoc, ← m']; exact c
    have b2 : i ≤ 2 * j := Nat.le_of_mul_le_mul_right b1 hB
    have b3 : j * 2 ^ M ≤ i * 2 ^ M := by rw [← hi, ← m']; omega
    have b4 : j ≤ i := Nat.le_of_mul_le_mul_right b3 hB
    obtain ⟨q, hq⟩ := repr_of M (i - j) (by omega)
    have hqv : mag q = v := by rw [hq, Nat.sub_mul, ← hi, ← m']; omega
    have hqP : q ≤ P := by
      have : mag q ≤ mag P := by omega
      exact mag_le_iff.1 this
    have hn : n = q := Nat.le_antisymm (le q (by omega)) (ge q (by omega) (by omega))
    refine ⟨Q, by omega, ?_⟩
    rw [hn, hqv]; omega
  · -- more than half is left
    have hd := mag_dbl (P := P - 4503599627370496) (by omega)
    rw [show P - 4503599627370496 + 4503599627370496 = P from by omega] at hd
    have a1 : P - 4503599627370496 ≤ n := ge _ (by omega) (by omega)
    obtain ⟨L1, hL1⟩ : ∃ L1, L = L1 + 1 := ⟨L - 1, by omega⟩
    have eP : P - 4503599627370496 = L1 * 4503599627370496 + k := by
      rw [e, hL1, Nat.succ_mul]
      generalize L1 * 4503599627370496 = Y
      omega
    obtain ⟨i, hi⟩ := mult_of eP k1 a1
    have mP : mag P = 2 * k * 2 ^ L1 := by
      rw [hd, eP, mag_mk (Or.inr k1) (by omega), Nat.mul_assoc]
    have hB := Nat.two_pow_pos L1
    have b1 : i * 2 ^ L1 ≤ 2 * k * 2 ^ L1 := by rw [← hi, ← mP]; exact mag_le_iff.2 a2
    have b2 : i ≤ 2 * k := Nat.le_of_mul_le_mul_right b1 hB
    have b3 : k * 2 ^ L1 ≤ i * 2 ^ L1 := by
      rw [← hi, ← mag_mk (L := L1) (k := k) (Or.inr k1) (by omega), ← eP]; exact mag_le_iff.2 a1
    have b4 : k ≤ i := Nat.le_of_mul_le_mul_right b3 hB
    obtain ⟨q, hq⟩ := repr_of L1 (2 * k - i) (by omega)
    have hqv : mag q + mag n = mag P := by
      rw [hq, hi, mP, ← Nat.add_mul, show 2 * k - i + i = 2 * k from by omega]
    have hqP : q ≤ P := by
      have : mag q ≤ mag P := by omega
      exact mag_le_iff.1 this
    exact ⟨q, by omega, by omega⟩

/-- THE SUM OF TWO, DOWN AND UP. -/
theorem add_spec {A B : Nat} (hA1 : 9007199254740992 ≤ A) (hA2 : A < 9214364837600034816) (hB1 : 9007199254740992 ≤ B) (hB2 : B < 9214364837600034816) :
    (∃ D, word (sumF A B false) = D ∧ mag D ≤ mag A + mag B ∧ mag A + mag B < mag (D + 1)) ∧
      ∃ U, word (sumF A B true) = U ∧ 1 ≤ U ∧ mag (U - 1) < mag A + mag B ∧ mag A + mag B ≤ mag U := by
  have rA : rg A = A := rg_rung (by omega)
  have rB : rg B = B := rg_rung (by omega)
  have vA : vl A = mag A := vl_rung (by omega)
  have vB : vl B = mag B := vl_rung (by omega)
  have pA : 0 < mag A := by have := @mag_lt_iff 0 A; rw [mag_zero] at this; omega
  have pB : 0 < mag B := by have := @mag_lt_iff 0 B; rw [mag_zero] at this; omega
  obtain ⟨n, hadd, ge, le, hnS⟩ := sum_near_of (x := A) (y := B) (v := mag A + mag B) (by omega) (by omega) (by omega) (by omega) (by rw [vA, vB]; omega) (by omega)
  have iA : infB A = false := by unfold infB; rw [rA, decide_eq_false (by omega)]
  have iB : infB B = false := by unfold infB; rw [rB, decide_eq_false (by omega)]
  -- the greater one
  have core : ∀ P y, P < 9214364837600034816 → 9007199254740992 ≤ P → y ≤ P → 9007199254740992 ≤ y → mag P + mag y = mag A + mag B → msF A B n = (double.sub y ((double.sub n P).getD 0)).getD 0 →
      1 ≤ n ∧ n < 9218868437227405312 ∧ (od (msF A B n) < 0 ↔ mag A + mag B < mag n) ∧ (0 < od (msF A B n) ↔ mag n < mag A + mag B) := by
    intro P y hP1 hP0 hyP hy0 hs hms
    have my : mag y ≤ mag P := mag_le_iff.2 hyP
    obtain ⟨a1, a2, q, hq1, hq2⟩ := gap_sum (P := P) (n := n) (v := mag A + mag B) (by omega) (by omega) (by omega) (by omega) ge le
    obtain ⟨m, m1, m2, m3⟩ := miss_sign (P := P) (y := y) (n := n) (q := q) (by omega) (by omega) (by rw [rg_rung (by omega)]; omega) (by omega) hq1 hq2
    rw [vl_rung (by omega)] at m2 m3
    rw [hms, m1]
    exact ⟨by omega, by omega, by omega, by omega⟩
  have both : 1 ≤ n ∧ n < 9218868437227405312 ∧ (od (msF A B n) < 0 ↔ mag A + mag B < mag n) ∧ (0 < od (msF A B n) ↔ mag n < mag A + mag B) := by
    by_cases c : A < B
    · exact core B A hB2 hB1 (by omega) hA1 (by omega) (by unfold msF; rw [rA, rB, if_pos c])
    · exact core A B hA2 hA1 (by omega) hB1 rfl (by unfold msF; rw [rA, rB, if_neg c])
  obtain ⟨hn1, hn2, s1, s2⟩ := both
  have up1 : mag A + mag B < mag (n + 1) := by
    apply Nat.lt_of_not_le; intro h; have := ge (n + 1) (by omega) h; omega
  have dn1 : mag (n - 1) < mag A + mag B := by
    apply Nat.lt_of_not_le; intro h; have := le (n - 1) h; omega
  have main := dir_spec (miss := msF A B n) mag hn1 hn2 up1 dn1 s1 s2
  have e0 : ∀ up, word (sumF A B up) = dirF n (msF A B n) up := by
    intro up; unfold sumF; rw [hadd]; simp only [Option.map_some, word, Option.getD_some]; rw [iA, iB, Bool.or_self, if_neg (by decide), rg_rung hnS, if_neg (by omega)]
  rw [e0, e0]; exact main

/-- ONE TAKEN FROM A GREATER ONE, DOWN AND UP. -/
theorem diff_spec {S B : Nat} (hS2 : S < 9218868437227405312) (hB1 : 9007199254740992 ≤ B) (hBS : B < S) :
    (∃ D, word (sumF S (ng B) false) = D ∧ mag D + mag B ≤ mag S ∧ mag S < mag (D + 1) + mag B) ∧
      ∃ U, word (sumF S (ng B) true) = U ∧ 1 ≤ U ∧ mag (U - 1) + mag B < mag S ∧ mag S ≤ mag U + mag B := by
  have rS : rg S = S := rg_rung (by omega)
  have rB : rg B = B := rg_rung (by omega)
  have vS : vl S = mag S := vl_rung (by omega)
  have vB : vl (ng B) = -(mag B : Int) := by rw [vl_ng, vl_rung (by omega)]
  have hlt : mag B < mag S := mag_lt hBS
  obtain ⟨n, hadd, ge, le, hnS⟩ := sum_near_of (x := S) (y := ng B) (v := mag S - mag B) (by omega) (ng_lt B) (by omega) (by rw [rg_ng]; omega) (by rw [vS, vB]; omega) (by omega)
  have iS : infB S = false := by unfold infB; rw [rS, decide_eq_false (by omega)]
  have iB : infB (ng B) = false := by rw [infB_ng]; unfold infB; rw [rB, decide_eq_false (by omega)]
  obtain ⟨a2, q, hq1, hq2⟩ := gap_diff (P := S) (Q := B) (n := n) (v := mag S - mag B) (by omega) hS2 (by omega) (by omega) (by omega) ge le
  have hn1 : 1 ≤ n := ge 1 (by omega) (by rw [show mag 1 = 1 from by decide]; omega)
  obtain ⟨m, m1, m2, m3⟩ := miss_sign (P := S) (y := ng B) (n := n) (q := q) (by omega) (ng_lt B) (by rw [rg_ng]; omega) (by omega) hq1 hq2
  rw [vB] at m2 m3
  have hms : msF S (ng B) n = m := by unfold msF; rw [rg_ng, rS, rB, if_neg (by omega)]; exact m1
  have up1 : mag S - mag B < mag (n + 1) := by
    apply Nat.lt_of_not_le; intro h; have := ge (n + 1) (by omega) h; omega
  have dn1 : mag (n - 1) < mag S - mag B := by
    apply Nat.lt_of_not_le; intro h; have := le (n - 1) h; omega
  have main := dir_spec (miss := msF S (ng B) n) (v := mag S - mag B) mag hn1 (by omega) up1 dn1 (by rw [hms]; omega) (by rw [hms]; omega)
  have e0 : ∀ up, word (sumF S (ng B) up) = dirF n (msF S (ng B) n) up := by
    intro up; unfold sumF; rw [hadd]; simp only [Option.map_some, word, Option.getD_some]; rw [iS, iB, Bool.or_self, if_neg (by decide), rg_rung hnS, if_neg (by omega)]
  rw [e0, e0]
  obtain ⟨⟨D, d1, d2, d3⟩, U, u1, u2, u3, u4⟩ := main
  exact ⟨⟨D, d1, by omega, by omega⟩, U, u1, u2, by omega, by omega⟩

/-- One taken from itself. -/
theorem diff_zero {B : Nat} (hB2 : B < 9218868437227405312) (up : Bool) : od (word (sumF B (ng B) up)) = 0 := by
  have rB : rg B = B := rg_rung (by omega)
  have vB : vl (ng B) = -(mag B : Int) := by rw [vl_ng, vl_rung (by omega)]
  have vB' : vl B = mag B := vl_rung (by omega)
  obtain ⟨n, hadd, hn, _⟩ := add_exact (x := B) (y := ng B) (q := 0) (by omega) (ng_lt B) (by omega) (by rw [rg_ng]; omega) (by omega) (by rw [vB, vB', mag_zero]; omega)
  have iB : infB B = false := by unfold infB; rw [rB, decide_eq_false (by omega)]
  unfold sumF; rw [hadd]; simp only [Option.map_some, word, Option.getD_some]
  rw [infB_ng, iB, Bool.or_self, if_neg (by decide), if_pos hn]
  unfold zsF; rw [sg_ng, sg_rung (by omega), if_neg (by decide)]
  cases up <;> decide
end Go.Proofs.Ytmjkihclaccidaa
