/- Rounding to nearest, over rungs: monotone, and exact at what the format has. -/
import Derived.Test.YtmjkihclaccidaaPure
namespace Go.Proofs.Ytmjkihclaccidaa
open Ieee

theorem log2_bounds {n : Nat} (h : n ≠ 0) : 2 ^ n.log2 ≤ n ∧ n < 2 ^ (n.log2 + 1) := by
  exact ⟨Nat.log2_self_le h, Nat.lt_log2_self⟩

/-- Half a unit at most is lost. -/
theorem cut_spec (s : Bool) (n d : Nat) : 2 * (Toward.even.cut s n d * 2 ^ d) ≤ 2 * n + 2 ^ d ∧ 2 * n ≤ 2 * (Toward.even.cut s n d * 2 ^ d) + 2 ^ d := by
  have core : ∀ g, g ≠ 0 → 2 * ((n / g + (decide (g < 2 * (n % g)) || (g == 2 * (n % g) && n / g % 2 == 1)).toNat) * g) ≤ 2 * n + g ∧ 2 * n ≤ 2 * ((n / g + (decide (g < 2 * (n % g)) || (g == 2 * (n % g) && n / g % 2 == 1)).toNat) * g) + g := by
    intro g hg
    have h := Nat.div_add_mod n g
    have hm := Nat.mod_lt n (Nat.pos_of_ne_zero hg)
    generalize n % g = r at h hm ⊢
    generalize n / g = q at h ⊢
    rw [Nat.mul_comm] at h
    rw [Nat.add_mul]
    generalize q * g = qg at h ⊢
    have hb1 : (decide (g < 2 * r) || (g == 2 * r && q % 2 == 1)) = true → g ≤ 2 * r := by
      intro h; simp at h; omega
    have hb2 : (decide (g < 2 * r) || (g == 2 * r && q % 2 == 1)) = false → 2 * r ≤ g := by
      intro h; simp at h; omega
    generalize (decide (g < 2 * r) || (g == 2 * r && q % 2 == 1)) = z at hb1 hb2 ⊢
    cases z
    · have := hb2 rfl; simp; omega
    · have := hb1 rfl; simp; omega
  unfold Toward.cut
  simp only [Nat.shiftLeft_eq, Nat.one_mul]
  by_cases c : d ≤ n.log2 + 2
  · rw [Nat.min_eq_left c]
    exact core (2 ^ d) (Nat.ne_of_gt (Nat.two_pow_pos d))
  · rw [Nat.min_eq_right (by omega)]
    have hn : n < 2 ^ (n.log2 + 1) := Nat.lt_log2_self
    have e1 : 2 ^ (n.log2 + 2) = 2 * 2 ^ (n.log2 + 1) := by rw [Nat.pow_succ, Nat.mul_comm]
    have e2 : 2 ^ (n.log2 + 2) ≤ 2 ^ d := Nat.pow_le_pow_right (by decide) (by omega)
    have hd : n / 2 ^ (n.log2 + 2) = 0 := Nat.div_eq_of_lt (by omega)
    have hr : n % 2 ^ (n.log2 + 2) = n := Nat.mod_eq_of_lt (by omega)
    rw [hd, hr]
    have f1 : ¬ 2 ^ (n.log2 + 2) < 2 * n := by omega
    have f2 : (2 ^ (n.log2 + 2) == 2 * n) = false := by rw [beq_eq_false_iff_ne]; omega
    rw [decide_eq_false f1, f2]; simp
    omega

/-- The magnitude of a rung that is laid by a place and a significand. -/
theorem mag_mk {L k : Nat} (h1 : L = 0 ∨ 4503599627370496 ≤ k) (h2 : k ≤ 9007199254740992) : mag (L * 4503599627370496 + k) = k * 2 ^ L := by
  unfold mag
  by_cases c : L * 4503599627370496 + k < 4503599627370496
  · rw [if_pos c]
    have : L = 0 := by omega
    subst this; simp
  · rw [if_neg c]
    by_cases c2 : k = 9007199254740992
    · subst c2
      have e1 : (L * 4503599627370496 + 9007199254740992) % 4503599627370496 = 0 := by omega
      have e2 : (L * 4503599627370496 + 9007199254740992) / 4503599627370496 - 1 = L + 1 := by omega
      rw [e1, e2, Nat.pow_succ]; omega
    · have e1 : (L * 4503599627370496 + k) % 4503599627370496 = k - 4503599627370496 := by omega
      have e2 : (L * 4503599627370496 + k) / 4503599627370496 - 1 = L := by omega
      rw [e1, e2, show 4503599627370496 + (k - 4503599627370496) = k from by omega]

/-- What nearest does, in whole numbers: 'K' is a scale on which the number is whole. -/
theorem nearest_spec (m : Nat) (p : Int) (K : Nat) (hm : m ≠ 0) (hK : 1074 ≤ K) (hp : 0 ≤ p + K) :
    ∃ L k : Nat, (L = 0 ∨ 4503599627370496 ≤ k) ∧ k ≤ 9007199254740992 ∧ double.nearest false m p = min (L * 4503599627370496 + k) 9218868437227405312 ∧
      2 * (k * 2 ^ (L + K - 1074)) ≤ 2 * (m * 2 ^ (p + K).toNat) + 2 ^ (L + K - 1074) ∧
      2 * (m * 2 ^ (p + K).toNat) ≤ 2 * (k * 2 ^ (L + K - 1074)) + 2 ^ (L + K - 1074) ∧
      m * 2 ^ (p + K).toNat < 9007199254740992 * 2 ^ (L + K - 1074) ∧
      (L = 0 ∨ 4503599627370496 * 2 ^ (L + K - 1074) ≤ m * 2 ^ (p + K).toNat) := by
  have h2 : double.binade = 4503599627370496 := by decide
  have h3 : double.infRung = 9218868437227405312 := by decide
  have h4 : double.leastPlace = -1074 := by decide
  have h5 : (double.fractionBits : Int) = 52 := by decide
  have hw : ∀ r, double.word false r = r := by intro r; unfold Format.word; simp
  obtain ⟨g1, g2⟩ := log2_bounds hm
  have hl : ∃ last : Int, last = max (p + m.log2 - 52) (-1074) := ⟨_, rfl⟩
  obtain ⟨last, hlast⟩ := hl
  have hL0 : -1074 ≤ last := by omega
  have hL1 : p + m.log2 - 52 ≤ last := by omega
  have hL2 : last = -1074 ∨ last = p + m.log2 - 52 := by omega
  obtain ⟨L, hL⟩ : ∃ L : Nat, last = (L : Int) - 1074 := ⟨(last + 1074).toNat, by omega⟩
  have hu : L + K - 1074 = (last + K).toNat := by omega
  -- the bounds on the whole number
  have top : m * 2 ^ (p + K).toNat < 9007199254740992 * 2 ^ (L + K - 1074) := by
    have a1 : m * 2 ^ (p + K).toNat < 2 ^ (m.log2 + 1) * 2 ^ (p + K).toNat := Nat.mul_lt_mul_of_pos_right g2 (Nat.two_pow_pos _)
    have a2 : 2 ^ (m.log2 + 1) * 2 ^ (p + K).toNat ≤ 9007199254740992 * 2 ^ (L + K - 1074) := by
      rw [show (9007199254740992 : Nat) = 2 ^ 53 from rfl, ← Nat.pow_add, ← Nat.pow_add]
      exact Nat.pow_le_pow_right (by decide) (by omega)
    omega
  have bot : L = 0 ∨ 4503599627370496 * 2 ^ (L + K - 1074) ≤ m * 2 ^ (p + K).toNat := by
    rcases hL2 with h | h
    · left; omega
    · right
      have a1 : 2 ^ m.log2 * 2 ^ (p + K).toNat ≤ m * 2 ^ (p + K).toNat := Nat.mul_le_mul_right _ g1
      have a2 : 4503599627370496 * 2 ^ (L + K - 1074) ≤ 2 ^ m.log2 * 2 ^ (p + K).toNat := by
        rw [show (4503599627370496 : Nat) = 2 ^ 52 from rfl, ← Nat.pow_add, ← Nat.pow_add]
        exact Nat.pow_le_pow_right (by decide) (by omega)
      omega
  have hk : ∃ k, k = Toward.even.cut false (m <<< (p - last).toNat) (last - p).toNat := ⟨_, rfl⟩
  obtain ⟨k, hk⟩ := hk
  have hval : double.nearest false m p = min (L * 4503599627370496 + k) 9218868437227405312 := by
    unfold Format.nearest
    simp only [hm, if_false, hw, h2, h3, h4, h5]
    rw [← hlast, ← hk, hL, show ((L : Int) - 1074 - -1074).toNat = L from by omega]
  have spec : 2 * (k * 2 ^ (L + K - 1074)) ≤ 2 * (m * 2 ^ (p + K).toNat) + 2 ^ (L + K - 1074) ∧ 2 * (m * 2 ^ (p + K).toNat) ≤ 2 * (k * 2 ^ (L + K - 1074)) + 2 ^ (L + K - 1074) := by
    by_cases c : last ≤ p
    · have e1 : (last - p).toNat = 0 := by omega
      have := cut_spec false (m <<< (p - last).toNat) 0
      rw [e1] at hk
      rw [← hk, Nat.shiftLeft_eq] at this
      have e2 : k = m * 2 ^ (p - last).toNat := by simp at this; omega
      have e3 : k * 2 ^ (L + K - 1074) = m * 2 ^ (p + K).toNat := by
        rw [e2, Nat.mul_assoc, ← Nat.pow_add, show (p - last).toNat + (L + K - 1074) = (p + K).toNat from by omega]
      rw [e3]; omega
    · have e1 : (p - last).toNat = 0 := by omega
      have := cut_spec false (m <<< (p - last).toNat) (last - p).toNat
      rw [← hk, e1] at this
      simp only [Nat.shiftLeft_eq, Nat.pow_zero, Nat.mul_one] at this
      have e3 : 2 ^ (L + K - 1074) = 2 ^ (last - p).toNat * 2 ^ (p + K).toNat := by
        rw [← Nat.pow_add, show (last - p).toNat + (p + K).toNat = L + K - 1074 from by omega]
      rw [e3, ← Nat.mul_assoc]
      obtain ⟨t1, t2⟩ := this
      have u1 := Nat.mul_le_mul_right (2 ^ (p + K).toNat) t1
      have u2 := Nat.mul_le_mul_right (2 ^ (p + K).toNat) t2
      simp only [Nat.add_mul, Nat.mul_assoc] at u1 u2 ⊢
      exact ⟨u1, u2⟩
  obtain ⟨s1, s2⟩ := spec
  have hP := Nat.two_pow_pos (L + K - 1074)
  have hk2 : k ≤ 9007199254740992 := by
    apply Nat.le_of_not_lt; intro hc
    have : 9007199254740993 * 2 ^ (L + K - 1074) ≤ k * 2 ^ (L + K - 1074) := Nat.mul_le_mul_right _ hc
    omega
  have hk1 : L = 0 ∨ 4503599627370496 ≤ k := by
    rcases bot with h | h
    · exact Or.inl h
    · right
      apply Nat.le_of_not_lt; intro hc
      have : k * 2 ^ (L + K - 1074) ≤ 4503599627370495 * 2 ^ (L + K - 1074) := Nat.mul_le_mul_right _ (by omega)
      omega
  exact ⟨L, k, hk1, hk2, hval, s1, s2, top, bot⟩

theorem scale_split (L K : Nat) (hK : 1074 ≤ K) : 2 ^ (L + K - 1074) = 2 ^ L * 2 ^ (K - 1074) := by
  rw [← Nat.pow_add, show L + (K - 1074) = L + K - 1074 from by omega]

/-- MONOTONE FROM BELOW: a rung that is not above the number is not above what it is rounded to. -/
theorem near_ge {m : Nat} {p : Int} {K q : Nat} (hK : 1074 ≤ K) (hp : 0 ≤ p + K) (hq : q ≤ 9218868437227405312)
    (h : mag q * 2 ^ (K - 1074) ≤ m * 2 ^ (p + K).toNat) : q ≤ double.nearest false m p := by
  by_cases hm : m = 0
  · subst hm
    have hP := Nat.two_pow_pos (K - 1074)
    have : mag q = 0 := by
      apply Nat.eq_zero_of_not_pos; intro c
      have : 1 * 2 ^ (K - 1074) ≤ mag q * 2 ^ (K - 1074) := Nat.mul_le_mul_right _ c
      omega
    have := mag_inj (a := q) (b := 0) (by rw [this, mag_zero]); omega
  obtain ⟨L, k, h1, h2, h3, s1, s2, top, bot⟩ := nearest_spec m p K hm hK hp
  rw [h3]
  apply Nat.le_of_not_lt; intro hc
  have hlt : L * 4503599627370496 + k < q := by omega
  rw [scale_split L K hK] at s1 s2 top bot
  have hP := Nat.two_pow_pos (K - 1074)
  have hPL := Nat.two_pow_pos L
  by_cases c : k = 9007199254740992
  · have := mag_lt hlt
    rw [mag_mk h1 h2, c] at this
    have := Nat.mul_lt_mul_of_pos_right this hP
    rw [Nat.mul_assoc] at this; omega
  · have : mag (L * 4503599627370496 + (k + 1)) ≤ mag q := mag_le_iff.2 (by omega)
    rw [mag_mk (by omega) (by omega)] at this
    have := Nat.mul_le_mul_right (2 ^ (K - 1074)) this
    rw [Nat.mul_assoc, Nat.add_mul] at this
    generalize 2 ^ L * 2 ^ (K - 1074) = U at *
    have : 0 < U := by
      apply Nat.pos_of_ne_zero; intro c0; subst c0; omega
    omega

/-- MONOTONE FROM ABOVE. -/
theorem near_le {m : Nat} {p : Int} {K q : Nat} (hK : 1074 ≤ K) (hp : 0 ≤ p + K)
    (h : m * 2 ^ (p + K).toNat ≤ mag q * 2 ^ (K - 1074)) : double.nearest false m p ≤ q := by
  by_cases hm : m = 0
  · subst hm; rw [nearest_zero]; omega
  obtain ⟨L, k, h1, h2, h3, s1, s2, top, bot⟩ := nearest_spec m p K hm hK hp
  rw [h3]
  apply Nat.le_of_not_lt; intro hc
  have hlt : q < L * 4503599627370496 + k := by omega
  rw [scale_split L K hK] at s1 s2 top bot
  have hP := Nat.two_pow_pos (K - 1074)
  have hU : 0 < 2 ^ L * 2 ^ (K - 1074) := Nat.mul_pos (Nat.two_pow_pos L) hP
  by_cases c : L = 0 ∨ 4503599627370496 < k
  · by_cases c0 : k = 0
    · omega
    · have : mag q ≤ mag (L * 4503599627370496 + (k - 1)) := mag_le_iff.2 (by omega)
      rw [mag_mk (by omega) (by omega)] at this
      have := Nat.mul_le_mul_right (2 ^ (K - 1074)) this
      rw [Nat.mul_assoc, Nat.sub_mul] at this
      generalize 2 ^ L * 2 ^ (K - 1074) = U at *
      have : U ≤ k * U := Nat.le_mul_of_pos_left U (by omega)
      omega
  · have hk : k = 4503599627370496 := by omega
    have := mag_lt hlt
    rw [mag_mk h1 h2, hk] at this
    have := Nat.mul_lt_mul_of_pos_right this hP
    rw [Nat.mul_assoc] at this; omega

/-- EXACT at what the format has. -/
theorem near_exact {m : Nat} {p : Int} {K q : Nat} (hK : 1074 ≤ K) (hp : 0 ≤ p + K) (hq : q ≤ 9218868437227405312)
    (h : m * 2 ^ (p + K).toNat = mag q * 2 ^ (K - 1074)) : double.nearest false m p = q :=
  Nat.le_antisymm (near_le hK hp (Nat.le_of_eq h)) (near_ge hK hp hq (Nat.le_of_eq h.symm))
end Go.Proofs.Ytmjkihclaccidaa
