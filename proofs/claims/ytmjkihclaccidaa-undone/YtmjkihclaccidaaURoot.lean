/- Roots of normal numbers above 0, down and up. -/
import Derived.Test.YtmjkihclaccidaaUQuo
namespace Go.Proofs.Ytmjkihclaccidaa
open Ieee

/-- The root of a normal number above 0, as it is written: one of two scales. -/
theorem sqrt_norm {x L k : Nat} (hx : x < 9218868437227405312) (ex : x = L * 4503599627370496 + k) (k1 : 4503599627370496 ≤ k) (k2 : k < 9007199254740992) (mmx : mm x = k) (ppx : pp x = (L : Int) - 1074) :
    ∃ more r : Nat, double.sqrt x = some (double.nearest false (2 * r + (r * r != k * 2 ^ more).toNat) (((L : Int) - 1074 - more) / 2 - 1)) ∧
      r * r ≤ k * 2 ^ more ∧ k * 2 ^ more < (r + 1) * (r + 1) ∧ ((L : Int) - 1074 - more) % 2 = 0 ∧ (more = 56 ∨ more = 57) := by
  have rx : rg x = x := rg_rung (by omega)
  have sx : sg x = false := sg_rung (by omega)
  have hl := log2_52 k1 k2
  obtain ⟨more, hmore⟩ : ∃ q : Nat, q = 2 * 54 - 52 + (((L : Int) - 1074 - ((2 * 54 - 52 : Nat) : Int)) % 2).toNat := ⟨_, rfl⟩
  obtain ⟨r, hr, h1, h2⟩ := whole_spec (k * 2 ^ more)
  refine ⟨more, r, ?_, h1, h2, by omega, by omega⟩
  unfold Format.sqrt
  rw [read_eq (by omega), rd_mp (by omega), sx, rx, mmx, ppx]
  simp only [Datum.root, if_neg (show ¬ k = 0 by omega), Bool.false_eq_true, if_false]
  rw [show (double.fractionBits + 2) = 54 from rfl, hl, ← hmore, Nat.shiftLeft_eq, hr]
  simp only [Option.map_some, write_fl, fl_false]

theorem sq_le {a b : Nat} (h : a * a ≤ b * b) : a ≤ b := by
  apply Nat.le_of_not_lt; intro hc
  have : b * b < a * a := Nat.mul_lt_mul_of_lt_of_lt hc hc
  omega
theorem sq_lt {a b : Nat} (h : a * a < b * b) : a < b := by
  apply Nat.lt_of_not_le; intro hc
  have : b * b ≤ a * a := Nat.mul_le_mul hc hc
  omega

theorem tmod2 {a : Int} : a.tmod 2 = 0 ↔ a % 2 = 0 := by
  constructor
  · intro h; exact Int.emod_eq_zero_of_dvd (Int.dvd_of_tmod_eq_zero h)
  · intro h; exact Int.tmod_eq_zero_of_dvd (Int.dvd_of_emod_eq_zero h)

/-- The exponent made even. -/
theorem rt_norm {x L k : Nat} (hx : x < 9218868437227405312) (ex : x = L * 4503599627370496 + k) (k1 : 4503599627370496 ≤ k) (k2 : k < 9007199254740992) :
    ∃ (wd : Int) (g : Int), (L : Int) - 1074 - 2 * g = wd ∧ rtE x = 2 * g ∧ double.read (rtX x) = .number false k wd ∧ (-53 ≤ wd ∧ wd ≤ -52) := by
  have sx : sg x = false := sg_rung (by omega)
  obtain ⟨fx1, fx2, nx1, _, _, fx6⟩ := fr_norm hx ex k1 k2
  by_cases cp : (frE x).tmod 2 = 0
  · have cq : ((L : Int) - 1021) % 2 = 0 := by rw [← tmod2, ← fx2]; exact cp
    refine ⟨-53, ((L : Int) - 1021) / 2, by omega, ?_, ?_, by omega⟩
    · unfold rtE; rw [if_pos cp, fx2]; omega
    · unfold rtX; rw [if_pos cp]; exact fx1
  · have cq : ¬ ((L : Int) - 1021) % 2 = 0 := by rw [← tmod2, ← fx2]; exact cp
    refine ⟨-52, ((L : Int) - 1022) / 2, by omega, ?_, ?_, by omega⟩
    · unfold rtE; rw [if_neg cp, fx2]; omega
    · rw [rtX_eq, if_neg cp, nx1, sx, fx6]
      unfold mk; rw [fl_false, read_eq (by omega), sg_rung (by omega), rg_rung (by omega), rd_mp (by omega)]
      have e1 : mm (1023 * 4503599627370496 + (k - 4503599627370496)) = k := by unfold mm; rw [if_neg (by omega)]; omega
      have e2 : pp (1023 * 4503599627370496 + (k - 4503599627370496)) = -52 := by unfold pp; rw [if_neg (by omega)]; omega
      rw [e1, e2]

set_option maxHeartbeats 1000000 in
/-- THE ROOT, DOWN AND UP. -/
theorem root_spec {x : Nat} (hx1 : 2251799813685248000 ≤ x) (hx2 : x < 6755399441055744000) :
    (∃ D, word (rootF x false) = D ∧ mag D * mag D ≤ mag x * one ∧ mag x * one < mag (D + 1) * mag (D + 1)) ∧
      ∃ U, word (rootF x true) = U ∧ 1 ≤ U ∧ mag (U - 1) * mag (U - 1) < mag x * one ∧ mag x * one ≤ mag U * mag U := by
  obtain ⟨c, hc, hone⟩ := one_eq
  obtain ⟨K, hK⟩ : ∃ K : Nat, K = 5000 := ⟨_, rfl⟩
  obtain ⟨L, k, ex, k1, k2, mx, lx, mmx, ppx, _, _⟩ := norm_split (r := x) (by omega)
  have rx : rg x = x := rg_rung (by omega)
  have sx : sg x = false := sg_rung (by omega)
  have hL1 : 499 ≤ L := by omega
  have hL2 : L ≤ 1500 := by omega
  obtain ⟨more, r, hsq, r1, r2, hpar, hm⟩ := sqrt_norm (by omega) ex k1 k2 mmx ppx
  obtain ⟨st, hst⟩ : ∃ st, st = (r * r != k * 2 ^ more).toNat := ⟨_, rfl⟩
  rw [← hst] at hsq
  have hst1 : st ≤ 1 := by rw [hst]; cases (r * r != k * 2 ^ more) <;> decide
  have hst0 : r * r = k * 2 ^ more → st = 0 := by intro h; rw [hst, h]; simp
  have hW1 : 18014398509481984 * 18014398509481984 ≤ k * 2 ^ more := by
    have a1 : 4503599627370496 * 2 ^ 56 ≤ k * 2 ^ more := Nat.mul_le_mul k1 (Nat.pow_le_pow_right (by decide) (by omega))
    omega
  have hW2 : k * 2 ^ more < 36028797018963968 * 36028797018963968 := by
    have a1 : k * 2 ^ more ≤ 9007199254740991 * 2 ^ 57 := Nat.mul_le_mul (by omega) (Nat.pow_le_pow_right (by decide) (by omega))
    omega
  obtain ⟨h, hh⟩ : ∃ h : Int, (L : Int) - 1074 - more = 2 * h := ⟨((L : Int) - 1074 - more) / 2, by omega⟩
  obtain ⟨p', hp'⟩ : ∃ p' : Int, p' = ((L : Int) - 1074 - more) / 2 - 1 := ⟨_, rfl⟩
  rw [← hp'] at hsq
  obtain ⟨e, he⟩ : ∃ e : Nat, (e : Int) = p' + 1 + 1074 := ⟨(p' + 1 + 1074).toNat, by omega⟩
  have hkey : mag x * one = k * 2 ^ more * (2 ^ e * 2 ^ e) := by
    rw [mx, hone, Nat.mul_assoc, ← Nat.pow_add, Nat.mul_assoc, ← Nat.pow_add, ← Nat.pow_add, show L + c = more + (e + e) from by omega]
  generalize k * 2 ^ more = W at *
  have cmp1 : ∀ t, t * t ≤ W → t ≤ r := by
    intro t ht
    have : t < r + 1 := sq_lt (Nat.lt_of_le_of_lt ht r2)
    omega
  have cmp2 : ∀ t, W ≤ t * t → r < t ∨ (r = t ∧ st = 0) := by
    intro t ht
    have h1 : r ≤ t := sq_le (Nat.le_trans r1 ht)
    by_cases c1 : r < t
    · exact Or.inl c1
    · have h2 : r = t := by omega
      subst h2
      exact Or.inr ⟨rfl, hst0 (Nat.le_antisymm r1 ht)⟩
  have hr1 : 18014398509481984 ≤ r := cmp1 _ hW1
  have hr2 : r < 36028797018963968 := sq_lt (Nat.lt_of_le_of_lt r1 hW2)
  have near : ∀ t q, mag q = t * 2 ^ e → (t ≤ r → q ≤ 9218868437227405312 → q ≤ double.nearest false (2 * r + st) p') ∧ ((r < t ∨ (r = t ∧ st = 0)) → double.nearest false (2 * r + st) p' ≤ q) := by
    intro t q ht
    exact sticky_near (K := K) hst1 (by omega) (by omega) he t q ht
  generalize double.nearest false (2 * r + st) p' = n at hsq near
  have n1 : (e + 2) * 4503599627370496 + 4503599627370496 ≤ n := by
    refine (near 18014398509481984 _ ?_).1 hr1 (by omega)
    rw [mag_mk (Or.inr (by omega)) (by omega), Nat.pow_succ, Nat.pow_succ]
    generalize 2 ^ e = Q; omega
  have n2 : n ≤ (e + 3) * 4503599627370496 + 4503599627370496 := by
    refine (near 36028797018963968 _ ?_).2 (Or.inl hr2)
    rw [mag_mk (Or.inr (by omega)) (by omega), Nat.pow_succ, Nat.pow_succ, Nat.pow_succ]
    generalize 2 ^ e = Q; omega
  have n1' : (e + 1) * 4503599627370496 + 4503599627370496 ≤ n := Nat.le_trans (Nat.add_le_add_right (Nat.mul_le_mul_right _ (by omega)) _) n1
  have hn1 : 4503599627370496 ≤ n := by omega
  have hn2 : n < 9218868437227405312 := by omega
  obtain ⟨N, i, en, i1, i2, mn, ln, _, _, dn, _⟩ := norm_split hn1
  have hN1 : e + 2 ≤ N := by omega
  have hN2 : N ≤ e + 4 := by omega
  have nn : nanB n = false := by rw [nanB_rung (by omega), decide_eq_false (by omega)]
  have hQ : 0 < 2 ^ e * 2 ^ e := Nat.mul_pos (Nat.two_pow_pos e) (Nat.two_pow_pos e)
  have scale : ∀ t, t * 2 ^ e * (t * 2 ^ e) = t * t * (2 ^ e * 2 ^ e) := fun t => Nat.mul_mul_mul_comm _ _ _ _
  have up1 : mag x * one < mag (n + 1) * mag (n + 1) := by
    apply Nat.lt_of_not_le; intro hq
    obtain ⟨t, ht⟩ := mult_of (r := e * 4503599627370496 + 4503599627370496) (L := e) (k := 4503599627370496) (q := n + 1) rfl (Nat.le_refl _) (Nat.le_trans (room n1') (Nat.le_trans (Nat.sub_le n 1) (Nat.le_succ n)))
    rw [ht, scale, hkey] at hq
    have := (near t (n + 1) ht).1 (cmp1 t (Nat.le_of_mul_le_mul_right hq hQ)) (by omega)
    omega
  have dn1 : mag (n - 1) * mag (n - 1) < mag x * one := by
    apply Nat.lt_of_not_le; intro hq
    obtain ⟨t, ht⟩ := mult_of (r := e * 4503599627370496 + 4503599627370496) (L := e) (k := 4503599627370496) (q := n - 1) rfl (Nat.le_refl _) (room n1')
    rw [ht, scale, hkey] at hq
    have := (near t (n - 1) ht).2 (cmp2 t (Nat.le_of_mul_le_mul_right hq hQ))
    omega
  -- the sign of the miss
  obtain ⟨wd, g, hwg, hrt, hrx, hwd⟩ := rt_norm (by omega) ex k1 k2
  have hg : (rtE x).tdiv 2 = g := by rw [hrt, Int.mul_tdiv_cancel_left g (by decide)]
  obtain ⟨z, hz⟩ : ∃ z : Nat, (z : Int) = (N : Int) + 1 + -g := ⟨((N : Int) + 1 + -g).toNat, by omega⟩
  obtain ⟨_, ld2, ld3, _⟩ := ld_norm hn2 en i1 i2 hz.symm (by omega) (by omega)
  have hY : rtY x n = ldF n (-g) := by unfold rtY; rw [hg]
  obtain ⟨rr, q1, q2, q3, q4⟩ := mr_some x (n := n) (by omega) nn
  have hsum : ∃ d, Datum.sum (.number false k wd) (.number true (i * i) ((z : Int) - 1075 + ((z : Int) - 1075))) = some d ∧ double.write d = rr := by
    unfold Format.fma at q1
    obtain ⟨d, g1, g2⟩ := map_write q1
    refine ⟨d, ?_, g2⟩
    rw [hY, hrx, ld2, ld3] at g1
    rw [sum_comm]
    simpa only [Datum.product, Option.bind_some, Bool.true_xor, Bool.not_false] using g1
  obtain ⟨d, g1, g2⟩ := hsum
  obtain ⟨a, ha⟩ : ∃ a : Nat, (a : Int) = wd + 1074 := ⟨(wd + 1074).toNat, by omega⟩
  obtain ⟨s1, s2⟩ := diff_sign (a := a) (b := 2 * z - 1076) ha (by omega) g1
  rw [g2, ← q2] at s1 s2
  obtain ⟨gg, hgg⟩ : ∃ gg : Nat, (gg : Int) = 2 * g + 1074 := ⟨(2 * g + 1074).toNat, by omega⟩
  have hB := Nat.two_pow_pos gg
  have w1 : k * 2 ^ a * 2 ^ gg = mag x * one := by
    rw [mx, hone, Nat.mul_assoc, ← Nat.pow_add, Nat.mul_assoc, ← Nat.pow_add, show a + gg = L + c from by omega]
  have w2 : i * i * 2 ^ (2 * z - 1076) * 2 ^ gg = mag n * mag n := by
    rw [mn, Nat.mul_assoc (i * i), ← Nat.pow_add, Nat.mul_mul_mul_comm, ← Nat.pow_add, show 2 * z - 1076 + gg = N + N from by omega]
  have s1' : od (mrF x n) < 0 ↔ mag x * one < mag n * mag n := by
    rw [s1, ← Nat.mul_lt_mul_right hB, w1, w2]
  have s2' : 0 < od (mrF x n) ↔ mag n * mag n < mag x * one := by
    rw [s2, ← Nat.mul_lt_mul_right hB, w1, w2]
  have main := dir_spec (miss := mrF x n) (fun q => mag q * mag q) (by omega) hn2 up1 dn1 s1' s2'
  have o1 : ordB x = true := by unfold ordB; rw [rx, decide_eq_true (by omega)]
  have e0 : ∀ up, word (rootF x up) = dirF n (mrF x n) up := by
    intro up; unfold rootF; rw [hsq]; simp only [Option.map_some, word, Option.getD_some]; rw [o1, sx, Bool.not_false, Bool.and_self, if_pos rfl]
  rw [e0, e0]; exact main
end Go.Proofs.Ytmjkihclaccidaa
