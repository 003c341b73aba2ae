/- Plain facts on binary64 words: sign and rung, reading, order, nearest. Nothing of the dump is named here. -/
import Derived.Laws.FloatBits
namespace Go.Proofs.Ytmjkihclaccidaa
open Ieee

/-- The sign of a word. -/
def sg (x : Nat) : Bool := decide (9223372036854775808 ≤ x)
/-- The rung of a word. -/
def rg (x : Nat) : Nat := x % 9223372036854775808
/-- The word of a sign and a rung. -/
def fl (s : Bool) (r : Nat) : Nat := if s then 9223372036854775808 + r else r
/-- What a sign and a rung stand for. -/
def rd (s : Bool) (r : Nat) : Datum :=
  if r < 4503599627370496 then .number s r (-1074)
  else if r < 9218868437227405312 then .number s (4503599627370496 + r % 4503599627370496) (-1074 + ((r / 4503599627370496 - 1 : Nat) : Int))
  else if r = 9218868437227405312 then .infinity s
  else .nan s (r - 9218868437227405312)

theorem fl_lt {s : Bool} {r : Nat} (h : r < 9223372036854775808) : fl s r < 18446744073709551616 := by
  unfold fl; split <;> omega
theorem sg_fl {s : Bool} {r : Nat} (h : r < 9223372036854775808) : sg (fl s r) = s := by
  unfold fl sg; cases s <;> simp <;> omega
theorem rg_fl {s : Bool} {r : Nat} (h : r < 9223372036854775808) : rg (fl s r) = r := by
  unfold fl rg; cases s <;> simp <;> omega
theorem rg_lt (x : Nat) : rg x < 9223372036854775808 := by unfold rg; omega
theorem fl_eq {x : Nat} (h : x < 18446744073709551616) : fl (sg x) (rg x) = x := by
  unfold fl sg rg; by_cases c : 9223372036854775808 ≤ x <;> simp [c] <;> omega

theorem read_fl (s : Bool) (r : Nat) (h : r < 9223372036854775808) : double.read (fl s r) = rd s r := by
  have h1 : double.signWeight = 9223372036854775808 := by decide
  have h2 : double.binade = 4503599627370496 := by decide
  have h3 : double.infRung = 9218868437227405312 := by decide
  have h4 : double.leastPlace = -1074 := by decide
  have h5 : fl s r % 9223372036854775808 = r := rg_fl h
  have h6 : (fl s r / 9223372036854775808 % 2 == 1) = s := by
    unfold fl; cases s <;> simp <;> omega
  unfold Format.read rd
  simp only [h1, h2, h3, h4, h5, h6]

theorem read_eq {x : Nat} (h : x < 18446744073709551616) : double.read x = rd (sg x) (rg x) := by
  have := read_fl (sg x) (rg x) (rg_lt x)
  rwa [fl_eq h] at this

theorem rd_not (s : Bool) (r : Nat) : rd (!s) r = (rd s r).opposite := by
  unfold rd Datum.opposite; split
  · rfl
  · split
    · rfl
    · split <;> rfl

/-- The magnitude of a finite rung, in units of the least number. -/
def mag (r : Nat) : Nat := if r < 4503599627370496 then r else (4503599627370496 + r % 4503599627370496) * 2 ^ (r / 4503599627370496 - 1)

theorem mag_succ_lt (r : Nat) : mag r < mag (r + 1) := by
  unfold mag
  by_cases h : r + 1 < 4503599627370496
  · rw [if_pos (by omega), if_pos h]; omega
  · by_cases h' : r < 4503599627370496
    · have : r = 4503599627370495 := by omega
      subst this; decide
    · rw [if_neg h', if_neg h]
      by_cases hm : r % 4503599627370496 + 1 < 4503599627370496
      · have e1 : (r + 1) % 4503599627370496 = r % 4503599627370496 + 1 := by omega
        have e2 : (r + 1) / 4503599627370496 = r / 4503599627370496 := by omega
        rw [e1, e2]
        exact Nat.mul_lt_mul_of_pos_right (by omega) (Nat.two_pow_pos _)
      · have e1 : (r + 1) % 4503599627370496 = 0 := by omega
        have e2 : (r + 1) / 4503599627370496 = r / 4503599627370496 + 1 := by omega
        rw [e1, e2]
        have e3 : r / 4503599627370496 + 1 - 1 = (r / 4503599627370496 - 1) + 1 := by omega
        rw [e3, Nat.pow_succ]
        have hp := Nat.two_pow_pos (r / 4503599627370496 - 1)
        generalize 2 ^ (r / 4503599627370496 - 1) = P at hp ⊢
        have : (4503599627370496 + r % 4503599627370496) * P < 9007199254740992 * P := Nat.mul_lt_mul_of_pos_right (by omega) hp
        omega

theorem mag_lt {a b : Nat} (h : a < b) : mag a < mag b := by
  induction b with
  | zero => omega
  | succ n ih =>
    by_cases c : a = n
    · subst c; exact mag_succ_lt a
    · exact Nat.lt_trans (ih (by omega)) (mag_succ_lt n)
theorem mag_lt_iff {a b : Nat} : mag a < mag b ↔ a < b := by
  constructor
  · intro h
    by_cases c : a < b
    · exact c
    · by_cases e : a = b
      · subst e; omega
      · have := mag_lt (a := b) (b := a) (by omega); omega
  · exact mag_lt
theorem mag_le_iff {a b : Nat} : mag a ≤ mag b ↔ a ≤ b := by
  have := @mag_lt_iff b a; omega
theorem mag_inj {a b : Nat} (h : mag a = mag b) : a = b := by
  have h1 := @mag_le_iff a b; have h2 := @mag_le_iff b a; omega
theorem mag_zero : mag 0 = 0 := by decide

/-- The place of a word among all words, both zeros at 0. -/
def ordI (s : Bool) (r : Nat) : Int := if s then -(r : Int) else r
def valI (s : Bool) (r : Nat) : Int := if s then -(mag r : Int) else mag r

theorem cmp_scale (a b : Int) (c : Nat) : compare (a * (2 ^ c : Nat)) (b * (2 ^ c : Nat)) = compare a b := by
  have hc : (0 : Int) < ((2 ^ c : Nat) : Int) := by have := Nat.two_pow_pos c; omega
  rcases Int.lt_trichotomy a b with h | h | h
  · have := Int.mul_lt_mul_of_pos_right h hc
    simp only [compare, compareOfLessAndEq, h, this, if_true]
  · subst h; simp [compare, compareOfLessAndEq]
  · have h2 := Int.mul_lt_mul_of_pos_right h hc
    have n1 : ¬ a < b := by omega
    have n2 : ¬ a = b := by omega
    have n3 : ¬ a * ((2 ^ c : Nat) : Int) < b * ((2 ^ c : Nat) : Int) := by omega
    have n4 : ¬ a * ((2 ^ c : Nat) : Int) = b * ((2 ^ c : Nat) : Int) := by omega
    simp only [compare, compareOfLessAndEq, n1, n2, n3, n4, if_false]

theorem signed_eq (s : Bool) (m up : Nat) : signed s m up = (if s then -(m : Int) else m) * ((2 ^ up : Nat) : Int) := by
  unfold signed; rw [Nat.shiftLeft_eq]; cases s <;> simp [Int.natCast_mul, Int.neg_mul]

/-- A finite rung read as a number: mag and place. -/
theorem rd_number {r : Nat} (h : r < 9218868437227405312) (s : Bool) : ∃ m e, rd s r = .number s m (-1074 + (e : Nat)) ∧ m * 2 ^ e = mag r := by
  unfold rd mag
  by_cases c : r < 4503599627370496
  · rw [if_pos c, if_pos c]; exact ⟨r, 0, by simp, by simp⟩
  · rw [if_neg c, if_pos h, if_neg c]; exact ⟨_, _, rfl, rfl⟩

theorem order_finite {s t : Bool} {r q : Nat} (hr : r < 9218868437227405312) (hq : q < 9218868437227405312) :
    (rd s r).order (rd t q) = some (compare (valI s r) (valI t q)) := by
  obtain ⟨m, e, h1, h2⟩ := rd_number hr s
  obtain ⟨n, g, h3, h4⟩ := rd_number hq t
  rw [h1, h3]
  simp only [Datum.order]
  rw [signed_eq, signed_eq]
  have e1 : valI s r = ((if s then -(m : Int) else m) * ((2 ^ e : Nat) : Int)) := by
    unfold valI; rw [← h2]; cases s <;> simp [Int.natCast_mul, Int.neg_mul]
  have e2 : valI t q = ((if t then -(n : Int) else n) * ((2 ^ g : Nat) : Int)) := by
    unfold valI; rw [← h4]; cases t <;> simp [Int.natCast_mul, Int.neg_mul]
  rw [e1, e2]
  generalize (if s then -(m : Int) else m) = A
  generalize (if t then -(n : Int) else n) = B
  congr 1
  by_cases c : e ≤ g
  · have k1 : (-1074 + (e : Int) - min (-1074 + (e : Int)) (-1074 + (g : Int))).toNat = 0 := by omega
    have k2 : (-1074 + (g : Int) - min (-1074 + (e : Int)) (-1074 + (g : Int))).toNat = g - e := by omega
    rw [k1, k2]
    have k3 : 2 ^ g = 2 ^ (g - e) * 2 ^ e := by rw [← Nat.pow_add]; congr 1; omega
    rw [k3, Int.natCast_mul, ← Int.mul_assoc, cmp_scale]; simp
  · have k1 : (-1074 + (e : Int) - min (-1074 + (e : Int)) (-1074 + (g : Int))).toNat = e - g := by omega
    have k2 : (-1074 + (g : Int) - min (-1074 + (e : Int)) (-1074 + (g : Int))).toNat = 0 := by omega
    rw [k1, k2]
    have k3 : 2 ^ e = 2 ^ (e - g) * 2 ^ g := by rw [← Nat.pow_add]; congr 1; omega
    rw [k3, Int.natCast_mul, ← Int.mul_assoc, cmp_scale]; simp

theorem cmp_val_ord {s t : Bool} {r q : Nat} : compare (valI s r) (valI t q) = compare (ordI s r) (ordI t q) := by
  have a1 := @mag_lt_iff r q; have a2 := @mag_lt_iff q r
  have a3 := @mag_lt_iff 0 r; have a4 := @mag_lt_iff 0 q
  rw [mag_zero] at a3 a4
  simp only [compare, compareOfLessAndEq]
  have b1 : valI s r < valI t q ↔ ordI s r < ordI t q := by
    unfold valI ordI; cases s <;> cases t <;> simp <;> omega
  have b2 : valI s r = valI t q ↔ ordI s r = ordI t q := by
    unfold valI ordI; cases s <;> cases t <;> simp <;> omega
  simp only [b1, b2]

theorem cmp_lt {a b : Int} (h : a < b) : compare a b = .lt := by simp only [compare, compareOfLessAndEq, h, if_true]
theorem cmp_gt {a b : Int} (h : b < a) : compare a b = .gt := by
  have n1 : ¬ a < b := by omega
  have n2 : ¬ a = b := by omega
  simp only [compare, compareOfLessAndEq, n1, n2, if_false]
theorem cmp_eq {a b : Int} (h : a = b) : compare a b = .eq := by subst h; simp [compare, compareOfLessAndEq]
theorem order_rd {s t : Bool} {r q : Nat} (hr : r ≤ 9218868437227405312) (hq : q ≤ 9218868437227405312) :
    (rd s r).order (rd t q) = some (compare (ordI s r) (ordI t q)) := by
  by_cases c : r < 9218868437227405312
  · by_cases d : q < 9218868437227405312
    · rw [order_finite c d, cmp_val_ord]
    · have : q = 9218868437227405312 := by omega
      subst this
      obtain ⟨m, e, h1, _⟩ := rd_number c s
      rw [h1]
      have h3 : rd t 9218868437227405312 = .infinity t := rfl
      rw [h3]; simp only [Datum.order]
      have hb : -9218868437227405312 < ordI s r ∧ ordI s r < 9218868437227405312 := by unfold ordI; cases s <;> simp <;> omega
      cases t
      · rw [cmp_lt (show ordI s r < ordI false 9218868437227405312 from hb.2)]; rfl
      · rw [cmp_gt (show ordI true 9218868437227405312 < ordI s r from hb.1)]; rfl
  · have : r = 9218868437227405312 := by omega
    subst this
    have h1 : rd s 9218868437227405312 = .infinity s := rfl
    rw [h1]
    by_cases d : q < 9218868437227405312
    · obtain ⟨n, g, h3, _⟩ := rd_number d t
      rw [h3]; simp only [Datum.order]
      have hb : -9218868437227405312 < ordI t q ∧ ordI t q < 9218868437227405312 := by unfold ordI; cases t <;> simp <;> omega
      cases s
      · rw [cmp_gt (show ordI t q < ordI false 9218868437227405312 from hb.2)]; rfl
      · rw [cmp_lt (show ordI true 9218868437227405312 < ordI t q from hb.1)]; rfl
    · have : q = 9218868437227405312 := by omega
      subst this
      have h3 : rd t 9218868437227405312 = .infinity t := rfl
      rw [h3]; cases s <;> cases t <;> decide

theorem order_nan_left {s t : Bool} {r q : Nat} (hr : 9218868437227405312 < r) : (rd s r).order (rd t q) = none := by
  have : rd s r = .nan s (r - 9218868437227405312) := by unfold rd; rw [if_neg (by omega), if_neg (by omega), if_neg (by omega)]
  rw [this]; unfold Datum.order; rfl

/-- Of nearest: the sign stands apart. -/
theorem nearest_sign (s : Bool) (m : Nat) (p : Int) : double.nearest s m p = fl s (double.nearest false m p) := by
  have h1 : double.signWeight = 9223372036854775808 := by decide
  have hw : ∀ s r, double.word s r = fl s r := by intro s r; unfold Format.word fl; rw [h1]
  unfold Format.nearest
  by_cases c : m = 0
  · simp only [c, if_true, hw]; simp [fl]
  · simp only [c, if_false, hw]; simp [fl, Toward.cut]
theorem nearest_le (m : Nat) (p : Int) : double.nearest false m p ≤ 9218868437227405312 := by
  have h3 : double.infRung = 9218868437227405312 := by decide
  have hw : ∀ r, double.word false r = r := by intro r; unfold Format.word; simp
  unfold Format.nearest
  by_cases c : m = 0
  · simp only [c, if_true, hw]; omega
  · simp only [c, if_false, hw, h3]; exact Nat.min_le_right _ _
theorem write_number (s : Bool) (m : Nat) (p : Int) : double.write (.number s m p) = fl s (double.nearest false m p) := nearest_sign s m p
theorem write_inf (s : Bool) : double.write (.infinity s) = fl s 9218868437227405312 := by cases s <;> decide
theorem nearest_zero (p : Int) : double.nearest false 0 p = 0 := by simp [Format.nearest, Format.word]
end Go.Proofs.Ytmjkihclaccidaa
