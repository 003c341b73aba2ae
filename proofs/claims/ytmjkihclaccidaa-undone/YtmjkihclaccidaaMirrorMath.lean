/- With the signs turned, down is up. -/
import Derived.Test.YtmjkihclaccidaaNearMath
namespace Go.Proofs.Ytmjkihclaccidaa
open Ieee

theorem od_ng (x : Nat) : od (ng x) = -od x := by
  unfold od; rw [sg_ng, rg_ng]; unfold ordI; cases sg x <;> simp
theorem ng_fl {s : Bool} {r : Nat} (h : r < 9223372036854775808) : ng (fl s r) = fl (!s) r := by
  unfold ng; rw [sg_fl h, rg_fl h]

/-- The other one of two: the sign turned, or both a zero. -/
def Opp (x y : Nat) : Prop := y = ng x ∨ (rg x = 0 ∧ rg y = 0)
theorem opp_od {x y : Nat} (h : Opp x y) : od y = -od x := by
  rcases h with rfl | ⟨h1, h2⟩
  · exact od_ng x
  · rw [od_zero.2 h1, od_zero.2 h2]; rfl
theorem opp_rg {x y : Nat} (h : Opp x y) : rg y = rg x := by
  rcases h with rfl | ⟨h1, h2⟩
  · exact rg_ng x
  · rw [h1, h2]

theorem write_opp {d : Datum} (h : d.isNaN = false) : double.write d.opposite = ng (double.write d) := by
  cases d with
  | number s m p => simp only [Datum.opposite, write_number]; rw [ng_fl (near_lt_S m p)]
  | infinity s => simp only [Datum.opposite, write_inf]; rw [ng_fl (by decide)]
  | nan s t => simp [Datum.isNaN] at h

theorem signed_not (s : Bool) (m u : Nat) : signed (!s) m u = -signed s m u := by
  unfold signed; cases s <;> simp

theorem zero_write (s : Bool) (p : Int) : rg (double.write (.number s 0 p)) = 0 := by
  rw [write_number, nearest_zero, rg_fl (by decide)]

theorem sum_opp {p q d : Datum} (h : p.sum q = some d) : ∃ d', p.opposite.sum q.opposite = some d' ∧ Opp (double.write d) (double.write d') := by
  cases p with
  | nan s t => simp [Datum.sum] at h
  | infinity s =>
    cases q with
    | nan t u => simp [Datum.sum] at h
    | infinity t =>
      simp only [Datum.sum] at h
      split at h
      · rename_i c; subst c; cases h
        exact ⟨.infinity (!s), by simp [Datum.opposite, Datum.sum], Or.inl (write_opp (d := .infinity s) rfl)⟩
      · cases h
    | number t n j =>
      simp only [Datum.sum] at h; cases h
      exact ⟨.infinity (!s), by simp [Datum.opposite, Datum.sum], Or.inl (write_opp (d := .infinity s) rfl)⟩
  | number s m i =>
    cases q with
    | nan t u => simp [Datum.sum] at h
    | infinity t =>
      simp only [Datum.sum] at h; cases h
      exact ⟨.infinity (!t), by simp [Datum.opposite, Datum.sum], Or.inl (write_opp (d := .infinity t) rfl)⟩
    | number t n j =>
      simp only [Datum.sum] at h; cases h
      refine ⟨_, rfl, ?_⟩
      simp only [signed_not]
      rw [← Int.neg_add, Int.natAbs_neg]
      generalize signed s m (i - min i j).toNat + signed t n (j - min i j).toNat = T
      by_cases c : T = 0
      · subst c
        right
        simp only [if_true, Int.natAbs_zero, Int.neg_zero]
        exact ⟨zero_write _ _, zero_write _ _⟩
      · left
        rw [if_neg c, if_neg (by omega), write_number, write_number, ng_fl (near_lt_S _ _)]
        congr 1
        by_cases d : T < 0
        · rw [decide_eq_true d, decide_eq_false (by omega)]; rfl
        · rw [decide_eq_false d, decide_eq_true (by omega)]; rfl

theorem sum_comm (p q : Datum) : p.sum q = q.sum p := by
  cases p <;> cases q <;> simp only [Datum.sum]
  · rename_i s m i t n j
    rw [Int.min_comm j i, Int.add_comm, Bool.and_comm]
  · rename_i s t
    by_cases c : s = t
    · subst c; rfl
    · rw [if_neg c, if_neg (Ne.symm c)]
theorem product_comm (p q : Datum) : p.product q = q.product p := by
  cases p <;> cases q <;> simp only [Datum.product]
  · rename_i s m i t n j
    rw [Bool.xor_comm, Nat.mul_comm, Int.add_comm]
  · rename_i s t; rw [Bool.xor_comm]
theorem product_opp (p q : Datum) : p.opposite.product q = (p.product q).map Datum.opposite := by
  cases p <;> cases q <;> simp only [Datum.product, Datum.opposite, Option.map_none, Option.map_some, Bool.not_xor]
  · split <;> simp [Datum.opposite]
  · split <;> simp [Datum.opposite]
theorem quotient_opp (k : Nat) (p q : Datum) : p.opposite.quotient k q = (p.quotient k q).map Datum.opposite := by
  cases p <;> cases q <;> simp only [Datum.quotient, Datum.opposite, Option.map_none, Option.map_some, Bool.not_xor]
  · split
    · split <;> simp [Datum.opposite]
    · simp [Datum.opposite]

theorem read_ng {x : Nat} (hx : x < 18446744073709551616) : double.read (ng x) = (double.read x).opposite := by
  rw [read_eq (ng_lt x), sg_ng, rg_ng, rd_not, ← read_eq hx]

theorem mul_mirror {a b : Nat} (ha : a < 18446744073709551616) : double.mul b (ng a) = (double.mul a b).map ng := by
  unfold Format.mul
  rw [read_ng ha, product_comm, product_opp]
  cases h : (double.read a).product (double.read b) with
  | none => rfl
  | some d => simp only [Option.map_some]; rw [write_opp (product_num h)]
theorem div_mirror {a b : Nat} (ha : a < 18446744073709551616) : double.div (ng a) b = (double.div a b).map ng := by
  unfold Format.div
  rw [read_ng ha, quotient_opp]
  cases h : (double.read a).quotient (double.fractionBits + 2) (double.read b) with
  | none => rfl
  | some d => simp only [Option.map_some]; rw [write_opp (quotient_num h)]
theorem add_mirror {a b : Nat} (ha : a < 18446744073709551616) (hb : b < 18446744073709551616) :
    (double.add a b = none ∧ double.add (ng b) (ng a) = none) ∨ ∃ n n', double.add a b = some n ∧ double.add (ng b) (ng a) = some n' ∧ Opp n n' := by
  unfold Format.add
  rw [read_ng ha, read_ng hb, sum_comm (double.read b).opposite]
  cases h : (double.read a).sum (double.read b) with
  | none =>
    left; refine ⟨rfl, ?_⟩
    cases h2 : (double.read a).opposite.sum (double.read b).opposite with
    | none => rfl
    | some d =>
      obtain ⟨d', h3, _⟩ := sum_opp h2
      have oo : ∀ x : Datum, x.opposite.opposite = x := by intro x; cases x <;> simp [Datum.opposite]
      rw [oo, oo, h] at h3; cases h3
  | some d =>
    obtain ⟨d', h3, h4⟩ := sum_opp h
    right; rw [h3]; exact ⟨_, _, rfl, rfl, h4⟩

/-- A difference, the signs turned; what is taken away may be a zero of either sign. -/
theorem sub_mirror {a b a' b' r : Nat} (ha : a < 18446744073709551616) (hb : b < 18446744073709551616) (ea : a' = ng a) (eb : Opp b b') (hb' : b' < 18446744073709551616) (h : double.sub a b = some r) :
    ∃ r', double.sub a' b' = some r' ∧ Opp r r' := by
  unfold Format.sub at h ⊢
  obtain ⟨d, h1, rfl⟩ := map_write h
  obtain ⟨d', h2, h3⟩ := sum_opp h1
  subst ea
  rw [read_ng ha]
  rcases eb with rfl | ⟨z1, z2⟩
  · rw [read_ng hb, h2]; exact ⟨_, rfl, h3⟩
  · -- both are zeros
    have e1 : double.read b = .number (sg b) 0 (-1074) := by rw [read_eq hb, z1]; rfl
    have e2 : double.read b' = .number (sg b') 0 (-1074) := by rw [read_eq hb', z2]; rfl
    rw [e1] at h2; rw [e2]
    generalize (double.read a).opposite = p at h2 ⊢
    cases p with
    | nan s t => simp [Datum.sum] at h2
    | infinity s =>
      simp only [Datum.opposite, Datum.sum] at h2 ⊢; cases h2
      exact ⟨_, rfl, h3⟩
    | number s m i =>
      simp only [Datum.opposite, Datum.sum] at h2 ⊢; cases h2
      refine ⟨_, rfl, ?_⟩
      have z : ∀ c u, signed c 0 u = 0 := by intro c u; unfold signed; simp
      simp only [z, Int.add_zero] at h3 ⊢
      generalize signed s m (i - min i (-1074)).toNat = T at h3 ⊢
      by_cases c : T = 0
      · subst c
        right
        refine ⟨?_, zero_write _ _⟩
        rw [← opp_rg h3]; exact zero_write _ _
      · rw [if_neg c] at h3 ⊢; exact h3

theorem nextUp_ng {x : Nat} (hx : x < 18446744073709551616) (nx : nanB x = false) : nextUp (ng x) = ng (nextDn x) ∧ nextDn (ng x) = ng (nextUp x) := by
  unfold nanB at nx; rw [decide_eq_false_iff_not] at nx
  have e := fl_eq hx
  have hr := rg_lt x
  generalize sg x = s at e; generalize rg x = r at e hr nx
  subst e
  rw [ng_fl hr]
  have r1 : rg (fl s r) = r := rg_fl hr
  have r2 : rg (fl (!s) r) = r := rg_fl hr
  unfold nextUp nextDn
  rw [r1, r2]
  by_cases c0 : r = 0
  · subst c0
    cases s <;> (simp [fl]; decide)
  · rw [if_neg c0, if_neg c0, if_neg c0, if_neg c0]
    cases s
    · simp only [fl, Bool.not_false, if_true, Bool.false_eq_true, if_false]
      rw [if_neg (show ¬ 9223372036854775808 + r = 9218868437227405312 from by omega), if_neg (show ¬ r = 18442240474082181120 from by omega), if_neg (show ¬ 9223372036854775808 + r < 9223372036854775808 from by omega), if_neg (show ¬ 9223372036854775808 + r < 9223372036854775808 from by omega), if_pos hr, if_pos hr]
      constructor
      · rw [show ng (r - 1) = fl true (r - 1) from by rw [← fl_false (r - 1), ng_fl (by omega)]; rfl]
        simp only [fl, if_true]; omega
      · by_cases ci : r = 9218868437227405312
        · subst ci; decide
        · rw [if_neg (by omega), if_neg ci, show ng (r + 1) = fl true (r + 1) from by rw [← fl_false (r + 1), ng_fl (by omega)]; rfl]
          simp only [fl, if_true]; omega
    · simp only [fl, Bool.not_true, if_true, Bool.false_eq_true, if_false]
      rw [if_neg (show ¬ 9223372036854775808 + r = 9218868437227405312 from by omega), if_neg (show ¬ r = 18442240474082181120 from by omega), if_neg (show ¬ 9223372036854775808 + r < 9223372036854775808 from by omega), if_neg (show ¬ 9223372036854775808 + r < 9223372036854775808 from by omega), if_pos hr, if_pos hr]
      constructor
      · by_cases ci : r = 9218868437227405312
        · subst ci; decide
        · rw [if_neg ci, if_neg (by omega), show 9223372036854775808 + r + 1 = fl true (r + 1) from by simp only [fl, if_true]; omega, ng_fl (by omega)]
          simp only [fl, Bool.not_true, Bool.false_eq_true, if_false]
      · rw [show 9223372036854775808 + r - 1 = fl true (r - 1) from by simp only [fl, if_true]; omega, ng_fl (by omega)]
        simp only [fl, Bool.not_true, Bool.false_eq_true, if_false]

theorem dir_mirror {n m m' : Nat} {up : Bool} (hn : n < 18446744073709551616) (nn : nanB n = false) (h : od m' = -od m) : dirF (ng n) m' (!up) = ng (dirF n m up) := by
  obtain ⟨h1, h2⟩ := nextUp_ng hn nn
  unfold dirF
  cases up
  · simp only [Bool.not_false, if_true, Bool.false_eq_true, if_false]
    by_cases c : od m < 0
    · rw [if_pos c, if_pos (by omega), h1]
    · rw [if_neg c, if_neg (by omega)]
  · simp only [Bool.not_true, if_true, Bool.false_eq_true, if_false]
    by_cases c : 0 < od m
    · rw [if_pos c, if_pos (by omega), h2]
    · rw [if_neg c, if_neg (by omega)]

theorem other_ng {x : Nat} (hx : x < 18446744073709551616) (nx : nanB x = false) : otherF (ng x) = x := by
  unfold otherF; rw [nanB_ng, nx, if_neg (by decide), ng_ng hx]
theorem other_none : otherF (word none) = word none := by decide

/- The taking apart, the sign turned. -/
theorem nrm_ng {x : Nat} (hx : x < 18446744073709551616) (zx : rg x ≠ 0) : nrm (ng x) = ng (nrm x) ∧ nre (ng x) = nre x := by
  unfold nrm nre; rw [rg_ng]
  refine ⟨?_, rfl⟩
  split
  · rename_i c
    obtain ⟨r, h1, h2, h3, _⟩ := mul52 hx zx c
    have h1' : FloatKind.f64.format.mul x 4841369599423283200 = some (fl (sg x) r) := h1
    have h2' : FloatKind.f64.format.mul (ng x) 4841369599423283200 = some (ng (fl (sg x) r)) := by
      show double.mul (ng x) 4841369599423283200 = _
      have hm := mul_mirror (a := x) (b := 4841369599423283200) hx
      unfold Format.mul at hm h1 ⊢
      rw [product_comm, hm, h1]; rfl
    rw [h1', h2']; rfl
  · rfl
theorem fr_ng {x : Nat} (hx : x < 18446744073709551616) (zx : rg x ≠ 0) : frF (ng x) = ng (frF x) ∧ frE (ng x) = frE x := by
  obtain ⟨h1, h2⟩ := nrm_ng hx zx
  have hm := fm_lt (nrm x)
  have e1 : fm (ng (nrm x)) = fm (nrm x) := by unfold fm; rw [rg_ng]
  have e2 : fe (ng (nrm x)) = fe (nrm x) := by unfold fe; rw [rg_ng]
  unfold frF frE mk
  rw [h1, h2, e1, e2, sg_ng, ng_fl (by omega)]; exact ⟨rfl, rfl⟩
theorem ld_ng {x : Nat} (e : Int) (hx : x < 18446744073709551616) : ldF (ng x) e = ng (ldF x e) := by
  unfold ldF; rw [rg_ng]
  by_cases c : rg x = 0 ∨ rg x = 9218868437227405312
  · rw [if_pos c, if_pos c]
  · rw [if_neg c, if_neg c]
    have zx : rg x ≠ 0 := by omega
    obtain ⟨h1, h2⟩ := nrm_ng hx zx
    have hm := fm_lt (nrm x)
    have e1 : fm (ng (nrm x)) = fm (nrm x) := by unfold fm; rw [rg_ng]
    have e2 : fe (ng (nrm x)) = fe (nrm x) := by unfold fe; rw [rg_ng]
    have e3 : ldE (ng x) e = ldE x e := by unfold ldE; rw [h1, h2, e2]
    have hmul : ∀ k (z : Nat), 1 ≤ z → z ≤ 2046 → rg k < 9218868437227405312 → k < 18446744073709551616 →
        (FloatKind.f64.format.mul k (mk (!sg (nrm x)) z (fm (nrm x)))).getD 0 = ng ((FloatKind.f64.format.mul k (mk (sg (nrm x)) z (fm (nrm x)))).getD 0) := by
      intro k z hz1 hz2 fk hk
      have g1 : mk (!sg (nrm x)) z (fm (nrm x)) = ng (mk (sg (nrm x)) z (fm (nrm x))) := by unfold mk; rw [ng_fl (by omega)]
      have g2 : mk (sg (nrm x)) z (fm (nrm x)) < 18446744073709551616 := mk_lt (by omega) hm
      have g3 : rg (mk (sg (nrm x)) z (fm (nrm x))) < 9218868437227405312 := by unfold mk; rw [rg_fl (by omega)]; omega
      obtain ⟨r, h3, _⟩ := mul_fin hk g2 fk g3
      have h3' : double.mul k (mk (sg (nrm x)) z (fm (nrm x))) = some r := h3
      have h4 := mul_mirror (a := mk (sg (nrm x)) z (fm (nrm x))) (b := k) g2
      have h5 : double.mul (mk (sg (nrm x)) z (fm (nrm x))) k = some r := by
        unfold Format.mul at h3' ⊢; rw [product_comm]; exact h3'
      have h6 : FloatKind.f64.format.mul k (ng (mk (sg (nrm x)) z (fm (nrm x)))) = some (ng r) := by
        show double.mul k _ = _
        rw [h4, h5]; rfl
      rw [g1, h6, h3]; rfl
    unfold ldN
    rw [e3, h1, sg_ng, e1]
    by_cases d1 : ldE x e < -1075
    · rw [if_pos d1, if_pos d1, ng_fl (by omega)]
    · rw [if_neg d1, if_neg d1]
      by_cases d2 : 1023 < ldE x e
      · rw [if_pos d2, if_pos d2, ng_fl (by omega)]
      · rw [if_neg d2, if_neg d2]
        by_cases d3 : ldE x e < -1022
        · rw [if_pos d3, if_pos d3]; exact hmul _ _ (by omega) (by omega) (by decide) (by decide)
        · rw [if_neg d3, if_neg d3]; exact hmul _ _ (by omega) (by omega) (by decide) (by decide)

theorem fma_mirror {x y z r : Nat} (hx : x < 18446744073709551616) (hz : z < 18446744073709551616) (h : double.fma x y z = some r) :
    ∃ r', double.fma y (ng x) (ng z) = some r' ∧ Opp r r' := by
  unfold Format.fma at h ⊢
  obtain ⟨d, h1, rfl⟩ := map_write h
  obtain ⟨p, h2, h3⟩ := Option.bind_eq_some_iff.1 h1
  obtain ⟨d', h4, h5⟩ := sum_opp h3
  refine ⟨double.write d', ?_, h5⟩
  rw [read_ng hx, read_ng hz, product_comm, product_opp, h2]
  simp only [Option.map_some, Option.bind_some, h4]

theorem infB_ng (x : Nat) : infB (ng x) = infB x := by unfold infB; rw [rg_ng]
theorem ordB_ng (x : Nat) : ordB (ng x) = ordB x := by unfold ordB; rw [rg_ng]

theorem prod_mirror {a b : Nat} (up : Bool) (ha : a < 18446744073709551616) : word (prodF a b up) = otherF (word (prodF b (ng a) (!up))) := by
  unfold prodF
  rw [mul_mirror ha]
  cases h : double.mul a b with
  | none => exact other_none.symm
  | some n =>
    obtain ⟨nn, hn⟩ := mul_num h
    simp only [Option.map_some, word, Option.getD_some, ordB_ng]
    rw [Bool.and_comm (ordB b)]
    cases c : (ordB a && ordB b) with
    | false => rw [if_neg (by decide), if_neg (by decide), other_ng hn nn]
    | true =>
      rw [if_pos rfl, if_pos rfl]
      rw [Bool.and_eq_true] at c
      have oa := c.1; unfold ordB at oa; rw [decide_eq_true_eq] at oa
      obtain ⟨f1, f2⟩ := fr_ng ha oa.1
      obtain ⟨r, h1, h2, h3, h4⟩ := mp_some a b nn
      obtain ⟨r', g1, g2⟩ := fma_mirror (frF_lt a) (ng_lt _) h1
      have e : mpF b (ng a) (ng n) = r' := by
        unfold mpF
        rw [f1, f2, ld_ng _ hn, show -frE b - frE a = -frE a - frE b from by omega, g1]; rfl
      rw [dir_mirror (m := mpF a b n) hn nn (by rw [e, h2]; exact opp_od g2)]
      have dn := dirF_num hn nn (mpF a b n) up
      rw [other_ng dn.2 dn.1]

theorem fma_mirror2 {x y z r : Nat} (hx : x < 18446744073709551616) (hz : z < 18446744073709551616) (h : double.fma x y z = some r) :
    ∃ r', double.fma (ng x) y (ng z) = some r' ∧ Opp r r' := by
  unfold Format.fma at h ⊢
  obtain ⟨d, h1, rfl⟩ := map_write h
  obtain ⟨p, h2, h3⟩ := Option.bind_eq_some_iff.1 h1
  obtain ⟨d', h4, h5⟩ := sum_opp h3
  refine ⟨double.write d', ?_, h5⟩
  rw [read_ng hx, read_ng hz, product_opp, h2]
  simp only [Option.map_some, Option.bind_some, h4]

theorem quo_mirror {a b : Nat} (up : Bool) (ha : a < 18446744073709551616) : word (quoF a b up) = otherF (word (quoF (ng a) b (!up))) := by
  unfold quoF
  rw [div_mirror ha]
  cases h : double.div a b with
  | none => exact other_none.symm
  | some n =>
    obtain ⟨nn, hn⟩ := div_num h
    simp only [Option.map_some, word, Option.getD_some, ordB_ng]
    cases c : (ordB a && ordB b) with
    | false => rw [if_neg (by decide), if_neg (by decide), other_ng hn nn]
    | true =>
      rw [if_pos rfl, if_pos rfl]
      rw [Bool.and_eq_true] at c
      have oa := c.1; unfold ordB at oa; rw [decide_eq_true_eq] at oa
      obtain ⟨f1, f2⟩ := fr_ng ha oa.1
      obtain ⟨r, h1, h2, h3, h4⟩ := mq_some a b nn
      obtain ⟨r', g1, g2⟩ := fma_mirror2 (ng_lt _) (frF_lt a) h1
      have e : mqR (ng a) b (ng n) = r' := by
        unfold mqR
        rw [f1, f2, ld_ng _ hn, g1]; rfl
      have eo : od (mqF (ng a) b (ng n)) = -od (mqF a b n) := by
        unfold mqF; rw [e, h2]
        have := opp_od g2
        split
        · rw [od_ng, od_ng]; omega
        · exact this
      rw [dir_mirror (m := mqF a b n) hn nn eo]
      have dn := dirF_num hn nn (mqF a b n) up
      rw [other_ng dn.2 dn.1]

/-- The sum of finite words: what it is rounded from. -/
theorem add_fin {a b : Nat} (ha : a < 18446744073709551616) (hb : b < 18446744073709551616) (fa : rg a < 9218868437227405312) (fb : rg b < 9218868437227405312) :
    ∃ (T : Int) (base : Int) (s : Bool), double.add a b = some (fl s (double.nearest false T.natAbs base)) ∧ -1074 ≤ base ∧ T * ((2 ^ (base + 1074).toNat : Nat) : Int) = valI (sg a) (rg a) + valI (sg b) (rg b) ∧ (T ≠ 0 → s = decide (T < 0)) := by
  obtain ⟨T, hT⟩ : ∃ T, T = signed (sg a) (mm (rg a)) (pp (rg a) - min (pp (rg a)) (pp (rg b))).toNat + signed (sg b) (mm (rg b)) (pp (rg b) - min (pp (rg a)) (pp (rg b))).toNat := ⟨_, rfl⟩
  refine ⟨T, min (pp (rg a)) (pp (rg b)), if T = 0 then sg a && sg b else decide (T < 0), ?_, ?_, ?_, ?_⟩
  rotate_left
  · have h1 := pp_ge (rg a); have h2 := pp_ge (rg b); omega
  · have h1 := pp_ge (rg a); have h2 := pp_ge (rg b)
    rw [hT, signed_eq, signed_eq, Int.add_mul, Int.mul_assoc, Int.mul_assoc, ← Int.natCast_mul, ← Int.natCast_mul, ← Nat.pow_add, ← Nat.pow_add]
    rw [show (pp (rg a) - min (pp (rg a)) (pp (rg b))).toNat + (min (pp (rg a)) (pp (rg b)) + 1074).toNat = (pp (rg a) + 1074).toNat from by omega, show (pp (rg b) - min (pp (rg a)) (pp (rg b))).toNat + (min (pp (rg a)) (pp (rg b)) + 1074).toNat = (pp (rg b) + 1074).toNat from by omega]
    unfold valI
    rw [← mm_mag (rg a), ← mm_mag (rg b)]
    cases sg a <;> cases sg b <;> simp [Int.neg_mul]
  · exact fun h => if_neg h
  · unfold Format.add
    rw [read_eq ha, read_eq hb, rd_mp fa, rd_mp fb]
    simp only [Datum.sum, Option.map_some, write_fl, ← hT]

/-- A sum of finite words that comes to a zero is exactly 0. -/
theorem add_zero {a b n : Nat} (ha : a < 18446744073709551616) (hb : b < 18446744073709551616) (fa : rg a < 9218868437227405312) (fb : rg b < 9218868437227405312) (h : double.add a b = some n) :
    rg n = 0 ↔ valI (sg a) (rg a) + valI (sg b) (rg b) = 0 := by
  obtain ⟨T, base, s, h1, h2, h3, h4⟩ := add_fin ha hb fa fb
  rw [h1] at h; cases h
  rw [rg_fl (near_lt_S _ _)]
  have hP : (0 : Int) < ((2 ^ (base + 1074).toNat : Nat) : Int) := by have := Nat.two_pow_pos (base + 1074).toNat; omega
  constructor
  · intro hz
    by_cases c : T = 0
    · rw [← h3, c, Int.zero_mul]
    · exfalso
      have : 1 ≤ double.nearest false T.natAbs base := by
        refine near_ge (K := 1074) (by omega) (by omega) (by omega) ?_
        rw [show mag 1 = 1 from by decide, show 1074 - 1074 = 0 from rfl, Nat.pow_zero, Nat.mul_one]
        exact Nat.mul_pos (by omega) (Nat.two_pow_pos _)
      omega
  · intro hz
    rw [hz] at h3
    have : T = 0 := by
      rcases Int.mul_eq_zero.1 h3 with h | h
      · exact h
      · omega
    subst this; exact nearest_zero _

theorem val_neg (s : Bool) (r : Nat) : valI (!s) r = -valI s r := by unfold valI; cases s <;> simp
theorem val_zero {s : Bool} {r : Nat} : valI s r = 0 ↔ r = 0 := by
  have h := @mag_le_iff r 0
  rw [mag_zero] at h
  unfold valI; cases s <;> simp <;> omega

theorem sum_mirror {a b : Nat} (up : Bool) (ha : a < 18446744073709551616) (hb : b < 18446744073709551616) : word (sumF a b up) = otherF (word (sumF (ng b) (ng a) (!up))) := by
  unfold sumF
  rcases add_mirror ha hb with ⟨h1, h2⟩ | ⟨n, n', h1, h2, h3⟩
  · rw [h1, h2]; exact other_none.symm
  · rw [h1, h2]
    obtain ⟨nn, hn⟩ := add_num h1
    obtain ⟨nn', hn'⟩ := add_num h2
    have na : nanB a = false := by cases c : nanB a with | false => rfl | true => rw [add_nan_l ha c] at h1; cases h1
    have nb : nanB b = false := by cases c : nanB b with | false => rfl | true => rw [add_nan_r hb c] at h1; cases h1
    simp only [Option.map_some, word, Option.getD_some, infB_ng, opp_rg h3]
    rw [Bool.or_comm (infB b)]
    cases ci : (infB a || infB b) with
    | true =>
      rw [if_pos rfl, if_pos rfl]
      -- an infinity is no zero
      have hz : rg n ≠ 0 := by
        intro hz
        rw [Bool.or_eq_true] at ci
        unfold infB at ci
        rw [decide_eq_true_eq, decide_eq_true_eq] at ci
        have key : ∀ x y, x < 18446744073709551616 → nanB y = false → y < 18446744073709551616 → rg x = 9218868437227405312 → ∀ d, (double.read x).sum (double.read y) = some d → rg (double.write d) ≠ 0 := by
          intro x y hx ny hy ex d hd
          rw [read_eq hx, ex, show rd (sg x) 9218868437227405312 = .infinity (sg x) from rfl] at hd
          have hw : ∀ s, rg (double.write (.infinity s)) ≠ 0 := by intro s; rw [write_inf, rg_fl (by decide)]; decide
          rcases rd_cases hy ny with ⟨_, e⟩ | ⟨_, e⟩
          · rw [e] at hd; simp only [Datum.sum] at hd; cases hd; exact hw _
          · rw [e] at hd; simp only [Datum.sum] at hd; split at hd
            · cases hd; exact hw _
            · cases hd
        unfold Format.add at h1
        obtain ⟨d, k1, rfl⟩ := map_write h1
        rcases ci with c | c
        · exact key a b ha nb hb c d k1 hz
        · rw [sum_comm] at k1; exact key b a hb na ha c d k1 hz
      rcases h3 with rfl | ⟨z, _⟩
      · rw [other_ng hn nn]
      · exact absurd z hz
    | false =>
      simp only [Bool.false_eq_true, if_false]
      rw [Bool.or_eq_false_iff] at ci
      have fa : rg a < 9218868437227405312 := by have := ci.1; unfold nanB at na; unfold infB at this; rw [decide_eq_false_iff_not] at na this; omega
      have fb : rg b < 9218868437227405312 := by have := ci.2; unfold nanB at nb; unfold infB at this; rw [decide_eq_false_iff_not] at nb this; omega
      have hv := add_zero ha hb fa fb h1
      by_cases cz : rg n = 0
      · rw [if_pos cz, if_pos cz]
        unfold zsF
        rw [sg_ng, sg_ng]
        by_cases cs : sg a = sg b
        · rw [if_pos cs, if_pos (by rw [cs])]
          have hv' := hv.1 cz
          have za : rg a = 0 ∧ rg b = 0 := by
            have m1 := @mag_le_iff (rg a) 0; have m2 := @mag_le_iff (rg b) 0
            rw [mag_zero] at m1 m2
            rw [cs] at hv'
            unfold valI at hv'; cases h : sg b <;> simp [h] at hv' <;> omega
          have : a = b := by rw [← fl_eq ha, ← fl_eq hb, cs, za.1, za.2]
          rw [other_ng hb nb, this]
        · have cs' : ¬ (!sg b) = !sg a := by intro c; apply cs; revert c; cases sg a <;> cases sg b <;> simp
          rw [if_neg cs, if_neg cs']
          cases up <;> decide
      · rw [if_neg cz, if_neg cz]
        have hnn : n' = ng n := by
          rcases h3 with h | ⟨z, _⟩
          · exact h
          · exact absurd z cz
        subst hnn
        have eo : od (msF (ng b) (ng a) (ng n)) = -od (msF a b n) := by
          have step : ∀ x y, x < 18446744073709551616 → y < 18446744073709551616 → nanB x = false → nanB y = false → rg x < 9218868437227405312 → rg y < 9218868437227405312 →
              od ((double.sub (ng y) ((double.sub (ng n) (ng x)).getD 0)).getD 0) = -od ((double.sub y ((double.sub n x).getD 0)).getD 0) := by
            intro x y hx hy nx ny fx fy
            obtain ⟨r, k1⟩ := sub_some hn hx nn nx (Or.inr fx)
            obtain ⟨k3, k4⟩ := sub_num k1
            obtain ⟨q, k2⟩ := sub_some hy k4 ny k3 (Or.inl fy)
            obtain ⟨r', g1, g2⟩ := sub_mirror hn hx rfl (Or.inl rfl) (ng_lt x) k1
            obtain ⟨q', g3, g4⟩ := sub_mirror hy k4 rfl g2 (sub_num g1).2 k2
            rw [k1, g1]; simp only [Option.getD_some]; rw [k2, g3]; exact opp_od g4
          unfold msF; rw [rg_ng, rg_ng]
          by_cases c1 : rg a < rg b
          · rw [if_pos c1, if_neg (by omega)]; exact step b a hb ha nb na fb fa
          · rw [if_neg c1]
            by_cases c2 : rg b < rg a
            · rw [if_pos c2]; exact step a b ha hb na nb fa fb
            · rw [if_neg c2]
              have hr : rg a = rg b := by omega
              have hs : sg a = sg b := by
                by_cases cs : sg a = sg b
                · exact cs
                · exfalso; apply cz; apply hv.2
                  have : sg a = !sg b := by revert cs; cases sg a <;> cases sg b <;> simp
                  rw [this, val_neg, hr]; omega
              have : a = b := by rw [← fl_eq ha, ← fl_eq hb, hs, hr]
              subst this; exact step a a ha ha na na fa fa
        rw [dir_mirror (m := msF a b n) hn nn eo]
        have dn := dirF_num hn nn (msF a b n) up
        rw [other_ng dn.2 dn.1]
end Go.Proofs.Ytmjkihclaccidaa
