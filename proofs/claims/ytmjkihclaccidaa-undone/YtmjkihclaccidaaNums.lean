/- Which operations answer a number. -/
import Derived.Test.YtmjkihclaccidaaArith
namespace Go.Proofs.Ytmjkihclaccidaa
open Ieee

theorem write_num {d : Datum} (h : d.isNaN = false) : nanB (double.write d) = false := by
  cases d with
  | number s m p => rw [write_number]; unfold nanB; rw [rg_fl (near_lt_S m p)]; have := nearest_le m p; rw [decide_eq_false (by omega)]
  | infinity s => rw [write_inf]; cases s <;> decide
  | nan s t => simp [Datum.isNaN] at h
theorem sum_num {a b d : Datum} (h : a.sum b = some d) : d.isNaN = false := by
  cases a <;> cases b <;> simp only [Datum.sum] at h <;> first | (cases h; done) | (cases h; rfl) | (split at h <;> cases h; rfl)
theorem product_num {a b d : Datum} (h : a.product b = some d) : d.isNaN = false := by
  cases a <;> cases b <;> simp only [Datum.product] at h <;> first | (cases h; done) | (cases h; rfl) | (split at h <;> cases h; rfl)
theorem quotient_num {k : Nat} {a b d : Datum} (h : a.quotient k b = some d) : d.isNaN = false := by
  cases a <;> cases b <;> simp only [Datum.quotient] at h <;> first | (cases h; done) | (cases h; rfl) | (split at h <;> first | (cases h; rfl) | (split at h <;> cases h; rfl))
theorem root_num {k : Nat} {a d : Datum} (h : a.root k = some d) : d.isNaN = false := by
  cases a with
  | nan => simp [Datum.root] at h
  | infinity s => cases s <;> simp [Datum.root] at h; cases h; rfl
  | number s m i =>
    simp only [Datum.root] at h
    split at h
    · cases h; rfl
    · split at h
      · cases h
      · cases h; rfl

theorem map_write {o : Option Datum} {r : Nat} (h : o.map double.write = some r) : ∃ d, o = some d ∧ double.write d = r := by
  cases o with
  | none => cases h
  | some d => exact ⟨d, rfl, by simpa using h⟩
theorem add_num {x y r : Nat} (h : double.add x y = some r) : nanB r = false ∧ r < 18446744073709551616 := by
  refine ⟨?_, Format.add_lt _ h⟩
  obtain ⟨d, h1, rfl⟩ := map_write h
  exact write_num (sum_num h1)
theorem sub_num {x y r : Nat} (h : double.sub x y = some r) : nanB r = false ∧ r < 18446744073709551616 := by
  refine ⟨?_, Format.sub_lt _ h⟩
  obtain ⟨d, h1, rfl⟩ := map_write h
  exact write_num (sum_num h1)
theorem mul_num {x y r : Nat} (h : double.mul x y = some r) : nanB r = false ∧ r < 18446744073709551616 := by
  refine ⟨?_, Format.mul_lt _ h⟩
  obtain ⟨d, h1, rfl⟩ := map_write h
  exact write_num (product_num h1)
theorem div_num {x y r : Nat} (h : double.div x y = some r) : nanB r = false ∧ r < 18446744073709551616 := by
  refine ⟨?_, Format.div_lt _ h⟩
  obtain ⟨d, h1, rfl⟩ := map_write h
  exact write_num (quotient_num h1)
theorem sqrt_num {x r : Nat} (h : double.sqrt x = some r) : nanB r = false ∧ r < 18446744073709551616 := by
  refine ⟨?_, Format.sqrt_lt _ h⟩
  obtain ⟨d, h1, rfl⟩ := map_write h
  exact write_num (root_num h1)
theorem fma_num {x y z r : Nat} (h : double.fma x y z = some r) : nanB r = false ∧ r < 18446744073709551616 := by
  refine ⟨?_, Format.fma_lt _ h⟩
  obtain ⟨d, h1, rfl⟩ := map_write h
  obtain ⟨p, h2, h3⟩ := Option.bind_eq_some_iff.1 h1
  exact write_num (sum_num h3)

/-- A word that is a number or an infinity, read. -/
theorem rd_cases {x : Nat} (hx : x < 18446744073709551616) (nx : nanB x = false) :
    (rg x < 9218868437227405312 ∧ double.read x = .number (sg x) (mm (rg x)) (pp (rg x))) ∨ (rg x = 9218868437227405312 ∧ double.read x = .infinity (sg x)) := by
  unfold nanB at nx; rw [decide_eq_false_iff_not] at nx
  by_cases c : rg x < 9218868437227405312
  · left; exact ⟨c, by rw [read_eq hx, rd_mp c]⟩
  · right
    have : rg x = 9218868437227405312 := by omega
    exact ⟨this, by rw [read_eq hx, this]; rfl⟩
theorem rd_nan {x : Nat} (hx : x < 18446744073709551616) (nx : nanB x = true) : double.read x = .nan (sg x) (rg x - 9218868437227405312) := by
  unfold nanB at nx; rw [decide_eq_true_eq] at nx
  rw [read_eq hx]; unfold rd; rw [if_neg (by omega), if_neg (by omega), if_neg (by omega)]

theorem add_nan_l {x y : Nat} (hx : x < 18446744073709551616) (nx : nanB x = true) : double.add x y = none := by
  unfold Format.add; rw [rd_nan hx nx]; simp [Datum.sum]
theorem add_nan_r {x y : Nat} (hy : y < 18446744073709551616) (ny : nanB y = true) : double.add x y = none := by
  unfold Format.add; rw [rd_nan hy ny]; cases double.read x <;> simp [Datum.sum]

/-- A difference of two of which one is finite. -/
theorem sub_some {x y : Nat} (hx : x < 18446744073709551616) (hy : y < 18446744073709551616) (nx : nanB x = false) (ny : nanB y = false)
    (h : rg x < 9218868437227405312 ∨ rg y < 9218868437227405312) : ∃ r, double.sub x y = some r := by
  unfold Format.sub
  rcases rd_cases hx nx with ⟨c, e⟩ | ⟨c, e⟩ <;> rcases rd_cases hy ny with ⟨d, g⟩ | ⟨d, g⟩ <;> rw [e, g] <;> simp [Datum.sum, Datum.opposite]
  omega
theorem fma_some {x y z : Nat} (hx : x < 18446744073709551616) (hy : y < 18446744073709551616) (hz : z < 18446744073709551616)
    (fx : rg x < 9218868437227405312) (fy : rg y < 9218868437227405312) (nz : nanB z = false) : ∃ r, double.fma x y z = some r := by
  unfold Format.fma
  rw [read_eq hx, read_eq hy, rd_mp fx, rd_mp fy]
  rcases rd_cases hz nz with ⟨c, e⟩ | ⟨c, e⟩ <;> rw [e] <;> simp [Datum.product, Datum.sum]
theorem fma_some' {x y z : Nat} (hx : x < 18446744073709551616) (hy : y < 18446744073709551616) (hz : z < 18446744073709551616)
    (nx : nanB x = false) (fy : rg y < 9218868437227405312) (zy : rg y ≠ 0) (fz : rg z < 9218868437227405312) : ∃ r, double.fma x y z = some r := by
  unfold Format.fma
  rw [read_eq hy, read_eq hz, rd_mp fy, rd_mp fz]
  rcases rd_cases hx nx with ⟨c, e⟩ | ⟨c, e⟩ <;> rw [e] <;> simp [Datum.product, Datum.sum]
  rw [if_neg (by rw [mm_zero]; exact zy)]; exact ⟨_, rfl⟩
end Go.Proofs.Ytmjkihclaccidaa
