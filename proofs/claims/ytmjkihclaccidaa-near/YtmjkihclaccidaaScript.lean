/- A script, opened: what lies where. -/
import Derived.Test.YtmjkihclaccidaaRows
import Derived.Test.YtmjkihclaccidaaNearWalk
import Derived.ProofKit
import Derived.ChangeSlices
import Derived.Deep.Slices
import Derived.Deep.Strs
namespace Go.Proofs.Ytmjkihclaccidaa
open Go.ChangeShapes Go.WideShapes Go.ChangeAt Go.RowKit Go.Deep

theorem Try.own : ownKnob Try.prog.godebug = none := by kernel_rfl
theorem Try.laidOut : laidOutB Try.prog = true := by kernel_rfl
theorem cells25 : Try.prog.cellsOf 25 = 5 := by kernel_rfl
theorem cells3 : Try.prog.cellsOf 3 = 1 := by kernel_rfl
theorem cells23 : Try.prog.cellsOf 23 = 1 := by kernel_rfl
theorem cells4 : Try.prog.cellsOf 4 = 1 := by kernel_rfl
theorem cells9 : Try.prog.cellsOf 9 = 1 := by kernel_rfl

section
variable {H : Type} {enc : TypeId × Value → H} {w : World} {base : Nat} {spare : Nat → Bool} {held : Bool}

theorem trod_struct5 {P : Program} {t : TypeId} {f0 f1 f2 f3 f4 : Field} {fuel : Nat} {cs : List Value} {x : DataW H × List MemPlace} (ht : P.underlying t = some (.struct #[f0, f1, f2, f3, f4])) (h : DataW.trod enc P w base spare held fuel t cs = some x) :
    ∃ y0 y1 y2 y3 y4 n, cs.length = P.cellsOf t ∧ DataW.trod enc P w base spare held n f0.type ((cs.drop f0.offset).take (P.cellsOf f0.type)) = some y0 ∧
      DataW.trod enc P w base spare held n f1.type ((cs.drop f1.offset).take (P.cellsOf f1.type)) = some y1 ∧ DataW.trod enc P w base spare held n f2.type ((cs.drop f2.offset).take (P.cellsOf f2.type)) = some y2 ∧
      DataW.trod enc P w base spare held n f3.type ((cs.drop f3.offset).take (P.cellsOf f3.type)) = some y3 ∧ DataW.trod enc P w base spare held n f4.type ((cs.drop f4.offset).take (P.cellsOf f4.type)) = some y4 := by
  obtain ⟨xs, n, _, rfl, hl, hlen, hf⟩ := DataW.trod_struct ht h
  match xs, hlen with
  | [y0, y1, y2, y3, y4], _ => exact ⟨y0, y1, y2, y3, y4, n, hl, by simpa using hf 0 f0 rfl, by simpa using hf 1 f1 rfl, by simpa using hf 2 f2 rfl, by simpa using hf 3 f3 rfl, by simpa using hf 4 f4 rfl⟩

theorem wf_u64 {n : Int} (h : (Lit.int .u64 n).wf = true) : ∃ a : Nat, n = a ∧ a < 18446744073709551616 := by
  have h1 : IntKind.min .u64 = 0 := by decide
  have h2 : IntKind.max .u64 = 18446744073709551615 := by decide
  simp only [Lit.wf, h1, h2, decide_eq_true_eq, Bool.and_eq_true] at h
  exact ⟨n.toNat, by omega, by omega⟩

/-- The first cell of a slice that has elements lies in no spot. -/
theorem spot_of {a : Addr} {cs : List Value} (hc : w.cells? base (a.add (0 * 5)) 5 = some cs) : a.spot = none := by
  obtain ⟨_, hl5, hcell⟩ := World.cells?_some hc
  have c0 := hcell 0 (by omega)
  match cs, hl5, c0 with
  | v :: _, _, c0 => exact World.cell?_spot (v := v) (by simpa [Addr.add] using c0)

/-- One element. -/
theorem step_of {blk off i n : Nat} {cs : List Value} {x : DataW H × List MemPlace} (hc : w.cells? base ((⟨blk, off, none⟩ : Addr).add (i * 5)) 5 = some cs) (h : DataW.trod enc Try.prog w base spare held n 25 cs = some x) :
    ∃ o : Step, LiesAt w blk off i o := by
  obtain ⟨y0, y1, y2, y3, y4, m, hl, t0, t1, t2, t3, t4⟩ := trod_struct5 Try.underlying25 h
  obtain ⟨_, hl5, hcell⟩ := World.cells?_some hc
  match cs, hl5, hcell, t0, t1, t2, t3, t4 with
  | [v0, v1, v2, v3, v4], _, hcell, t0, t1, t2, t3, t4 =>
    obtain ⟨k, e0, _, _⟩ := DataW.trod_int Try.underlying3 t0
    obtain ⟨A, e1, _, wa⟩ := DataW.trod_int Try.underlying23 t1
    obtain ⟨B, e2, _, wb⟩ := DataW.trod_int Try.underlying23 t2
    obtain ⟨u, e3, _⟩ := DataW.trod_bool Try.underlying4 t3
    obtain ⟨s, e4, _, _⟩ := DataW.trod_string Try.underlying9 t4
    simp [cells3] at e0; simp [cells23] at e1 e2; simp [cells4] at e3; simp [cells9] at e4
    subst e0 e1 e2 e3 e4
    obtain ⟨A', rfl, la⟩ := wf_u64 wa
    obtain ⟨B', rfl, lb⟩ := wf_u64 wb
    rw [add_plain] at hcell
    have c0 := hcell 0 (by omega)
    have c1 := hcell 1 (by omega)
    have c2 := hcell 2 (by omega)
    have c3 := hcell 3 (by omega)
    have c4 := hcell 4 (by omega)
    rw [add_plain] at c0 c1 c2 c3 c4
    refine ⟨⟨k, A', B', u, s⟩, ?_, ?_, ?_, ?_, ?_, la, lb⟩
    · simpa using c0
    · simpa using c1
    · simpa using c2
    · simpa using c3
    · simpa using c4
end
end Go.Proofs.Ytmjkihclaccidaa
