/- The walk of Mirror. -/
import Derived.Test.YtmjkihclaccidaaMirrorMath
import Derived.Test.YtmjkihclaccidaaNearWalk
import Derived.Deep.QuietTactic
import Derived.BigQuiet
namespace Go.Proofs.Ytmjkihclaccidaa
open Go.RowKit

theorem add_q (a b : Nat) (up : Bool) (ha : a < 18446744073709551616) (hb : b < 18446744073709551616) (w : World) :
    Calls Try.prog 6 #[.int .u64 a, .int .u64 b, .bool up] w fun e w' => e = .returned (.int .u64 ((word (sumF a b up) : Nat) : Int)) ∧ ∃ k, w' = w.drewN k :=
  (add_any a b up ha hb w).mono fun _ _ ⟨k, he, hw⟩ => ⟨he, k, hw⟩
theorem mul_q (a b : Nat) (up : Bool) (ha : a < 18446744073709551616) (hb : b < 18446744073709551616) (w : World) :
    Calls Try.prog 7 #[.int .u64 a, .int .u64 b, .bool up] w fun e w' => e = .returned (.int .u64 ((word (prodF a b up) : Nat) : Int)) ∧ ∃ k, w' = w.drewN k :=
  (mul_any a b up ha hb w).mono fun _ _ ⟨k, he, hw⟩ => ⟨he, k, hw⟩
theorem div_q (a b : Nat) (up : Bool) (ha : a < 18446744073709551616) (hb : b < 18446744073709551616) (w : World) :
    Calls Try.prog 8 #[.int .u64 a, .int .u64 b, .bool up] w fun e w' => e = .returned (.int .u64 ((word (quoF a b up) : Nat) : Int)) ∧ ∃ k, w' = w.drewN k :=
  (div_any a b up ha hb w).mono fun _ _ ⟨k, he, hw⟩ => ⟨he, k, hw⟩

/-- As Calls.quiet_of, where draws stood before the region. -/
theorem quiet_past {P : Program} {f : FuncId} {args : Array Value} {w : World} {q n : Nat} {v : Value}
    (h : Calls P f args (w.drewN (q + n)) fun e w' => e = .returned v ∧ ∃ m, w' = (w.drewN (q + n)).drewN m) : Calls P f args (w.drewN (q + n)) fun e w'' => e = .returned v ∧ ∃ m, w'' = w.drewN (q + m) :=
  h.mono fun _ _ ⟨he, m, hm⟩ => ⟨he, n + m, by rw [hm, World.drewN_drewN, Nat.add_assoc]⟩
theorem quiet_past_same {P : Program} {f : FuncId} {args : Array Value} {w : World} {q n : Nat} {v : Value}
    (h : Calls P f args (w.drewN (q + n)) fun e w' => e = .returned v ∧ w' = w.drewN (q + n)) : Calls P f args (w.drewN (q + n)) fun e w'' => e = .returned v ∧ ∃ m, w'' = w.drewN (q + m) :=
  h.mono fun _ _ ⟨he, hm⟩ => ⟨he, n, hm⟩

set_option maxRecDepth 20000 in
set_option maxHeartbeats 4000000 in
theorem mirror_law (blk off len cap : Nat) (O : Nat → Step) (w : World) (hb : blk < w.heap.size)
    (hel : ∀ k, k < len → LiesAt w blk off k (O k)) :
    Calls Try.prog 4 #[.slice (some ⟨blk, off, none⟩) len cap] w fun e w' => e = .returned (.bool true) ∧ Below w.heap.size w w' := by
  go_enter Try.func4, Try.ntmps4
  go_wp2
  go_loopw [3] (fun i wr => ∃ k : Nat, k ≤ len ∧ i = .int .i64 k ∧ Below w.heap.size w wr) (fun i _ => len - (intOf i).toNat)
  case atStart => exact ⟨0, Nat.zero_le _, rfl, Below.refl _ _⟩
  case round =>
    obtain ⟨k, hk, rfl, hbl⟩ := hrel
    by_cases hmx : k < 1152921504606846976
    rotate_left
    · by_cases hlt : k < len
      · have t1 : ((k : Int) < (len : Int)) = True := eq_true (by omega)
        have t2 : ((k : Int) < 1152921504606846976) = False := eq_false (by omega)
        clear hel hlt hk hmx
        go_wp2
        go_ret
        exact ⟨rfl, hbl⟩
      · have t1 : ((k : Int) < (len : Int)) = False := eq_false (by omega)
        clear hel hlt hk hmx
        go_wp2
        go_ret
        exact ⟨rfl, hbl⟩
    by_cases hlt : k < len
    · obtain ⟨h0, h1, h2, h3, h4, ha, hbb⟩ := hel k hlt
      have c0 := (hbl.cell (p := ⟨blk, off + k * 5, none⟩) hb).trans h0
      have c1 := (hbl.cell (p := ⟨blk, off + k * 5 + 1, none⟩) hb).trans h1
      have c2 := (hbl.cell (p := ⟨blk, off + k * 5 + 2, none⟩) hb).trans h2
      have c3 := (hbl.cell (p := ⟨blk, off + k * 5 + 3, none⟩) hb).trans h3
      have c4 := (hbl.cell (p := ⟨blk, off + k * 5 + 4, none⟩) hb).trans h4
      clear h0 h1 h2 h3 h4 hel
      generalize (O k).kind = K at c0
      generalize (O k).a = A at c1 ha
      generalize (O k).b = B at c2 hbb
      generalize (O k).up = U at c3
      generalize (O k).s = S at c4
      have e1 := (sum_mirror U ha hbb).symm
      have e2 := (prod_mirror (b := B) U ha).symm
      have e3 := (quo_mirror (b := B) U ha).symm
      have n1 := hide (near_lt (sum_near (ng B) (ng A) (ng_lt B)))
      have n2 := hide (near_lt (prod_near B (ng A)))
      have n3 := hide (near_lt (quo_near (ng A) B))
      have t1 : (k : Int) < (len : Int) := by omega
      have t2 : ((k : Int) < 1152921504606846976) = True := eq_true (by omega)
      have Ha := hide ha
      have Hb := hide hbb
      have Hl := hide hlt
      have Hbl := hide hbl
      have Hn := hide hmx
      clear hmx hlt hk hbl ha hbb
      go_wp2_with (first
        | (go_at_call 6; refine (add_any _ _ _ (unhide Ha) (unhide Hb) _).mono ?_; rintro e w' ⟨q, rfl, rfl⟩))
      go_quiet (first
        | (go_at_call 13; refine quiet_past_same (minus_any _ (by first | exact unhide Ha | exact unhide Hb) _))
        | (go_at_call 6; refine quiet_past (add_q _ _ _ (ng_lt _) (ng_lt _) _)))
      go_wp2_with (first
        | (go_at_call 7; refine (mul_any _ _ _ (unhide Ha) (unhide Hb) _).mono ?_; rintro e w' ⟨q2, rfl, rfl⟩))
      go_quiet (first
        | (go_at_call 13; refine quiet_past_same (minus_any _ (unhide Ha) _))
        | (go_at_call 7; refine quiet_past (mul_q _ _ _ (unhide Hb) (ng_lt _) _)))
      go_wp2_with (first
        | (go_at_call 8; refine (div_any _ _ _ (unhide Ha) (unhide Hb) _).mono ?_; rintro e w' ⟨q3, rfl, rfl⟩))
      go_quiet (first
        | (go_at_call 13; refine quiet_past_same (minus_any _ (unhide Ha) _))
        | (go_at_call 8; refine quiet_past (div_q _ _ _ (ng_lt _) (unhide Hb) _)))
      go_wp2_with (first
        | (go_at_call 14; refine (other_any _ (by cases U <;> first | exact (unhide n1).1 | exact (unhide n1).2 | exact (unhide n2).1 | exact (unhide n2).2 | exact (unhide n3).1 | exact (unhide n3).2) _).mono ?_; rintro e w' ⟨rfl, rfl⟩))
      all_goals exact round_end (unhide Hl) (unhide Hn) (unhide Hbl)
    · have t1 : ((k : Int) < (len : Int)) = False := eq_false (by omega)
      clear hel hlt hk hmx
      go_wp2
      go_ret
      exact ⟨rfl, hbl⟩

set_option maxRecDepth 20000 in
set_option maxHeartbeats 1000000 in
theorem mirror_nil (p : Option Addr) (cap : Nat) (w : World) :
    Calls Try.prog 4 #[.slice p 0 cap] w fun e w' => e = .returned (.bool true) ∧ w' = w := by
  go_enter Try.func4, Try.ntmps4
  go_wp2
  go_loop [3] (fun i => i = .int .i64 0) (fun _ => 0)
  case atStart => rfl
  case round =>
    subst hrel
    go_wp2
    go_ret
    exact ⟨rfl, rfl⟩
end Go.Proofs.Ytmjkihclaccidaa
