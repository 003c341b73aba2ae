/- The walk of Undone. -/
import Derived.Test.YtmjkihclaccidaaUMath
import Derived.Test.YtmjkihclaccidaaMirrorWalk
namespace Go.Proofs.Ytmjkihclaccidaa
open Go.RowKit

theorem word_sum_lt (a b : Nat) (up : Bool) (ha : a < 18446744073709551616) : word (sumF a b up) < 18446744073709551616 := by
  have := near_lt (sum_near a b ha); cases up <;> omega
theorem word_prod_lt (a b : Nat) (up : Bool) : word (prodF a b up) < 18446744073709551616 := by
  have := near_lt (prod_near a b); cases up <;> omega
theorem word_quo_lt (a b : Nat) (up : Bool) : word (quoF a b up) < 18446744073709551616 := by
  have := near_lt (quo_near a b); cases up <;> omega
theorem word_root_lt (a : Nat) (up : Bool) : word (rootF a up) < 18446744073709551616 := by
  have := near_lt (root_near a); cases up <;> omega

set_option maxRecDepth 20000 in
set_option maxHeartbeats 4000000 in
theorem undone_law (blk off len cap : Nat) (O : Nat → Step) (w : World) (hb : blk < w.heap.size)
    (hel : ∀ k, k < len → LiesAt w blk off k (O k)) :
    Calls Try.prog 5 #[.slice (some ⟨blk, off, none⟩) len cap] w fun e w' => e = .returned (.bool true) ∧ Below w.heap.size w w' := by
  go_enter Try.func5, Try.ntmps5
  go_wp2
  go_loopw [3] (fun i wr => ∃ k : Nat, k ≤ len ∧ i = .int .i64 k ∧ Below w.heap.size w wr) (fun i _ => len - (intOf i).toNat)
  case atStart => exact ⟨0, Nat.zero_le _, rfl, Below.refl _ _⟩
  case round =>
    obtain ⟨k, hk, rfl, hbl⟩ := hrel
    by_cases hmx : k < 1152921504606846976
    rotate_left
    · by_cases hlt : k < len
      · have t1 : ((k : Int) < (len : Int)) = True := eq_true (by omega)
        have t2 : ((k : Int) < 1152921504606846976) = False := eq_false (by omega)
        clear hel hlt hk hmx
        go_wp2
        go_ret
        exact ⟨rfl, hbl⟩
      · have t1 : ((k : Int) < (len : Int)) = False := eq_false (by omega)
        clear hel hlt hk hmx
        go_wp2
        go_ret
        exact ⟨rfl, hbl⟩
    by_cases hlt : k < len
    · obtain ⟨h0, h1, h2, h3, h4, ha, hbb⟩ := hel k hlt
      have c0 := (hbl.cell (p := ⟨blk, off + k * 5, none⟩) hb).trans h0
      have c1 := (hbl.cell (p := ⟨blk, off + k * 5 + 1, none⟩) hb).trans h1
      have c2 := (hbl.cell (p := ⟨blk, off + k * 5 + 2, none⟩) hb).trans h2
      have c3 := (hbl.cell (p := ⟨blk, off + k * 5 + 3, none⟩) hb).trans h3
      have c4 := (hbl.cell (p := ⟨blk, off + k * 5 + 4, none⟩) hb).trans h4
      clear h0 h1 h2 h3 h4 hel
      generalize (O k).kind = K at c0
      generalize (O k).a = A at c1 ha
      generalize (O k).b = B at c2 hbb
      generalize (O k).up = U at c3
      generalize (O k).s = S at c4
      have t1 : (k : Int) < (len : Int) := by omega
      have t2 : ((k : Int) < 1152921504606846976) = True := eq_true (by omega)
      have Ha := hide ha
      have Hb := hide hbb
      have Hl := hide hlt
      have Hbl := hide hbl
      have Hn := hide hmx
      clear hmx hlt hk hbl ha hbb
      cases pA : plainB A with
      | false =>
        go_wp2_with (first
          | (go_at_call 15; refine (plain_any _ _).mono ?_; rintro e w' ⟨rfl, rfl⟩))
        all_goals exact round_end (q := 0) (unhide Hl) (unhide Hn) (unhide Hbl)
      | true =>
        cases pB : plainB B with
        | false =>
          go_wp2_with (first
            | (go_at_call 15; refine (plain_any _ _).mono ?_; rintro e w' ⟨rfl, rfl⟩))
          all_goals exact round_end (q := 0) (unhide Hl) (unhide Hn) (unhide Hbl)
        | true =>
          obtain ⟨a, ea, la⟩ : ∃ a, word (sumF (word (sumF A B false)) (ng B) false) = a ∧ Hid (od a ≤ od A ∧ a < 18446744073709551616) := ⟨_, rfl, sums_down pA pB, word_sum_lt _ _ _ (word_sum_lt _ _ _ (unhide Ha))⟩
          obtain ⟨b, eb, lb⟩ : ∃ b, word (sumF (word (sumF A B true)) (ng B) true) = b ∧ Hid (od A ≤ od b ∧ b < 18446744073709551616) := ⟨_, rfl, sums_up pA pB, word_sum_lt _ _ _ (word_sum_lt _ _ _ (unhide Ha))⟩
          obtain ⟨c, ec, c5, c6, _⟩ := quo_down pA pB
          obtain ⟨d, ed, d5, d6, _⟩ := quo_up pA pB
          obtain ⟨e, ee, e5, e6, _⟩ := square_down pA
          obtain ⟨f, ef, f5, f6, _⟩ := square_up pA
          have v1 : (od A < od a) = False := eq_false (by have := (unhide la).1; omega)
          have v2 : (od b < od A) = False := eq_false (by have := (unhide lb).1; omega)
          have v3 : (c : Int) ≤ (A : Int) := by omega
          have v4 : (A : Int) ≤ (d : Int) := by omega
          have v5 : (e : Int) ≤ (A : Int) := by omega
          have v6 : (A : Int) ≤ (f : Int) := by omega
          have x3 : (A : Int) ≤ (c : Int) + 2 := by omega
          have x4 : (d : Int) ≤ (A : Int) + 2 := by omega
          have x5 : (A : Int) ≤ (e : Int) + 4 := by omega
          have x6 : (f : Int) ≤ (A : Int) + 4 := by omega
          have y3 : ((A : Int) < (c : Int)) = False := eq_false (by omega)
          have y4 : ((d : Int) < (A : Int)) = False := eq_false (by omega)
          have y5 : ((A : Int) < (e : Int)) = False := eq_false (by omega)
          have y6 : ((f : Int) < (A : Int)) = False := eq_false (by omega)
          clear c5 c6 d5 d6 e5 e6 f5 f6
          go_wp2_with (first
            | (go_at_call 15; refine (plain_any _ _).mono ?_; rintro e w' ⟨rfl, rfl⟩))
          go_quiet (first
            | (go_at_call 13; refine Calls.quiet_of_same (minus_any _ (unhide Hb) _))
            | (go_at_call 6; refine Calls.quiet_of (add_q _ _ _ (by first | exact unhide Ha | exact word_sum_lt _ _ _ (unhide Ha)) (by first | exact unhide Hb | exact ng_lt _) _)))
          go_wp2_with fail
          go_quiet (first
            | (go_at_call 13; refine quiet_past_same (minus_any _ (unhide Hb) _))
            | (go_at_call 6; refine quiet_past (add_q _ _ _ (by first | exact unhide Ha | exact word_sum_lt _ _ _ (unhide Ha)) (by first | exact unhide Hb | exact ng_lt _) _)))
          go_wp2_with fail
          go_quiet (first
            | (go_at_call 7; refine quiet_past (mul_q _ _ _ (unhide Ha) (unhide Hb) _))
            | (go_at_call 8; refine quiet_past (div_q _ _ _ (word_prod_lt _ _ _) (unhide Hb) _)))
          go_wp2_with fail
          go_quiet (first
            | (go_at_call 7; refine quiet_past (mul_q _ _ _ (unhide Ha) (unhide Hb) _))
            | (go_at_call 8; refine quiet_past (div_q _ _ _ (word_prod_lt _ _ _) (unhide Hb) _)))
          go_wp2_with (first
            | (go_at_call 9; refine (rt_any _ _ (unhide Ha) _).mono ?_; rintro en w' ⟨q, rfl, rfl⟩)
            | (go_at_call 7; refine (mul_any _ _ _ (word_root_lt _ _) (word_root_lt _ _) _).mono ?_; rintro en w' ⟨q, rfl, rfl⟩))
          go_quiet (first
            | (go_at_call 12; refine quiet_past_same (order_any _ (by first | exact unhide Ha | exact (unhide la).2 | exact (unhide lb).2) _)))
          go_wp2_with fail
          all_goals exact round_end (unhide Hl) (unhide Hn) (unhide Hbl)
    · have t1 : ((k : Int) < (len : Int)) = False := eq_false (by omega)
      clear hel hlt hk hmx
      go_wp2
      go_ret
      exact ⟨rfl, hbl⟩

set_option maxRecDepth 20000 in
set_option maxHeartbeats 1000000 in
theorem undone_nil (p : Option Addr) (cap : Nat) (w : World) :
    Calls Try.prog 5 #[.slice p 0 cap] w fun e w' => e = .returned (.bool true) ∧ w' = w := by
  go_enter Try.func5, Try.ntmps5
  go_wp2
  go_loop [3] (fun i => i = .int .i64 0) (fun _ => 0)
  case atStart => rfl
  case round =>
    subst hrel
    go_wp2
    go_ret
    exact ⟨rfl, rfl⟩
end Go.Proofs.Ytmjkihclaccidaa
