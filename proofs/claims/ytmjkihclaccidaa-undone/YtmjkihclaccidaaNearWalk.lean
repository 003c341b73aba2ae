/- The walk of Near. -/
import Derived.Test.YtmjkihclaccidaaNearMath
import Derived.LoopTactic
import Derived.Below
import Derived.WalkSmall
namespace Go.Proofs.Ytmjkihclaccidaa
open Go.RowKit

theorem hide {p : Prop} (h : p) : Hid p := h
theorem unhide {p : Prop} (h : Hid p) : p := h

/-- What an element of a script holds. -/
structure Step where
  kind : Int
  a : Nat
  b : Nat
  up : Bool
  s : ByteArray

/-- Element i of a script, as it lies. -/
def LiesAt (w : World) (blk off : Nat) (k : Nat) (o : Step) : Prop :=
  w.cell? ⟨blk, off + k * 5, none⟩ = some (.int .i64 o.kind) ∧ w.cell? ⟨blk, off + k * 5 + 1, none⟩ = some (.int .u64 (o.a : Int)) ∧
  w.cell? ⟨blk, off + k * 5 + 2, none⟩ = some (.int .u64 (o.b : Int)) ∧ w.cell? ⟨blk, off + k * 5 + 3, none⟩ = some (.bool o.up) ∧
  w.cell? ⟨blk, off + k * 5 + 4, none⟩ = some (.string o.s) ∧ o.a < 18446744073709551616 ∧ o.b < 18446744073709551616

theorem round_end {w wr : World} {X : Obj} {len k q : Nat} (hk : k < len) (hl : k < 1152921504606846976) (h : Below w.heap.size w wr) :
    (∃ k' : Nat, k' ≤ len ∧ Value.int .i64 (wrap64 ((k : Int) + 1)) = .int .i64 (k' : Int) ∧ Below w.heap.size w ((wr.alloc X).drewN q)) ∧
      len - (intOf (Value.int .i64 (wrap64 ((k : Int) + 1)))).toNat < len - (intOf (Value.int .i64 (k : Int))).toNat := by
  have e : wrap64 ((k : Int) + 1) = ((k + 1 : Nat) : Int) := by unfold wrap64; omega
  rw [e]
  exact ⟨⟨k + 1, by omega, rfl, (h.alloc h.size X).trans ⟨rfl, rfl, rfl, Nat.le_refl _, fun _ _ => rfl⟩⟩, by simp only [intOf]; omega⟩

set_option maxRecDepth 20000 in
set_option maxHeartbeats 4000000 in
theorem near_law (blk off len cap : Nat) (O : Nat → Step) (w : World) (hb : blk < w.heap.size) 
    (hel : ∀ k, k < len → LiesAt w blk off k (O k)) :
    Calls Try.prog 3 #[.slice (some ⟨blk, off, none⟩) len cap] w fun e w' => e = .returned (.bool true) ∧ Below w.heap.size w w' := by
  go_enter Try.func3, Try.ntmps3
  go_wp2
  go_loopw [3] (fun i wr => ∃ k : Nat, k ≤ len ∧ i = .int .i64 k ∧ Below w.heap.size w wr) (fun i _ => len - (intOf i).toNat)
  case atStart => exact ⟨0, Nat.zero_le _, rfl, Below.refl _ _⟩
  case round =>
    obtain ⟨k, hk, rfl, hbl⟩ := hrel
    by_cases hmx : k < 1152921504606846976
    rotate_left
    · by_cases hlt : k < len
      · have t1 : ((k : Int) < (len : Int)) = True := eq_true (by omega)
        have t2 : ((k : Int) < 1152921504606846976) = False := eq_false (by omega)
        clear hel hlt hk hmx
        go_wp2
        go_ret
        exact ⟨rfl, hbl⟩
      · have t1 : ((k : Int) < (len : Int)) = False := eq_false (by omega)
        clear hel hlt hk hmx
        go_wp2
        go_ret
        exact ⟨rfl, hbl⟩
    by_cases hlt : k < len
    · obtain ⟨h0, h1, h2, h3, h4, ha, hbb⟩ := hel k hlt
      have c0 := (hbl.cell (p := ⟨blk, off + k * 5, none⟩) hb).trans h0
      have c1 := (hbl.cell (p := ⟨blk, off + k * 5 + 1, none⟩) hb).trans h1
      have c2 := (hbl.cell (p := ⟨blk, off + k * 5 + 2, none⟩) hb).trans h2
      have c3 := (hbl.cell (p := ⟨blk, off + k * 5 + 3, none⟩) hb).trans h3
      have c4 := (hbl.cell (p := ⟨blk, off + k * 5 + 4, none⟩) hb).trans h4
      clear h0 h1 h2 h3 h4 hel
      generalize (O k).kind = K at c0
      generalize (O k).a = A at c1 ha
      generalize (O k).b = B at c2 hbb
      generalize (O k).up = U at c3
      generalize (O k).s = S at c4
      have n1 : Hid (NearOk (word (sumF A B false)) (word (sumF A B true))) := hide (sum_near A B ha)
      have n2 : Hid (NearOk (word (prodF A B false)) (word (prodF A B true))) := hide (prod_near A B)
      have n3 : Hid (NearOk (word (quoF A B false)) (word (quoF A B true))) := hide (quo_near A B)
      have n4 : Hid (NearOk (word (rootF A false)) (word (rootF A true))) := hide (root_near A)
      have q1 := low_bits ha
      have t1 : (k : Int) < (len : Int) := by omega
      have t2 : ((k : Int) < 1152921504606846976) = True := eq_true (by omega)
      have Ha := hide ha
      have Hb := hide hbb
      have Hl := hide hlt
      have Hbl := hide hbl
      have Hn := hide hmx
      clear hmx hlt hk hbl
      cases cn : nanB A with
      | true =>
        clear ha hbb
        go_wp2_with (first
          | (go_at_call 6; refine (add_any _ _ _ (unhide Ha) (unhide Hb) _).mono ?_; rintro e w' ⟨q, rfl, rfl⟩)
          | (go_at_call 7; refine (mul_any _ _ _ (unhide Ha) (unhide Hb) _).mono ?_; rintro e w' ⟨q, rfl, rfl⟩)
          | (go_at_call 8; refine (div_any _ _ _ (unhide Ha) (unhide Hb) _).mono ?_; rintro e w' ⟨q, rfl, rfl⟩)
          | (go_at_call 9; refine (rt_any _ _ (unhide Ha) _).mono ?_; rintro e w' ⟨q, rfl, rfl⟩)
          | (go_at_call 10; refine (near_any _ _ (by first | exact unhide n1 | exact unhide n2 | exact unhide n3 | exact unhide n4) _).mono ?_; rintro e w' ⟨rfl, rfl⟩)
          | (go_at_call 11; refine (number_any _ (unhide Ha) _).mono ?_; rintro e w' ⟨rfl, rfl⟩))
        all_goals exact round_end (unhide Hl) (unhide Hn) (unhide Hbl)
      | false =>
        by_cases c2 : rg A = 0
        · rw [c2, show ((0 : Nat) : Int) = 0 from rfl] at q1
          clear c2 ha hbb
          go_wp2_with (first
            | (go_at_call 6; refine (add_any _ _ _ (unhide Ha) (unhide Hb) _).mono ?_; rintro e w' ⟨q, rfl, rfl⟩)
            | (go_at_call 7; refine (mul_any _ _ _ (unhide Ha) (unhide Hb) _).mono ?_; rintro e w' ⟨q, rfl, rfl⟩)
            | (go_at_call 8; refine (div_any _ _ _ (unhide Ha) (unhide Hb) _).mono ?_; rintro e w' ⟨q, rfl, rfl⟩)
            | (go_at_call 9; refine (rt_any _ _ (unhide Ha) _).mono ?_; rintro e w' ⟨q, rfl, rfl⟩)
            | (go_at_call 10; refine (near_any _ _ (by first | exact unhide n1 | exact unhide n2 | exact unhide n3 | exact unhide n4) _).mono ?_; rintro e w' ⟨rfl, rfl⟩)
            | (go_at_call 11; refine (number_any _ (unhide Ha) _).mono ?_; rintro e w' ⟨rfl, rfl⟩))
          all_goals exact round_end (unhide Hl) (unhide Hn) (unhide Hbl)
        · obtain ⟨r, hr⟩ : ∃ r, rg A = r + 1 := ⟨rg A - 1, by omega⟩
          rw [hr, show ((r + 1 : Nat) : Int) = (r : Int) + 1 from rfl] at q1
          clear hr
          by_cases c3 : A < 9218868437227405312
          · have t4 : ((A : Int) < 9218868437227405312) = True := eq_true (by omega)
            have t5 : (od (word (rootF A false)) ≤ 0) = False := eq_false (by have := root_pos A c3 (by intro c; subst c; exact c2 (by decide)); omega)
            have t6 : (od (word (quoF A B true)) < od (word (quoF A B false))) = False := eq_false (by have := near_le_od (unhide n3); omega)
            clear c2 c3 ha hbb
            go_wp2_with (first
              | (go_at_call 6; refine (add_any _ _ _ (unhide Ha) (unhide Hb) _).mono ?_; rintro e w' ⟨q, rfl, rfl⟩)
              | (go_at_call 7; refine (mul_any _ _ _ (unhide Ha) (unhide Hb) _).mono ?_; rintro e w' ⟨q, rfl, rfl⟩)
              | (go_at_call 8; refine (div_any _ _ _ (unhide Ha) (unhide Hb) _).mono ?_; rintro e w' ⟨q, rfl, rfl⟩)
              | (go_at_call 9; refine (rt_any _ _ (unhide Ha) _).mono ?_; rintro e w' ⟨q, rfl, rfl⟩)
              | (go_at_call 10; refine (near_any _ _ (by first | exact unhide n1 | exact unhide n2 | exact unhide n3 | exact unhide n4) _).mono ?_; rintro e w' ⟨rfl, rfl⟩)
              | (go_at_call 12; refine (order_any _ (by first | exact (near_lt (unhide n3)).1 | exact (near_lt (unhide n3)).2 | exact (near_lt (unhide n4)).1) _).mono ?_; rintro e w' ⟨rfl, rfl⟩)
              | (go_at_call 11; refine (number_any _ (unhide Ha) _).mono ?_; rintro e w' ⟨rfl, rfl⟩))
            all_goals exact round_end (unhide Hl) (unhide Hn) (unhide Hbl)
          · have t4 : ((A : Int) < 9218868437227405312) = False := eq_false (by omega)
            clear c2 c3 ha hbb
            go_wp2_with (first
              | (go_at_call 6; refine (add_any _ _ _ (unhide Ha) (unhide Hb) _).mono ?_; rintro e w' ⟨q, rfl, rfl⟩)
              | (go_at_call 7; refine (mul_any _ _ _ (unhide Ha) (unhide Hb) _).mono ?_; rintro e w' ⟨q, rfl, rfl⟩)
              | (go_at_call 8; refine (div_any _ _ _ (unhide Ha) (unhide Hb) _).mono ?_; rintro e w' ⟨q, rfl, rfl⟩)
              | (go_at_call 9; refine (rt_any _ _ (unhide Ha) _).mono ?_; rintro e w' ⟨q, rfl, rfl⟩)
              | (go_at_call 10; refine (near_any _ _ (by first | exact unhide n1 | exact unhide n2 | exact unhide n3 | exact unhide n4) _).mono ?_; rintro e w' ⟨rfl, rfl⟩)
              | (go_at_call 11; refine (number_any _ (unhide Ha) _).mono ?_; rintro e w' ⟨rfl, rfl⟩))
            all_goals exact round_end (unhide Hl) (unhide Hn) (unhide Hbl)
    · have t1 : ((k : Int) < (len : Int)) = False := eq_false (by omega)
      clear hel hlt hk hmx
      go_wp2
      go_ret
      exact ⟨rfl, hbl⟩

set_option maxRecDepth 20000 in
set_option maxHeartbeats 1000000 in
theorem near_nil (p : Option Addr) (cap : Nat) (w : World) :
    Calls Try.prog 3 #[.slice p 0 cap] w fun e w' => e = .returned (.bool true) ∧ w' = w := by
  go_enter Try.func3, Try.ntmps3
  go_wp2
  go_loop [3] (fun i => i = .int .i64 0) (fun _ => 0)
  case atStart => rfl
  case round =>
    subst hrel
    go_wp2
    go_ret
    exact ⟨rfl, rfl⟩
end Go.Proofs.Ytmjkihclaccidaa
