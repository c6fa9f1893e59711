/- The document's sums, differences, lengths and order, bit by bit. Numbers are below 2^256. -/
import Derived.Test.YtgmgejjlhlibkaaRefWA
import Derived.Deep.QuietTactic
import Derived.BigQuiet
namespace Go.Proofs.Ytgmgejjlhlibkaa
theorem Keeps.drewN {W0 W : World} {l : List (Nat × Array Value × TypeId)} (h : Keeps W0 l W) (n : Nat) : Keeps W0 l (W.drewN n) := ⟨h.rows, h.base, h.apart, ⟨h.bel.os, h.bel.tape, h.bel.output, h.bel.size, h.bel.block⟩⟩
end Go.Proofs.Ytgmgejjlhlibkaa
namespace Go.Proofs.Ytgmgejjlhlibkaa.Oct
set_option linter.unusedVariables false
open Go.Proofs.Ytgmgejjlhlibkaa Go.RowKit Go.Shelf

/-- What is carried into place i of a sum. -/
def carry (a b i : Nat) : Nat := (a % 2 ^ i + b % 2 ^ i) / 2 ^ i
theorem carry_zero (a b : Nat) : carry a b 0 = 0 := by simp [carry, Nat.mod_one]
theorem carry_le (a b i : Nat) : carry a b i ≤ 1 := by
  unfold carry
  have h1 := Nat.mod_lt a (Nat.two_pow_pos i)
  have h2 := Nat.mod_lt b (Nat.two_pow_pos i)
  have := (Nat.div_lt_iff_lt_mul (Nat.two_pow_pos i) (x := a % 2 ^ i + b % 2 ^ i) (y := 2)).2 (by omega)
  omega
theorem carry_step (a b i : Nat) : bitOf (a + b) i = (bitOf a i + bitOf b i + carry a b i) % 2 ∧ carry a b (i + 1) = (bitOf a i + bitOf b i + carry a b i) / 2 := by
  have hP := Nat.two_pow_pos i
  have ha := Nat.div_add_mod a (2 ^ i)
  have hb := Nat.div_add_mod b (2 ^ i)
  have h1 : (a + b) / 2 ^ i = a / 2 ^ i + b / 2 ^ i + carry a b i := by
    have e : a + b = 2 ^ i * (a / 2 ^ i + b / 2 ^ i) + (a % 2 ^ i + b % 2 ^ i) := by rw [Nat.mul_add]; omega
    rw [e, Nat.mul_add_div hP]
    rfl
  constructor
  · unfold bitOf
    rw [h1]
    omega
  · have e : carry a b (i + 1) = ((a % 2 ^ i + b % 2 ^ i) / 2 ^ i + (bitOf a i + bitOf b i)) / 2 := by
      unfold carry bitOf
      rw [Nat.pow_succ, Nat.mod_mul, Nat.mod_mul, ← Nat.div_div_eq_div_mul]
      congr 1
      rw [show a % 2 ^ i + 2 ^ i * (a / 2 ^ i % 2) + (b % 2 ^ i + 2 ^ i * (b / 2 ^ i % 2)) = 2 ^ i * (a / 2 ^ i % 2 + b / 2 ^ i % 2) + (a % 2 ^ i + b % 2 ^ i) by rw [Nat.mul_add]; omega, Nat.mul_add_div hP, Nat.add_comm]
    rw [e]
    show _ = (bitOf a i + bitOf b i + (a % 2 ^ i + b % 2 ^ i) / 2 ^ i) / 2
    rw [Nat.add_comm]

/-- The sum of two rows of bits. -/
def AddPost (w : World) (a b k : Nat) (e : Ending) (w' : World) : Prop :=
  ∃ g, e = .returned (.tuple #[.slice (some ⟨g, 0, none⟩) k k, .int .i64 (carry a b k : Int)]) ∧ w.heap.size ≤ g ∧ w'.heap[g]? = some (.cells (ibits (a + b) k) 3 (0, 0)) ∧ Below w.heap.size w w'

set_option maxRecDepth 100000 in
set_option maxHeartbeats 2000000 in
theorem radd_any (a b k g1 g2 : Nat) (hk : k ≤ 1000000) (w : World) (h1 : w.heap[g1]? = some (.cells (ibits a k) 3 (0, 0))) (h2 : w.heap[g2]? = some (.cells (ibits b k) 3 (0, 0))) :
    Calls Try.prog 52 #[.slice (some ⟨g1, 0, none⟩) k k, .slice (some ⟨g2, 0, none⟩) k k] w (AddPost w a b k) := by
  have hm := fun W => makeInts k hk W
  have hl1 : g1 < w.heap.size := (Array.getElem?_eq_some_iff.1 h1).1
  have hl2 : g2 < w.heap.size := (Array.getElem?_eq_some_iff.1 h2).1
  have hH0 := (Keeps.nil w).new (pbits 0 k 0) 3
  simp only [List.nil_append] at hH0
  have H1 := Lib.hid h1
  have H2 := Lib.hid h2
  clear h1 h2
  go_enter Try.func52, Try.ntmps52
  go_wp2
  go_loopw [7, 8] (fun u v wr => ∃ i : Nat, i ≤ k ∧ v = .int .i64 (i : Int) ∧ u = .int .i64 (carry a b i : Int) ∧ Keeps w [(w.heap.size, pbits (a + b) k i, 3)] wr) (fun _ v _ => k - (RowKit.intOf v).toNat)
  case atStart => exact ⟨0, by omega, rfl, by rw [carry_zero]; rfl, by rw [pbits_zero (a + b) 0]; exact hH0⟩
  case round =>
    obtain ⟨i, hi, rfl, rfl, hH⟩ := hrel
    clear hH0 hm
    by_cases hlt : i < k
    · have hca : wr.cell? ⟨g1, i, none⟩ = some (.int .i64 (bitOf a i : Int)) := (hH.bel.cell (p := ⟨g1, i, none⟩) hl1).trans ((cell_of_row _ _ _ _ _ _ H1.out).trans (ibits_get _ _ _ hlt))
      have hcb : wr.cell? ⟨g2, i, none⟩ = some (.int .i64 (bitOf b i : Int)) := (hH.bel.cell (p := ⟨g2, i, none⟩) hl2).trans ((cell_of_row _ _ _ _ _ _ H2.out).trans (ibits_get _ _ _ hlt))
      have hcc := hH.cellOf 0 rfl i
      rw [pbits_get _ _ _ _ hlt, if_neg (by omega)] at hcc
      have hfc := hH.frozen 0 rfl i
      obtain ⟨e1, e2⟩ := carry_step a b i
      have c0 := carry_le a b i
      have b1 := bitOf_le a i
      have b2 := bitOf_le b i
      have hset := fun n => (hH.drewN n).cellSet 0 rfl i (.int .i64 (bitOf (a + b) i : Int))
      simp only [List.set_cons_zero, pbits_set _ _ _ hlt] at hset
      obtain ⟨x, hx⟩ : ∃ x, bitOf a i = x := ⟨_, rfl⟩
      obtain ⟨y, hy⟩ : ∃ y, bitOf b i = y := ⟨_, rfl⟩
      obtain ⟨c, hc⟩ : ∃ c, carry a b i = c := ⟨_, rfl⟩
      rw [hx, hy, hc] at e1 e2
      rw [hx] at hca b1
      rw [hy] at hcb b2
      rw [hc] at c0 ⊢
      have E2 := Lib.hid e2
      have ei : ((bitOf (a + b) i : Nat) : Int) = ((x : Int) + y + c) % 2 := by rw [e1]; omega
      have e2i : ((carry a b (i + 1) : Nat) : Int) = ((x : Int) + y + c) / 2 := by rw [e2]; omega
      rw [ei] at hset
      have E2I := Lib.hid e2i
      clear ei e2i
      have HSET := Lib.hid hset
      clear hset hH e1 e2 hx hy hc
      have w1 : IntKind.i64.wrap ((x : Int) + y) = (x : Int) + y := IntWalk.i64_in _ (by omega)
      have w2 : IntKind.i64.wrap ((x : Int) + y + c) = (x : Int) + y + c := IntWalk.i64_in _ (by omega)
      go_wp2
      go_quiet (fail)
      go_wp2
      go_roundw
      case rel => exact ⟨i + 1, by omega, by go_num, by rw [E2I.out], HSET.out _⟩
      case measure => simp [RowKit.intOf]; omega
    · obtain rfl : i = k := by omega
      go_wp2
      go_ret2
      exact ⟨w.heap.size, rfl, Nat.le_refl _, hH.get 0 rfl, hH.bel⟩
end Go.Proofs.Ytgmgejjlhlibkaa.Oct
