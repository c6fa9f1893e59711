/- Contracts of wide.Add: the sum modulo 2^256, and whether it went over. Both arguments are four words. -/
import Derived.Test.YtgmgejjlhlibkaaRows
import Derived.Test.YtgmgejjlhlibkaaPlain
import Derived.Test.YtgmgejjlhlibkaaKit
import Derived.WalkSpells
import Derived.WalkLawsBesides
import Derived.Lib.Hide
import Derived.RegionTactic
import Derived.BigRegion
import Derived.ChangeAlike
import Derived.Shelf.Spec.BitsCarry
namespace Go.Proofs.Ytgmgejjlhlibkaa
open Go.RowKit Go.Lib

/-- The cells of four words. -/
def cells4 (a0 a1 a2 a3 : Nat) : Array Value := #[.int .u64 a0, .int .u64 a1, .int .u64 a2, .int .u64 a3]

theorem run_addc (x y c : Nat) (hc : c ≤ 1) (w : World) :
    (callFunc 51 #[.int .u64 x, .int .u64 y, .int .u64 c]).run Try.prog w =
      .ok (.value (.tuple #[.int .u64 (((x + y + c) % 18446744073709551616 : Nat) : Int), .int .u64 (((x + y + c) / 18446744073709551616 : Nat) : Int)])) w := by
  rw [run_callFunc_extern Try.func51 (by kernel_rfl) (by kernel_rfl) (by kernel_rfl) (e := add64Entry) (by kernel_rfl), run_add64 x y c (by omega) (by omega) (by omega) (by omega)]
  simp only [Result.andThen]
  congr 5 <;> omega

theorem run_subc (x y c : Nat) (hc : c ≤ 1) (w : World) :
    (callFunc 53 #[.int .u64 x, .int .u64 y, .int .u64 c]).run Try.prog w =
      .ok (.value (.tuple #[.int .u64 (((x + 18446744073709551616 - y - c) % 18446744073709551616 : Nat) : Int), .int .u64 ((if x < y + c then 1 else 0 : Nat) : Int)])) w := by
  rw [run_callFunc_extern Try.func53 (by kernel_rfl) (by kernel_rfl) (by kernel_rfl) (e := sub64Entry) (by kernel_rfl), run_sub64 x y c hc]
  rfl

/-- One word's sum, with what is carried: as names. -/
theorem addc_names (x y c : Nat) (hx : word x) (hy : word y) (hc : c ≤ 1) : ∃ s d : Nat, s + 18446744073709551616 * d = x + y + c ∧ word s ∧ d ≤ 1 ∧
    ∀ w, (callFunc 51 #[.int .u64 x, .int .u64 y, .int .u64 c]).run Try.prog w = .ok (.value (.tuple #[.int .u64 s, .int .u64 d])) w := by
  obtain ⟨h1, h2, h3⟩ := carry_of x y c hx hy hc
  exact ⟨_, _, h1, h2, h3, fun w => run_addc x y c hc w⟩

theorem subc_names (x y c : Nat) (hx : word x) (hy : word y) (hc : c ≤ 1) : ∃ s d : Nat, s + y + c = x + 18446744073709551616 * d ∧ word s ∧ d ≤ 1 ∧
    ∀ w, (callFunc 53 #[.int .u64 x, .int .u64 y, .int .u64 c]).run Try.prog w = .ok (.value (.tuple #[.int .u64 s, .int .u64 d])) w := by
  obtain ⟨h1, h2, h3⟩ := borrow_of x y c hx hy hc
  exact ⟨_, _, h1, h2, h3, fun w => run_subc x y c hc w⟩

set_option maxHeartbeats 1000000 in
theorem add_words (a0 a1 a2 a3 b0 b1 b2 b3 s0 s1 s2 s3 c1 c2 c3 c4 : Nat) (w : World)
    (r0 : ∀ w, (callFunc 51 #[.int .u64 a0, .int .u64 b0, .int .u64 0]).run Try.prog w = .ok (.value (.tuple #[.int .u64 s0, .int .u64 c1])) w)
    (r1 : ∀ w, (callFunc 51 #[.int .u64 a1, .int .u64 b1, .int .u64 c1]).run Try.prog w = .ok (.value (.tuple #[.int .u64 s1, .int .u64 c2])) w)
    (r2 : ∀ w, (callFunc 51 #[.int .u64 a2, .int .u64 b2, .int .u64 c2]).run Try.prog w = .ok (.value (.tuple #[.int .u64 s2, .int .u64 c3])) w)
    (r3 : ∀ w, (callFunc 51 #[.int .u64 a3, .int .u64 b3, .int .u64 c3]).run Try.prog w = .ok (.value (.tuple #[.int .u64 s3, .int .u64 c4])) w) :
    Calls Try.prog 26 #[.agg (cells4 a0 a1 a2 a3), .agg (cells4 b0 b1 b2 b3)] w fun e w' =>
      e = .returned (.tuple #[.agg (cells4 s0 s1 s2 s3), .bool ((c4 : Int) == 1)]) ∧ Below w.heap.size w w' := by
  unfold cells4
  go_enter Try.func26, Try.ntmps26
  go_wp2
  refine wp_loop_rounds 5 ?_
  rw [rounds_succ]
  go_wp2
  go_region
  go_wp2
  rw [rounds_succ]
  go_wp2
  go_region
  go_wp2
  rw [rounds_succ]
  go_wp2
  go_region
  go_wp2
  rw [rounds_succ]
  go_wp2
  go_region
  go_wp2
  rw [rounds_succ]
  go_wp2
  exact bodyPost_ret (v := .tuple #[.agg #[.int .u64 s0, .int .u64 s1, .int .u64 s2, .int .u64 s3], .bool ((c4 : Int) == 1)]) (by simp [results, Try.results26, go_sem]) rfl ⟨rfl, (((((((Below.refl _ _).alloc (Nat.le_refl _) _).alloc (by simp) _).alloc (by simp; omega) _).drew).drew).drew).drew⟩

set_option maxHeartbeats 1000000 in
theorem sub_words (a0 a1 a2 a3 b0 b1 b2 b3 s0 s1 s2 s3 c1 c2 c3 c4 : Nat) (w : World)
    (r0 : ∀ w, (callFunc 53 #[.int .u64 a0, .int .u64 b0, .int .u64 0]).run Try.prog w = .ok (.value (.tuple #[.int .u64 s0, .int .u64 c1])) w)
    (r1 : ∀ w, (callFunc 53 #[.int .u64 a1, .int .u64 b1, .int .u64 c1]).run Try.prog w = .ok (.value (.tuple #[.int .u64 s1, .int .u64 c2])) w)
    (r2 : ∀ w, (callFunc 53 #[.int .u64 a2, .int .u64 b2, .int .u64 c2]).run Try.prog w = .ok (.value (.tuple #[.int .u64 s2, .int .u64 c3])) w)
    (r3 : ∀ w, (callFunc 53 #[.int .u64 a3, .int .u64 b3, .int .u64 c3]).run Try.prog w = .ok (.value (.tuple #[.int .u64 s3, .int .u64 c4])) w) :
    Calls Try.prog 28 #[.agg (cells4 a0 a1 a2 a3), .agg (cells4 b0 b1 b2 b3)] w fun e w' =>
      e = .returned (.tuple #[.agg (cells4 s0 s1 s2 s3), .bool ((c4 : Int) == 1)]) ∧ Below w.heap.size w w' := by
  unfold cells4
  go_enter Try.func28, Try.ntmps28
  go_wp2
  refine wp_loop_rounds 5 ?_
  rw [rounds_succ]
  go_wp2
  go_region
  go_wp2
  rw [rounds_succ]
  go_wp2
  go_region
  go_wp2
  rw [rounds_succ]
  go_wp2
  go_region
  go_wp2
  rw [rounds_succ]
  go_wp2
  go_region
  go_wp2
  rw [rounds_succ]
  go_wp2
  exact bodyPost_ret (v := .tuple #[.agg #[.int .u64 s0, .int .u64 s1, .int .u64 s2, .int .u64 s3], .bool ((c4 : Int) == 1)]) (by simp [results, Try.results28, go_sem]) rfl ⟨rfl, (((((((Below.refl _ _).alloc (Nat.le_refl _) _).alloc (by simp) _).alloc (by simp; omega) _).drew).drew).drew).drew⟩

/-- The words of a number, as cells. -/
def wcells (n : Nat) : Array Value := cells4 (w0 n) (w1 n) (w2 n) (w3 n)

theorem wcells_num4 {a0 a1 a2 a3 : Nat} (h0 : word a0) (h1 : word a1) (h2 : word a2) (h3 : word a3) : wcells (num4 a0 a1 a2 a3) = cells4 a0 a1 a2 a3 := by
  obtain ⟨e0, e1, e2, e3⟩ := words_num4 a0 a1 a2 a3 h0 h1 h2 h3
  unfold wcells
  rw [e0, e1, e2, e3]

theorem add_any (a b : Nat) (ha : a < top) (hb : b < top) (w : World) :
    Calls Try.prog 26 #[.agg (wcells a), .agg (wcells b)] w fun e w' =>
      e = .returned (.tuple #[.agg (wcells ((a + b) % top)), .bool (decide (top ≤ a + b))]) ∧ Below w.heap.size w w' := by
  obtain ⟨ha0, ha1, ha2, ha3, hA⟩ := words_of a
  obtain ⟨hb0, hb1, hb2, hb3, hB⟩ := words_of b
  obtain ⟨s0, c1, e1, hs0, hc1, r0⟩ := addc_names (w0 a) (w0 b) 0 ha0 hb0 (by omega)
  obtain ⟨s1, c2, e2, hs1, hc2, r1⟩ := addc_names (w1 a) (w1 b) c1 ha1 hb1 hc1
  obtain ⟨s2, c3, e3, hs2, hc3, r2⟩ := addc_names (w2 a) (w2 b) c2 ha2 hb2 hc2
  obtain ⟨s3, c4, e4, hs3, hc4, r3⟩ := addc_names (w3 a) (w3 b) c3 ha3 hb3 hc3
  have hS := add4 _ _ _ _ _ _ _ _ _ _ _ _ _ _ _ _ (by simpa using e1) e2 e3 e4
  rw [← hA ha, ← hB hb] at hS
  have hlt := num4_lt s0 s1 s2 s3 hs0 hs1 hs2 hs3
  have hm : (a + b) % top = num4 s0 s1 s2 s3 := by rw [← hS, Nat.add_mul_mod_self_left, Nat.mod_eq_of_lt hlt]
  have hd : decide (top ≤ a + b) = ((c4 : Int) == 1) := by
    have : c4 = 0 ∨ c4 = 1 := by omega
    rcases this with rfl | rfl
    · have : ¬ top ≤ a + b := by omega
      simp [this]
    · have : top ≤ a + b := by omega
      simp [this]
  rw [hm, hd, wcells_num4 hs0 hs1 hs2 hs3]
  exact add_words _ _ _ _ _ _ _ _ _ _ _ _ _ _ _ _ w r0 r1 r2 r3

theorem sub_any (a b : Nat) (ha : a < top) (hb : b < top) (w : World) :
    Calls Try.prog 28 #[.agg (wcells a), .agg (wcells b)] w fun e w' =>
      e = .returned (.tuple #[.agg (wcells ((a + top - b) % top)), .bool (decide (a < b))]) ∧ Below w.heap.size w w' := by
  obtain ⟨ha0, ha1, ha2, ha3, hA⟩ := words_of a
  obtain ⟨hb0, hb1, hb2, hb3, hB⟩ := words_of b
  obtain ⟨s0, c1, e1, hs0, hc1, r0⟩ := subc_names (w0 a) (w0 b) 0 ha0 hb0 (by omega)
  obtain ⟨s1, c2, e2, hs1, hc2, r1⟩ := subc_names (w1 a) (w1 b) c1 ha1 hb1 hc1
  obtain ⟨s2, c3, e3, hs2, hc3, r2⟩ := subc_names (w2 a) (w2 b) c2 ha2 hb2 hc2
  obtain ⟨s3, c4, e4, hs3, hc4, r3⟩ := subc_names (w3 a) (w3 b) c3 ha3 hb3 hc3
  have hS := sub4 _ _ _ _ _ _ _ _ _ _ _ _ _ _ _ _ (by simpa using e1) e2 e3 e4
  rw [← hA ha, ← hB hb] at hS
  have hlt := num4_lt s0 s1 s2 s3 hs0 hs1 hs2 hs3
  have hm : (a + top - b) % top = num4 s0 s1 s2 s3 := by
    have : c4 = 0 ∨ c4 = 1 := by omega
    rcases this with rfl | rfl
    · have e : a + top - b = num4 s0 s1 s2 s3 + top := by omega
      rw [e, Nat.add_mod_right, Nat.mod_eq_of_lt hlt]
    · have e : a + top - b = num4 s0 s1 s2 s3 := by omega
      rw [e, Nat.mod_eq_of_lt hlt]
  have hd : decide (a < b) = ((c4 : Int) == 1) := by
    have : c4 = 0 ∨ c4 = 1 := by omega
    rcases this with rfl | rfl
    · have : ¬ a < b := by omega
      simp [this]
    · have : a < b := by omega
      simp [this]
  rw [hm, hd, wcells_num4 hs0 hs1 hs2 hs3]
  exact sub_words _ _ _ _ _ _ _ _ _ _ _ _ _ _ _ _ w r0 r1 r2 r3

end Go.Proofs.Ytgmgejjlhlibkaa
