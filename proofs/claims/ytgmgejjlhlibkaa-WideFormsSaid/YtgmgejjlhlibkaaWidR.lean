/- The contract of wide.Div. Both arguments are below 2^256. -/
import Derived.Test.YtgmgejjlhlibkaaWidQ
namespace Go.Proofs.Ytgmgejjlhlibkaa
set_option linter.unusedVariables false
open Go.RowKit Go.Shelf
attribute [local go_sem] Oper.semAt_some

/-- The digits that have come, as a number. -/
def acc (pre : List (Nat × Bool)) : Nat := pre.foldl (fun q x => if x.2 then q ||| 2 ^ x.1 else q) 0
theorem acc_snoc (pre : List (Nat × Bool)) (x : Nat × Bool) : acc (pre ++ [x]) = if x.2 then acc pre ||| 2 ^ x.1 else acc pre := by
  unfold acc
  rw [List.foldl_append]
  rfl
theorem quo_or (a b k : Nat) : quo a b (k + 1) ||| 2 ^ k = quo a b (k + 1) + 2 ^ k := by
  unfold quo
  have h := Nat.two_pow_add_eq_or_of_lt (i := k + 1) (b := 2 ^ k) (Nat.pow_lt_pow_right (by decide) (by omega)) (a / 2 ^ (k + 1) / b)
  rw [Nat.mul_comm (2 ^ (k + 1))] at h
  exact h.symm
theorem acc_digs (a b k : Nat) (hb : 0 < b) (hk : k ≤ blen a) : acc (digs a b k) = quo a b k := by
  obtain ⟨m, hm⟩ : ∃ m, blen a - k = m := ⟨_, rfl⟩
  induction m generalizing k with
  | zero =>
    obtain rfl : k = blen a := by omega
    rw [digs_top, quo_top]
    rfl
  | succ m ih =>
    rw [digs_step a b k (by omega), acc_snoc, ih (k + 1) (by omega) (by omega), quo_step a b k hb]
    show (if oneAt a b k = true then _ else _) = _
    split
    · exact quo_or a b k
    · exact (Nat.add_zero _).symm

theorem wAt_or (m n j : Nat) : wAt (m ||| n) j = wAt m j ||| wAt n j := by
  unfold wAt
  rw [show (18446744073709551616 : Nat) = 2 ^ 64 by decide, ← Nat.pow_mul]
  refine Nat.eq_of_testBit_eq fun i => ?_
  simp only [Nat.testBit_mod_two_pow, Nat.testBit_or, Nat.testBit_div_two_pow]
  cases decide (i < 64) <;> simp
theorem wAt_pow (k j : Nat) : wAt (2 ^ k) j = if j = k / 64 then 2 ^ (k % 64) else 0 := by
  unfold wAt
  rw [show (18446744073709551616 : Nat) = 2 ^ 64 by decide, ← Nat.pow_mul]
  refine Nat.eq_of_testBit_eq fun i => ?_
  rw [Nat.testBit_mod_two_pow, Nat.testBit_div_two_pow, Nat.testBit_two_pow]
  split
  · rename_i h
    subst h
    rw [Nat.testBit_two_pow]
    by_cases hi : i < 64
    · simp [hi]; omega
    · have : ¬ k % 64 = i := by omega
      simp [hi, this]
  · rename_i h
    rw [Nat.zero_testBit]
    by_cases hi : i < 64
    · simp [hi]; omega
    · simp [hi]
theorem wcells_ats (n : Nat) : wcells n = #[.int .u64 (wAt n 0 : Int), .int .u64 (wAt n 1 : Int), .int .u64 (wAt n 2 : Int), .int .u64 (wAt n 3 : Int)] := by
  rw [wc]
  simp [wAt, w0, w1, w2, w3]
theorem set_or (q k : Nat) (hk : k < 256) : (wcells q).setIfInBounds (k / 64) (.int .u64 ((wAt q (k / 64) ||| 2 ^ (k % 64) : Nat) : Int)) = wcells (q ||| 2 ^ k) := by
  have h : k / 64 = 0 ∨ k / 64 = 1 ∨ k / 64 = 2 ∨ k / 64 = 3 := by omega
  rw [wcells_ats, wcells_ats, wAt_or, wAt_or, wAt_or, wAt_or, wAt_pow, wAt_pow, wAt_pow, wAt_pow]
  rcases h with h | h | h | h <;> rw [h] <;> simp

theorem dOf_any (a b Br : Nat) (w : World) :
    Calls Try.prog 55 #[.agg (wcells a), .agg (wcells b), .pointer (some ⟨Br, 0, none⟩)] w fun e w' =>
      e = .returned (.func (.func 66) #[] #[.pointer (some ⟨w.heap.size, 0, none⟩), .pointer (some ⟨w.heap.size + 1 + 1, 0, none⟩), .pointer (some ⟨w.heap.size + 1, 0, none⟩)]) ∧
      w' = ((w.alloc (.cells (wcells a) 24)).alloc (.cells (wcells b) 24)).alloc (.cells #[.pointer (some ⟨Br, 0, none⟩)] 81) := by
  go_enter Try.func55, Try.ntmps55
  go_wp2
  go_ret
  exact ⟨rfl, rfl⟩

abbrev Dig := { x : Nat × Bool // x.1 < 256 }
def DigKeeps (Ba Br Bb Bp : Nat) (A B : World) : Prop := ∀ g, g = Ba ∨ g = Br ∨ g = Bb ∨ g = Bp → B.heap[g]? = A.heap[g]?
theorem dig_stops (n : Nat) (hn : 1 ≤ n) (Ba Br Bb Bp a b : Nat) (ha : a < top) (hb : b < top) (hb0 : 0 < b) (w : World) (hK : Kept w Br (rows4 Ba Br Bb Bp a b 0) w) :
    SeqOwnT Fence.wide n Try.prog 66 #[.pointer (some ⟨Ba, 0, none⟩), .pointer (some ⟨Bp, 0, none⟩), .pointer (some ⟨Bb, 0, none⟩)] (fun x : Dig => #[.int .i64 (x.1.1 : Int), .bool x.1.2])
      (fun A B => A.grownBy B (some Br)) (DigKeeps Ba Br Bb Bp) (fun xs => xs.map (·.1) = digs a b 0) (fun _ => True)
      (fun W => W.heap[Br]? = some (.cells (wcells (rem a b 0)) 24 (0, 0))) 256 w := fun l J Jx W hW hJo hY h0 => by
  have hkw : Kept W Br (rows4 Ba Br Bb Bp a b 0) W :=
    Kept.refl _ _ _ (fun i p hi => (hW.block _ (hK.lt i hi)).trans (hK.rows i p hi)) hK.apart
  refine (dig1_in n hn l Ba Br Bb Bp a b ha hb hb0 (fun pre W => ∃ p : List Dig, p.map (·.1) = pre ∧ J p W) (fun pre W => ∃ p : List Dig, p.map (·.1) = pre ∧ Jx p W)
    (fun s A B ⟨p, hp, hj⟩ ho => ⟨p, hp, hJo _ _ _ hj ho⟩) (fun W => len_any a ha W) ?_ W hkw ⟨[], rfl, h0⟩).mono ?_
  · rintro pre x W ⟨p, rfl, hj⟩ hlen hx
    have h := hY p ⟨x, hx⟩ W hj (by simpa using hlen)
    refine YieldAt.mono h ?_
    rintro e W' (⟨he, hj', hk⟩ | ⟨he, hj'⟩)
    · exact .inl ⟨he, ⟨p ++ [⟨x, hx⟩], by simp, hj'⟩, hk⟩
    · exact .inr ⟨he, ⟨p ++ [⟨x, hx⟩], by simp, hj'⟩⟩
  · rintro e W' ⟨he, ⟨⟨p, hp, hj⟩, ht⟩ | ⟨pre, p, hp, hj⟩⟩
    · exact ⟨he, .inl ⟨p, hp, hj, ht⟩⟩
    · exact ⟨he, .inr ⟨p, trivial, hj⟩⟩
end Go.Proofs.Ytgmgejjlhlibkaa
