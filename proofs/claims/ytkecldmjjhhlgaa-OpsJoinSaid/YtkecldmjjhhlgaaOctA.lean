/- Numbers as bytes, the lowest first; how many bytes a number has; octet.width. No condition. -/
import Derived.Test.YtkecldmjjhhlgaaPen
import Derived.RangeFuncNested
import Derived.RangeFuncBound
import Derived.RangeFuncCalls
import Derived.RangeFuncLeaves
import Derived.Shelf.Abstract
import Derived.Shelf.RegionOpen
import Derived.OwnWalkIn
import Derived.TacticsInMore
import Derived.LoopNIn
import Derived.LoopIn
import Derived.RangeFuncFrom
import Derived.Scope
import Derived.BigGuardIn
import Derived.Lib.Hide
import Derived.LoopTactic
import Derived.Outline
namespace Go.Proofs.Ytkecldmjjhhlgaa.Oct
open Go.Proofs.Ytkecldmjjhhlgaa Go.RowKit Go.Shelf
attribute [local go_sem] Oper.semAt_some

/-- The lowest bytes of a number, the lowest first. -/
def leB : Nat → Nat → List UInt8
  | 0, _ => []
  | s + 1, n => UInt8.ofNat (n % 256) :: leB s (n / 256)
theorem leB_length (s n : Nat) : (leB s n).length = s := by
  induction s generalizing n with
  | zero => rfl
  | succ s ih => simp [leB, ih]
theorem leB_snoc (s n : Nat) : leB (s + 1) n = leB s n ++ [UInt8.ofNat (n / 256 ^ s % 256)] := by
  induction s generalizing n with
  | zero => simp [leB]
  | succ s ih =>
    rw [leB, ih (n / 256), leB, List.cons_append, Nat.div_div_eq_div_mul, Nat.pow_succ, Nat.mul_comm (256 ^ s) 256]
/-- How many bytes hold a number below 2^64. -/
def wid (n : Nat) : Nat := if n < 1 then 0 else if n < 256 then 1 else if n < 65536 then 2 else if n < 16777216 then 3 else if n < 4294967296 then 4 else if n < 1099511627776 then 5 else if n < 281474976710656 then 6 else if n < 72057594037927936 then 7 else 8

/-- Places and bytes, the highest first. -/
def dps (n k : Nat) : List (Nat × Nat) := (List.range k).map fun j => (7 - j, n / 256 ^ (7 - j) % 256)
theorem dps_succ (n k : Nat) : dps n (k + 1) = dps n k ++ [(7 - k, n / 256 ^ (7 - k) % 256)] := by simp [dps, List.range_succ]
theorem dps_length (n k : Nat) : (dps n k).length = k := by simp [dps]
def found (pre : List (Nat × Nat)) : Prop := ∃ q x, pre = q ++ [x] ∧ (∀ p ∈ q, p.2 = 0) ∧ x.2 ≠ 0
def lastW (pre : List (Nat × Nat)) : Int := match pre.getLast? with
  | some x => wrap64 ((x.1 : Int) + 1)
  | none => 0
theorem dps_get (n k j : Nat) (hj : j < k) : (7 - j, n / 256 ^ (7 - j) % 256) ∈ dps n k := by
  unfold dps
  rw [List.mem_map]
  exact ⟨j, by simpa using hj, rfl⟩
theorem byte_zero (m n : Nat) (hm : 0 < m) (h : n < 256 * m) (h0 : n / m % 256 = 0) : n < m := by
  have h1 : n / m < 256 := Nat.div_lt_of_lt_mul (by rwa [Nat.mul_comm] at h)
  have h2 : n / m = 0 := by
    generalize n / m = q at h0 h1
    omega
  exact (Nat.div_eq_zero_iff_lt hm).1 h2
theorem byte_some (m n : Nat) (h0 : n / m % 256 ≠ 0) : m ≤ n := by
  rcases Nat.lt_or_ge n m with h | h
  · rw [Nat.div_eq_of_lt h] at h0
    exact absurd rfl h0
  · exact h
theorem below_of (n : Nat) (hn : n < 18446744073709551616) (k : Nat) (hk : k ≤ 8) (h : ∀ j, j < k → n / 256 ^ (7 - j) % 256 = 0) : n < 256 ^ (8 - k) := by
  induction k with
  | zero => simpa using hn
  | succ k ih =>
    have h1 := ih (by omega) fun j hj => h j (by omega)
    have h2 := h k (by omega)
    have e : 8 - k = 7 - k + 1 := by omega
    rw [e, Nat.pow_succ] at h1
    rw [show 8 - (k + 1) = 7 - k by omega]
    exact byte_zero _ _ (Nat.pow_pos (by decide)) (by rw [Nat.mul_comm]; exact h1) h2
theorem wid_none (n : Nat) (hn : n < 18446744073709551616) (h : ∀ p ∈ dps n 8, p.2 = 0) : wid n = 0 := by
  have h0 := below_of n hn 8 (by decide) fun j hj => h _ (dps_get n 8 j hj)
  simp only [Nat.reduceSub, Nat.reducePow] at h0
  unfold wid
  rw [if_pos h0]
theorem wid_found (n k : Nat) (hn : n < 18446744073709551616) (hk : k ≤ 8) (h : found (dps n k)) : (wid n : Int) = lastW (dps n k) := by
  obtain ⟨q, x, e, hq, hx⟩ := h
  cases k with
  | zero => have := congrArg List.length e; simp [dps] at this
  | succ k =>
    rw [dps_succ] at e
    obtain ⟨e1, e2⟩ := List.append_inj' e rfl
    injection e2 with e2 _
    subst e1 e2
    have hl : lastW (dps n (k + 1)) = ((7 - k : Nat) : Int) + 1 := by
      unfold lastW
      rw [dps_succ, List.getLast?_append]
      show wrap64 (((7 - k : Nat) : Int) + 1) = _
      unfold wrap64
      omega
    rw [hl]
    have hlt := below_of n hn k (by omega) fun j hj => hq _ (dps_get n k j hj)
    have hge := byte_some _ _ hx
    have hk8 : k < 8 := by omega
    clear hq hl e hx hn
    unfold wid
    match k, hk8 with
    | 0, _ | 1, _ | 2, _ | 3, _ | 4, _ | 5, _ | 6, _ | 7, _ =>
      simp only [Nat.reduceSub, Nat.reducePow] at hlt hge ⊢
      repeat' split
      all_goals first | omega | rfl
theorem width_gt (n s : Nat) (hs : s = 1 ∨ s = 2 ∨ s = 4 ∨ s = 8) (hn : n < 18446744073709551616) : s < wid n ↔ 256 ^ s ≤ n := by
  unfold wid
  rcases hs with rfl | rfl | rfl | rfl
  all_goals
    simp only [Nat.reducePow]
    repeat' split
    all_goals omega
/-- How many bytes a compact size has. -/
def cmpL (n : Nat) : Nat := if n < 253 then 1 else if n < 65536 then 3 else if n < 4294967296 then 5 else 9
def sizeB (n : Nat) : List UInt8 := if n < 253 then leB 1 n else if n < 65536 then 253 :: leB 2 n else if n < 4294967296 then 254 :: leB 4 n else 255 :: leB 8 n
theorem sizeB_length (n : Nat) : (sizeB n).length = cmpL n := by
  unfold sizeB cmpL
  (repeat' split) <;> simp [leB_length]

/-- Below n₀, and at Bs, as it was. -/
def KB (Bs n₀ : Nat) (W W' : World) : Prop := Below n₀ W W' ∧ W'.heap[Bs]? = W.heap[Bs]?
theorem KB.refl (Bs n₀ : Nat) (W : World) : KB Bs n₀ W W := ⟨Below.refl _ _, rfl⟩
theorem KB.trans {Bs n₀ : Nat} {A B C : World} (h : KB Bs n₀ A B) (k : KB Bs n₀ B C) : KB Bs n₀ A C := ⟨h.1.trans k.1, k.2.trans h.2⟩
theorem kb_put {Bs n₀ : Nat} {w : World} (hB : Bs < w.heap.size) (hn : n₀ ≤ w.heap.size) (W : World) (l : Nat) (o o' : Obj) (hl : w.heap.size ≤ l) (h : W.heap[l]? = some o) (h1 : o.isCells = false) (h2 : o.isWalk = false) : KB Bs n₀ W (W.putObj l o') :=
  ⟨belowK_b hn W l o o' hl h h1 h2, World.putObj_heap_other (by omega)⟩

end Go.Proofs.Ytkecldmjjhhlgaa.Oct
