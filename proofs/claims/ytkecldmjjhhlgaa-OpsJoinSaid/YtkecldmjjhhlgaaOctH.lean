/- The contracts of octet.Look and of an eye's Fixed, Size, Raw, Bytes, Left, End. No condition beyond the memory's reach. -/
import Derived.Test.YtkecldmjjhhlgaaOctG
namespace Go.Proofs.Ytkecldmjjhhlgaa.Oct
open Go.Proofs.Ytkecldmjjhhlgaa Go.RowKit Go.Shelf

/-- All but the eye at r is as it was. -/
structure EyeStep (r : Nat) (W W' : World) : Prop where
  os : W'.os = W.os
  tape : W'.tape = W.tape
  output : W'.output = W.output
  size : W.heap.size ≤ W'.heap.size
  keep : ∀ k, k < W.heap.size → k ≠ r → W'.heap[k]? = W.heap[k]?
theorem EyeStep.refl (r : Nat) (W : World) : EyeStep r W W := ⟨rfl, rfl, rfl, Nat.le_refl _, fun _ _ _ => rfl⟩
theorem EyeStep.trans {r : Nat} {A B C : World} (h : EyeStep r A B) (k : EyeStep r B C) : EyeStep r A C :=
  ⟨k.os.trans h.os, k.tape.trans h.tape, k.output.trans h.output, Nat.le_trans h.size k.size, fun i hi hr => (k.keep i (Nat.lt_of_lt_of_le hi h.size) hr).trans (h.keep i hi hr)⟩
theorem EyeStep.of_below {r : Nat} {W W' : World} (h : Below W.heap.size W W') : EyeStep r W W' := ⟨h.os, h.tape, h.output, h.size, fun k hk _ => h.block k hk⟩
theorem EyeStep.holds {r n₀ : Nat} {W W' : World} {A : Option Addr} {bs : List UInt8} (h : EyeStep r W W') (hn : n₀ ≤ W.heap.size) (hh : Holds8 n₀ W A bs) (ha : ∀ a, A = some a → a.block ≠ r) : Holds8 n₀ W' A bs := by
  rcases hh with h0 | ⟨c, off, rfl, hc, hcell⟩
  · exact .inl h0
  · exact .inr ⟨c, off, rfl, hc, fun j hj => (World.cell?_of_block (a := ⟨c, off + j, none⟩) (h.keep c (by omega) (ha _ rfl))).trans (hcell j hj)⟩
/-- Where a slice of a slice begins. -/
def cutAt (A : Option Addr) (i cap : Nat) : Option Addr := if cap = i then A else A.map fun a => ⟨a.block, a.off + i, none⟩
theorem Holds8.drop_ {n₀ : Nat} {W : World} {A : Option Addr} {bs : List UInt8} (h : Holds8 n₀ W A bs) (i cap : Nat) (hi : i ≤ bs.length) (hc : bs.length ≤ cap) : Holds8 n₀ W (cutAt A i cap) (bs.drop i) := by
  unfold cutAt
  rcases h with ⟨rfl, rfl⟩ | ⟨b, off, rfl, hb, hcell⟩
  · split
    · exact .inl ⟨rfl, by simp⟩
    · exact .inl ⟨rfl, by simp⟩
  · by_cases e : cap = i
    · rw [if_pos e]
      refine .inr ⟨b, off, rfl, hb, fun j hj => ?_⟩
      rw [List.length_drop] at hj
      omega
    · rw [if_neg e]
      refine .inr ⟨b, off + i, rfl, hb, fun j hj => ?_⟩
      have hj2 : j < bs.length - i := by simpa using hj
      have := hcell (i + j) (by omega)
      rw [show off + i + j = off + (i + j) by omega, this]
      simp only [List.getElem_drop]
theorem Holds8.take_ {n₀ : Nat} {W : World} {A : Option Addr} {bs : List UInt8} (h : Holds8 n₀ W A bs) (i : Nat) : Holds8 n₀ W A (bs.take i) := by
  rw [← List.take_append_drop i bs] at h
  exact h.front

theorem cut_ne {b off k c : Nat} (h : ¬ c = k) : some (⟨b, off + k, none⟩ : Addr) = cutAt (some ⟨b, off, none⟩) k c := by unfold cutAt; rw [if_neg h]; rfl
theorem cut_eq {b off k c : Nat} (h : c = k) : some (⟨b, off, none⟩ : Addr) = cutAt (some ⟨b, off, none⟩) k c := by unfold cutAt; rw [if_pos h]
theorem own_open {w : World} {base : Nat} {v : Value} {bs : List UInt8} (h : w.ownsRow base 5 1 v bs.length (vals bs)) :
    ∃ A c, v = .slice A bs.length c ∧ Holds8 w.heap.size w A bs ∧ bs.length ≤ c ∧ (A = none → c = 0) ∧ ∀ a, A = some a → base ≤ a.block ∧ a.block < w.heap.size := by
  obtain ⟨A, c, rfl, hh, _⟩ := own_holds rfl h
  refine ⟨A, c, rfl, hh, ?_, fun e => ?_, fun a e => ?_⟩
  · rcases h.2 with ⟨e, h0⟩ | ⟨g, cap, cur, e, _, _, hn, _⟩
    · omega
    · injection e with _ _ e3
      omega
  · subst e
    rcases h.2 with ⟨e, _⟩ | ⟨g, cap, cur, e, _⟩
    · injection e
    · cases e
  · subst e
    exact h.lt a.block rfl
def fixedR (bs : List UInt8) (s : Int) : Nat × Int × List UInt8 := if sizeOkB s = true then (if bs.length < s.toNat then (0, 10, bs) else (leNum (bs.take s.toNat), 0, bs.drop s.toNat)) else (0, 2, bs)
def eyeSizeR (bs : List UInt8) : Nat × Int × List UInt8 := if (szOf bs).2.2 = true then ((szOf bs).1, 0, bs.drop (szOf bs).2.1) else (0, 10, bs)
theorem szOf_le {bs : List UInt8} (h : (szOf bs).2.2 = true) : (szOf bs).2.1 ≤ bs.length ∧ 1 ≤ (szOf bs).2.1 := by
  cases bs with
  | nil => cases h
  | cons x l =>
    have ha := annL_cases x
    unfold szOf at *
    simp only at *
    split at h
    · cases h
    · rename_i h1
      rw [if_neg h1]
      split
      · simp
      · simp only
        omega
theorem szOf_lt (bs : List UInt8) : (szOf bs).1 < 18446744073709551616 := by
  cases bs with
  | nil => simp [szOf]
  | cons x l =>
    have ha := annL_cases x
    have hx := UInt8.toNat_lt x
    unfold szOf
    simp only
    split
    · simp
    · split
      · simp only; omega
      · simp only
        have h := leNum_lt (l.take (annL x - 1))
        refine Nat.lt_of_lt_of_le h ?_
        rw [show 18446744073709551616 = 256 ^ 8 by decide]
        refine Nat.pow_le_pow_right (by decide) ?_
        rw [List.length_take]
        omega
end Go.Proofs.Ytkecldmjjhhlgaa.Oct
