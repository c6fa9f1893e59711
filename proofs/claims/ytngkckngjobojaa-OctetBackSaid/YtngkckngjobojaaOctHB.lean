/- Where an eye stands behind a read. No condition. -/
import Derived.Test.YtngkckngjobojaaOctQ
namespace Go.Proofs.Ytngkckngjobojaa.Oct
open Go.Proofs.Ytngkckngjobojaa Go.RowKit Go.Shelf
theorem EyeIn.lt {N : Nat} {W : World} {r : Nat} {bs : List UInt8} (h : EyeIn N W r bs) : r < W.heap.size := by
  obtain ⟨lo, hi, h1, h2, h3, h4⟩ := h
  exact h4.lt
theorem fixedR_sfx {u ys : List UInt8} {s E : Int} {m : Nat} (h : fixedR u s = (m, E, ys)) : ∃ j, j ≤ u.length ∧ ys = u.drop j := by
  unfold fixedR at h
  split at h
  · split at h
    · injection h with _ h; injection h with _ h; exact ⟨0, by omega, by rw [← h]; rfl⟩
    · injection h with _ h; injection h with _ h; exact ⟨s.toNat, by omega, h.symm⟩
  · injection h with _ h; injection h with _ h; exact ⟨0, by omega, by rw [← h]; rfl⟩
theorem eyeSizeR_sfx {u ys : List UInt8} {E : Int} {m : Nat} (h : eyeSizeR u = (m, E, ys)) : ∃ j, j ≤ u.length ∧ ys = u.drop j := by
  unfold eyeSizeR at h
  split at h
  · rename_i h1
    injection h with _ h; injection h with _ h; exact ⟨_, (szOf_le h1).1, h.symm⟩
  · injection h with _ h; injection h with _ h; exact ⟨0, by omega, by rw [← h]; rfl⟩
theorem rawR_sfx {u xs ys : List UInt8} {s E : Int} (h : rawR u s = (xs, E, ys)) : ∃ j, j ≤ u.length ∧ ys = u.drop j := by
  unfold rawR at h
  split at h
  · injection h with _ h; injection h with _ h; exact ⟨0, by omega, by rw [← h]; rfl⟩
  · split at h
    · injection h with _ h; injection h with _ h; exact ⟨0, by omega, by rw [← h]; rfl⟩
    · injection h with _ h; injection h with _ h; exact ⟨s.toNat, by omega, h.symm⟩
theorem bytesR_sfx {u xs ys : List UInt8} {s E : Int} (h : bytesR u s = (xs, E, ys)) : ∃ j, j ≤ u.length ∧ ys = u.drop j := by
  unfold bytesR at h
  split at h
  · rename_i h1
    injection h with _ h; injection h with _ h
    exact ⟨(szOf u).2.1 + (szOf u).1, by have := (szOf_le h1.1).1; omega, by rw [← h, List.drop_drop]⟩
  · injection h with _ h; injection h with _ h; exact ⟨0, by omega, by rw [← h]; rfl⟩
end Go.Proofs.Ytngkckngjobojaa.Oct
