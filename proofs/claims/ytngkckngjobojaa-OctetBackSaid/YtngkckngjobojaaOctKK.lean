/- What is written by a call is read by it; what is read by it is what it wrote. No condition. -/
import Derived.Test.YtngkckngjobojaaOctJJ
import Derived.Test.YtngkckngjobojaaOctGG
namespace Go.Proofs.Ytngkckngjobojaa.Oct
open Go.Proofs.Ytngkckngjobojaa Go.RowKit Go.Shelf
/-- Is what a call reads of bytes what it has? And what is left. -/
def getR (u : List UInt8) (o : OpD) : Bool × List UInt8 :=
  if o.kind = 0 then ((fixedR u o.size).2.1 == 0 && (fixedR u o.size).1 == o.n, (fixedR u o.size).2.2)
  else if o.kind = 1 then ((eyeSizeR u).2.1 == 0 && (eyeSizeR u).1 == o.n, (eyeSizeR u).2.2)
  else if o.kind = 2 then ((bytesR u o.b.length).2.1 == 0 && (bytesR u o.b.length).1 == o.b, (bytesR u o.b.length).2.2)
  else ((rawR u o.b.length).2.1 == 0 && (rawR u o.b.length).1 == o.b, (rawR u o.b.length).2.2)
theorem take_app {l r : List UInt8} {n : Nat} (h : l.length = n) : (l ++ r).take n = l := by rw [List.take_append_of_le_length (by omega), List.take_of_length_le (by omega)]
theorem drop_app {l r : List UInt8} {n : Nat} (h : l.length = n) : (l ++ r).drop n = r := by subst h; exact List.drop_left
theorem szOf_sizeB (n : Nat) (hn : n < 18446744073709551616) (r : List UInt8) : szOf (sizeB n ++ r) = (n, cmpL n, true) := by
  have h4 : ∀ (x : UInt8) (s : Nat), annL x = s + 1 → 1 ≤ s → n < 256 ^ s → cmpL n = s + 1 → szOf ((x :: leB s n) ++ r) = (n, cmpL n, true) := by
    intro x s h1 h3 h5 h6
    rw [List.cons_append]
    unfold szOf
    simp only [h1]
    rw [if_neg (by rw [List.length_cons, List.length_append, leB_length]; omega), if_neg (by omega), Nat.add_sub_cancel, take_app (leB_length s n), leNum_leB s n h5, h6]
    simp
  by_cases a : n < 253
  · have e1 : sizeB n = [UInt8.ofNat n] := by unfold sizeB; rw [if_pos a, leB_one n a]
    have e2 : cmpL n = 1 := by unfold cmpL; rw [if_pos a]
    have e3 : (UInt8.ofNat n).toNat = n := by rw [UInt8.toNat_ofNat']; omega
    have e4 : annL (UInt8.ofNat n) = 1 := by unfold annL; rw [e3, if_neg (by omega), if_neg (by omega), if_neg (by omega)]
    rw [e1, e2, List.singleton_append]
    unfold szOf
    simp only [e4]
    rw [if_neg (by simp)]
    simp [e3]
  by_cases b : n < 65536
  · have e1 : sizeB n = 253 :: leB 2 n := by unfold sizeB; rw [if_neg a, if_pos b]
    rw [e1]
    exact h4 253 2 rfl (by decide) (by simpa using b) (by unfold cmpL; rw [if_neg a, if_pos b])
  by_cases c : n < 4294967296
  · have e1 : sizeB n = 254 :: leB 4 n := by unfold sizeB; rw [if_neg a, if_neg b, if_pos c]
    rw [e1]
    exact h4 254 4 rfl (by decide) (by simpa using c) (by unfold cmpL; rw [if_neg a, if_neg b, if_pos c])
  · have e1 : sizeB n = 255 :: leB 8 n := by unfold sizeB; rw [if_neg a, if_neg b, if_neg c]
    rw [e1]
    exact h4 255 8 rfl (by decide) (by simpa using hn) (by unfold cmpL; rw [if_neg a, if_neg b, if_neg c])
theorem fixedE_ok {s : Int} {n : Nat} (h : fixedE s n = 0) : ∃ k : Nat, s = (k : Int) ∧ (k = 1 ∨ k = 2 ∨ k = 4 ∨ k = 8) ∧ n < 256 ^ k ∧ fixedB s n = leB k n := by
  unfold fixedE at h
  split at h
  · rename_i h1
    obtain ⟨k, rfl, hk⟩ := sizeOk_cases h1
    split at h
    · cases h
    · rename_i h2
      simp only [Int.toNat_natCast] at h2
      refine ⟨k, rfl, hk, by omega, ?_⟩
      unfold fixedB
      rw [if_pos h1, if_neg (by simpa using h2)]
      simp
  · cases h
theorem get_put (o : OpD) (hn : o.n < 18446744073709551616) (hb : o.b.length < 9223372036854775808) (h : putE o = 0) (r : List UInt8) : getR (putB o ++ r) o = (true, r) := by
  unfold putE at h
  unfold getR putB
  by_cases h0 : o.kind = 0
  · rw [if_pos h0] at h
    rw [if_pos h0, if_pos h0]
    obtain ⟨k, hk, hk2, hlt, hB⟩ := fixedE_ok h
    rw [hk, fixedR_big _ k hk2, if_neg (by rw [← hk, hB, List.length_append, leB_length]; omega), ← hk, hB, take_app (leB_length k _), drop_app (leB_length k _), leNum_leB k _ hlt]
    simp
  rw [if_neg h0, if_neg h0]
  by_cases h1 : o.kind = 1
  · rw [if_pos h1, if_pos h1]
    unfold eyeSizeR
    rw [szOf_sizeB _ hn, if_pos rfl, drop_app (sizeB_length _)]
    simp
  rw [if_neg h1, if_neg h1]
  by_cases h2 : o.kind = 2
  · rw [if_pos h2, if_pos h2]
    have hd : (sizeB o.b.length ++ o.b ++ r).drop (cmpL o.b.length) = o.b ++ r := by rw [List.append_assoc]; exact drop_app (sizeB_length _)
    unfold bytesR
    rw [List.append_assoc, szOf_sizeB _ (by omega), ← List.append_assoc]
    rw [if_pos ⟨rfl, by omega, by simp, by simp only [List.length_append, sizeB_length]; omega⟩]
    simp only
    rw [hd, take_app rfl, drop_app rfl]
    simp
  rw [if_neg h2, if_neg h2]
  unfold rawR
  rw [if_neg (by omega), if_neg (by simp)]
  simp only [Int.toNat_natCast]
  rw [take_app rfl, drop_app rfl]
  simp
theorem get_only (o : OpD) (h : putE o = 0) (u : List UInt8) (hg : (getR u o).1 = true) : u = putB o ++ (getR u o).2 := by
  unfold putE at h
  unfold getR at hg ⊢
  unfold putB
  by_cases h0 : o.kind = 0
  · rw [if_pos h0] at h hg
    rw [if_pos h0, if_pos h0]
    obtain ⟨k, hk, hk2, hlt, hB⟩ := fixedE_ok h
    rw [hB]
    rw [hk, fixedR_big _ k hk2] at hg ⊢
    by_cases hs : u.length < k
    · rw [if_pos hs] at hg; simp at hg
    · rw [if_neg hs] at hg ⊢
      simp only [beq_self_eq_true, Bool.true_and, beq_iff_eq] at hg
      have := leB_leNum (u.take k)
      rw [List.length_take, Nat.min_eq_left (by omega), hg] at this
      rw [this, List.take_append_drop]
  rw [if_neg h0] at hg
  rw [if_neg h0, if_neg h0]
  by_cases h1 : o.kind = 1
  · rw [if_pos h1] at hg
    rw [if_pos h1, if_pos h1]
    unfold eyeSizeR at hg ⊢
    by_cases hs : (szOf u).2.2 = true
    · rw [if_pos hs] at hg ⊢
      simp only [beq_self_eq_true, Bool.true_and, beq_iff_eq] at hg
      rw [← hg, size_back hs, List.take_append_drop]
    · rw [if_neg hs] at hg; simp at hg
  rw [if_neg h1] at hg
  rw [if_neg h1, if_neg h1]
  by_cases h2 : o.kind = 2
  · rw [if_pos h2] at hg
    rw [if_pos h2, if_pos h2]
    unfold bytesR at hg ⊢
    split at hg
    · rename_i hc
      rw [if_pos hc]
      simp only [beq_self_eq_true, Bool.true_and, beq_iff_eq] at hg
      have hl : (szOf u).1 = o.b.length := by rw [← hg, List.length_take, List.length_drop]; omega
      simp only
      rw [← hl, size_back hc.1]
      conv => rhs; rw [List.append_assoc]; arg 2; arg 1; rw [← hg]
      rw [List.take_append_drop, List.take_append_drop]
    · simp at hg
  rw [if_neg h2] at hg
  rw [if_neg h2, if_neg h2]
  unfold rawR at hg ⊢
  rw [if_neg (by omega)] at hg ⊢
  split at hg
  · simp at hg
  · rename_i hc
    rw [if_neg hc]
    simp only [beq_self_eq_true, Bool.true_and, beq_iff_eq, Int.toNat_natCast] at hg ⊢
    conv => rhs; arg 1; rw [← hg]
    rw [List.take_append_drop]
end Go.Proofs.Ytngkckngjobojaa.Oct
