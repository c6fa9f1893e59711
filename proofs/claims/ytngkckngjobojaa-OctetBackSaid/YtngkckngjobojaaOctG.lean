/- The contracts of an eye's methods. No condition beyond the memory's reach. -/
import Derived.Test.YtngkckngjobojaaOctF
namespace Go.Proofs.Ytngkckngjobojaa.Oct
open Go.Proofs.Ytngkckngjobojaa Go.RowKit Go.Shelf

/-- The compact size at the beginning of bytes: number, length, is it one. -/
def szOf (bs : List UInt8) : Nat × Nat × Bool :=
  match bs with
  | [] => (0, 0, false)
  | x :: l => if (x :: l).length < annL x then (0, 0, false) else if annL x = 1 then (x.toNat, 1, true) else (leNum (l.take (annL x - 1)), annL x, cmpL (leNum (l.take (annL x - 1))) == annL x)
theorem annL_cases (x : UInt8) : annL x = 1 ∨ annL x = 3 ∨ annL x = 5 ∨ annL x = 9 := by unfold annL; (repeat' split) <;> simp
theorem holds_mid {n₀ : Nat} {W : World} {b off : Nat} {x : UInt8} {l : List UInt8} (h : Holds8 n₀ W (some ⟨b, off, none⟩) (x :: l)) (k : Nat) (hk : k ≤ l.length) : Holds8 n₀ W (some ⟨b, off + 1, none⟩) (l.take k) := by
  rcases h with ⟨e, _⟩ | ⟨b', off', e, hb, hc⟩
  · cases e
  · injection e with e
    injection e with e1 e2
    subst e1 e2
    refine .inr ⟨b, off + 1, rfl, hb, fun j hj => ?_⟩
    rw [List.length_take] at hj
    have := hc (j + 1) (by simp; omega)
    rw [show off + 1 + j = off + (j + 1) by omega, this]
    simp

set_option maxRecDepth 100000 in
set_option maxHeartbeats 2000000 in
theorem size_any (base hi r : Nat) (bs : List UInt8) (hl : bs.length ≤ 100000000000000) (w : World) (h : EyeAt base hi w r bs) :
    Calls Try.prog 42 #[.pointer (some ⟨r, 0, none⟩)] w fun e w' => e = .returned (.tuple #[.int .u64 ((szOf bs).1 : Int), .int .i64 ((szOf bs).2.1 : Int), .bool (szOf bs).2.2]) ∧ Below w.heap.size w w' := by
  obtain ⟨_, A, c, hh, h8, hlc, hA, hne⟩ := h
  obtain ⟨h0, h1, _⟩ := eye_cells hh
  cases bs with
  | nil =>
    clear h8
    go_enter Try.func42, Try.ntmps42
    go_wp2
    go_ret3
    exact ⟨rfl, Below.refl _ _⟩
  | cons x l =>
    obtain ⟨b, off, rfl, hb, hc0⟩ := h8.at_ (show 0 < (x :: l).length by simp)
    simp only [List.getElem_cons_zero, Nat.add_zero] at hc0
    have hub := UInt8.toNat_lt x
    have hsz : szOf (x :: l) = if (x :: l).length < annL x then (0, 0, false) else if annL x = 1 then (x.toNat, 1, true) else (leNum (l.take (annL x - 1)), annL x, cmpL (leNum (l.take (annL x - 1))) == annL x) := rfl
    rw [hsz]
    clear hsz
    have hann := announced_any x
    have hac := annL_cases x
    have H8 := Lib.hid h8
    have hlen : (x :: l).length = l.length + 1 := rfl
    rw [hlen] at h0 hl hlc hh ⊢
    clear hlen h8
    obtain ⟨L, hL⟩ : ∃ L, annL x = L := ⟨_, rfl⟩
    rw [hL] at hann hac ⊢
    clear hL
    by_cases hs : l.length + 1 < L
    · rw [if_pos hs]
      have i0 : ((l.length : Int) + 1 == 0) = false := by simp; omega
      have i1 : (l.length : Int) + 1 < (L : Int) := by omega
      clear hac
      go_enter Try.func42, Try.ntmps42
      go_wp2_with (go_at_call 46; refine (hann _).mono ?_; rintro e w1 ⟨rfl, rfl⟩)
      go_ret3
      exact ⟨rfl, Below.refl _ _⟩
    · rw [if_neg hs]
      by_cases hL1 : L = 1
      · rw [if_pos hL1]
        subst hL1
        clear hac
        go_enter Try.func42, Try.ntmps42
        go_wp2_with (go_at_call 46; refine (hann _).mono ?_; rintro e w1 ⟨rfl, rfl⟩)
        go_ret3
        exact ⟨rfl, Below.refl _ _⟩
      · rw [if_neg hL1]
        have hL9 : 3 ≤ L ∧ L ≤ 9 := by omega
        have HM := Lib.hid (holds_mid H8.out (L - 1) (by omega))
        have hml : (l.take (L - 1)).length = L - 1 := by rw [List.length_take]; omega
        have hnl := leNum_lt (l.take (L - 1))
        obtain ⟨N, hN⟩ : ∃ N, leNum (l.take (L - 1)) = N := ⟨_, rfl⟩
        have hnum := fun W hh => number_any (l.take (L - 1)) (by omega) (L - 1) hml.symm (some ⟨b, off + 1, none⟩) (c - 1) w.heap.size W hh
        rw [hN] at hnum hnl ⊢
        have hN64 : N < 18446744073709551616 := by
          refine Nat.lt_of_lt_of_le hnl ?_
          rw [hml, show 18446744073709551616 = 256 ^ 8 by decide]
          exact Nat.pow_le_pow_right (by decide) (by omega)
        have hcomp := compact_any N hN64
        obtain ⟨B, hB⟩ : ∃ B, (cmpL N == L) = B := ⟨_, rfl⟩
        have eb : ((cmpL N : Int) == (L : Int)) = B := by
          rw [← hB]
          cases hq : (cmpL N == L) with
          | true =>
            have h : cmpL N = L := by simpa using hq
            rw [h]
            exact beq_self_eq_true _
          | false =>
            have : cmpL N ≠ L := by simpa using hq
            simp only [beq_eq_false_iff_ne]
            omega
        rw [hB]
        clear hB hN hnl hml hac hL1
        go_enter Try.func42, Try.ntmps42
        go_wp2_with (first
          | (go_at_call 46; refine (hann _).mono ?_; rintro e w1 ⟨rfl, rfl⟩)
          | (go_at_call 40; refine (hnum _ HM.out).mono ?_; rintro e w1 ⟨rfl, rfl⟩)
          | (go_at_call 13; refine (hcomp _).mono ?_; rintro e w2 ⟨rfl, hb2⟩))
        go_ret3
        exact ⟨rfl, hb2⟩
end Go.Proofs.Ytngkckngjobojaa.Oct
