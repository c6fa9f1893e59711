/- The contract of an eye's Bytes. No condition beyond the memory's reach. -/
import Derived.Test.YtngkckngjobojaaOctI
namespace Go.Proofs.Ytngkckngjobojaa.Oct
open Go.Proofs.Ytngkckngjobojaa Go.RowKit Go.Shelf

def bytesR (bs : List UInt8) (most : Int) : List UInt8 × Int × List UInt8 :=
  if (szOf bs).2.2 = true ∧ 0 ≤ most ∧ ((szOf bs).1 : Int) ≤ most ∧ (szOf bs).1 ≤ bs.length - (szOf bs).2.1 then ((bs.drop (szOf bs).2.1).take (szOf bs).1, 0, (bs.drop (szOf bs).2.1).drop (szOf bs).1) else ([], 10, bs)
set_option maxRecDepth 100000 in
set_option maxHeartbeats 2000000 in
theorem eyeBytes_any (base hi r : Nat) (bs : List UInt8) (most : Int) (hm : most ≤ 9223372036854775807) (w : World) (h : EyeAt base hi w r bs) (hl : bs.length ≤ 100000000000000) (hbase : base ≤ w.heap.size) :
    Calls Try.prog 22 #[.pointer (some ⟨r, 0, none⟩), .int .i64 most] w (ReadB base hi r (bytesR bs most) w) := by
  have hno := fun W (hW : EyeAt base hi W r bs) => none_any base hi r bs W hW
  have hsz := size_any base hi r bs hl w h
  cases hok : (szOf bs).2.2 with
  | false =>
    have HR := Lib.hid (show bytesR bs most = ([], 10, bs) by unfold bytesR; rw [if_neg (by rw [hok]; simp)])
    rw [hok] at hsz
    clear hok
    go_enter Try.func22, Try.ntmps22
    go_wp2_with (first
      | (go_at_call 38; refine (hno _ h).mono ?_; rintro e w1 ⟨rfl, rfl⟩)
      | (go_at_call 42; refine hsz.mono ?_; rintro e w1 ⟨rfl, hb1⟩))
    go_ret2
    rw [HR.out]
    exact ⟨_, rfl, World.ownsRow_nil _ _ _ _, h.below hb1, EyeStep.of_below hb1⟩
  | true =>
    have hle := szOf_le hok
    have hlt := szOf_lt bs
    by_cases hgood : 0 ≤ most ∧ ((szOf bs).1 : Int) ≤ most ∧ (szOf bs).1 ≤ bs.length - (szOf bs).2.1
    · have HR0 := Lib.hid (show bytesR bs most = ((bs.drop (szOf bs).2.1).take (szOf bs).1, 0, (bs.drop (szOf bs).2.1).drop (szOf bs).1) by unfold bytesR; rw [if_pos ⟨hok, hgood⟩])
      obtain ⟨k, hk⟩ : ∃ k, (szOf bs).2.1 = k := ⟨_, rfl⟩
      obtain ⟨N, hN⟩ : ∃ N, (szOf bs).1 = N := ⟨_, rfl⟩
      rw [hok, hk, hN] at hsz
      rw [hk, hN] at HR0
      rw [hk] at hle
      rw [hN] at hlt
      rw [hk, hN] at hgood
      clear hok hk hN
      obtain ⟨hm0, hmN, hNl⟩ := hgood
      obtain ⟨hkl, hk1⟩ := hle
      have H := Lib.hid h
      obtain ⟨hg, A, c, hh, h8, hlc, hA, hne⟩ := h
      obtain ⟨b, off, rfl, hb, hc0⟩ := h8.at_ (show 0 < bs.length by omega)
      obtain ⟨h0, h1, hf⟩ := eye_cells hh
      have hrl := H.out.lt
      have H8 := Lib.hid h8
      have i2 : decide (most < 0) = false := by simp; omega
      have i3 : decide (most < (N : Int)) = false := by simp; omega
      have i4 : decide ((bs.length : Int) - (k : Int) < (N : Int)) = false := by simp; omega
      have i5 : 0 ≤ (bs.length : Int) - (k : Int) := by omega
      have i6 : N < 9223372036854775808 := by omega
      have hraw := fun W (hW : EyeAt base hi W r (bs.drop k)) => eyeRaw_any base hi r (bs.drop k) (N : Int) W hW (by rw [List.length_drop]; omega)
      have hrr : rawR (bs.drop k) (N : Int) = ((bs.drop k).take N, 0, (bs.drop k).drop N) := by
        unfold rawR
        rw [if_neg (by omega), if_neg (by rw [List.length_drop]; simp; omega)]
        simp
      rw [hrr] at hraw
      have HRAW := Lib.hid hraw
      clear hrr h8 hc0 hraw
      go_enter Try.func22, Try.ntmps22
      go_wp2_with (first
        | (go_at_call 38; refine (hno _ H.out).mono ?_; rintro e w1 ⟨rfl, rfl⟩)
        | (go_at_call 42; refine hsz.mono ?_; rintro e w1 ⟨rfl, hb1⟩; have hc1 := (hb1.cell (p := ⟨r, 0, none⟩) hrl).trans h0; have hf1 := (hb1.frozen (p := ⟨r, 0, none⟩) hrl).trans hf))
      all_goals
        have hp := eye_drop (A' := _) hg hh hb1 (H8.out.later hb1) hlc hA hne k hkl (by first | exact cut_ne ‹_› | exact cut_eq ‹_›)
        first
          | (refine (HRAW.out _ hp.1).mono ?_)
          | (rw [show c - k = 0 by omega] at hp; refine (HRAW.out _ hp.1).mono ?_)
        have HP := Lib.hid hp
        clear hp
        rintro e w3 ⟨v, rfl, hr, he, hs⟩
        have HRR := Lib.hid (ownsRow_base hr HP.out.2.size)
        have HE := Lib.hid he
        have HS := Lib.hid (HP.out.2.trans hs)
        clear hr he hs
        go_wp2
        go_ret2
        rw [HR0.out]
        exact ⟨_, rfl, HRR.out, HE.out, HS.out⟩
    · have HR := Lib.hid (show bytesR bs most = ([], 10, bs) by unfold bytesR; rw [if_neg (fun hq => hgood hq.2)])
      obtain ⟨k, hk⟩ : ∃ k, (szOf bs).2.1 = k := ⟨_, rfl⟩
      obtain ⟨N, hN⟩ : ∃ N, (szOf bs).1 = N := ⟨_, rfl⟩
      rw [hok, hk, hN] at hsz
      rw [hk] at hle
      rw [hN] at hlt
      rw [hk, hN] at hgood
      clear hok hk hN
      obtain ⟨hkl, hk1⟩ := hle
      have H := Lib.hid h
      obtain ⟨hg, A, c, hh, h8, hlc, hA, hne⟩ := h
      obtain ⟨h0, h1, hf⟩ := eye_cells hh
      have hrl := H.out.lt
      have i5 : 0 ≤ (bs.length : Int) - (k : Int) := by omega
      clear h8
      by_cases hm0 : most < 0
      · clear hgood
        go_enter Try.func22, Try.ntmps22
        go_wp2_with (first
          | (go_at_call 38; refine (hno _ H.out).mono ?_; rintro e w1 ⟨rfl, rfl⟩)
          | (go_at_call 42; refine hsz.mono ?_; rintro e w1 ⟨rfl, hb1⟩; have hc1 := (hb1.cell (p := ⟨r, 0, none⟩) hrl).trans h0; have hf1 := (hb1.frozen (p := ⟨r, 0, none⟩) hrl).trans hf))
        go_ret2
        rw [HR.out]
        exact ⟨_, rfl, World.ownsRow_nil _ _ _ _, H.out.below hb1, EyeStep.of_below hb1⟩
      · have i2 : decide (most < 0) = false := by simp; omega
        have i2' : 0 ≤ most := by omega
        by_cases hmN : most < (N : Int)
        · clear hgood
          go_enter Try.func22, Try.ntmps22
          go_wp2_with (first
            | (go_at_call 38; refine (hno _ H.out).mono ?_; rintro e w1 ⟨rfl, rfl⟩)
            | (go_at_call 42; refine hsz.mono ?_; rintro e w1 ⟨rfl, hb1⟩; have hc1 := (hb1.cell (p := ⟨r, 0, none⟩) hrl).trans h0; have hf1 := (hb1.frozen (p := ⟨r, 0, none⟩) hrl).trans hf))
          go_ret2
          rw [HR.out]
          exact ⟨_, rfl, World.ownsRow_nil _ _ _ _, H.out.below hb1, EyeStep.of_below hb1⟩
        · have i3 : decide (most < (N : Int)) = false := by simp; omega
          have i4 : (bs.length : Int) - (k : Int) < (N : Int) := by
            rcases Nat.lt_or_ge (bs.length - k) N with h | h
            · omega
            · exact absurd ⟨by omega, by omega, h⟩ hgood
          clear hgood
          go_enter Try.func22, Try.ntmps22
          go_wp2_with (first
            | (go_at_call 38; refine (hno _ H.out).mono ?_; rintro e w1 ⟨rfl, rfl⟩)
            | (go_at_call 42; refine hsz.mono ?_; rintro e w1 ⟨rfl, hb1⟩; have hc1 := (hb1.cell (p := ⟨r, 0, none⟩) hrl).trans h0; have hf1 := (hb1.frozen (p := ⟨r, 0, none⟩) hrl).trans hf))
          go_ret2
          rw [HR.out]
          exact ⟨_, rfl, World.ownsRow_nil _ _ _ _, H.out.below hb1, EyeStep.of_below hb1⟩
end Go.Proofs.Ytngkckngjobojaa.Oct
