/- The contract of num.Decode, at every slice of bytes. No condition. -/
import Derived.Test.YtbhopgklnddelaaNumJ
namespace Go.Proofs.Ytbhopgklnddelaa
open Go.RowKit

def decR (bs : List UInt8) : Int := if okB bs = true then decV bs else 0
def decE (bs : List UInt8) : Int := if okB bs = true then 0 else 110
def DecSaid (n₀ : Nat) (w : World) (bs : List UInt8) : Prop := ∀ (A : Option Addr) (c : Nat), Holds8 n₀ w A bs →
  Calls Try.prog 12 #[.slice A bs.length c] w fun e w' => e = .returned (.tuple #[.int .i64 (decR bs), .int .i64 (decE bs)]) ∧ w = w'

theorem decode1 (n₀ : Nat) (w : World) (x0 : UInt8) : DecSaid n₀ w [x0] := by
  rintro A c (⟨_, h⟩ | ⟨b, off, rfl, hb, hc⟩)
  · cases h
  have b0 := UInt8.toNat_lt x0
  have hv : pv1 x0.toNat 1 = valN [x0] := by simp only [pv1, valN]; omega
  by_cases hl : x0.toNat % 128 = 0
  · have ho : okB [x0] = false := by simp [okB, hl]
    have he : decE [x0] = 110 := by unfold decE; rw [ho]; rfl
    have hd : decR [x0] = 0 := by unfold decR; rw [ho]; rfl
    rw [hd, he]
    exact dec1_no b off c x0.toNat (UInt8.toNat_lt x0) w (hc 0 (by simp)) hl
    
  · have ho : okB [x0] = true := by simp [okB, hl]
    by_cases hs : 128 ≤ x0.toNat
    · have hd : decR [x0] = -((valN [x0] : Int) - 128) := by unfold decR decV; rw [if_pos ho]; simp only [List.getLastD_cons, List.getLastD_nil, List.length_cons, List.length_nil]; rw [if_pos hs]; rw [show (128 : Int) * 256 ^ (0 + 1 - 1) = 128 by decide]
      have he : decE [x0] = 0 := by unfold decE; rw [if_pos ho]
      rw [hd, he, ← hv]
      exact dec1_B1 b off c x0.toNat (UInt8.toNat_lt x0) w (hc 0 (by simp)) hl hs
    · have hd : decR [x0] = (valN [x0] : Int) := by unfold decR decV; rw [if_pos ho]; simp only [List.getLastD_cons, List.getLastD_nil, List.length_cons, List.length_nil]; rw [if_neg hs]
      have he : decE [x0] = 0 := by unfold decE; rw [if_pos ho]
      rw [hd, he, ← hv]
      exact dec1_B0 b off c x0.toNat (UInt8.toNat_lt x0) w (hc 0 (by simp)) hl (by omega)


theorem decode2 (n₀ : Nat) (w : World) (x0 x1 : UInt8) : DecSaid n₀ w [x0, x1] := by
  rintro A c (⟨_, h⟩ | ⟨b, off, rfl, hb, hc⟩)
  · cases h
  have b0 := UInt8.toNat_lt x0
  have b1 := UInt8.toNat_lt x1
  have hv : pv2 x0.toNat x1.toNat 2 = valN [x0, x1] := by simp only [pv2, valN]; omega
  by_cases hl : x1.toNat % 128 = 0
  · by_cases hp : 128 ≤ x0.toNat
    · have ho : okB [x0, x1] = true := by simp [okB, hp]
      by_cases hs : 128 ≤ x1.toNat
      · have hd : decR [x0, x1] = -((valN [x0, x1] : Int) - 32768) := by unfold decR decV; rw [if_pos ho]; simp only [List.getLastD_cons, List.getLastD_nil, List.length_cons, List.length_nil]; rw [if_pos hs]; rw [show (128 : Int) * 256 ^ (0 + 1 + 1 - 1) = 32768 by decide]
        have he : decE [x0, x1] = 0 := by unfold decE; rw [if_pos ho]
        rw [hd, he, ← hv]
        exact dec2_A1 b off c x0.toNat x1.toNat (UInt8.toNat_lt x0) (UInt8.toNat_lt x1) w (hc 0 (by simp)) (hc 1 (by simp)) hl hp hs
      · have hd : decR [x0, x1] = (valN [x0, x1] : Int) := by unfold decR decV; rw [if_pos ho]; simp only [List.getLastD_cons, List.getLastD_nil, List.length_cons, List.length_nil]; rw [if_neg hs]
        have he : decE [x0, x1] = 0 := by unfold decE; rw [if_pos ho]
        rw [hd, he, ← hv]
        exact dec2_A0 b off c x0.toNat x1.toNat (UInt8.toNat_lt x0) (UInt8.toNat_lt x1) w (hc 0 (by simp)) (hc 1 (by simp)) hl hp (by omega)
    · have ho : okB [x0, x1] = false := by simp [okB, hl]; omega
      have he : decE [x0, x1] = 110 := by unfold decE; rw [ho]; rfl
      have hd : decR [x0, x1] = 0 := by unfold decR; rw [ho]; rfl
      rw [hd, he]
      exact dec2_no b off c x0.toNat x1.toNat (UInt8.toNat_lt x0) (UInt8.toNat_lt x1) w (hc 0 (by simp)) (hc 1 (by simp)) hl (by omega)
      
  · have ho : okB [x0, x1] = true := by simp [okB, hl]
    by_cases hs : 128 ≤ x1.toNat
    · have hd : decR [x0, x1] = -((valN [x0, x1] : Int) - 32768) := by unfold decR decV; rw [if_pos ho]; simp only [List.getLastD_cons, List.getLastD_nil, List.length_cons, List.length_nil]; rw [if_pos hs]; rw [show (128 : Int) * 256 ^ (0 + 1 + 1 - 1) = 32768 by decide]
      have he : decE [x0, x1] = 0 := by unfold decE; rw [if_pos ho]
      rw [hd, he, ← hv]
      exact dec2_B1 b off c x0.toNat x1.toNat (UInt8.toNat_lt x0) (UInt8.toNat_lt x1) w (hc 0 (by simp)) (hc 1 (by simp)) hl hs
    · have hd : decR [x0, x1] = (valN [x0, x1] : Int) := by unfold decR decV; rw [if_pos ho]; simp only [List.getLastD_cons, List.getLastD_nil, List.length_cons, List.length_nil]; rw [if_neg hs]
      have he : decE [x0, x1] = 0 := by unfold decE; rw [if_pos ho]
      rw [hd, he, ← hv]
      exact dec2_B0 b off c x0.toNat x1.toNat (UInt8.toNat_lt x0) (UInt8.toNat_lt x1) w (hc 0 (by simp)) (hc 1 (by simp)) hl (by omega)


theorem decode3 (n₀ : Nat) (w : World) (x0 x1 x2 : UInt8) : DecSaid n₀ w [x0, x1, x2] := by
  rintro A c (⟨_, h⟩ | ⟨b, off, rfl, hb, hc⟩)
  · cases h
  have b0 := UInt8.toNat_lt x0
  have b1 := UInt8.toNat_lt x1
  have b2 := UInt8.toNat_lt x2
  have hv : pv3 x0.toNat x1.toNat x2.toNat 3 = valN [x0, x1, x2] := by simp only [pv3, valN]; omega
  by_cases hl : x2.toNat % 128 = 0
  · by_cases hp : 128 ≤ x1.toNat
    · have ho : okB [x0, x1, x2] = true := by simp [okB, hp]
      by_cases hs : 128 ≤ x2.toNat
      · have hd : decR [x0, x1, x2] = -((valN [x0, x1, x2] : Int) - 8388608) := by unfold decR decV; rw [if_pos ho]; simp only [List.getLastD_cons, List.getLastD_nil, List.length_cons, List.length_nil]; rw [if_pos hs]; rw [show (128 : Int) * 256 ^ (0 + 1 + 1 + 1 - 1) = 8388608 by decide]
        have he : decE [x0, x1, x2] = 0 := by unfold decE; rw [if_pos ho]
        rw [hd, he, ← hv]
        exact dec3_A1 b off c x0.toNat x1.toNat x2.toNat (UInt8.toNat_lt x0) (UInt8.toNat_lt x1) (UInt8.toNat_lt x2) w (hc 0 (by simp)) (hc 1 (by simp)) (hc 2 (by simp)) hl hp hs
      · have hd : decR [x0, x1, x2] = (valN [x0, x1, x2] : Int) := by unfold decR decV; rw [if_pos ho]; simp only [List.getLastD_cons, List.getLastD_nil, List.length_cons, List.length_nil]; rw [if_neg hs]
        have he : decE [x0, x1, x2] = 0 := by unfold decE; rw [if_pos ho]
        rw [hd, he, ← hv]
        exact dec3_A0 b off c x0.toNat x1.toNat x2.toNat (UInt8.toNat_lt x0) (UInt8.toNat_lt x1) (UInt8.toNat_lt x2) w (hc 0 (by simp)) (hc 1 (by simp)) (hc 2 (by simp)) hl hp (by omega)
    · have ho : okB [x0, x1, x2] = false := by simp [okB, hl]; omega
      have he : decE [x0, x1, x2] = 110 := by unfold decE; rw [ho]; rfl
      have hd : decR [x0, x1, x2] = 0 := by unfold decR; rw [ho]; rfl
      rw [hd, he]
      exact dec3_no b off c x0.toNat x1.toNat x2.toNat (UInt8.toNat_lt x0) (UInt8.toNat_lt x1) (UInt8.toNat_lt x2) w (hc 0 (by simp)) (hc 1 (by simp)) (hc 2 (by simp)) hl (by omega)
      
  · have ho : okB [x0, x1, x2] = true := by simp [okB, hl]
    by_cases hs : 128 ≤ x2.toNat
    · have hd : decR [x0, x1, x2] = -((valN [x0, x1, x2] : Int) - 8388608) := by unfold decR decV; rw [if_pos ho]; simp only [List.getLastD_cons, List.getLastD_nil, List.length_cons, List.length_nil]; rw [if_pos hs]; rw [show (128 : Int) * 256 ^ (0 + 1 + 1 + 1 - 1) = 8388608 by decide]
      have he : decE [x0, x1, x2] = 0 := by unfold decE; rw [if_pos ho]
      rw [hd, he, ← hv]
      exact dec3_B1 b off c x0.toNat x1.toNat x2.toNat (UInt8.toNat_lt x0) (UInt8.toNat_lt x1) (UInt8.toNat_lt x2) w (hc 0 (by simp)) (hc 1 (by simp)) (hc 2 (by simp)) hl hs
    · have hd : decR [x0, x1, x2] = (valN [x0, x1, x2] : Int) := by unfold decR decV; rw [if_pos ho]; simp only [List.getLastD_cons, List.getLastD_nil, List.length_cons, List.length_nil]; rw [if_neg hs]
      have he : decE [x0, x1, x2] = 0 := by unfold decE; rw [if_pos ho]
      rw [hd, he, ← hv]
      exact dec3_B0 b off c x0.toNat x1.toNat x2.toNat (UInt8.toNat_lt x0) (UInt8.toNat_lt x1) (UInt8.toNat_lt x2) w (hc 0 (by simp)) (hc 1 (by simp)) (hc 2 (by simp)) hl (by omega)


theorem decode4 (n₀ : Nat) (w : World) (x0 x1 x2 x3 : UInt8) : DecSaid n₀ w [x0, x1, x2, x3] := by
  rintro A c (⟨_, h⟩ | ⟨b, off, rfl, hb, hc⟩)
  · cases h
  have b0 := UInt8.toNat_lt x0
  have b1 := UInt8.toNat_lt x1
  have b2 := UInt8.toNat_lt x2
  have b3 := UInt8.toNat_lt x3
  have hv : pv4 x0.toNat x1.toNat x2.toNat x3.toNat 4 = valN [x0, x1, x2, x3] := by simp only [pv4, valN]; omega
  by_cases hl : x3.toNat % 128 = 0
  · by_cases hp : 128 ≤ x2.toNat
    · have ho : okB [x0, x1, x2, x3] = true := by simp [okB, hp]
      by_cases hs : 128 ≤ x3.toNat
      · have hd : decR [x0, x1, x2, x3] = -((valN [x0, x1, x2, x3] : Int) - 2147483648) := by unfold decR decV; rw [if_pos ho]; simp only [List.getLastD_cons, List.getLastD_nil, List.length_cons, List.length_nil]; rw [if_pos hs]; rw [show (128 : Int) * 256 ^ (0 + 1 + 1 + 1 + 1 - 1) = 2147483648 by decide]
        have he : decE [x0, x1, x2, x3] = 0 := by unfold decE; rw [if_pos ho]
        rw [hd, he, ← hv]
        exact dec4_A1 b off c x0.toNat x1.toNat x2.toNat x3.toNat (UInt8.toNat_lt x0) (UInt8.toNat_lt x1) (UInt8.toNat_lt x2) (UInt8.toNat_lt x3) w (hc 0 (by simp)) (hc 1 (by simp)) (hc 2 (by simp)) (hc 3 (by simp)) hl hp hs
      · have hd : decR [x0, x1, x2, x3] = (valN [x0, x1, x2, x3] : Int) := by unfold decR decV; rw [if_pos ho]; simp only [List.getLastD_cons, List.getLastD_nil, List.length_cons, List.length_nil]; rw [if_neg hs]
        have he : decE [x0, x1, x2, x3] = 0 := by unfold decE; rw [if_pos ho]
        rw [hd, he, ← hv]
        exact dec4_A0 b off c x0.toNat x1.toNat x2.toNat x3.toNat (UInt8.toNat_lt x0) (UInt8.toNat_lt x1) (UInt8.toNat_lt x2) (UInt8.toNat_lt x3) w (hc 0 (by simp)) (hc 1 (by simp)) (hc 2 (by simp)) (hc 3 (by simp)) hl hp (by omega)
    · have ho : okB [x0, x1, x2, x3] = false := by simp [okB, hl]; omega
      have he : decE [x0, x1, x2, x3] = 110 := by unfold decE; rw [ho]; rfl
      have hd : decR [x0, x1, x2, x3] = 0 := by unfold decR; rw [ho]; rfl
      rw [hd, he]
      exact dec4_no b off c x0.toNat x1.toNat x2.toNat x3.toNat (UInt8.toNat_lt x0) (UInt8.toNat_lt x1) (UInt8.toNat_lt x2) (UInt8.toNat_lt x3) w (hc 0 (by simp)) (hc 1 (by simp)) (hc 2 (by simp)) (hc 3 (by simp)) hl (by omega)
      
  · have ho : okB [x0, x1, x2, x3] = true := by simp [okB, hl]
    by_cases hs : 128 ≤ x3.toNat
    · have hd : decR [x0, x1, x2, x3] = -((valN [x0, x1, x2, x3] : Int) - 2147483648) := by unfold decR decV; rw [if_pos ho]; simp only [List.getLastD_cons, List.getLastD_nil, List.length_cons, List.length_nil]; rw [if_pos hs]; rw [show (128 : Int) * 256 ^ (0 + 1 + 1 + 1 + 1 - 1) = 2147483648 by decide]
      have he : decE [x0, x1, x2, x3] = 0 := by unfold decE; rw [if_pos ho]
      rw [hd, he, ← hv]
      exact dec4_B1 b off c x0.toNat x1.toNat x2.toNat x3.toNat (UInt8.toNat_lt x0) (UInt8.toNat_lt x1) (UInt8.toNat_lt x2) (UInt8.toNat_lt x3) w (hc 0 (by simp)) (hc 1 (by simp)) (hc 2 (by simp)) (hc 3 (by simp)) hl hs
    · have hd : decR [x0, x1, x2, x3] = (valN [x0, x1, x2, x3] : Int) := by unfold decR decV; rw [if_pos ho]; simp only [List.getLastD_cons, List.getLastD_nil, List.length_cons, List.length_nil]; rw [if_neg hs]
      have he : decE [x0, x1, x2, x3] = 0 := by unfold decE; rw [if_pos ho]
      rw [hd, he, ← hv]
      exact dec4_B0 b off c x0.toNat x1.toNat x2.toNat x3.toNat (UInt8.toNat_lt x0) (UInt8.toNat_lt x1) (UInt8.toNat_lt x2) (UInt8.toNat_lt x3) w (hc 0 (by simp)) (hc 1 (by simp)) (hc 2 (by simp)) (hc 3 (by simp)) hl (by omega)


theorem decode_any (n₀ : Nat) (w : World) (bs : List UInt8) (hm : bs.length ≤ maxLen) : DecSaid n₀ w bs := by
  unfold maxLen at hm
  match bs with
  | [] => exact fun A c _ => dec_empty A c w
  | [x0] => exact decode1 n₀ w x0
  | [x0, x1] => exact decode2 n₀ w x0 x1
  | [x0, x1, x2] => exact decode3 n₀ w x0 x1 x2
  | [x0, x1, x2, x3] => exact decode4 n₀ w x0 x1 x2 x3
  | x0 :: x1 :: x2 :: x3 :: x4 :: l =>
    rintro A c (⟨_, h⟩ | ⟨b, off, rfl, hb, hc⟩)
    · cases h
    · have ho : okB (x0 :: x1 :: x2 :: x3 :: x4 :: l) = false := by
        unfold okB
        rw [decide_eq_false (by simp)]
        rfl
      have he : decE (x0 :: x1 :: x2 :: x3 :: x4 :: l) = 110 := by unfold decE; rw [ho]; rfl
      have hd : decR (x0 :: x1 :: x2 :: x3 :: x4 :: l) = 0 := by unfold decR; rw [ho]; rfl
      rw [hd, he]
      exact dec_long b off _ c _ (by simp) w (hc ((x0 :: x1 :: x2 :: x3 :: x4 :: l).length - 1) (by simp)) hm
end Go.Proofs.Ytbhopgklnddelaa
