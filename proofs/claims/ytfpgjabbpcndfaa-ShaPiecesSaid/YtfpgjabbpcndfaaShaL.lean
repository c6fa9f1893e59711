/- The digits of a hash (hex), and the chapter's first examples (alive). No condition. -/
import Derived.Test.YtfpgjabbpcndfaaShaK
import Derived.WalkLawsBesides
namespace Go.Proofs.Ytfpgjabbpcndfaa.Oct
set_option linter.unusedVariables false
set_option linter.unusedSimpArgs false
open Go.Proofs.Ytfpgjabbpcndfaa Go.RowKit Go.Lib Go.Shelf

def digs16 : List UInt8 := [48, 49, 50, 51, 52, 53, 54, 55, 56, 57, 97, 98, 99, 100, 101, 102]
def hexL : List UInt8 → List UInt8
  | [] => []
  | b :: l => digs16.getD (b.toNat / 16) 0 :: digs16.getD (b.toNat % 16) 0 :: hexL l
theorem hexL_snoc (l : List UInt8) (b : UInt8) : hexL (l ++ [b]) = hexL l ++ [digs16.getD (b.toNat / 16) 0, digs16.getD (b.toNat % 16) 0] := by
  induction l with
  | nil => rfl
  | cons x l ih => simp only [List.cons_append, hexL, ih]
theorem hexL_length (l : List UInt8) : (hexL l).length = 2 * l.length := by
  induction l with
  | nil => rfl
  | cons x l ih => simp only [hexL, List.length_cons, ih]; omega
theorem dig_slice (a : Nat) (ha : a < 16) (w : World) :
    (Instr.slice 9 (.string ⟨#[48, 49, 50, 51, 52, 53, 54, 55, 56, 57, 97, 98, 99, 100, 101, 102]⟩) (some (.int .u8 (a : Int))) (some (.int .u8 ((a : Int) + 1))) none).run Try.prog w = .ok (.string ⟨[digs16.getD a 0].toArray⟩) w := by
  have : a = 0 ∨ a = 1 ∨ a = 2 ∨ a = 3 ∨ a = 4 ∨ a = 5 ∨ a = 6 ∨ a = 7 ∨ a = 8 ∨ a = 9 ∨ a = 10 ∨ a = 11 ∨ a = 12 ∨ a = 13 ∨ a = 14 ∨ a = 15 := by omega
  rcases this with rfl | rfl | rfl | rfl | rfl | rfl | rfl | rfl | rfl | rfl | rfl | rfl | rfl | rfl | rfl | rfl <;> rfl

theorem str_two (l : List UInt8) (x y : UInt8) : ((⟨l.toArray⟩ : ByteArray) ++ (⟨#[x]⟩ : ByteArray) ++ (⟨#[y]⟩ : ByteArray)) = ⟨(l ++ [x, y]).toArray⟩ := by
  apply ByteArray.ext
  simp [ByteArray.data_append]

set_option maxRecDepth 100000 in
set_option maxHeartbeats 2000000 in
theorem hex_any (h : List UInt8) (hl : h.length = 32) (w : World) : Calls Try.prog 28 #[.agg (arr8 h)] w fun e w' => e = .returned (.string ⟨(hexL h).toArray⟩) ∧ Below w.heap.size w w' := by
  have HL := Lib.hid hl
  have hK := (Keeps.nil w).new (arr8 h) 25
  clear hl
  go_enter Try.func28, Try.ntmps28
  go_wp2_with (first | (refine wpList_load_row rfl 25 (.tmp 1) rfl w.heap.size rfl 25 _ (0, 0) _ (hK.get 0 rfl) Try.underlying25 rfl (infoH _ HL.out) ?_))
  go_loopw [3, 7] (fun sv kv wr => ∃ k : Nat, k ≤ 32 ∧ kv = .int .i64 k ∧ sv = .string ⟨(hexL (h.take k)).toArray⟩ ∧ Below w.heap.size w wr) (fun _ kv _ => 32 - (intOf kv).toNat)
  case atStart => exact ⟨0, Nat.zero_le _, rfl, rfl, hK.bel⟩
  case round =>
    obtain ⟨k, hk, rfl, rfl, hB⟩ := hrel
    by_cases hlt : k < 32
    · have hx := arr8_get h k (by rw [HL.out]; exact hlt)
      have hix := run_index_arr (P := Try.prog) Try.underlying25 Try.underlying5 (by kernel_rfl) hlt hx
      have hst : hexL (h.take (k + 1)) = hexL (h.take k) ++ [digs16.getD ((h.getD k 0).toNat / 16) 0, digs16.getD ((h.getD k 0).toNat % 16) 0] := by
        rw [List.take_succ_eq_append_getElem (by rw [HL.out]; exact hlt), hexL_snoc]
        simp [List.getD, HL.out, hlt]
      have hlen := hexL_length (h.take k)
      rw [List.length_take, HL.out] at hlen
      have HST := Lib.hid hst
      clear hst hx hK
      have hx8 := UInt8.toNat_lt (h.getD k 0)
      generalize (h.getD k 0).toNat = x at *
      have e1 : (x : Int) / 16 = ((x / 16 : Nat) : Int) := by omega
      have e2 : bits .and .u8 (x : Int) 15 = ((x % 16 : Nat) : Int) := by
        rw [show (15 : Int) = ((15 : Nat) : Int) by rfl, u8_and_nat _ _ hx8 (by omega), nat_mask4]
      have d1 := dig_slice (x / 16) (by omega)
      have d2 := dig_slice (x % 16) (by omega)
      have l1 : x / 16 < 16 := by omega
      have l2 : x % 16 < 16 := by omega
      generalize x / 16 = q1 at *
      generalize x % 16 = q2 at *
      generalize digs16.getD q1 0 = y1 at *
      generalize digs16.getD q2 0 = y2 at *
      have w1 : IntKind.u8.wrap ((q1 : Int) + 1) = (q1 : Int) + 1 := by rw [IntKind.wrap_u8']; omega
      have w2 : IntKind.u8.wrap ((q2 : Int) + 1) = (q2 : Int) + 1 := by rw [IntKind.wrap_u8']; omega
      go_wp2
      go_quiet (fail)
      go_wp2
      go_roundw
      case rel =>
        refine ⟨k + 1, by omega, by go_num, ?_, below_drewN hB nq⟩
        rw [HST.out]
        exact congrArg Value.string (str_two _ _ _)
      case measure => simp [intOf]; omega
    · have h32 : k = 32 := by omega
      have HK := Lib.hid h32
      clear h32
      go_wp2
      go_ret
      refine ⟨?_, hB⟩
      rw [HK.out, List.take_of_length_le (by rw [HL.out]; omega)]
      rfl

theorem hex_nil : (⟨(hexL (sha [])).toArray⟩ : ByteArray) = ⟨#[101, 51, 98, 48, 99, 52, 52, 50, 57, 56, 102, 99, 49, 99, 49, 52, 57, 97, 102, 98, 102, 52, 99, 56, 57, 57, 54, 102, 98, 57, 50, 52, 50, 55, 97, 101, 52, 49, 101, 52, 54, 52, 57, 98, 57, 51, 52, 99, 97, 52, 57, 53, 57, 57, 49, 98, 55, 56, 53, 50, 98, 56, 53, 53]⟩ := by
  rw [sha_nil]
  rfl
theorem hex_abc : (⟨(hexL (sha [97, 98, 99])).toArray⟩ : ByteArray) = ⟨#[98, 97, 55, 56, 49, 54, 98, 102, 56, 102, 48, 49, 99, 102, 101, 97, 52, 49, 52, 49, 52, 48, 100, 101, 53, 100, 97, 101, 50, 50, 50, 51, 98, 48, 48, 51, 54, 49, 97, 51, 57, 54, 49, 55, 55, 97, 57, 99, 98, 52, 49, 48, 102, 102, 54, 49, 102, 50, 48, 48, 49, 53, 97, 100]⟩ := by
  rw [sha_abc]
  rfl

set_option maxRecDepth 100000 in
set_option maxHeartbeats 4000000 in
theorem alive_any (w : World) : Calls Try.prog 18 #[] w fun e w' => e = .returned (.bool true) ∧ Below w.heap.size w w' := by
  have C1 : Hid (∀ W, Calls Try.prog 8 #[.slice none 0 0] W fun e w' => e = .returned (.agg (arr8 (sha []))) ∧ Below W.heap.size W w') :=
    Lib.hid fun W => of_any' W none 0 0 [] rfl (.inl ⟨rfl, rfl⟩) (by omega) (by omega)
  have C2 : Hid (∀ W, Calls Try.prog 28 #[.agg (arr8 (sha []))] W fun e w' => e = .returned (.string ⟨#[101, 51, 98, 48, 99, 52, 52, 50, 57, 56, 102, 99, 49, 99, 49, 52, 57, 97, 102, 98, 102, 52, 99, 56, 57, 57, 54, 102, 98, 57, 50, 52, 50, 55, 97, 101, 52, 49, 101, 52, 54, 52, 57, 98, 57, 51, 52, 99, 97, 52, 57, 53, 57, 57, 49, 98, 55, 56, 53, 50, 98, 56, 53, 53]⟩) ∧ Below W.heap.size W w') :=
    Lib.hid fun W => by
      have h := hex_any (sha []) rfl W
      rw [hex_nil] at h
      exact h
  have C3 : Hid (∀ W, Calls Try.prog 8 #[.slice (some ⟨W.heap.size, 0, none⟩) 3 3] (laid W [97, 98, 99]) fun e w' => e = .returned (.agg (arr8 (sha [97, 98, 99]))) ∧ Below W.heap.size W w') :=
    Lib.hid fun W => (of_any' (laid W [97, 98, 99]) (some ⟨W.heap.size, 0, none⟩) 3 3 [97, 98, 99] rfl (laid_holds W _) (by omega) (by omega)).mono fun e w' ⟨he, hb⟩ => ⟨he, (laid_below W _).trans (hb.mono (laid_below W _).size)⟩
  have C4 : Hid (∀ W, Calls Try.prog 28 #[.agg (arr8 (sha [97, 98, 99]))] W fun e w' => e = .returned (.string ⟨#[98, 97, 55, 56, 49, 54, 98, 102, 56, 102, 48, 49, 99, 102, 101, 97, 52, 49, 52, 49, 52, 48, 100, 101, 53, 100, 97, 101, 50, 50, 50, 51, 98, 48, 48, 51, 54, 49, 97, 51, 57, 54, 49, 55, 55, 97, 57, 99, 98, 52, 49, 48, 102, 102, 54, 49, 102, 50, 48, 48, 49, 53, 97, 100]⟩) ∧ Below W.heap.size W w') :=
    Lib.hid fun W => by
      have h := hex_any (sha [97, 98, 99]) rfl W
      rw [hex_abc] at h
      exact h
  have hlc := fun W => laid_conv W [97, 98, 99] #[.int .u8 97, .int .u8 98, .int .u8 99] rfl 3
  go_enter Try.func18, Try.ntmps18
  have tok1 : True := trivial
  go_wp2_with (first | (go_at_call 8; (with_reducible refine (C1.out _).mono ?_); rintro e W1 ⟨rfl, hb1⟩; clear C1) | (go_at_call 28; (with_reducible refine (C2.out _).mono ?_); rintro e W2 ⟨rfl, hb2⟩; clear C2) | (go_at_call 8; (with_reducible refine (C3.out _).mono ?_); rintro e W3 ⟨rfl, hb3⟩; clear C3) | (go_at_call 28; (with_reducible refine (C4.out _).mono ?_); rintro e W4 ⟨rfl, hb4⟩; clear C4))
  go_ret
  have h12 := hb1.trans (hb2.mono hb1.size)
  have h34 := hb3.trans (hb4.mono hb3.size)
  exact ⟨rfl, h12.trans (h34.mono h12.size)⟩
end Go.Proofs.Ytfpgjabbpcndfaa.Oct
