/- The document's number of 32 bytes, bit by bit. -/
import Derived.Test.YtgmgejjlhlibkaaRefWE
import Derived.Test.YtgmgejjlhlibkaaRefWI
import Derived.Below
namespace Go.Proofs.Ytgmgejjlhlibkaa.Oct
set_option linter.unusedVariables false
open Go.Proofs.Ytgmgejjlhlibkaa Go.RowKit Go.Shelf

theorem leN_byte (bs : List UInt8) (i : Nat) (hi : i < bs.length) : byteOf (leN bs) i = (bs[i]).toNat := by
  induction bs generalizing i with
  | nil => simp at hi
  | cons x l ih =>
    have hx := UInt8.toNat_lt x
    rcases i with _ | i
    · unfold byteOf
      simp only [leN, Nat.pow_zero, Nat.div_one, List.getElem_cons_zero]
      omega
    · have h := ih i (by simpa using hi)
      unfold byteOf at h ⊢
      simp only [leN, List.getElem_cons_succ]
      rw [← h, Nat.pow_succ, Nat.mul_comm (256 ^ i) 256, ← Nat.div_div_eq_div_mul, show (x.toNat + 256 * leN l) / 256 = leN l by omega]
theorem leN_bit (bs : List UInt8) (k : Nat) (hk : k / 8 < bs.length) : (bs[k / 8]).toNat / 2 ^ (k % 8) % 2 = bitOf (leN bs) k := by
  rw [← leN_byte bs _ hk]
  show bitOf (byteOf (leN bs) (k / 8)) (k % 8) = _
  unfold byteOf
  rw [show (256 : Nat) = 2 ^ 8 from rfl, bitOf_mod _ _ _ (by omega), ← Nat.pow_mul, bitOf_shr, show k % 8 + 8 * (k / 8) = k by omega]
theorem u8_and1 (x : Nat) (hx : x < 256) : bits .and .u8 (x : Int) 1 = ((x % 2 : Nat) : Int) := by
  have h : ∀ i : Fin 256, bits .and .u8 ((i.val : Nat) : Int) 1 = ((i.val % 2 : Nat) : Int) := by decide +kernel
  exact h ⟨x, hx⟩
/-- The lowest k bits. -/
def bl (n k : Nat) : List Value := (List.range k).map fun i => .int .i64 (bitOf n i : Int)
theorem bl_succ (n k : Nat) : bl n k ++ [.int .i64 (bitOf n k : Int)] = bl n (k + 1) := by
  unfold bl
  rw [List.range_succ, List.map_append, List.map_singleton]
theorem bl_get (n k i : Nat) (h : i < k) : (bl n k)[i]? = some (.int .i64 (bitOf n i : Int)) := by simp [bl, h]

set_option maxRecDepth 100000 in
set_option maxHeartbeats 2000000 in
theorem rRead_any (A : Option Addr) (bs : List UInt8) (c : Nat) (hl : bs.length = 32) (w : World) (hh : Holds8 w.heap.size w A bs) :
    Calls Try.prog 13 #[.slice A bs.length c] w fun e w' => e = .returned (.tuple #[.agg (wcells (leN bs)), .int .i64 0]) ∧ Below w.heap.size w w' := by
  obtain ⟨i0, hi, hz0, hz1, hz2⟩ := info_parts int_info
  have hn : leN bs < top := by
    have h := leN_lt bs
    rw [hl, show (256 : Nat) ^ 32 = top by unfold top; decide +kernel] at h
    exact h
  have hlen := hl
  rw [hl]
  have HLEN := Lib.hid hlen
  clear hlen hl
  have hz := heap_alloc_new w (.cells (wcells 0) 24)
  go_enter Try.func13, Try.ntmps13
  go_wp2
  go_loopw [4, 5] (fun u v wr => ∃ k : Nat, k ≤ 256 ∧ v = .int .i64 (k : Int) ∧ wr.ownsRow (w.heap.size + 1) 3 1 u k (bl (leN bs) k) ∧ wr.heap[w.heap.size]? = some (.cells (wcells 0) 24 (0, 0)) ∧ Below w.heap.size w wr) (fun _ v _ => 256 - (RowKit.intOf v).toNat)
  case atStart => exact ⟨0, by omega, rfl, World.ownsRow_nil _ _ _ _, hz, (Below.refl _ _).alloc (Nat.le_refl _) _⟩
  case round =>
    obtain ⟨k, hk, rfl, hrow, hbox, hB⟩ := hrel
    clear hz
    by_cases hlt : k < 256
    · have hkl : k / 8 < bs.length := by rw [HLEN.out]; omega
      obtain ⟨b, off, rfl, hb, hcell⟩ := hh.at_ hkl
      have hcb := (hB.cell (p := ⟨b, off + k / 8, none⟩) hb).trans hcell
      have hx := UInt8.toNat_lt (bs[k / 8])
      have hbit := leN_bit bs k hkl
      obtain ⟨x, hxe⟩ : ∃ x, (bs[k / 8]).toNat = x := ⟨_, rfl⟩
      rw [hxe] at hcb hx hbit
      clear hxe hcell
      have hb1 := bitOf_le (leN bs) k
      have hs := bl_succ (leN bs) k
      have z3 : ((k : Int) / 8).toNat = k / 8 := by omega
      have z4 : ((k : Int) % 8).toNat = k % 8 := by omega
      have z5 : (0 : Int) ≤ (k : Int) / 8 := by omega
      have z6 : (k : Int) / 8 < 32 := by omega
      have hdv : x / 2 ^ (k % 8) < 256 := Nat.lt_of_le_of_lt (Nat.div_le_self _ _) hx
      have ev : bits .and .u8 ((x : Int) / 2 ^ (k % 8)) 1 = (bitOf (leN bs) k : Int) := by
        rw [div_pow_int, u8_and1 _ hdv, hbit]
      obtain ⟨y, hy⟩ : ∃ y, bitOf (leN bs) k = y := ⟨_, rfl⟩
      rw [hy] at ev hb1 hs
      have HS := Lib.hid hs
      have HBOX := Lib.hid hbox
      have hnr : ∀ j, u4.ownBlock = some j → w.heap.size + 1 ≤ j := fun j hj => (hrow.lt j hj).1
      have HNR := Lib.hid hnr
      have hlb := (Array.getElem?_eq_some_iff.1 hbox).1
      clear hs hbox hnr hbit hdv hy
      go_wp2_with (at_builtin; refine wpList_append_own_at _ rfl (.tmp 14) (.tmp 26) _ rfl (w.heap.size + 1) 3 i0 (.int .i64 0) 1 8 Try.underlying58 hi hz0 hz1 hz2 rfl (by decide) _ _ _ rfl (hrow.alloc _) ⟨wr.heap.size, 0, none⟩ 1 1 [.int .i64 (y : Int)] rfl rfl (cell_one_new _ _ _) (by simp [Value.oneCell']) (by unfold maxLen; omega) (by omega) (by have := hB.size; simp; omega) ?_; intro v' w1 hown' hgrow _ _)
      go_roundw
      case rel =>
        rw [HS.out] at hown'
        refine ⟨k + 1, by omega, by go_num, hown', ?_, ?_⟩
        · exact (hgrow.block _ (by simp; omega) (fun e => by have := HNR.out _ e.symm; omega)).trans ((Below.heap_alloc _ _ _ hlb).trans HBOX.out)
        · exact (hB.alloc hB.size _).grown hgrow (by have := hB.size; simp; omega) (fun j hj => by have := HNR.out j hj; omega)
      case measure => simp [RowKit.intOf]; omega
    · obtain rfl : k = 256 := by omega
      rcases hrow.2 with ⟨_, h⟩ | ⟨g, cap, cur, rfl, hgb, hg, hcap, _, _, htk⟩
      · omega
      have hN : Hid (∀ W, W.heap[g]? = some (.cells cur 3 (0, 0)) → Calls Try.prog 44 #[.slice (some ⟨g, 0, none⟩) 256 cap] W fun e w' => e = .returned (.agg (wcells (leN bs))) ∧ Below W.heap.size W w') := fun W h =>
        number_any (leN bs) g 0 cap hn W (Array.getElem?_eq_some_iff.1 h).1 fun i hi => by
          have h1 := bl_get (leN bs) 256 i hi
          rw [← htk, List.getElem?_take, if_pos (by omega)] at h1
          rw [Nat.zero_add, cell_of_row _ _ _ _ _ _ h]
          simpa using h1
      have hlb := (Array.getElem?_eq_some_iff.1 hbox).1
      clear hrow htk hn
      go_wp2_with (first | (go_at_call 44; refine (hN.out _ hg).mono ?_; rintro e W1 ⟨rfl, hB2⟩; have hbx := (hB2.block _ hlb).trans hbox) | (refine wpList_wanted (by rfl) fun _ hK => wp_store_row 24 _ _ rfl w.heap.size (wcells (leN bs)) rfl rfl 24 (wcells 0) hbx (infoW _) rfl (oneW _) (hK _ _ ?_)))
      refine bodyPost_ret (results_two _ _ _ w.heap.size (leN bs) 0 rfl rfl rfl (setRow_heap _ _ _ _ _ _ hbx)) rfl ⟨rfl, ?_⟩
      exact (hB.trans (hB2.mono hB.size)).trans ⟨rfl, rfl, rfl, by simp [World.setRow], fun i hi => setRow_other _ _ _ _ (by omega)⟩
end Go.Proofs.Ytgmgejjlhlibkaa.Oct
