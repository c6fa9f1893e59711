/- The contracts of octet.number, announced, and of an eye's none. No condition. -/
import Derived.Test.YtngkckngjobojaaOctE
namespace Go.Proofs.Ytngkckngjobojaa.Oct
open Go.Proofs.Ytngkckngjobojaa Go.RowKit Go.Shelf

/-- Bytes, the lowest first, as a number. -/
def leNum : List UInt8 → Nat
  | [] => 0
  | x :: l => x.toNat + 256 * leNum l
theorem leNum_snoc (l : List UInt8) (x : UInt8) : leNum (l ++ [x]) = leNum l + x.toNat * 256 ^ l.length := by
  induction l with
  | nil => simp [leNum]
  | cons y l ih =>
    simp only [List.cons_append, leNum, ih, List.length_cons, Nat.pow_succ]
    rw [Nat.mul_add, Nat.add_assoc]
    congr 2
    rw [Nat.mul_left_comm, Nat.mul_comm 256]
theorem leNum_lt (l : List UInt8) : leNum l < 256 ^ l.length := by
  induction l with
  | nil => simp [leNum]
  | cons y l ih =>
    have := UInt8.toNat_lt y
    simp only [leNum, List.length_cons, Nat.pow_succ]
    omega
theorem leNum_leB (s n : Nat) (h : n < 256 ^ s) : leNum (leB s n) = n := by
  induction s generalizing n with
  | zero => simp at h; subst h; rfl
  | succ s ih =>
    rw [Nat.pow_succ, Nat.mul_comm] at h
    simp only [leB, leNum]
    rw [ih (n / 256) (Nat.div_lt_of_lt_mul h), UInt8.toNat_ofNat']
    omega
theorem leB_leNum (l : List UInt8) : leB l.length (leNum l) = l := by
  induction l with
  | nil => rfl
  | cons y l ih =>
    have := UInt8.toNat_lt y
    simp only [List.length_cons, leB, leNum]
    rw [show (y.toNat + 256 * leNum l) / 256 = leNum l by omega, ih, show (y.toNat + 256 * leNum l) % 256 = y.toNat by omega]
    simp
theorem or_shift (k s x : Nat) (hk : k < 8) (hs : s < 256 ^ k) (hx : x < 256) : bits .or .u64 (s : Int) (IntKind.u64.wrap ((x : Int) * 2 ^ (8 * k))) = ((s + x * 256 ^ k : Nat) : Int) := by
  have e256 : 256 ^ k = 2 ^ (8 * k) := by rw [show (256 : Nat) = 2 ^ 8 by decide, ← Nat.pow_mul]
  rw [e256] at hs ⊢
  have hpl : 2 ^ (8 * k) * 256 ≤ 18446744073709551616 := by
    rw [show 2 ^ (8 * k) * 256 = 2 ^ (8 * k + 8) by rw [Nat.pow_add], show 18446744073709551616 = 2 ^ 64 by decide]
    exact Nat.pow_le_pow_right (by decide) (by omega)
  obtain ⟨p, hp⟩ : ∃ p, 2 ^ (8 * k) = p := ⟨_, rfl⟩
  have hxp : x * p < 18446744073709551616 := by
    rw [hp] at hpl
    have : x * p ≤ 255 * p := Nat.mul_le_mul_right _ (by omega)
    have hp0 : 0 < p := by rw [← hp]; exact Nat.pow_pos (by decide)
    omega
  have e1 : (x : Int) * 2 ^ (8 * k) = ((x * p : Nat) : Int) := by rw [← hp]; simp
  have hs64 : s < 18446744073709551616 := by rw [hp] at hs hpl; omega
  rw [e1, show IntKind.u64.wrap ((x * p : Nat) : Int) = ((x * p : Nat) : Int) by simp [IntKind.wrap, IntKind.bits, IntKind.signed]; omega, u64_or_nat s (x * p) hs64 hxp]
  congr 1
  have h2 := Nat.shiftLeft_add_eq_or_of_lt hs x
  rw [Nat.shiftLeft_eq] at h2
  rw [Nat.or_comm, ← hp, ← h2, Nat.add_comm]
def annL (x : UInt8) : Nat := if x.toNat = 253 then 3 else if x.toNat = 254 then 5 else if x.toNat = 255 then 9 else 1
theorem announced_any (x : UInt8) (w : World) : Calls Try.prog 46 #[.int .u8 (x.toNat : Int)] w fun e w' => e = .returned (.int .i64 (annL x : Int)) ∧ w = w' := by
  obtain ⟨n, hn⟩ : ∃ n, x.toNat = n := ⟨_, rfl⟩
  unfold annL
  rw [hn]
  clear hn
  by_cases h1 : n = 253
  · subst h1
    go_enter Try.func46, Try.ntmps46
    go_wp2
    go_ret
    exact ⟨rfl, rfl⟩
  · have e1 : ((n : Int) == 253) = false := by simp; omega
    rw [if_neg h1]
    by_cases h2 : n = 254
    · subst h2
      go_enter Try.func46, Try.ntmps46
      go_wp2
      go_ret
      exact ⟨rfl, rfl⟩
    · have e2 : ((n : Int) == 254) = false := by simp; omega
      rw [if_neg h2]
      by_cases h3 : n = 255
      · subst h3
        go_enter Try.func46, Try.ntmps46
        go_wp2
        go_ret
        exact ⟨rfl, rfl⟩
      · have e3 : ((n : Int) == 255) = false := by simp; omega
        rw [if_neg h3]
        go_enter Try.func46, Try.ntmps46
        go_wp2
        go_ret
        exact ⟨rfl, rfl⟩

/-- An eye at block r: what it has not read is bs. -/
def EyeAt (base hi : Nat) (W : World) (r : Nat) (bs : List UInt8) : Prop :=
  (base ≤ r ∧ r < hi) ∧ ∃ A c, W.heap[r]? = some (.cells #[.slice A bs.length c, .bool true] 57 (0, 0)) ∧ Holds8 W.heap.size W A bs ∧ bs.length ≤ c ∧ (A = none → c = 0) ∧ ∀ a, A = some a → (base ≤ a.block ∧ a.block < hi) ∧ a.block ≠ r
theorem EyeAt.lt {base hi : Nat} {W : World} {r : Nat} {bs : List UInt8} (h : EyeAt base hi W r bs) : r < W.heap.size := by
  obtain ⟨_, A, c, hh, _⟩ := h
  exact (Array.getElem?_eq_some_iff.1 hh).1
theorem eye_cells {W : World} {r : Nat} {x y : Value} (hh : W.heap[r]? = some (.cells #[x, y] 57 (0, 0))) : W.cell? ⟨r, 0, none⟩ = some x ∧ W.cell? ⟨r, 1, none⟩ = some y ∧ W.frozen? ⟨r, 0, none⟩ = false := by
  refine ⟨by rw [cell_of_row _ _ _ _ _ _ hh]; rfl, by rw [cell_of_row _ _ _ _ _ _ hh]; rfl, ?_⟩
  unfold World.frozen?
  simp only [hh]
  simp
set_option maxHeartbeats 1000000 in
theorem none_any (base hi r : Nat) (bs : List UInt8) (w : World) (h : EyeAt base hi w r bs) : Calls Try.prog 38 #[.pointer (some ⟨r, 0, none⟩)] w fun e w' => e = .returned (.bool false) ∧ w = w' := by
  obtain ⟨_, A, c, hh, _⟩ := h
  obtain ⟨h0, h1, _⟩ := eye_cells hh
  go_enter Try.func38, Try.ntmps38
  go_wp2
  go_ret
  exact ⟨rfl, rfl⟩

set_option maxRecDepth 100000 in
set_option maxHeartbeats 2000000 in
theorem number_any (bs : List UInt8) (h8 : bs.length ≤ 8) (n : Nat) (hn : n = bs.length) (A : Option Addr) (c n₀ : Nat) (w : World) (hh : Holds8 n₀ w A bs) :
    Calls Try.prog 40 #[.slice A n c] w fun e w' => e = .returned (.int .u64 (leNum bs : Int)) ∧ w = w' := by
  have HN := Lib.hid hn
  have HH := Lib.hid hh
  have hn8 : n ≤ 8 := by omega
  clear hn hh h8
  go_enter Try.func40, Try.ntmps40
  go_wp2
  go_loop [3, 8] (fun s i => ∃ k : Nat, k ≤ n ∧ i = .int .i64 (k : Int) ∧ s = .int .u64 (leNum (bs.take k) : Int)) (fun _ i => n - (intOf i).toNat)
  case atStart => exact ⟨0, Nat.zero_le _, rfl, rfl⟩
  case round =>
    obtain ⟨k, hk, rfl, rfl⟩ := hrel
    by_cases hlt : k < n
    · have hkb : k < bs.length := by rw [← HN.out]; exact hlt
      obtain ⟨b, off, rfl, hb, hc⟩ := HH.out.at_ hkb
      have hsn : leNum (bs.take (k + 1)) = leNum (bs.take k) + bs[k].toNat * 256 ^ k := by
        rw [List.take_succ_eq_append_getElem hkb, leNum_snoc, List.length_take, Nat.min_eq_left (by omega)]
      have hlo : leNum (bs.take k) < 256 ^ k := by have := leNum_lt (bs.take k); rwa [List.length_take, Nat.min_eq_left (by omega)] at this
      obtain ⟨x, hx⟩ : ∃ x, bs[k] = x := ⟨_, rfl⟩
      rw [hx] at hc hsn
      clear hx
      obtain ⟨s, hs⟩ : ∃ s, leNum (bs.take k) = s := ⟨_, rfl⟩
      rw [hs] at hsn hlo ⊢
      clear hs
      have HS := Lib.hid hsn
      have HL := Lib.hid hlo
      have hub := UInt8.toNat_lt x
      clear hsn hlo
      go_wp2
      go_round
      case rel => exact ⟨k + 1, by omega, by go_num, by rw [HS.out, or_shift k s x.toNat (by omega) HL.out hub]⟩
      case measure => simp [intOf]; omega
    · have HT := Lib.hid (show bs.take k = bs from List.take_of_length_le (by rw [← HN.out]; omega))
      have hkn : k = n := by omega
      have HK := Lib.hid hkn
      clear hkn
      go_wp2
      go_ret
      exact ⟨by rw [HT.out]; rfl, rfl⟩
end Go.Proofs.Ytngkckngjobojaa.Oct
