/- Contracts of crc.steps and of crc.halves. No condition. -/
import Derived.Test.YtagcdgfdflnphaaRows
import Derived.Test.YtagcdgfdflnphaaPlain
import Derived.Test.YtagcdgfdflnphaaKit
import Derived.WalkKit
import Derived.WalkSpells
import Derived.Lib.Hide
import Derived.Laws.BitsAllLaws
import Derived.Laws.Rows
import Derived.LoopTactic
import Derived.Outline
namespace Go.Proofs.Ytagcdgfdflnphaa
open Go.RowKit Go.Lib

def stpN : Nat → Nat → Nat
  | 0, k => k
  | m + 1, k => stp (stpN m k)
theorem stpN_lt (m : Nat) {k : Nat} (h : k < 4294967296) : stpN m k < 4294967296 := by
  induction m with
  | zero => exact h
  | succ m ih => exact stp_lt ih
def rowT (k : Nat) : Array Value := ((List.range 16).map fun j => Value.int .u32 (if j < k then (tab j : Int) else 0)).toArray
def tabCells : Array Value := rowT 16
theorem rowT_size (k : Nat) : (rowT k).size = 16 := by simp [rowT]
theorem rowT_zero : rowT 0 = #[.int .u32 0, .int .u32 0, .int .u32 0, .int .u32 0, .int .u32 0, .int .u32 0, .int .u32 0, .int .u32 0, .int .u32 0, .int .u32 0, .int .u32 0, .int .u32 0, .int .u32 0, .int .u32 0, .int .u32 0, .int .u32 0] := rfl
theorem rowT_set (k : Nat) (hk : k < 16) : (rowT k).setIfInBounds k (.int .u32 (tab k : Int)) = rowT (k + 1) := by
  apply Array.ext
  · simp [rowT]
  · intro i h1 h2
    have hi : i < 16 := by simpa [rowT] using h2
    by_cases e : i = k
    · subst e
      simp [rowT]
    · have e' : k ≠ i := fun h => e h.symm
      rw [Array.getElem_setIfInBounds_ne (by simpa [rowT] using hi) e']
      have : (i < k) = (i < k + 1) := by rw [eq_iff_iff]; omega
      simp [rowT, this]
theorem stp_bits (R x S : Nat) (hR : R < 4294967296) (hx : R % 2 = x) (hS : stp R = S) : bits .xor .u32 ((R : Int) / 2) ((x : Int) * 2197175160) = (S : Int) := by
  subst hx hS
  have h := u32_xor_nat (R / 2) (R % 2 * 2197175160) (by omega) (by omega)
  unfold stp
  rw [← h]
  simp
theorem and1_bits (R x : Nat) (hR : R < 4294967296) (hx : R % 2 = x) : bits .and .u32 (R : Int) 1 = (x : Int) := by
  have h := u32_and_nat R 1 hR (by omega)
  rw [Nat.and_one_is_mod, hx] at h
  exact h


/-- The store of one cell of a box that is in the list. -/
theorem Keeps.cellput {W0 W : World} {l : List (Nat × Array Value × TypeId)} (h : Keeps W0 l W) (k : Nat) {g : Nat} {cs : Array Value} {t : TypeId} (hk : l[k]? = some (g, cs, t)) (j : Nat) (v : Value) :
    Keeps W0 (l.set k (g, cs.setIfInBounds j v, t)) (W.setCell ⟨g, j, none⟩ v) := by
  have hg := h.get k hk
  have e : W.setCell ⟨g, j, none⟩ v = W.setRow g (cs.setIfInBounds j v) := by
    obtain ⟨hlt, hv⟩ := Array.getElem?_eq_some_iff.1 hg
    unfold World.setCell World.setRow
    congr 1
    apply Array.ext
    · simp
    · intro i h1 h2
      rw [Array.getElem_modify, Array.getElem_modify]
      by_cases e : g = i
      · subst e
        simp [hv]
      · simp [e]
  rw [e]
  exact h.put k hk _

theorem Keeps.cell {W0 W : World} {l : List (Nat × Array Value × TypeId)} (h : Keeps W0 l W) (k : Nat) {g : Nat} {cs : Array Value} {t : TypeId} (hk : l[k]? = some (g, cs, t)) (j : Nat) : W.cell? ⟨g, j, none⟩ = cs[j]? :=
  cell_of_row W g j cs t (0, 0) (h.get k hk)
theorem Keeps.frozen {W0 W : World} {l : List (Nat × Array Value × TypeId)} (h : Keeps W0 l W) (k : Nat) {g : Nat} {cs : Array Value} {t : TypeId} (hk : l[k]? = some (g, cs, t)) (j : Nat) : W.frozen? ⟨g, j, none⟩ = false := by
  have := h.get k hk
  simp [World.frozen?, this]

set_option maxRecDepth 100000 in
set_option maxHeartbeats 2000000 in
theorem steps_any (w : World) : Calls Try.prog 19 #[] w fun e w' => e = .returned (.agg tabCells) ∧ Below w.heap.size w w' := by
  go_enter Try.func19, Try.ntmps19
  go_wp2
  go_loopw [5] (fun i wr => ∃ k : Nat, k ≤ 16 ∧ i = .int .i64 k ∧ Keeps w [(w.heap.size, rowT 0, 42), (w.heap.size + 1, rowT k, 42)] wr) (fun i _ => 16 - (intOf i).toNat)
  case atStart =>
    have h1 := (Keeps.nil w).new (rowT 0) 42
    have h2 := h1.new (rowT 0) 42
    rw [World.size_alloc] at h2
    exact ⟨0, by omega, rfl, h2⟩
  case round =>
    obtain ⟨k, hk, rfl, hK⟩ := hrel
    by_cases hlt : k < 16
    · have hc : wr.cell? ⟨w.heap.size + 1, k, none⟩ = some (.int .u32 0) := by
        rw [hK.cell 1 rfl k]
        simp [rowT, hlt]
      have hf := hK.frozen 1 rfl k
      go_wp2
      go_loop [3, 10] (fun r j => ∃ m : Nat, m ≤ 4 ∧ j = .int .i64 m ∧ r = .int .u32 (stpN m k : Nat)) (fun _ j => 4 - (intOf j).toNat)
      case atStart => exact ⟨0, by omega, rfl, rfl⟩
      case round =>
        obtain ⟨m, hm, rfl, rfl⟩ := hrel
        by_cases hlm : m < 4
        · have hR := stpN_lt m (k := k) (by omega)
          have hS : stpN (m + 1) k = stp (stpN m k) := rfl
          generalize hRe : stpN m k = R at *
          obtain ⟨x, hx⟩ : ∃ x, R % 2 = x := ⟨_, rfl⟩
          obtain ⟨S, hS2⟩ : ∃ S, stp R = S := ⟨_, rfl⟩
          have hx1 : x ≤ 1 := by omega
          have e1 := and1_bits R x hR hx
          have e2 := stp_bits R x S hR hx hS2
          rw [hS2] at hS
          have HS := Lib.hid hS
          clear hS hx hS2 hRe
          go_wp2
          go_round
          case rel => exact ⟨m + 1, by omega, by go_num, by rw [HS.out]⟩
          case measure => simp [intOf]; omega
        · obtain rfl : m = 4 := by omega
          have hv : stpN 4 k = tab k := rfl
          have HT := rowT_set k hlt
          rw [hv]
          generalize tab k = T at *
          have HT := Lib.hid HT
          go_wp2
          go_roundw
          case rel => exact ⟨k + 1, by omega, by go_num, by have := hK.cellput 1 rfl k (.int .u32 (T : Int)); rw [HT.out] at this; exact this⟩
          case measure => simp [intOf]; omega
    · have hge : 16 ≤ k := by omega
      have HT := Lib.hid (show rowT k = tabCells by rw [show k = 16 by omega]; rfl)
      have H1 := Lib.hid (rowT_size 0)
      have H2 := Lib.hid (rowT_size k)
      go_wp2_with (first
        | (refine wpList_box hK 1 rfl 42 (.tmp 1) rfl rfl rfl _ Try.underlying42 rfl (by rw [H2.out]; kernel_rfl) ?_)
        | (refine wpList_put hK 0 rfl 42 (.tmp 0) (.tmp 24) rfl rfl rfl rfl (by rw [H2.out]; kernel_rfl) (by rw [H1.out, H2.out]) (by unfold rowT; simp [Value.oneCell']) ?_; intro W1 hK1))
      exact bodyPost_ret (v := .agg (rowT k)) (results_cell_row rfl _ _ _ _ _ (0, 0) _ rfl (hK1.get 0 rfl) Try.underlying42 rfl (by rw [H2.out]; kernel_rfl)) rfl ⟨by rw [HT.out], hK1.bel⟩
end Go.Proofs.Ytagcdgfdflnphaa
