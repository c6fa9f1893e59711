/- Rows of bytes in a region that draws its order. -/
import Derived.Test.YtgmgejjlhlibkaaRefWI
import Derived.Test.YtgmgejjlhlibkaaRefWN
import Derived.Test.YtgmgejjlhlibkaaKit2
namespace Go.Proofs.Ytgmgejjlhlibkaa
set_option linter.unusedVariables false
open Go.RowKit Oct
section
variable {W0 : World} {ops : Array Oper} {Q : Exit → Act → World → Prop} {l0 m : List (Nat × Array Value × TypeId)} {fuel : Nat} {listed : Array Bool} {a : Act} {o : Oper}
/-- A call that makes a row of bytes. -/
theorem StepK.brow {f : FuncId} {args : Array Value} {n : Nat} (d : Option Tmp) {i : Nat} (hi : ops[i]? = some o) (hd : o.dst = d) (hw : Region.wanted o (yielded ops a.tmps) = true) (ho : ∀ W, (execOp a.eval o).run Try.prog W = .ok (.enter f args) W)
    (hc : ∀ W, Calls Try.prog f args W (BRow W n)) (h : ∀ g, AnyK Try.prog ops Q W0 l0 fuel (listed.setIfInBounds i true) (a.put d (.slice (some ⟨g, 0, none⟩) 32 32)) (m ++ [(g, bcells n 32, 5)])) : StepK Try.prog ops Q W0 l0 fuel listed a m i := fun W hW => by
  subst hd
  refine wpOp_now hi hw ?_
  unfold Oper.wp
  rw [ho W]
  refine (hc W).mono ?_
  rintro e W' ⟨g, rfl, hg, hcell, hb⟩
  have h1 := hW.gain hb hg hcell
  rw [List.append_assoc] at h1
  exact ⟨h1.pre, h g _ h1⟩
theorem StepK.reads {v : Value} (d : Option Tmp) {i : Nat} (hi : ops[i]? = some o) (hd : o.dst = d) (hw : Region.wanted o (yielded ops a.tmps) = true) (ho : ∀ W, Keeps W0 (l0 ++ m) W → (execOp a.eval o).run Try.prog W = .ok (.value v) W)
    (h : AnyK Try.prog ops Q W0 l0 fuel (listed.setIfInBounds i true) (a.put d v) m) : StepK Try.prog ops Q W0 l0 fuel listed a m i := fun W hW => by
  subst hd
  refine wpOp_now hi hw ?_
  unfold Oper.wp
  rw [ho W hW]
  exact ⟨hW.pre, h W hW⟩
end
end Go.Proofs.Ytgmgejjlhlibkaa
namespace Go.Proofs.Ytgmgejjlhlibkaa.Oct
open Go.Proofs.Ytgmgejjlhlibkaa Go.RowKit Go.Shelf
theorem strB (n g : Nat) (W : World) (h : W.heap[g]? = some (.cells (bcells n 32) 5 (0, 0))) : (convert 25 9 (.slice (some ⟨g, 0, none⟩) 32 32)).run Try.prog W = .ok (.string ⟨(bytesW n).toArray⟩) W := by
  have hh : Holds8 W.heap.size W (some ⟨g, 0, none⟩) (bytesW n) := .inr ⟨g, 0, rfl, (Array.getElem?_eq_some_iff.1 h).1, fun j hj => by
    rw [bytesW_length] at hj
    rw [Nat.zero_add, cell_of_row _ _ _ _ _ _ h, bcells_get n 32 j hj, if_pos hj, bytesW_get]
    have := byteOf_lt n j
    rw [UInt8.toNat_ofNat', Nat.mod_eq_of_lt (by omega)]⟩
  have q := str_of hh 32
  rw [bytesW_length] at q
  exact q
set_option maxHeartbeats 2000000 in
theorem bytes_row (n : Nat) (hn : n < top) (w : World) : Calls Try.prog 18 #[.agg (wcells n)] w (BRow w n) := by
  have hm := make32
  have hc0 := heap_alloc_new w (.cells (wcells n) 24)
  go_enter Try.func18, Try.ntmps18
  go_wp2
  go_loopw [8] (fun v wr => ∃ k : Nat, k ≤ 32 ∧ v = .int .i64 (k : Int) ∧ wr.heap[w.heap.size]? = some (.cells (wcells n) 24 (0, 0)) ∧ wr.heap[w.heap.size + 1]? = some (.cells (bcells n k) 5 (0, 0)) ∧ Below w.heap.size w wr) (fun v _ => 32 - (RowKit.intOf v).toNat)
  case atStart =>
    refine ⟨0, by omega, rfl, ?_, ?_, ?_⟩
    · rw [Below.heap_alloc _ _ _ (by simp)]
      exact hc0
    · have h := heap_alloc_new (w.alloc (.cells (wcells n) 24)) (.cells (bcells 0 0) 5)
      rw [World.size_alloc] at h
      rw [bcells_zeros n 0]
      exact h
    · exact ((Below.refl _ _).alloc (Nat.le_refl _) _).alloc (by simp) _
  case round =>
    obtain ⟨k, hk, rfl, hcw, hcb, hB⟩ := hrel
    clear hc0 hm
    by_cases hlt : k < 32
    · have hca := cell_of_row _ w.heap.size (k / 8) _ _ _ hcw
      rw [wcells_at n _ (by omega)] at hca
      have hw := word_at n (k / 8)
      unfold word at hw
      have hfb := frozen_of_row wr (w.heap.size + 1) k _ _ hcb
      have hcc := cell_of_row wr (w.heap.size + 1) k _ _ _ hcb
      rw [bcells_get n k k hlt, if_neg (by omega)] at hcc
      have hb := byte_at n k hlt
      have hlb := byteOf_lt n k
      have z1 : ((k : Int) / 8).toNat = k / 8 := by omega
      have z2 : (8 * ((k : Int) % 8)).toNat = 8 * (k % 8) := by omega
      have hv : ((wAt n (k / 8) : Int) / 2 ^ (8 * (k % 8))) % 256 = (byteOf n k : Int) := by
        rw [div_pow_int]
        omega
      have hnew : (wr.setCell ⟨w.heap.size + 1, k, none⟩ (.int .u8 (byteOf n k : Int))).heap[w.heap.size + 1]? = some (.cells (bcells n (k + 1)) 5 (0, 0)) := by
        rw [← bcells_set n k hlt]
        simp [World.setCell, Array.getElem?_modify, hcb]
      have HNEW := Lib.hid hnew
      have HCW := Lib.hid hcw
      clear hnew hcw hcb hb
      go_wp2
      go_roundw
      case rel => exact ⟨k + 1, by omega, by go_num, (heap_setCell_other _ _ _ _ (by simp)).trans HCW.out, HNEW.out, hB.setCell (by simp) _⟩
      case measure => simp [RowKit.intOf]; omega
    · obtain rfl : k = 32 := by omega
      have hlt32 := (Array.getElem?_eq_some_iff.1 hcb).1
      have HCB := Lib.hid hcb
      clear hcb hcw
      go_wp2
      go_ret
      exact ⟨w.heap.size + 1, rfl, by omega, HCB.out, hB⟩
end Go.Proofs.Ytgmgejjlhlibkaa.Oct
