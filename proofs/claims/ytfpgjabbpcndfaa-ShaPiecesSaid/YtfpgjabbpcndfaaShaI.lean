/- Contracts of (*sha.Sum).Write and End. The message has less than 2^60 bytes. -/
import Derived.Test.YtfpgjabbpcndfaaShaH
namespace Go.Proofs.Ytfpgjabbpcndfaa.Oct
set_option linter.unusedVariables false
set_option linter.unusedSimpArgs false
open Go.Proofs.Ytfpgjabbpcndfaa Go.RowKit Go.Lib Go.Shelf

theorem Holds8.apart {n₀ n₁ : Nat} {W W' : World} {A : Option Addr} {bs : List UInt8} {g : Nat} (h : Holds8 n₀ W A bs) (hn : n₀ ≤ n₁) (hg : ∀ a, A = some a → a.block ≠ g) (hk : ∀ k, k < n₀ → k ≠ g → W'.heap[k]? = W.heap[k]?) : Holds8 n₁ W' A bs := by
  rcases h with ⟨e1, e2⟩ | ⟨b, off, e, hb, hc⟩
  · exact .inl ⟨e1, e2⟩
  · refine .inr ⟨b, off, e, Nat.lt_of_lt_of_le hb hn, fun j hj => ?_⟩
    rw [World.cell?_of_block (hk b hb (hg _ e))]
    exact hc j hj

set_option maxRecDepth 100000 in
set_option maxHeartbeats 2000000 in
theorem write_any (w : World) (g : Nat) (m : List UInt8) (nn : Nat) (A : Option Addr) (c : Nat) (bs : List UInt8) (h : SumIn w g m nn) (h8 : Holds8 w.heap.size w A bs) (hc : bs.length ≤ c) (hm : bs.length < 1152921504606846976) (hnn : nn < 1152921504606846976) (hg : ∀ a, A = some a → a.block ≠ g) :
    Calls Try.prog 15 #[.pointer (some ⟨g, 0, none⟩), .slice A bs.length c] w fun e w' => e = .returned (.pointer (some ⟨g, 0, none⟩)) ∧ SumIn w' g (m ++ bs) (nn + bs.length) ∧ w.grownBy w' (some g) := by
  have CN := Lib.hid (none_any w g m nn h)
  obtain ⟨tl, h1, h2, h3⟩ := h
  have hc1 : w.cell? ⟨g, 73, none⟩ = some (.int .u64 nn) := by rw [cell_of_row w g 73 _ _ _ h3, sumc_n _ _ _ _ h1]
  have hf1 : w.frozen? ⟨g, 73, none⟩ = false := frozen_of_row _ _ _ _ _ h3
  have hs : SumIn (w.setCell ⟨g, 73, none⟩ (.int .u64 ((nn + bs.length : Nat) : Int))) g m (nn + bs.length) :=
    ⟨tl, h1, h2, by rw [heap_setCell_same _ _ _ _ _ _ h3, sumc_set_n _ _ _ _ _ h1]⟩
  have h8' : Holds8 (w.setCell ⟨g, 73, none⟩ (.int .u64 ((nn + bs.length : Nat) : Int))).heap.size (w.setCell ⟨g, 73, none⟩ (.int .u64 ((nn + bs.length : Nat) : Int))) A bs :=
    h8.apart (by simp [World.setCell]) hg (fun k _ hk => heap_setCell_other _ _ _ _ hk)
  have CA := Lib.hid (add_any _ g m (nn + bs.length) A c bs hs h8' hc hm hg)
  clear h1 h2 h3 hs h8 h8' hg
  obtain ⟨L, hL⟩ : ∃ L, bs.length = L := ⟨_, rfl⟩
  rw [hL] at CA hm hc ⊢
  clear hL
  obtain ⟨z, hz⟩ : ∃ z, nn + L = z := ⟨_, rfl⟩
  rw [hz] at CA ⊢
  have e1 : (nn : Int) + (L : Int) = (z : Int) := by omega
  have hz2 : z < 2305843009213693952 := by omega
  clear hz
  go_enter Try.func15, Try.ntmps15
  go_wp2_with (first | (go_at_call 25; with_reducible refine CN.out.mono ?_; rintro e W1 ⟨rfl, rfl⟩) | (go_at_call 26; with_reducible refine CA.out.mono ?_; rintro e W1 ⟨⟨v, rfl⟩, hS, hG⟩; have HS := Lib.hid hS; have HG := Lib.hid hG; clear hS hG))
  go_ret
  refine ⟨rfl, HS.out, HG.out.os, HG.out.tape, HG.out.output, ?_, fun k hk hn => ?_⟩
  · have := HG.out.size
    simpa [World.setCell] using this
  · have h := HG.out.block k (by simpa [World.setCell] using hk) hn
    rw [h]
    exact heap_setCell_other _ _ _ _ (fun e => hn (by rw [e]))
end Go.Proofs.Ytfpgjabbpcndfaa.Oct
