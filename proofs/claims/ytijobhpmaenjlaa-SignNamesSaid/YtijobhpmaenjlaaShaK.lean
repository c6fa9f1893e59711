/- Contracts of sha.Of, Twice and Short. The message has less than 2^60 bytes. -/
import Derived.Test.YtijobhpmaenjlaaShaJ
import Derived.Test.YtijobhpmaenjlaaApp
namespace Go.Proofs.Ytijobhpmaenjlaa.Oct
set_option linter.unusedVariables false
set_option linter.unusedSimpArgs false
open Go.Proofs.Ytijobhpmaenjlaa Go.RowKit Go.Lib Go.Shelf

set_option maxRecDepth 100000 in
set_option maxHeartbeats 2000000 in
theorem of_any (w : World) (A : Option Addr) (c : Nat) (bs : List UInt8) (h8 : Holds8 w.heap.size w A bs) (hc : bs.length ≤ c) (hm : bs.length < 1152921504606846976) :
    Calls Try.prog 15 #[.slice A bs.length c] w fun e w' => e = .returned (.agg (arr8 (sha bs))) ∧ Below w.heap.size w w' := by
  have hK0 := (Keeps.nil w).new (arr8 zero32) 23
  have hl8 : Holds8 w.heap.size (w.alloc (.cells (arr8 zero32) 23)) A bs := h8.below ((Below.refl _ _).alloc (Nat.le_refl _) _) (Nat.le_refl _)
  have CN : Hid (Calls Try.prog 22 #[] (w.alloc (.cells (arr8 zero32) 23)) fun e w' => ∃ g, e = .returned (.pointer (some ⟨g, 0, none⟩)) ∧ w.heap.size < g ∧ SumIn w' g [] 0 ∧ Keeps w [(w.heap.size, arr8 zero32, 23)] w' ∧ Holds8 w.heap.size w' A bs) :=
    Lib.hid ((new_any _).mono fun e w' ⟨g, he, hg, hs, hb⟩ => ⟨g, he, by rw [World.size_alloc] at hg; omega, hs, hK0.call hb, hl8.below hb (by simp)⟩)
  have hA : ∀ a, A = some a → a.block < w.heap.size := fun a e => by
    rcases h8 with ⟨e1, _⟩ | ⟨b, off, e1, hb, _⟩
    · rw [e] at e1; cases e1
    · rw [e] at e1; injection e1 with e1; rw [e1]; exact hb
  have HA := Lib.hid hA
  clear h8 hK0 hl8 hA
  obtain ⟨L, hL⟩ : ∃ L, bs.length = L := ⟨_, rfl⟩
  have HL := Lib.hid hL
  rw [hL] at hc hm ⊢
  clear hL
  go_enter Try.func15, Try.ntmps15
  go_wp2_with (first | (refine wpList_alloc rfl 23 rfl (z := arr8 zero32) (by kernel_rfl) ?_; try simp only [World.size_alloc]) | (go_at_call 22; (with_reducible refine CN.out.mono ?_); rintro e W1 ⟨g, rfl, hg, hS, hK, h8⟩; have hwl := hK.lt 0 rfl; have CW := Lib.hid (write_any W1 g [] 0 A c bs hS (h8.more (by have : w.heap.size < W1.heap.size := hwl; omega)) (by rw [HL.out]; exact hc) (by rw [HL.out]; exact hm) (by decide) (fun a e => by have := HA.out a e; omega)); rw [HL.out] at CW; clear hS h8 hwl) | (go_at_call 23; (with_reducible refine CW.out.mono ?_); rintro e W2 ⟨rfl, hS, hG⟩; have hK2 := hK.grow hG (fun i p hi => by (match i, hi with | 0, hi => exact (by cases hi; show w.heap.size ≠ g; omega))) (by omega); have CE := Lib.hid (end_any W2 g bs (by rw [HL.out]; rw [List.nil_append, Nat.zero_add] at hS; exact hS) (by rw [HL.out]; exact hm)); clear hS hG hK) | (go_at_call 24; (with_reducible refine CE.out.mono ?_); rintro e W3 ⟨rfl, hb⟩; have hK := hK2.call hb; clear hb hK2) | (refine wpList_put hK 0 rfl 23 (.tmp 2) (.tmp 6) rfl rfl rfl rfl (infoH _ rfl) (size_same rfl rfl) (one8x _) ?_; clear hK; intro W5 hK))
  refine bodyPost_ret (v := .agg (arr8 (sha bs))) ?_ rfl ⟨rfl, hK.bel⟩
  exact results_cell_row rfl _ _ w.heap.size 23 _ (0, 0) _ rfl (hK.get 0 rfl) Try.underlying23 rfl (infoH _ rfl)
theorem Keeps.holds32 {w W : World} {l : List (Nat × Array Value × TypeId)} {k g : Nat} {bs : List UInt8} {t : TypeId} (h : Keeps w l W) (hk : l[k]? = some (g, arr8 bs, t)) : Holds8 W.heap.size W (some ⟨g, 0, none⟩) bs :=
  .inr ⟨g, 0, rfl, h.lt k hk, fun j hj => by
    rw [h.cell k hk (0 + j), Nat.zero_add, arr8_get bs j hj]
    congr 3
    simp [List.getD, hj]⟩

theorem of_32 (W : World) (g : Nat) (h : List UInt8) (hl : h.length = 32) (h8 : Holds8 W.heap.size W (some ⟨g, 0, none⟩) h) :
    Calls Try.prog 15 #[.slice (some ⟨g, 0, none⟩) 32 32] W fun e w' => e = .returned (.agg (arr8 (sha h))) ∧ Below W.heap.size W w' := by
  have := of_any W (some ⟨g, 0, none⟩) 32 h h8 (by omega) (by omega)
  rw [hl] at this
  exact this
theorem sha_length (m : List UInt8) : (sha m).length = 32 := rfl

theorem of_any' (w : World) (A : Option Addr) (L c : Nat) (bs : List UInt8) (hL : bs.length = L) (h8 : Holds8 w.heap.size w A bs) (hc : L ≤ c) (hm : L < 1152921504606846976) :
    Calls Try.prog 15 #[.slice A L c] w fun e w' => e = .returned (.agg (arr8 (sha bs))) ∧ Below w.heap.size w w' := by
  subst hL
  exact of_any w A c bs h8 hc hm
end Go.Proofs.Ytijobhpmaenjlaa.Oct
