/- Contracts of sha.Of, Twice and Short. The message has less than 2^60 bytes. -/
import Derived.Test.YtfpgjabbpcndfaaShaJ
import Derived.Test.YtfpgjabbpcndfaaApp
namespace Go.Proofs.Ytfpgjabbpcndfaa.Oct
set_option linter.unusedVariables false
set_option linter.unusedSimpArgs false
open Go.Proofs.Ytfpgjabbpcndfaa Go.RowKit Go.Lib Go.Shelf

set_option maxRecDepth 100000 in
set_option maxHeartbeats 2000000 in
theorem of_any (w : World) (A : Option Addr) (c : Nat) (bs : List UInt8) (h8 : Holds8 w.heap.size w A bs) (hc : bs.length ≤ c) (hm : bs.length < 1152921504606846976) :
    Calls Try.prog 8 #[.slice A bs.length c] w fun e w' => e = .returned (.agg (arr8 (sha bs))) ∧ Below w.heap.size w w' := by
  have hK0 := (Keeps.nil w).new (arr8 zero32) 25
  have hl8 : Holds8 w.heap.size (w.alloc (.cells (arr8 zero32) 25)) A bs := h8.below ((Below.refl _ _).alloc (Nat.le_refl _) _) (Nat.le_refl _)
  have CN : Hid (Calls Try.prog 13 #[] (w.alloc (.cells (arr8 zero32) 25)) fun e w' => ∃ g, e = .returned (.pointer (some ⟨g, 0, none⟩)) ∧ w.heap.size < g ∧ SumIn w' g [] 0 ∧ Keeps w [(w.heap.size, arr8 zero32, 25)] w' ∧ Holds8 w.heap.size w' A bs) :=
    Lib.hid ((new_any _).mono fun e w' ⟨g, he, hg, hs, hb⟩ => ⟨g, he, by rw [World.size_alloc] at hg; omega, hs, hK0.call hb, hl8.below hb (by simp)⟩)
  have hA : ∀ a, A = some a → a.block < w.heap.size := fun a e => by
    rcases h8 with ⟨e1, _⟩ | ⟨b, off, e1, hb, _⟩
    · rw [e] at e1; cases e1
    · rw [e] at e1; injection e1 with e1; rw [e1]; exact hb
  have HA := Lib.hid hA
  clear h8 hK0 hl8 hA
  obtain ⟨L, hL⟩ : ∃ L, bs.length = L := ⟨_, rfl⟩
  have HL := Lib.hid hL
  rw [hL] at hc hm ⊢
  clear hL
  go_enter Try.func8, Try.ntmps8
  go_wp2_with (first | (refine wpList_alloc rfl 25 rfl (z := arr8 zero32) (by kernel_rfl) ?_; try simp only [World.size_alloc]) | (go_at_call 13; (with_reducible refine CN.out.mono ?_); rintro e W1 ⟨g, rfl, hg, hS, hK, h8⟩; have hwl := hK.lt 0 rfl; have CW := Lib.hid (write_any W1 g [] 0 A c bs hS (h8.more (by have : w.heap.size < W1.heap.size := hwl; omega)) (by rw [HL.out]; exact hc) (by rw [HL.out]; exact hm) (by decide) (fun a e => by have := HA.out a e; omega)); rw [HL.out] at CW; clear hS h8 hwl) | (go_at_call 15; (with_reducible refine CW.out.mono ?_); rintro e W2 ⟨rfl, hS, hG⟩; have hK2 := hK.grow hG (fun i p hi => by (match i, hi with | 0, hi => exact (by cases hi; show w.heap.size ≠ g; omega))) (by omega); have CE := Lib.hid (end_any W2 g bs (by rw [HL.out]; rw [List.nil_append, Nat.zero_add] at hS; exact hS) (by rw [HL.out]; exact hm)); clear hS hG hK) | (go_at_call 16; (with_reducible refine CE.out.mono ?_); rintro e W3 ⟨rfl, hb⟩; have hK := hK2.call hb; clear hb hK2) | (refine wpList_put hK 0 rfl 25 (.tmp 2) (.tmp 6) rfl rfl rfl rfl (infoH _ rfl) (size_same rfl rfl) (one8x _) ?_; clear hK; intro W5 hK))
  refine bodyPost_ret (v := .agg (arr8 (sha bs))) ?_ rfl ⟨rfl, hK.bel⟩
  exact results_cell_row rfl _ _ w.heap.size 25 _ (0, 0) _ rfl (hK.get 0 rfl) Try.underlying25 rfl (infoH _ rfl)
theorem Keeps.holds32 {w W : World} {l : List (Nat × Array Value × TypeId)} {k g : Nat} {bs : List UInt8} {t : TypeId} (h : Keeps w l W) (hk : l[k]? = some (g, arr8 bs, t)) : Holds8 W.heap.size W (some ⟨g, 0, none⟩) bs :=
  .inr ⟨g, 0, rfl, h.lt k hk, fun j hj => by
    rw [h.cell k hk (0 + j), Nat.zero_add, arr8_get bs j hj]
    congr 3
    simp [List.getD, hj]⟩

theorem of_32 (W : World) (g : Nat) (h : List UInt8) (hl : h.length = 32) (h8 : Holds8 W.heap.size W (some ⟨g, 0, none⟩) h) :
    Calls Try.prog 8 #[.slice (some ⟨g, 0, none⟩) 32 32] W fun e w' => e = .returned (.agg (arr8 (sha h))) ∧ Below W.heap.size W w' := by
  have := of_any W (some ⟨g, 0, none⟩) 32 h h8 (by omega) (by omega)
  rw [hl] at this
  exact this
theorem sha_length (m : List UInt8) : (sha m).length = 32 := rfl

set_option maxRecDepth 100000 in
set_option maxHeartbeats 2000000 in
theorem twice_any (w : World) (A : Option Addr) (c : Nat) (bs : List UInt8) (h8 : Holds8 w.heap.size w A bs) (hc : bs.length ≤ c) (hm : bs.length < 1152921504606846976) :
    Calls Try.prog 10 #[.slice A bs.length c] w fun e w' => e = .returned (.agg (arr8 (sha (sha bs)))) ∧ Below w.heap.size w w' := by
  have hK0 := (Keeps.nil w).new (arr8 zero32) 25
  have hl8 : Holds8 w.heap.size (w.alloc (.cells (arr8 zero32) 25)) A bs := h8.below ((Below.refl _ _).alloc (Nat.le_refl _) _) (Nat.le_refl _)
  have CO : Hid (Calls Try.prog 8 #[.slice A bs.length c] (w.alloc (.cells (arr8 zero32) 25)) fun e w' => e = .returned (.agg (arr8 (sha bs))) ∧ Keeps w [(w.heap.size, arr8 zero32, 25)] w') :=
    Lib.hid ((of_any _ A c bs (hl8.more (by simp)) hc hm).mono fun e w' ⟨he, hb⟩ => ⟨he, hK0.call hb⟩)
  clear h8 hK0 hl8
  obtain ⟨L, hL⟩ : ∃ L, bs.length = L := ⟨_, rfl⟩
  rw [hL] at hc hm CO ⊢
  clear hL
  go_enter Try.func10, Try.ntmps10
  go_wp2_with (first | (refine wpList_alloc rfl 25 rfl (z := arr8 zero32) (by kernel_rfl) ?_; try simp only [World.size_alloc]) | (go_at_call 8; (with_reducible refine CO.out.mono ?_); rintro e W1 ⟨rfl, hK⟩; clear CO) | (refine wpList_fill hK rfl 25 (.tmp 3) (.tmp 5) rfl rfl rfl (infoH _ rfl) (size_same rfl rfl) (one8x _) ?_; clear hK; intro W2 hK; have C2 := Lib.hid (of_32 W2 W1.heap.size (sha bs) rfl (Keeps.holds32 (k := 1) hK rfl))) | (go_at_call 8; (with_reducible refine C2.out.mono ?_); rintro e W3 ⟨rfl, hb⟩; replace hK := hK.call hb; clear hb) | (refine wpList_put hK 0 rfl 25 (.tmp 2) (.tmp 7) rfl rfl rfl rfl (infoH _ rfl) (size_same rfl rfl) (one8x _) ?_; clear hK; intro W5 hK))
  refine bodyPost_ret (v := .agg (arr8 (sha (sha bs)))) ?_ rfl ⟨rfl, hK.bel⟩
  exact results_cell_row rfl _ _ w.heap.size 25 _ (0, 0) _ rfl (hK.get 0 rfl) Try.underlying25 rfl (infoH _ rfl)

theorem twice_any' (w : World) (A : Option Addr) (L c : Nat) (bs : List UInt8) (hL : bs.length = L) (h8 : Holds8 w.heap.size w A bs) (hc : L ≤ c) (hm : L < 1152921504606846976) :
    Calls Try.prog 10 #[.slice A L c] w fun e w' => e = .returned (.agg (arr8 (sha (sha bs)))) ∧ Below w.heap.size w w' := by
  subst hL
  exact twice_any w A c bs h8 hc hm
theorem of_any' (w : World) (A : Option Addr) (L c : Nat) (bs : List UInt8) (hL : bs.length = L) (h8 : Holds8 w.heap.size w A bs) (hc : L ≤ c) (hm : L < 1152921504606846976) :
    Calls Try.prog 8 #[.slice A L c] w fun e w' => e = .returned (.agg (arr8 (sha bs))) ∧ Below w.heap.size w w' := by
  subst hL
  exact of_any w A c bs h8 hc hm
theorem clone_20 (W : World) (g : Nat) (h : List UInt8) (hl : h.length = 32) (h8 : Holds8 W.heap.size W (some ⟨g, 0, none⟩) h) :
    Calls Try.prog 19 #[.slice (some ⟨g, 0, none⟩) 20 32] W (OwnBytes W (h.take 20)) := by
  have := clone_any (h.take 20) (some ⟨g, 0, none⟩) 32 W.heap.size (fun e => by cases e) W (h8.takeS 20) (Nat.le_refl _) (by rw [List.length_take]; omega)
  rw [show (h.take 20).length = 20 by rw [List.length_take]; omega] at this
  exact this

set_option maxRecDepth 100000 in
set_option maxHeartbeats 2000000 in
theorem short_any (w : World) (A : Option Addr) (L c : Nat) (bs : List UInt8) (hL : bs.length = L) (h8 : Holds8 w.heap.size w A bs) (hc : L ≤ c) (hm : L < 1152921504606846976) :
    Calls Try.prog 7 #[.slice A L c] w (OwnBytes w ((sha (sha bs)).take 20)) := by
  have CT := Lib.hid (twice_any' w A L c bs hL h8 hc hm)
  clear h8 hL
  go_enter Try.func7, Try.ntmps7
  go_wp2_with (first | (refine wpList_alloc rfl 25 rfl (z := arr8 zero32) (by kernel_rfl) ?_; try simp only [World.size_alloc]) | (go_at_call 10; (with_reducible refine CT.out.mono ?_); rintro e W1 ⟨rfl, hb⟩; have hK := (Keeps.nil w).call hb) | (refine wpList_fill hK rfl 25 (.tmp 3) (.tmp 5) rfl rfl rfl (infoH _ rfl) (size_same rfl rfl) (one8x _) ?_; clear hK; intro W2 hK; have CC := Lib.hid (clone_20 W2 W1.heap.size (sha (sha bs)) rfl (Keeps.holds32 (k := 0) hK rfl))) | (go_at_call 19; (with_reducible refine CC.out.mono ?_); rintro e W3 ⟨v, rfl, hown, hb3⟩))
  go_ret
  exact ⟨_, rfl, ownsRow_base hown hK.bel.size, hK.bel.trans (hb3.mono hK.bel.size)⟩
end Go.Proofs.Ytfpgjabbpcndfaa.Oct
