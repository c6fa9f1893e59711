/- The reference's double hash and its short one are the hash's: messages of at most 1,000,000 bytes. -/
import Derived.Test.YtfpgjabbpcndfaaRefSD
import Derived.Test.YtfpgjabbpcndfaaApp
namespace Go.Proofs.Ytfpgjabbpcndfaa.Oct
set_option linter.unusedVariables false
set_option linter.unusedSimpArgs false
open Go.Proofs.Ytfpgjabbpcndfaa Go.RowKit Go.Lib

theorem rof_any (w : World) (A : Option Addr) (L c : Nat) (bs : List UInt8) (hL : bs.length = L) (h8 : Holds8 w.heap.size w A bs) (hm : L ≤ 1000000) :
    Calls Try.prog 9 #[.slice A L c] w fun e w' => e = .returned (.agg (arr8 (sha bs))) ∧ Below w.heap.size w w' := by
  subst hL
  exact rof_walk bs A c w.heap.size w (Nat.le_refl _) h8 hm
theorem Keeps.rholds32 {w W : World} {l : List (Nat × Array Value × TypeId)} {k g : Nat} {bs : List UInt8} {t : TypeId} (h : Keeps w l W) (hk : l[k]? = some (g, arr8 bs, t)) : Holds8 W.heap.size W (some ⟨g, 0, none⟩) bs :=
  .inr ⟨g, 0, rfl, h.lt k hk, fun j hj => by
    rw [h.cell k hk (0 + j), Nat.zero_add, arr8_get bs j hj]
    congr 3
    simp [List.getD, hj]⟩

set_option maxRecDepth 100000 in
set_option maxHeartbeats 2000000 in
theorem rtwice_any (w : World) (A : Option Addr) (L c : Nat) (bs : List UInt8) (hL : bs.length = L) (h8 : Holds8 w.heap.size w A bs) (hm : L ≤ 1000000) :
    Calls Try.prog 11 #[.slice A L c] w fun e w' => e = .returned (.agg (arr8 (sha (sha bs)))) ∧ Below w.heap.size w w' := by
  have hK0 := (Keeps.nil w).new (arr8 zero32) 25
  have hl8 : Holds8 w.heap.size (w.alloc (.cells (arr8 zero32) 25)) A bs := h8.below ((Below.refl _ _).alloc (Nat.le_refl _) _) (Nat.le_refl _)
  have hs32 : (sha bs).length = 32 := hashOf_length _
  have CO : Hid (Calls Try.prog 9 #[.slice A L c] (w.alloc (.cells (arr8 zero32) 25)) fun e w' => e = .returned (.agg (arr8 (sha bs))) ∧ Keeps w [(w.heap.size, arr8 zero32, 25)] w') :=
    Lib.hid ((rof_any _ A L c bs hL (hl8.more (by simp)) hm).mono fun e w' ⟨he, hb⟩ => ⟨he, hK0.call hb⟩)
  have hd32 : (sha (sha bs)).length = 32 := hashOf_length _
  have hC2 : ∀ (W : World) (g : Nat), Holds8 W.heap.size W (some ⟨g, 0, none⟩) (sha bs) → Calls Try.prog 9 #[.slice (some ⟨g, 0, none⟩) 32 32] W fun e w' => e = .returned (.agg (arr8 (sha (sha bs)))) ∧ Below W.heap.size W w' :=
    fun W g h => rof_any W _ 32 32 (sha bs) hs32 h (by decide)
  clear h8 hK0 hl8 hL
  generalize sha (sha bs) = D2 at *
  generalize sha bs = D1 at *
  have HD1 := Lib.hid hs32
  have HD2 := Lib.hid hd32
  have HC2 := Lib.hid hC2
  clear hs32 hd32 hC2
  go_enter Try.func11, Try.ntmps11
  go_wp2_with (first | (refine wpList_alloc rfl 25 rfl (z := arr8 zero32) (by kernel_rfl) ?_; try simp only [World.size_alloc]) | (go_at_call 9; (with_reducible refine CO.out.mono ?_); rintro e W1 ⟨rfl, hK⟩; clear CO) | (refine wpList_fill hK rfl 25 (.tmp 3) (.tmp 5) rfl rfl rfl (infoH _ HD1.out) (size_same rfl HD1.out) (one8x _) ?_; clear hK; intro W2 hK; have C2 := Lib.hid (HC2.out W2 W1.heap.size (Keeps.rholds32 (k := 1) hK rfl))) | (go_at_call 9; (with_reducible refine C2.out.mono ?_); rintro e W3 ⟨rfl, hb⟩; replace hK := hK.call hb; clear hb) | (refine wpList_put hK 0 rfl 25 (.tmp 2) (.tmp 7) rfl rfl rfl rfl (infoH _ HD2.out) (size_same rfl HD2.out) (one8x _) ?_; clear hK; intro W5 hK))
  refine bodyPost_ret (v := .agg (arr8 D2)) ?_ rfl ⟨rfl, hK.bel⟩
  exact results_cell_row rfl _ _ w.heap.size 25 _ (0, 0) _ rfl (hK.get 0 rfl) Try.underlying25 rfl (infoH _ HD2.out)

set_option maxRecDepth 100000 in
set_option maxHeartbeats 2000000 in
theorem rshort_any (w : World) (A : Option Addr) (L c : Nat) (bs : List UInt8) (hL : bs.length = L) (h8 : Holds8 w.heap.size w A bs) (hm : L ≤ 1000000) :
    Calls Try.prog 12 #[.slice A L c] w (OwnBytes w ((sha (sha bs)).take 20)) := by
  have CT := Lib.hid (rtwice_any w A L c bs hL h8 hm)
  have hd32 : (sha (sha bs)).length = 32 := hashOf_length _
  clear h8 hL
  generalize sha (sha bs) = D2 at *
  have HD2 := Lib.hid hd32
  have HT := Lib.hid (show (D2.take 20).length = 20 by rw [List.length_take, hd32]; rfl)
  clear hd32
  go_enter Try.func12, Try.ntmps12
  go_wp2_with (first | (refine wpList_alloc rfl 25 rfl (z := arr8 zero32) (by kernel_rfl) ?_; try simp only [World.size_alloc]) | (go_at_call 11; (with_reducible refine CT.out.mono ?_); rintro e W1 ⟨rfl, hb⟩; have hK := (Keeps.nil w).call hb; clear hb CT) | (refine wpList_fill hK rfl 25 (.tmp 3) (.tmp 6) rfl rfl rfl (infoH _ HD2.out) (size_same rfl HD2.out) (one8x _) ?_; clear hK; intro W2 hK) | (at_builtin; refine wpList_append_bytes rfl (.tmp 7) (.tmp 8) rfl W2.heap.size W2.heap.size _ [] (D2.take 20) rfl (World.ownsRow_nil _ _ _ _) (some ⟨W1.heap.size, 0, none⟩) 32 (by rw [HT.out]; rfl) ((Keeps.rholds32 (k := 0) hK rfl).takeS 20) (by rw [HT.out]; decide) (Nat.le_refl _) ?_; intro v3 w3 hown3 hgr3 hv3))
  go_ret
  exact ⟨_, rfl, ownsRow_base hown3 hK.bel.size, hK.bel.trans (((Below.refl _ _).grown hgr3 (Nat.le_refl _) (fun k hk => by cases hk)).mono hK.bel.size)⟩
end Go.Proofs.Ytfpgjabbpcndfaa.Oct
