/- The contract of crc.On. No condition beyond the memory's reach. -/
import Derived.Test.YtagcdgfdflnphaaCrcB
import Derived.RangeFuncFrom
import Derived.Scope
namespace Go.Proofs.Ytagcdgfdflnphaa
open Go.RowKit Go.Shelf
attribute [local go_sem] Oper.semAt_some

theorem not32 (a : Nat) (ha : a < 4294967296) : bits .xor .u32 IntKind.u32.max (a : Int) = ((4294967295 - a : Nat) : Int) := by
  have h := u32_xor_nat 4294967295 a (by omega) ha
  have h2 : 4294967295 ^^^ a = 4294967295 - a := by
    have e1 : ((BitVec.allOnes 32) ^^^ (BitVec.ofNat 32 a)).toNat = 4294967295 ^^^ a := by
      rw [BitVec.toNat_xor, BitVec.toNat_allOnes, BitVec.toNat_ofNat, Nat.mod_eq_of_lt (by omega)]
    have e2 : (~~~ (BitVec.ofNat 32 a)).toNat = 4294967295 - a := by
      rw [BitVec.toNat_not, BitVec.toNat_ofNat, Nat.mod_eq_of_lt (by omega)]
    rw [← e1, ← e2, BitVec.allOnes_xor]
  rw [h2] at h
  exact h

theorem and15_bits (r : Nat) (hr : r < 4294967296) : bits .and .u32 (r : Int) 15 = ((r % 16 : Nat) : Int) := by
  have h := u32_and_nat r 15 hr (by omega)
  rw [show r &&& 15 = r % 16 from Nat.and_two_pow_sub_one_eq_mod r 4] at h
  exact h

theorem new_cell (W : World) (v : Value) (t : TypeId) : (W.alloc (.cells #[v] t)).cell? ⟨W.heap.size, 0, none⟩ = some v ∧ (W.alloc (.cells #[v] t)).frozen? ⟨W.heap.size, 0, none⟩ = false := by
  have h : (W.alloc (.cells #[v] t)).heap[W.heap.size]? = some (.cells #[v] t (0, 0)) := heap_alloc_new W _
  exact ⟨cell_of_row _ _ 0 #[v] t (0, 0) h, by unfold World.frozen?; simp only [h]; rfl⟩
theorem old_cell {W : World} {a : Addr} {v : Value} (o : Obj) (h : W.cell? a = some v) : (W.alloc o).cell? a = some v := cell_kept h (World.grownBy_alloc W o none) (fun r e => by cases e)
theorem old_frozen {W : World} {a : Addr} {v : Value} (o : Obj) (h : W.cell? a = some v) (hf : W.frozen? a = false) : (W.alloc o).frozen? a = false := (frozen_kept h (World.grownBy_alloc W o none) (fun r e => by cases e)).trans hf

set_option maxRecDepth 100000 in
set_option maxHeartbeats 2000000 in
theorem on_any (s : Nat) (hs : s < 4294967296) (bs : List UInt8) (hreach : bs.length ≤ 140737488351232) (cap : Nat) (A : Option Addr) (w : World) (hI : Holds8 w.heap.size w A bs) :
    Calls Try.prog 11 #[.int .u32 (s : Int), .slice A bs.length cap] w fun e w' => e = .returned (.int .u32 (onS s bs : Int)) ∧ Below w.heap.size w w' := by
  refine (callsIn_wide (n := 9)).1 ?_
  refine callsIn_of_wp_marks Try.func11 rfl trivial ?_ rfl
  simp only [Try.ntmps11, List.size_toArray, List.length_cons, List.length_nil, Nat.reduceAdd, Nat.reduceSub, Array.replicate_succ, Array.replicate_zero, List.push_toArray, List.append_toArray, List.nil_append, List.cons_append]
  refine wpIn_wide.2 ?_
  go_wp2_with fail
  refine wp_scope_straight ?_
  have hn := not32 s hs
  have hsg : IntKind.u32.signed = false := rfl
  go_wp2_with (first
    | (go_at_call 19; refine (steps_any _).mono ?_; rintro e w1 ⟨rfl, hb1⟩)
    | (refine wpList_fill (Keeps.nil w1) rfl 42 (.tmp 5) (.tmp 9) rfl rfl rfl (by kernel_rfl) (by rfl) (by unfold tabCells rowT; simp [Value.oneCell']) ?_; intro W1 hK1))
  refine wp_label ?_
  go_wp2_with ((go_at_call 20; refine (callsIn_wide.1 (halves_in Fence.wide 9 trivial rfl _ _ _ _)).mono ?_; rintro e w2 ⟨rfl, rfl⟩))
  have hs6 := new_cell W1 (.int .u32 ((4294967295 - s : Nat) : Int)) 23
  have hb7 := new_cell (W1.alloc (.cells #[.int .u32 ((4294967295 - s : Nat) : Int)] 23)) (.slice A bs.length cap) 22
  rw [World.size_alloc] at hb7
  have hlt1 := hK1.lt 0 rfl
  have hw1 := hb1.size
  have hBw1 := hK1.bel
  have hB0 : Below w.heap.size w ((W1.alloc (.cells #[.int .u32 ((4294967295 - s : Nat) : Int)] 23)).alloc (.cells #[.slice A bs.length cap] 22)) :=
    ((hb1.trans (hBw1.mono hw1)).alloc (by have := hBw1.size; omega) _).alloc (by have := hBw1.size; simp; omega) _
  refine (wpIn_wide (n := 9)).1 ?_
  refine wpIn_rangeFunc_ownF rfl (by decide) (gf := 30) (lb := #[.pointer (some ⟨W1.heap.size + 1, 0, none⟩)]) rfl trivial (enters_of Try.func30 (by kernel_rfl) rfl)
    (halves_stops Fence.wide 8 trivial rfl (by omega) (W1.heap.size + 1) w.heap.size cap A bs hreach _ (by simp) hB0.size hb7.1 (hI.below hB0 (Nat.le_refl _))) belowK_t (belowK_b hB0.size) (Below.refl _ _) (fun _ => rfl)
    (fun pre W => ((W.cell? ⟨W1.heap.size, 0, none⟩ = some (.int .u32 (runH (4294967295 - s) pre : Nat)) ∧ W.frozen? ⟨W1.heap.size, 0, none⟩ = false) ∧ ∀ i : Nat, i < 16 → W.cell? ⟨w1.heap.size, i, none⟩ = some (.int .u32 (tab i : Nat))) ∧ Below w.heap.size w W)
    (fun _ _ _ => False)
    (OwnFrom.and (Own.from (fun s A B row hs hg hr => ⟨⟨cell_kept hs.1.1 hg hr, (frozen_kept hs.1.1 hg hr).trans hs.1.2⟩, fun i hi => cell_kept (hs.2 i hi) hg hr⟩) _) (ownFrom_below (Nat.le_refl _) hB0.size))
    (fun _ _ _ _ _ hs _ _ => hs)
    ⟨⟨⟨old_cell _ hs6.1, old_frozen _ hs6.1 hs6.2⟩, fun i hi => ?tab⟩, hB0⟩
    (fun x => { tmps := #[.int .u32 s, .slice A bs.length cap, undef, undef, .int .u32 0, .pointer (some ⟨w1.heap.size, 0, none⟩), .pointer (some ⟨W1.heap.size, 0, none⟩), .int .u32 (x.val : Int), undef, .agg tabCells, .int .u32 s, .int .u32 ((4294967295 - s : Nat) : Int), .slice A bs.length cap, .func (.func 30) #[] #[.pointer (some ⟨W1.heap.size + 1, 0, none⟩)], .int .u32 (x.val : Int), undef, undef, undef, undef, undef, undef, undef, undef, undef, undef, undef, undef, undef, undef, undef], defers := [] }) ?assign ?body ?done ?stop
  case tab =>
    refine old_cell _ (old_cell _ ?_)
    rw [hK1.cell 0 rfl i]
    simp [tabCells, rowT, hi]
  case assign =>
    intro l x W K hK
    gi_wp2
    exact hK
  case body =>
    rintro l pre x W ⟨⟨⟨hc, hf⟩, ht⟩, hB⟩ _
    have hR := runH_lt (r := 4294967295 - s) (by omega) pre
    have hSn := Lib.hid (runH_snoc (4294967295 - s) pre x)
    generalize runH (4294967295 - s) pre = R at *
    have hx := x.isLt
    obtain ⟨q, hq⟩ : ∃ q, R % 16 = q := ⟨_, rfl⟩
    obtain ⟨p, hp⟩ : ∃ p, q ^^^ x.val = p := ⟨_, rfl⟩
    obtain ⟨R2, hR2⟩ : ∃ R2, R / 16 = R2 := ⟨_, rfl⟩
    have e1 := and15_bits R hR
    rw [hq] at e1
    have hq16 : q < 16 := by omega
    have e2 := u32_xor_nat q x.val (by omega) (by omega)
    rw [hp] at e2
    have hp16 : p < 16 := by rw [← hp]; exact xor_lt16 hq16 hx
    have e3 : (R : Int) / 16 = (R2 : Int) := by rw [← hR2]; simp
    have hR2l : R2 < 4294967296 := by omega
    have ht1 := ht p hp16
    have hTl := tab_lt hp16
    have e4 := u32_xor_nat R2 (tab p) hR2l hTl
    have hfin : feed R x.val = R2 ^^^ tab p := by unfold feed; rw [hq, hp, hR2]
    rw [hfin] at hSn
    have HT := Lib.hid ht
    have hle : w.heap.size ≤ W1.heap.size := by omega
    have hne : ∀ i : Nat, (⟨W1.heap.size, 0, none⟩ : Addr) ≠ ⟨w1.heap.size, i, none⟩ := fun i e => by injection e with e; omega
    clear ht hq hp hR2 hfin
    by_cases hp0 : p = 0
    · subst hp0
      rw [show tab 0 = 0 by decide, Nat.xor_zero] at hSn
      gi_wp2
      refine ⟨KeepsOthers.setCell _ _ _, (Below.refl w.heap.size W).setCell (p := ⟨W1.heap.size, 0, none⟩) hle _, ⟨⟨?_, by rw [World.frozen?_setCell]; exact hf⟩, fun i hi => ?_⟩, hB.setCell (p := ⟨W1.heap.size, 0, none⟩) hle _⟩
      · rw [hSn.out]
        exact World.cell?_setCell_same' _ _ _ (by rw [hc]; rfl)
      · rw [World.cell?_setCell_other _ _ _ _ (hne i)]
        exact HT.out i hi
    · have hp1 : (p : Int) ≠ 0 := by omega
      have hp2 : ((p : Int) == 0) = false := by simpa using hp1
      have hb0 : (0 : Int) ≤ (p : Int) := by omega
      have hb16 : (p : Int) < 16 := by omega
      generalize tab p = T at *
      gi_wp2
      have hc2 : (W.setCell ⟨W1.heap.size, 0, none⟩ (.int .u32 (R2 : Int))).cell? ⟨W1.heap.size, 0, none⟩ = some (.int .u32 (R2 : Int)) := World.cell?_setCell_same' _ _ _ (by rw [hc]; rfl)
      have hf2 : (W.setCell ⟨W1.heap.size, 0, none⟩ (.int .u32 (R2 : Int))).frozen? ⟨W1.heap.size, 0, none⟩ = false := by rw [World.frozen?_setCell]; exact hf
      have ht2 : ∀ i v, W.cell? ⟨w1.heap.size, i, none⟩ = some v → (W.setCell ⟨W1.heap.size, 0, none⟩ (.int .u32 (R2 : Int))).cell? ⟨w1.heap.size, i, none⟩ = some v := fun i v h => by rw [World.cell?_setCell_other _ _ _ _ (hne i)]; exact h
      have ht3 := ht2 p _ ht1
      have HT2 := Lib.hid (fun (i : Nat) (hi : i < 16) => ht2 i _ (HT.out i hi))
      have hko : KeepsOthers W (W.setCell ⟨W1.heap.size, 0, none⟩ (.int .u32 (R2 : Int))) := KeepsOthers.setCell _ _ _
      have hbl : Below w.heap.size W (W.setCell ⟨W1.heap.size, 0, none⟩ (.int .u32 (R2 : Int))) := (Below.refl w.heap.size W).setCell (p := ⟨W1.heap.size, 0, none⟩) hle _
      clear ht1 ht2 hc hf HT
      generalize W.setCell ⟨W1.heap.size, 0, none⟩ (.int .u32 (R2 : Int)) = W2 at *
      have hmx : Try.prog.follows .mixedOrders = true := by kernel_rfl
      gi_region_with_o (fail)
      all_goals gi_wp2
      all_goals
        refine ⟨hko.trans ((KeepsOthers.setCell _ _ _).trans (KeepsOthers.drew _)), hbl.trans ((Below.refl w.heap.size W2).setCell (p := ⟨W1.heap.size, 0, none⟩) hle _).drew, ⟨⟨?_, ?_⟩, fun i hi => ?_⟩, (hB.trans hbl).trans ((Below.refl w.heap.size W2).setCell (p := ⟨W1.heap.size, 0, none⟩) hle _).drew⟩
        · rw [hSn.out, cell_drew_own]
          exact World.cell?_setCell_same' _ _ _ (by rw [hc2]; rfl)
        · rw [frozen_drew_own, World.frozen?_setCell]
          exact hf2
        · rw [cell_drew_own, World.cell?_setCell_other _ _ _ _ (hne i)]
          exact HT2.out i hi
  case done =>
    rintro D ys W hD rfl ⟨⟨⟨hc, _⟩, _⟩, hB⟩ hK
    have hR := runH_lt (r := 4294967295 - s) (by omega) (hv bs)
    have hn2 := not32 _ hR
    have hf : onS s bs = 4294967295 - runH (4294967295 - s) (hv bs) := rfl
    generalize runH (4294967295 - s) (hv bs) = R at *
    have HF := Lib.hid hf
    clear hf
    go_wp2
    refine ⟨by simp, .inl ⟨_, _, rfl, run_takeDeferred hK, ?_⟩⟩
    have hDw : w.heap.size ≤ D := by have := hB0.size; omega
    exact ⟨_, results_tmp rfl _ _ _, by rw [HF.out]; rfl, hB.trans (belowK_b (w := w) (Nat.le_refl _) W D _ _ hDw hK rfl rfl)⟩
  case stop =>
    rintro D c pre W _ _ h _
    exact h.elim
end Go.Proofs.Ytagcdgfdflnphaa
