/- The sum of a message as it lies in memory; contracts of sha.New, and of (*Sum).none, Len and Copy. -/
import Derived.Test.YtfpgjabbpcndfaaShaD
import Derived.Test.YtfpgjabbpcndfaaShaC
import Derived.Test.YtfpgjabbpcndfaaKept
namespace Go.Proofs.Ytfpgjabbpcndfaa.Oct
set_option linter.unusedVariables false
set_option linter.unusedSimpArgs false
open Go.Proofs.Ytfpgjabbpcndfaa Go.RowKit Go.Lib

def sumL (s : St) (tl : List UInt8) (u n : Nat) : List Value := (words s).map v32 ++ (vals tl ++ [.int .i64 u, .int .u64 n, .bool true])
def sumc (s : St) (tl : List UInt8) (u n : Nat) : Array Value := (sumL s tl u n).toArray
theorem sumL_length (s : St) (tl : List UInt8) (u n : Nat) : (sumL s tl u n).length = tl.length + 11 := by
  simp only [sumL, List.length_append, List.length_map, vals_length, List.length_cons, List.length_nil, words]
  omega
theorem sumc_size (s : St) (tl : List UInt8) (u n : Nat) : (sumc s tl u n).size = tl.length + 11 := by rw [sumc, List.size_toArray, sumL_length]
theorem sumc_st (s : St) (tl : List UInt8) (u n i : Nat) (h : i < 8) : (sumc s tl u n)[i]? = some (v32 ((words s).getD i 0)) := by
  rw [sumc, List.getElem?_toArray, sumL, List.getElem?_append_left (by simpa [words] using h), List.getElem?_map]
  have hw : i < (words s).length := h
  simp [List.getD, hw]
theorem sumc_tl (s : St) (tl : List UInt8) (u n j : Nat) (h : j < tl.length) : (sumc s tl u n)[8 + j]? = some (.int .u8 ((tl.getD j 0).toNat : Int)) := by
  rw [sumc, List.getElem?_toArray, sumL, List.getElem?_append_right (by simp [words]), List.getElem?_append_left (by simp [words, vals_length]; exact h)]
  simp [words, vals, List.getD, h]
theorem sumc_u (s : St) (tl : List UInt8) (u n : Nat) (h : tl.length = 64) : (sumc s tl u n)[72]? = some (.int .i64 u) := by
  rw [sumc, List.getElem?_toArray, sumL, List.getElem?_append_right (by simp [words]), List.getElem?_append_right (by simp [words, vals_length, h])]
  simp [words, vals_length, h]
theorem sumc_n (s : St) (tl : List UInt8) (u n : Nat) (h : tl.length = 64) : (sumc s tl u n)[73]? = some (.int .u64 n) := by
  rw [sumc, List.getElem?_toArray, sumL, List.getElem?_append_right (by simp [words]), List.getElem?_append_right (by simp [words, vals_length, h])]
  simp [words, vals_length, h]
theorem sumc_made (s : St) (tl : List UInt8) (u n : Nat) (h : tl.length = 64) : (sumc s tl u n)[74]? = some (.bool true) := by
  rw [sumc, List.getElem?_toArray, sumL, List.getElem?_append_right (by simp [words]), List.getElem?_append_right (by simp [words, vals_length, h])]
  simp [words, vals_length, h]
theorem sumc_set_u (s : St) (tl : List UInt8) (u n u' : Nat) (h : tl.length = 64) : (sumc s tl u n).setIfInBounds 72 (.int .i64 u') = sumc s tl u' n := by
  unfold sumc sumL
  rw [List.setIfInBounds_toArray, List.set_append_right _ _ (by simp [words]), List.set_append_right _ _ (by simp [words, vals_length, h])]
  simp [words, vals_length, h]
theorem sumc_set_n (s : St) (tl : List UInt8) (u n n' : Nat) (h : tl.length = 64) : (sumc s tl u n).setIfInBounds 73 (.int .u64 n') = sumc s tl u n' := by
  unfold sumc sumL
  rw [List.setIfInBounds_toArray, List.set_append_right _ _ (by simp [words]), List.set_append_right _ _ (by simp [words, vals_length, h])]
  simp [words, vals_length, h]
theorem sumc_splice (s : St) (tl p : List UInt8) (u n o : Nat) (h : o + p.length ≤ tl.length) :
    ((sumc s tl u n).toList.take (8 + o) ++ vals p ++ (sumc s tl u n).toList.drop (8 + o + p.length)).toArray = sumc s (tl.take o ++ p ++ tl.drop (o + p.length)) u n := by
  unfold sumc sumL
  have hw : ((words s).map v32).length = 8 := by simp [words]
  have hv := vals_length tl
  simp only [List.toList_toArray]
  congr 1
  rw [List.take_append, List.drop_append, hw, List.take_of_length_le (l := (words s).map v32) (by omega), List.drop_of_length_le (l := (words s).map v32) (by omega), show 8 + o - 8 = o by omega, show 8 + o + p.length - 8 = o + p.length by omega]
  rw [List.take_append_of_le_length (by omega), List.drop_append_of_le_length (by omega)]
  simp only [vals, List.map_append, List.map_take, List.map_drop, List.append_assoc, List.nil_append]
theorem sumc_state (s s' : St) (tl : List UInt8) (u n : Nat) : ((sumc s tl u n).toList.take 0 ++ (stc s').toList ++ (sumc s tl u n).toList.drop (0 + (stc s').size)).toArray = sumc s' tl u n := by
  unfold sumc sumL
  rfl
theorem sumc_one (s : St) (tl : List UInt8) (u n : Nat) : (sumc s tl u n).all (·.oneCell') = true := by
  unfold sumc sumL
  simp [v32, vals, Value.oneCell']
theorem sumc_info (s : St) (tl : List UInt8) (u n : Nat) (h : tl.length = 64) : (Try.prog.info? 49).map (·.size) = some (sumc s tl u n).size := by
  rw [sumc_size, h]
  kernel_rfl

/-- At block g lies the sum of the message m, which tells the length n. -/
def SumIn (W : World) (g : Nat) (m : List UInt8) (n : Nat) : Prop :=
  ∃ tl : List UInt8, tl.length = 64 ∧ tl.take (m.length % 64) = m.drop (m.length / 64 * 64) ∧ W.heap[g]? = some (.cells (sumc (stOf m) tl (m.length % 64) n) 49 (0, 0))
theorem SumIn.below {W W' : World} {g : Nat} {m : List UInt8} {n : Nat} (h : SumIn W g m n) {B : Nat} (hb : Below B W W') (hg : g < B) : SumIn W' g m n := by
  obtain ⟨tl, h1, h2, h3⟩ := h
  exact ⟨tl, h1, h2, by rw [hb.block g hg]; exact h3⟩
theorem SumIn.lt {W : World} {g : Nat} {m : List UInt8} {n : Nat} (h : SumIn W g m n) : g < W.heap.size := by
  obtain ⟨tl, h1, h2, h3⟩ := h
  exact (Array.getElem?_eq_some_iff.1 h3).1

def zero64b : List UInt8 := List.replicate 64 0
theorem stOf_nil : stOf [] = squ := rfl
theorem new_any (w : World) : Calls Try.prog 13 #[] w fun e w' => ∃ g, e = .returned (.pointer (some ⟨g, 0, none⟩)) ∧ w.heap.size ≤ g ∧ SumIn w' g [] 0 ∧ Below w.heap.size w w' := by
  have CS := Lib.hid squares_any
  go_enter Try.func13, Try.ntmps13
  go_wp2_with (first | (go_at_call 24; with_reducible refine (CS.out _).mono ?_; rintro e W1 ⟨rfl, hB⟩; have HB := Lib.hid hB; clear hB) | (refine wpList_build rfl 49 _ rfl (v := .agg (sumc squ zero64b 0 0)) (by kernel_rfl) ?_))
  go_ret
  exact ⟨_, rfl, HB.out.size, ⟨zero64b, rfl, rfl, heap_alloc_new _ _⟩, HB.out.alloc HB.out.size _⟩
theorem none_any (w : World) (g : Nat) (m : List UInt8) (n : Nat) (h : SumIn w g m n) : Calls Try.prog 25 #[.pointer (some ⟨g, 0, none⟩)] w fun e w' => e = .returned (.bool false) ∧ w = w' := by
  obtain ⟨tl, h1, h2, h3⟩ := h
  have hc : w.cell? ⟨g, 74, none⟩ = some (.bool true) := by rw [cell_of_row w g 74 _ _ _ h3, sumc_made _ _ _ _ h1]
  clear h2 h3
  go_enter Try.func25, Try.ntmps25
  go_wp2
  go_ret
  exact ⟨rfl, rfl⟩
theorem len_any (w : World) (g : Nat) (m : List UInt8) (n : Nat) (h : SumIn w g m n) : Calls Try.prog 17 #[.pointer (some ⟨g, 0, none⟩)] w fun e w' => e = .returned (.int .u64 n) ∧ w = w' := by
  have CN := Lib.hid (none_any w g m n h)
  obtain ⟨tl, h1, h2, h3⟩ := h
  have hc : w.cell? ⟨g, 73, none⟩ = some (.int .u64 n) := by rw [cell_of_row w g 73 _ _ _ h3, sumc_n _ _ _ _ h1]
  clear h2 h3
  go_enter Try.func17, Try.ntmps17
  go_wp2_with (go_at_call 25; with_reducible refine CN.out.mono ?_; rintro e W1 ⟨rfl, rfl⟩)
  go_ret
  exact ⟨rfl, rfl⟩
def sumz : Array Value := ((words zeroSt).map v32 ++ (vals zero64b ++ [Value.int .i64 0, Value.int .u64 0, Value.bool false])).toArray
theorem copy_any (w : World) (g : Nat) (m : List UInt8) (n : Nat) (h : SumIn w g m n) : Calls Try.prog 14 #[.pointer (some ⟨g, 0, none⟩)] w fun e w' => ∃ g', e = .returned (.pointer (some ⟨g', 0, none⟩)) ∧ w.heap.size ≤ g' ∧ SumIn w' g' m n ∧ Below w.heap.size w w' := by
  have CN := Lib.hid (none_any w g m n h)
  obtain ⟨tl, h1, h2, h3⟩ := h
  have H1 := Lib.hid h1
  have H2 := Lib.hid h2
  have H3 := Lib.hid h3
  have hH := Keeps.nil w
  clear h1 h2 h3
  go_enter Try.func14, Try.ntmps14
  go_wp2_with (first | (go_at_call 25; with_reducible refine CN.out.mono ?_; rintro e W1 ⟨rfl, rfl⟩) | (refine wpList_load_row rfl 49 (.tmp 7) rfl g rfl 49 _ (0, 0) _ H3.out Try.underlying49 rfl (sumc_info _ _ _ _ H1.out) ?_) | (refine wpList_alloc rfl 49 rfl (z := sumz) (by kernel_rfl) ?_; try simp only [World.size_alloc]) | (refine wpList_fill hH rfl 49 (.tmp 3) (.tmp 8) rfl rfl rfl (sumc_info _ _ _ _ H1.out) (by rw [sumc_size, H1.out]; rfl) (sumc_one _ _ _ _) ?_; clear hH; intro W1 hH))
  go_ret
  exact ⟨_, rfl, Nat.le_refl _, ⟨tl, H1.out, H2.out, hH.get 0 rfl⟩, hH.bel⟩
end Go.Proofs.Ytfpgjabbpcndfaa.Oct
