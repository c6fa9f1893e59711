/- purserlaw01.alive. No condition. -/
import Derived.Test.YtngkckngjobojaaOctJ
namespace Go.Proofs.Ytngkckngjobojaa.Oct
open Go.Proofs.Ytngkckngjobojaa Go.RowKit Go.Shelf

/-- A literal of bytes, laid and marked. -/
def laid (w : World) (bs : List UInt8) : World := (w.alloc (.cells (vals bs).toArray 5)).freeze ⟨w.heap.size, bs.length, none⟩ 1
theorem heap_freeze (W : World) (g n : Nat) (cs : Array Value) (hh : W.heap[g]? = some (.cells cs 5 (0, 0))) : (W.freeze ⟨g, n, none⟩ 1).heap[g]? = some (.cells cs 5 (n, n + 1)) := by
  unfold World.freeze
  simp only [Nat.succ_ne_self, if_false, Array.getElem?_modify, if_true, hh]
  simp
theorem conv_mark (W : World) (g k c : Nat) (cs : Array Value) (hh : W.heap[g]? = some (.cells cs 5 (0, 0))) : (convert 25 25 (.slice (some ⟨g, 0, none⟩) k c)).run Try.prog W = .ok (.slice (some ⟨g, 0, none⟩) k c) (W.freeze ⟨g, cs.size, none⟩ 1) := by
  unfold convert markStringish
  simp [run_underlying Try.underlying25, run_underlying Try.underlying5, World.shape?, hh]
theorem laid_conv (w : World) (bs : List UInt8) (cs : Array Value) (hc : cs = (vals bs).toArray) (n : Nat) : (convert 25 25 (.slice (some ⟨w.heap.size, 0, none⟩) n n)).run Try.prog (w.alloc (.cells cs 5)) = .ok (.slice (some ⟨w.heap.size, 0, none⟩) n n) (laid w bs) := by
  subst hc
  rw [conv_mark _ w.heap.size n n (vals bs).toArray (heap_alloc_new w _)]
  unfold laid
  rw [show (vals bs).toArray.size = bs.length by simp [vals]]
theorem laid_size (w : World) (bs : List UInt8) : (laid w bs).heap.size = w.heap.size + 1 := by
  unfold laid World.freeze
  simp
theorem laid_below (w : World) (bs : List UInt8) : Below w.heap.size w (laid w bs) := by
  refine ((Below.refl _ w).alloc (Nat.le_refl _) (.cells (vals bs).toArray 5)).trans ?_
  unfold laid World.freeze
  exact ⟨rfl, rfl, rfl, by simp, fun k hk => by
    simp only [Nat.succ_ne_self, if_false, Array.getElem?_modify]
    rw [if_neg (by omega)]⟩
theorem laid_holds (w : World) (bs : List UInt8) : Holds8 (laid w bs).heap.size (laid w bs) (some ⟨w.heap.size, 0, none⟩) bs := by
  refine .inr ⟨w.heap.size, 0, rfl, by rw [laid_size]; omega, fun j hj => ?_⟩
  rw [Nat.zero_add, cell_of_row (laid w bs) w.heap.size j (vals bs).toArray 5 (bs.length, bs.length + 1) (heap_freeze _ _ _ _ (heap_alloc_new w _))]
  simpa using vals_get bs j hj

set_option maxRecDepth 100000 in
set_option maxHeartbeats 400000 in
theorem alive_any (w : World) : Calls Try.prog 31 #[] w fun e w' => e = .returned (.bool true) ∧ Below w.heap.size w w' := by
  obtain ⟨B1, hB1⟩ : ∃ B : List UInt8, [2, 1, 0, 0] = B := ⟨_, rfl⟩
  obtain ⟨B2, hB2⟩ : ∃ B : List UInt8, B1 ++ sizeB 252 = B := ⟨_, rfl⟩
  obtain ⟨B3, hB3⟩ : ∃ B : List UInt8, B2 ++ sizeB 253 = B := ⟨_, rfl⟩
  obtain ⟨B4, hB4⟩ : ∃ B : List UInt8, B3 ++ (sizeB [97, 98].length ++ [97, 98]) = B := ⟨_, rfl⟩
  have hE : (⟨B4.toArray⟩ : ByteArray) = ⟨#[2, 1, 0, 0, 252, 253, 253, 0, 2, 97, 98]⟩ := by
    subst hB4 hB3 hB2 hB1
    decide +kernel
  have hl : B1.length ≤ 4 ∧ B2.length ≤ 8 ∧ B3.length ≤ 12 ∧ B4.length ≤ 20 := by
    subst hB4 hB3 hB2 hB1
    decide +kernel
  obtain ⟨l1, l2, l3, l4⟩ := hl
  have hf := fun W (hW : PenAt w.heap.size W w.heap.size []) hb => penFixed_any w.heap.size w.heap.size [] 4 258 (by decide) W hW (by decide) hb
  rw [show fixedB 4 258 = B1 by rw [← hB1]; decide +kernel, show fixedE 4 258 = 0 by decide +kernel] at hf
  have HF := Lib.hid (show ∀ W, PenAt w.heap.size W w.heap.size [] → w.heap.size ≤ W.heap.size → Calls Try.prog 27 #[.pointer (some ⟨w.heap.size, 0, none⟩), .int .i64 4, .int .u64 258] W (Wrote w.heap.size w.heap.size [] B1 0 W) from fun W hW hb => hf W hW hb)
  have HS := Lib.hid (show ∀ W, PenAt w.heap.size W w.heap.size B1 → w.heap.size ≤ W.heap.size → Calls Try.prog 28 #[.pointer (some ⟨w.heap.size, 0, none⟩), .int .u64 252] W (Wrote w.heap.size w.heap.size B1 (sizeB 252) 0 W) from fun W hW hb => penSize_any _ _ B1 252 (by decide) W hW (by omega) hb)
  have HS2 := Lib.hid (show ∀ W, PenAt w.heap.size W w.heap.size B2 → w.heap.size ≤ W.heap.size → Calls Try.prog 28 #[.pointer (some ⟨w.heap.size, 0, none⟩), .int .u64 253] W (Wrote w.heap.size w.heap.size B2 (sizeB 253) 0 W) from fun W hW hb => penSize_any _ _ B2 253 (by decide) W hW (by omega) hb)
  have HB2 := Lib.hid hB2
  have HB3 := Lib.hid hB3
  have HB4 := Lib.hid hB4
  have HY := Lib.hid (show ∀ W, PenAt w.heap.size W w.heap.size B3 → w.heap.size ≤ W.heap.size → Calls Try.prog 29 #[.pointer (some ⟨w.heap.size, 0, none⟩), .slice (some ⟨W.heap.size, 0, none⟩) 2 2] (laid W [97, 98]) (Wrote w.heap.size w.heap.size B3 (sizeB [97, 98].length ++ [97, 98]) 0 (laid W [97, 98])) from fun W hW hb =>
    penBytes_any w.heap.size w.heap.size B3 [97, 98] (some ⟨W.heap.size, 0, none⟩) 2 _ (hW.below (laid_below _ _)) (Apart8.new hW (laid_below _ _) (laid_holds _ _) (fun a e => by injection e with e; subst e; exact Nat.le_refl _)) (by simp only [List.length_cons, List.length_nil]; omega) (by rw [laid_size]; omega))
  have hcv := fun W => laid_conv W [97, 98] #[.int .u8 97, .int .u8 98] rfl 2
  clear hf hB1 hB2 hB3 hB4
  go_enter Try.func31, Try.ntmps31
  go_wp2_with (first
    | (go_at_call 27; (with_reducible refine (HF.out _ (pen_new w) (by simp)).mono ?_); rintro e w1 ⟨rfl, hp1, hs1⟩; rw [List.nil_append] at hp1; clear HF)
    | (go_at_call 28; (with_reducible refine (HS.out _ hp1 (by have := hs1.size; simp at this; omega)).mono ?_); rintro e w2 ⟨rfl, hp2, hs2⟩; rw [HB2.out] at hp2; clear HS)
    | (go_at_call 28; (with_reducible refine (HS2.out _ hp2 (by have := hs1.size; have := hs2.size; simp at *; omega)).mono ?_); rintro e w3 ⟨rfl, hp3, hs3⟩; rw [HB3.out] at hp3; clear HS2)
    | (go_at_call 29; (with_reducible refine (HY.out _ hp3 (by have := hs1.size; have := hs2.size; have := hs3.size; simp at *; omega)).mono ?_); rintro e w4 ⟨rfl, hp4, hs4⟩; rw [HB4.out] at hp4)
    | (go_at_call 12; refine (penAll_any w.heap.size w.heap.size B4 _ hp4 (by omega)).mono ?_; rintro e w5 ⟨v, rfl, hr, hb5⟩; obtain ⟨A', c', rfl, hh', hc', _, _⟩ := own_open hr; have hst := str_of hh' c'; clear hh' hr))
  go_ret
  have n1 : w.heap.size ≤ w1.heap.size := by have := hs1.size; simp at this; omega
  have n2 : w.heap.size ≤ w2.heap.size := Nat.le_trans n1 hs2.size
  have n3 : w.heap.size ≤ w3.heap.size := Nat.le_trans n2 hs3.size
  have b0 : Below w.heap.size w (w.alloc (.cells #[.slice none 0 0] 27)) := (Below.refl _ _).alloc (Nat.le_refl _) _
  have b1 := hs1.below (pen_new w) (by simp)
  have b2 := hs2.below hp1 n1
  have b3 := hs3.below hp2 n2
  have b4 := (laid_below w3 [97, 98]).mono n3
  have b5 := hs4.below (hp3.below (laid_below w3 [97, 98])) (by rw [laid_size]; omega)
  have n4 : w.heap.size ≤ w4.heap.size := by have := hs4.size; rw [laid_size] at this; omega
  exact ⟨rfl, ((((b0.trans b1).trans b2).trans b3).trans (b4.trans b5)).trans (hb5.mono n4)⟩
end Go.Proofs.Ytngkckngjobojaa.Oct
