/- The contracts of purserref01.Size and Bytes. No condition beyond the memory's reach. -/
import Derived.Test.YtngkckngjobojaaRefA
import Derived.Test.YtngkckngjobojaaOctS
namespace Go.Proofs.Ytngkckngjobojaa.Oct
open Go.Proofs.Ytngkckngjobojaa Go.RowKit Go.Shelf

theorem own_one (W : World) (base : Nat) (hb : base ≤ W.heap.size) (y : UInt8) : (W.alloc (.cells #[.int .u8 (y.toNat : Int)] 5)).ownsRow base 5 1 (.slice (some ⟨W.heap.size, 0, none⟩) 1 1) [y].length (vals [y]) :=
  ⟨rfl, .inr ⟨W.heap.size, 1, #[.int .u8 (y.toNat : Int)], rfl, hb, heap_alloc_new W _, Nat.le_refl _, by decide, rfl, rfl⟩⟩
theorem leB_one (x : Nat) (h : x < 253) : leB 1 x = [UInt8.ofNat x] := by
  unfold leB leB
  congr 1
  apply UInt8.toNat.inj
  simp
theorem fixed_size (s : Nat) (x : Nat) (hs : s = 2 ∨ s = 4 ∨ s = 8) (hx : x < 256 ^ s) : fixedB (s : Int) x = leB s x := by
  unfold fixedB
  rw [if_pos (by rcases hs with rfl | rfl | rfl <;> decide), if_neg (by simp; omega)]
  simp
set_option maxRecDepth 100000 in
set_option maxHeartbeats 2000000 in
theorem refSize_more (x s f : Nat) (y : UInt8) (hf : f = y.toNat) (hs : s = 2 ∨ s = 4 ∨ s = 8) (hxs : x < 256 ^ s) (hx : x < 18446744073709551616) (h253 : (253 : Int) ≤ (x : Int))
    (hcase : (s = 2 ∧ (x : Int) ≤ 65535 ∧ y = 253) ∨ (s = 4 ∧ (65535 : Int) < (x : Int) ∧ (x : Int) ≤ 4294967295 ∧ y = 254) ∨ (s = 8 ∧ (65535 : Int) < (x : Int) ∧ (4294967295 : Int) < (x : Int) ∧ y = 255)) (w : World) :
    Calls Try.prog 14 #[.int .u64 (x : Int)] w (OwnBytes w ([y] ++ leB s x)) := by
  have HL := Lib.hid (leB_length s x)
  have hlen : (leB s x).length ≤ 8 := by rw [leB_length]; omega
  have hfx := fun W => refFixed_any (s : Int) x hx W
  rw [fixed_size s x hs hxs] at hfx
  generalize leB s x = L at HL hfx hlen ⊢
  have hone := (fun (W : World) h => own_one W w.heap.size h y)
  rcases hcase with ⟨rfl, d1, rfl⟩ | ⟨rfl, d1, d2, rfl⟩ | ⟨rfl, d1, d2, rfl⟩
  · have HONE := Lib.hid (show ∀ W : World, w.heap.size ≤ W.heap.size → (W.alloc (.cells #[.int .u8 253] 5)).ownsRow w.heap.size 5 1 (.slice (some ⟨W.heap.size, 0, none⟩) 1 1) [(253 : UInt8)].length (vals [253]) from hone)
    have HFX := Lib.hid (show ∀ W : World, Calls Try.prog 34 #[.int .i64 2, .int .u64 (x : Int)] W (OwnPair W (L, fixedE 2 x)) from hfx)
    clear hfx hxs hs hf hone
    go_enter Try.func14, Try.ntmps14
    go_wp2_with (first
      | (go_at_call 34; refine (HFX.out _).mono ?_; rintro e w1 ⟨v, rfl, hr, hb⟩; obtain ⟨X, c, rfl, hx1, _, _, _⟩ := own_open hr)
      | (at_builtin; refine wpList_append_bytes rfl (.tmp 23) (.tmp 24) rfl w.heap.size (w1.alloc (.cells #[.int .u8 253] 5)).heap.size _ [253] L rfl (HONE.out w1 hb.size) X c rfl (hx1.later ((Below.refl _ _).alloc (Nat.le_refl _) _)) (by rw [List.length_singleton]; omega) (by rw [World.size_alloc]; have := hb.size; omega) ?_; intro v' w2 hown' hgr hv))
    go_ret
    exact ⟨_, rfl, hown', (hb.alloc hb.size _).grown hgr (by rw [World.size_alloc]; have := hb.size; omega) (fun r e => own_row_ge (HONE.out w1 hb.size) r e)⟩
  · have HONE := Lib.hid (show ∀ W : World, w.heap.size ≤ W.heap.size → (W.alloc (.cells #[.int .u8 254] 5)).ownsRow w.heap.size 5 1 (.slice (some ⟨W.heap.size, 0, none⟩) 1 1) [(254 : UInt8)].length (vals [254]) from hone)
    have HFX := Lib.hid (show ∀ W : World, Calls Try.prog 34 #[.int .i64 4, .int .u64 (x : Int)] W (OwnPair W (L, fixedE 4 x)) from hfx)
    clear hfx hxs hs hf hone
    go_enter Try.func14, Try.ntmps14
    go_wp2_with (first
      | (go_at_call 34; refine (HFX.out _).mono ?_; rintro e w1 ⟨v, rfl, hr, hb⟩; obtain ⟨X, c, rfl, hx1, _, _, _⟩ := own_open hr)
      | (at_builtin; refine wpList_append_bytes rfl (.tmp 23) (.tmp 24) rfl w.heap.size (w1.alloc (.cells #[.int .u8 254] 5)).heap.size _ [254] L rfl (HONE.out w1 hb.size) X c rfl (hx1.later ((Below.refl _ _).alloc (Nat.le_refl _) _)) (by rw [List.length_singleton]; omega) (by rw [World.size_alloc]; have := hb.size; omega) ?_; intro v' w2 hown' hgr hv))
    go_ret
    exact ⟨_, rfl, hown', (hb.alloc hb.size _).grown hgr (by rw [World.size_alloc]; have := hb.size; omega) (fun r e => own_row_ge (HONE.out w1 hb.size) r e)⟩
  · have HONE := Lib.hid (show ∀ W : World, w.heap.size ≤ W.heap.size → (W.alloc (.cells #[.int .u8 255] 5)).ownsRow w.heap.size 5 1 (.slice (some ⟨W.heap.size, 0, none⟩) 1 1) [(255 : UInt8)].length (vals [255]) from hone)
    have HFX := Lib.hid (show ∀ W : World, Calls Try.prog 34 #[.int .i64 8, .int .u64 (x : Int)] W (OwnPair W (L, fixedE 8 x)) from hfx)
    clear hfx hxs hs hf hone
    go_enter Try.func14, Try.ntmps14
    go_wp2_with (first
      | (go_at_call 34; refine (HFX.out _).mono ?_; rintro e w1 ⟨v, rfl, hr, hb⟩; obtain ⟨X, c, rfl, hx1, _, _, _⟩ := own_open hr)
      | (at_builtin; refine wpList_append_bytes rfl (.tmp 23) (.tmp 24) rfl w.heap.size (w1.alloc (.cells #[.int .u8 255] 5)).heap.size _ [255] L rfl (HONE.out w1 hb.size) X c rfl (hx1.later ((Below.refl _ _).alloc (Nat.le_refl _) _)) (by rw [List.length_singleton]; omega) (by rw [World.size_alloc]; have := hb.size; omega) ?_; intro v' w2 hown' hgr hv))
    go_ret
    exact ⟨_, rfl, hown', (hb.alloc hb.size _).grown hgr (by rw [World.size_alloc]; have := hb.size; omega) (fun r e => own_row_ge (HONE.out w1 hb.size) r e)⟩
theorem refSize_any (x : Nat) (hx : x < 18446744073709551616) (w : World) : Calls Try.prog 14 #[.int .u64 (x : Int)] w (OwnBytes w (sizeB x)) := by
  unfold sizeB
  by_cases h1 : x < 253
  · rw [if_pos h1, leB_one x h1]
    have hy : ((UInt8.ofNat x).toNat : Int) = (x : Int) := by rw [UInt8.toNat_ofNat']; omega
    have HO := Lib.hid (own_one w w.heap.size (Nat.le_refl _) (UInt8.ofNat x))
    have HB := Lib.hid ((Below.refl w.heap.size w).alloc (Nat.le_refl _) (.cells #[.int .u8 ((UInt8.ofNat x).toNat : Int)] 5))
    rw [hy] at HO HB
    have d1 : (x : Int) < 253 := by omega
    clear hy hx h1
    go_enter Try.func14, Try.ntmps14
    go_wp2
    go_ret
    exact ⟨_, rfl, HO.out, HB.out⟩
  · rw [if_neg h1]
    by_cases h2 : x < 65536
    · rw [if_pos h2]
      exact refSize_more x 2 253 253 rfl (.inl rfl) (by simpa using h2) hx (by omega) (.inl ⟨rfl, by omega, rfl⟩) w
    · rw [if_neg h2]
      by_cases h3 : x < 4294967296
      · rw [if_pos h3]
        exact refSize_more x 4 254 254 rfl (.inr (.inl rfl)) (by simpa using h3) hx (by omega) (.inr (.inl ⟨rfl, by omega, by omega, rfl⟩)) w
      · rw [if_neg h3]
        exact refSize_more x 8 255 255 rfl (.inr (.inr rfl)) (by simpa using hx) hx (by omega) (.inr (.inr ⟨rfl, by omega, by omega, rfl⟩)) w
end Go.Proofs.Ytngkckngjobojaa.Oct
