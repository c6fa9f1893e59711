/- NumNames is true. (Closed.) -/
import Derived.Test.YtbhopgklnddelaaNumM
import Derived.Test.YtbhopgklnddelaaNumE
import Derived.Handy
import Derived.ProofKit
import Derived.OpenShut
import Derived.Carry
namespace Go.Proofs.Ytbhopgklnddelaa
open Go.RowKit Go.ChangeShapes Go.WideShapes Go.ChangeAt

/-- A literal of bytes, laid and marked. -/
def laid (w : World) (bs : List UInt8) : World := (w.alloc (.cells (vals bs).toArray 5)).freeze ⟨w.heap.size, bs.length, none⟩ 1
theorem heap_freeze (W : World) (g n : Nat) (cs : Array Value) (hh : W.heap[g]? = some (.cells cs 5 (0, 0))) : (W.freeze ⟨g, n, none⟩ 1).heap[g]? = some (.cells cs 5 (n, n + 1)) := by
  unfold World.freeze
  simp only [Nat.succ_ne_self, if_false, Array.getElem?_modify, if_true, hh]
  simp
theorem conv_mark (W : World) (g k c : Nat) (cs : Array Value) (hh : W.heap[g]? = some (.cells cs 5 (0, 0))) : (convert 22 22 (.slice (some ⟨g, 0, none⟩) k c)).run Try.prog W = .ok (.slice (some ⟨g, 0, none⟩) k c) (W.freeze ⟨g, cs.size, none⟩ 1) := by
  unfold convert markStringish
  simp [run_underlying Try.underlying22, run_underlying Try.underlying5, World.shape?, hh]
theorem laid_ex (w : World) (bs : List UInt8) (cs : Array Value) (hc : cs = (vals bs).toArray) (n : Nat) : ∃ wl, (convert 22 22 (.slice (some ⟨w.heap.size, 0, none⟩) n n)).run Try.prog (w.alloc (.cells cs 5)) = .ok (.slice (some ⟨w.heap.size, 0, none⟩) n n) wl ∧ Below w.heap.size w wl ∧ Holds8 wl.heap.size wl (some ⟨w.heap.size, 0, none⟩) bs := by
  subst hc
  have hh := heap_alloc_new w (.cells (vals bs).toArray 5)
  refine ⟨_, conv_mark _ w.heap.size n n _ hh, ((Below.refl _ w).alloc (Nat.le_refl _) (.cells (vals bs).toArray 5)).trans ?_, ?_⟩
  · unfold World.freeze
    exact ⟨rfl, rfl, rfl, by simp, fun k hk => by
      simp only [Nat.succ_ne_self, if_false, Array.getElem?_modify]
      rw [if_neg (by omega)]⟩
  · refine .inr ⟨w.heap.size, 0, rfl, by unfold World.freeze; simp, fun j hj => ?_⟩
    rw [Nat.zero_add, cell_of_row _ w.heap.size j (vals bs).toArray 5 _ (heap_freeze _ _ _ _ hh)]
    simpa using vals_get bs j hj
theorem none_any (s : List UInt8) (is : Bool) (h : okB s = false) (ht : trueB s = is) (hl : s.length ≤ maxLen) (w : World) : Calls Try.prog 26 #[.string ⟨s.toArray⟩, .bool is] w fun e w' => e = .returned (.bool true) ∧ Below w.heap.size w w' := by
  have HD := Lib.hid (show decR s = 0 by unfold decR; rw [if_neg (by rw [h]; simp)])
  have HD2 := Lib.hid (show decE s = 110 by unfold decE; rw [if_neg (by rw [h]; simp)])
  have HT := Lib.hid ht
  have c1 := Lib.hid (fun n₀ w => decode_any n₀ w s hl)
  have c2 := Lib.hid (fun cap A w => true_any s hl cap A w)
  obtain ⟨c3, w1, hq1, hb1, hh1⟩ := bytes_of w s
  obtain ⟨c4, w2, hq2, hb2, hh2⟩ := bytes_of w1 s
  have HB := Lib.hid (hb1.trans (hb2.mono hb1.size))
  clear h ht hl hb1 hb2
  go_enter Try.func26, Try.ntmps26
  go_wp2_with (first
    | (go_at_call 12; refine Calls.mono (c1.out _ _ _ _ hh1) ?_; rintro e w3 ⟨rfl, rfl⟩; rw [HD.out, HD2.out])
    | (go_at_call 14; refine Calls.mono (c2.out _ _ _ hh2) ?_; rintro e w3 ⟨rfl, hb3⟩; rw [HT.out]))
  go_ret
  refine ⟨?_, HB.out.trans (hb3.mono HB.out.size)⟩
  simp
theorem enc_said (n : Int) (bs : List UInt8) (k : Nat) (h1 : -549755813887 ≤ n) (h2 : n ≤ 549755813887) (hb : encB n = bs) (hk : bs.length = k) (w : World) : Calls Try.prog 10 #[.int .i64 n] w fun e w' => ∃ A c, e = .returned (.tuple #[.slice A k c, .int .i64 0]) ∧ Holds8 w'.heap.size w' A bs ∧ Below w.heap.size w w' := by
  subst hb hk
  exact (encode_yes n h1 h2 w).mono fun e w' ⟨A, c, he, hh, _, hb⟩ => ⟨A, c, he, hh, hb⟩
theorem flag_said (b : Bool) (bs : List UInt8) (k : Nat) (hb : encB (tv b) = bs) (hk : bs.length = k) (w : World) : Calls Try.prog 16 #[.bool b] w fun e w' => ∃ A c, e = .returned (.slice A k c) ∧ Holds8 w'.heap.size w' A bs ∧ Below w.heap.size w w' := by
  subst hb hk
  exact (flag_any b w).mono fun e w' ⟨A, c, he, hh, _, hb⟩ => ⟨A, c, he, hh, hb⟩
set_option maxRecDepth 100000 in
set_option maxHeartbeats 16000000 in
theorem names_walk (w : World) : Calls Try.prog 5 #[] w fun e w' => e = .returned (.bool true) ∧ Below w.heap.size w w' := by
  have HEA := Lib.hid (show ∀ W : World, Calls Try.prog 10 #[.int .i64 2147483648] W (fun e w' => ∃ A c, e = .returned (.tuple #[.slice A 5 c, .int .i64 0]) ∧ Holds8 w'.heap.size w' A [0, 0, 0, 128, 0] ∧ Below W.heap.size W w') from enc_said 2147483648 [0, 0, 0, 128, 0] 5 (by decide) (by decide) (by decide +kernel) rfl)
  have HTA := Lib.hid (show ∀ (W : World) X c, Holds8 W.heap.size W X [0, 0, 0, 128, 0] → (convert 22 9 (.slice X 5 c)).run Try.prog W = .ok (.string ⟨#[0, 0, 0, 128, 0]⟩) W from fun W X c h => str_of h c)
  have HEB := Lib.hid (show ∀ W : World, Calls Try.prog 10 #[.int .i64 549755813888] W (fun e w' => e = .returned (.tuple #[.slice none 0 0, .int .i64 110]) ∧ W = w') from encode_no 549755813888 (by decide))
  have HEC := Lib.hid (show ∀ W : World, Calls Try.prog 10 #[.int .i64 (-549755813888)] W (fun e w' => e = .returned (.tuple #[.slice none 0 0, .int .i64 110]) ∧ W = w') from encode_no (-549755813888) (by decide))
  have HED := Lib.hid (show ∀ W : World, Calls Try.prog 10 #[.int .i64 549755813887] W (fun e w' => ∃ A c, e = .returned (.tuple #[.slice A 5 c, .int .i64 0]) ∧ Holds8 w'.heap.size w' A [255, 255, 255, 255, 127] ∧ Below W.heap.size W w') from enc_said 549755813887 [255, 255, 255, 255, 127] 5 (by decide) (by decide) (by decide +kernel) rfl)
  have HTD := Lib.hid (show ∀ (W : World) X c, Holds8 W.heap.size W X [255, 255, 255, 255, 127] → (convert 22 9 (.slice X 5 c)).run Try.prog W = .ok (.string ⟨#[255, 255, 255, 255, 127]⟩) W from fun W X c h => str_of h c)
  have HN1 := Lib.hid (show ∀ W : World, Calls Try.prog 14 #[.slice none 0 0] W (fun e w' => e = .returned (.bool false) ∧ Below W.heap.size W w') from fun W => true_any [] (by decide) 0 none W (.inl ⟨rfl, rfl⟩))
  have HN2 := Lib.hid (show ∀ (W : World) A, Holds8 W.heap.size W A [1] → Calls Try.prog 14 #[.slice A 1 1] W (fun e w' => e = .returned (.bool true) ∧ Below W.heap.size W w') from fun W A h => true_any [1] (by decide) 1 A W h)
  have HF1 := Lib.hid (show ∀ W : World, Calls Try.prog 16 #[.bool true] W (fun e w' => ∃ A c, e = .returned (.slice A 1 c) ∧ Holds8 w'.heap.size w' A [1] ∧ Below W.heap.size W w') from flag_said true [1] 1 (by decide +kernel) rfl)
  have HF2 := Lib.hid (show ∀ W : World, Calls Try.prog 16 #[.bool false] W (fun e w' => ∃ A c, e = .returned (.slice A 0 c) ∧ Holds8 w'.heap.size w' A [] ∧ Below W.heap.size W w') from flag_said false [] 0 (by decide +kernel) rfl)
  have HTF := Lib.hid (show ∀ (W : World) X c, Holds8 W.heap.size W X [1] → (convert 22 9 (.slice X 1 c)).run Try.prog W = .ok (.string ⟨#[1]⟩) W from fun W X c h => str_of h c)
  have HZ1 := Lib.hid (show ∀ W : World, Calls Try.prog 18 #[.int .u8 147, .int .i64 1] W (fun e w' => e = .returned (.tuple #[.int .i64 0, .int .i64 2]) ∧ W = w') from one_none 147 1 (by decide))
  have HZ2 := Lib.hid (show ∀ W : World, Calls Try.prog 20 #[.int .u8 145, .int .i64 1, .int .i64 1] W (fun e w' => e = .returned (.tuple #[.int .i64 0, .int .i64 2]) ∧ W = w') from two_none 145 1 1 (by decide))
  have HZ3 := Lib.hid (show ∀ W : World, Calls Try.prog 18 #[.int .u8 145, .int .i64 2147483648] W (fun e w' => e = .returned (.tuple #[.int .i64 0, .int .i64 110]) ∧ W = w') from one_145_no 2147483648 (by decide))
  have HZ4 := Lib.hid (show ∀ W : World, Calls Try.prog 20 #[.int .u8 147, .int .i64 0, .int .i64 (-2147483648)] W (fun e w' => e = .returned (.tuple #[.int .i64 0, .int .i64 110]) ∧ W = w') from two_147_no 0 (-2147483648) (by decide))
  have HZ5 := Lib.hid (show ∀ W : World, Calls Try.prog 20 #[.int .u8 165, .int .i64 1, .int .i64 1] W (fun e w' => e = .returned (.tuple #[.int .i64 0, .int .i64 2]) ∧ W = w') from two_none 165 1 1 (by decide))
  have HZ6 := Lib.hid (show ∀ W : World, Calls Try.prog 22 #[.int .i64 1, .int .i64 1, .int .i64 2] W (fun e w' => e = .returned (.bool true) ∧ W = w') from within22 1 1 2)
  have HZ7 := Lib.hid (show ∀ W : World, Calls Try.prog 22 #[.int .i64 2, .int .i64 1, .int .i64 2] W (fun e w' => e = .returned (.bool false) ∧ W = w') from within22 2 1 2)
  have HZ8 := Lib.hid (show ∀ W : World, Calls Try.prog 24 #[.int .u8 165] W (fun e w' => e = .returned (.int .i64 3) ∧ W = w') from arity_165)
  have HZ9 := Lib.hid (show ∀ W : World, Calls Try.prog 24 #[.int .u8 118] W (fun e w' => e = .returned (.int .i64 0) ∧ W = w') from arity_none 118 (by decide) (by decide) (by decide))
  have HBW := Lib.hid (Below.refl w.heap.size w)
  go_enter Try.func5, Try.ntmps5
  go_wp2_with (first
    | (go_at_call 26; refine (none_any _ _ (by decide +kernel) (by decide +kernel) (by decide +kernel) _).mono ?_; rintro e w' ⟨rfl, hb⟩; replace HBW := Lib.hid (HBW.out.trans (hb.mono HBW.out.size)); clear hb)
    | (go_at_call 27; refine (form_any _ _ (by decide +kernel) (by decide +kernel) _).mono ?_; rintro e w' ⟨rfl, hb⟩; replace HBW := Lib.hid (HBW.out.trans (hb.mono HBW.out.size)); clear hb)
    | (go_at_call 10; (with_reducible refine (HEA.out _).mono ?_); rintro e w1 ⟨XA, cA, rfl, hx, hb⟩; have HBW := Lib.hid (HBW.out.trans (hb.mono HBW.out.size)); have HXA := Lib.hid hx; clear hx hb HEA)
    | (go_at_call 10; (with_reducible refine (HEB.out _).mono ?_); rintro e w' ⟨rfl, rfl⟩; clear HEB)
    | (go_at_call 10; (with_reducible refine (HEC.out _).mono ?_); rintro e w' ⟨rfl, rfl⟩; clear HEC)
    | (go_at_call 10; (with_reducible refine (HED.out _).mono ?_); rintro e w2 ⟨XD, cD, rfl, hx, hb⟩; have HBW := Lib.hid (HBW.out.trans (hb.mono HBW.out.size)); have est1 := HTA.out _ XA cA (HXA.out.later hb); have est2 := HTD.out _ XD cD hx; clear hx hb HED HXA HTA HTD)
    | (go_at_call 14; (with_reducible refine (HN1.out _).mono ?_); rintro e w3 ⟨rfl, hb⟩; have HBW := Lib.hid (HBW.out.trans (hb.mono HBW.out.size)); obtain ⟨wl, hcv, hbl, hxl⟩ := laid_ex w3 [1] #[.int .u8 1] rfl 1; have HBL := Lib.hid hbl; have HN := Lib.hid (HN2.out _ _ hxl); clear hb HN1 hbl hxl HN2)
    | (go_at_call 14; (with_reducible refine HN.out.mono ?_); rintro e w4 ⟨rfl, hb⟩; have HBW := Lib.hid (HBW.out.trans ((HBL.out.trans (hb.mono HBL.out.size)).mono HBW.out.size)); clear hb HN HBL hcv)
    | (go_at_call 16; (with_reducible refine (HF1.out _).mono ?_); rintro e w5 ⟨XF, cF, rfl, hx, hb⟩; have HBW := Lib.hid (HBW.out.trans (hb.mono HBW.out.size)); have est3 := HTF.out _ XF cF hx; clear hb hx HF1 HTF)
    | (go_at_call 16; (with_reducible refine (HF2.out _).mono ?_); rintro e w6 ⟨XG, cG, rfl, hx, hb⟩; have HBW := Lib.hid (HBW.out.trans (hb.mono HBW.out.size)); clear hb hx HF2))
  go_loopw [125, 11] (fun i o wr => ∃ q : Nat, q ≤ 9 ∧ i = .int .i64 (q : Int) ∧ o = .bool true ∧ Below w.heap.size w wr ∧ w6.heap.size < wr.heap.size ∧ ∀ k v, (#[.int .u8 139, .int .i64 (-1), .int .i64 0, .int .u8 140, .int .i64 0, .int .i64 (-1), .int .u8 143, .int .i64 5, .int .i64 (-5), .int .u8 144, .int .i64 (-7), .int .i64 7, .int .u8 145, .int .i64 0, .int .i64 1, .int .u8 145, .int .i64 3, .int .i64 0, .int .u8 146, .int .i64 (-3), .int .i64 1, .int .u8 146, .int .i64 0, .int .i64 0, .int .u8 139, .int .i64 2147483647, .int .i64 2147483648] : Array Value)[k]? = some v → wr.cell? ⟨w6.heap.size, k, none⟩ = some v) (fun i _ _ => 9 - (intOf i).toNat)
  case atStart =>
    refine ⟨0, by decide, rfl, rfl, HBW.out.alloc HBW.out.size _, by rw [World.size_alloc]; omega, fun k v hk => ?_⟩
    rw [cell_of_row _ _ k _ _ _ (heap_alloc_new _ _)]
    exact hk
  case round =>
    obtain ⟨q, hq, rfl, rfl, hB, hg, hc⟩ := hrel
    by_cases hlt : q < 9
    · have HB := Lib.hid hB
      have HC := Lib.hid hc
      have hq9 : q = 0 ∨ q = 1 ∨ q = 2 ∨ q = 3 ∨ q = 4 ∨ q = 5 ∨ q = 6 ∨ q = 7 ∨ q = 8 := by omega
      clear hB hlt hq
      rcases hq9 with hk | hk | hk | hk | hk | hk | hk | hk | hk
      · subst hk
        have d0 : wr.cell? ⟨w6.heap.size, 0, none⟩ = some (.int .u8 139) := hc 0 _ rfl
        have d1 : wr.cell? ⟨w6.heap.size, 1, none⟩ = some (.int .i64 (-1)) := hc 1 _ rfl
        have d2 : wr.cell? ⟨w6.heap.size, 2, none⟩ = some (.int .i64 0) := hc 2 _ rfl
        have HQ := Lib.hid (show ∀ W : World, Calls Try.prog 18 #[.int .u8 139, .int .i64 (-1)] W (fun e w' => e = .returned (.tuple #[.int .i64 0, .int .i64 0]) ∧ W = w') from one_139 (-1) (by decide) (by decide))
        have HAR := Lib.hid (arity_139)
        clear hc
        go_wp2_with (first
          | (go_at_call 18; (with_reducible refine (HQ.out _).mono ?_); rintro e w' ⟨rfl, rfl⟩)
          | (go_at_call 24; (with_reducible refine (HAR.out _).mono ?_); rintro e w' ⟨rfl, rfl⟩))
        refine ⟨⟨1, by decide, rfl, rfl, HB.out.alloc HB.out.size _, by rw [World.size_alloc]; omega, fun k v h => cell_kept (HC.out k v h) (World.grownBy_alloc _ _ none) (fun r e => by cases e)⟩, by simp [intOf]⟩
      · subst hk
        have d0 : wr.cell? ⟨w6.heap.size, 3, none⟩ = some (.int .u8 140) := hc 3 _ rfl
        have d1 : wr.cell? ⟨w6.heap.size, 4, none⟩ = some (.int .i64 0) := hc 4 _ rfl
        have d2 : wr.cell? ⟨w6.heap.size, 5, none⟩ = some (.int .i64 (-1)) := hc 5 _ rfl
        have HQ := Lib.hid (show ∀ W : World, Calls Try.prog 18 #[.int .u8 140, .int .i64 0] W (fun e w' => e = .returned (.tuple #[.int .i64 (-1), .int .i64 0]) ∧ W = w') from one_140 0 (by decide) (by decide))
        have HAR := Lib.hid (arity_140)
        clear hc
        go_wp2_with (first
          | (go_at_call 18; (with_reducible refine (HQ.out _).mono ?_); rintro e w' ⟨rfl, rfl⟩)
          | (go_at_call 24; (with_reducible refine (HAR.out _).mono ?_); rintro e w' ⟨rfl, rfl⟩))
        refine ⟨⟨2, by decide, rfl, rfl, HB.out.alloc HB.out.size _, by rw [World.size_alloc]; omega, fun k v h => cell_kept (HC.out k v h) (World.grownBy_alloc _ _ none) (fun r e => by cases e)⟩, by simp [intOf]⟩
      · subst hk
        have d0 : wr.cell? ⟨w6.heap.size, 6, none⟩ = some (.int .u8 143) := hc 6 _ rfl
        have d1 : wr.cell? ⟨w6.heap.size, 7, none⟩ = some (.int .i64 5) := hc 7 _ rfl
        have d2 : wr.cell? ⟨w6.heap.size, 8, none⟩ = some (.int .i64 (-5)) := hc 8 _ rfl
        have HQ := Lib.hid (show ∀ W : World, Calls Try.prog 18 #[.int .u8 143, .int .i64 5] W (fun e w' => e = .returned (.tuple #[.int .i64 (-5), .int .i64 0]) ∧ W = w') from one_143 5 (by decide) (by decide))
        have HAR := Lib.hid (arity_143)
        clear hc
        go_wp2_with (first
          | (go_at_call 18; (with_reducible refine (HQ.out _).mono ?_); rintro e w' ⟨rfl, rfl⟩)
          | (go_at_call 24; (with_reducible refine (HAR.out _).mono ?_); rintro e w' ⟨rfl, rfl⟩))
        refine ⟨⟨3, by decide, rfl, rfl, HB.out.alloc HB.out.size _, by rw [World.size_alloc]; omega, fun k v h => cell_kept (HC.out k v h) (World.grownBy_alloc _ _ none) (fun r e => by cases e)⟩, by simp [intOf]⟩
      · subst hk
        have d0 : wr.cell? ⟨w6.heap.size, 9, none⟩ = some (.int .u8 144) := hc 9 _ rfl
        have d1 : wr.cell? ⟨w6.heap.size, 10, none⟩ = some (.int .i64 (-7)) := hc 10 _ rfl
        have d2 : wr.cell? ⟨w6.heap.size, 11, none⟩ = some (.int .i64 7) := hc 11 _ rfl
        have HQ := Lib.hid (show ∀ W : World, Calls Try.prog 18 #[.int .u8 144, .int .i64 (-7)] W (fun e w' => e = .returned (.tuple #[.int .i64 7, .int .i64 0]) ∧ W = w') from one_144 (-7) (by decide) (by decide))
        have HAR := Lib.hid (arity_144)
        clear hc
        go_wp2_with (first
          | (go_at_call 18; (with_reducible refine (HQ.out _).mono ?_); rintro e w' ⟨rfl, rfl⟩)
          | (go_at_call 24; (with_reducible refine (HAR.out _).mono ?_); rintro e w' ⟨rfl, rfl⟩))
        refine ⟨⟨4, by decide, rfl, rfl, HB.out.alloc HB.out.size _, by rw [World.size_alloc]; omega, fun k v h => cell_kept (HC.out k v h) (World.grownBy_alloc _ _ none) (fun r e => by cases e)⟩, by simp [intOf]⟩
      · subst hk
        have d0 : wr.cell? ⟨w6.heap.size, 12, none⟩ = some (.int .u8 145) := hc 12 _ rfl
        have d1 : wr.cell? ⟨w6.heap.size, 13, none⟩ = some (.int .i64 0) := hc 13 _ rfl
        have d2 : wr.cell? ⟨w6.heap.size, 14, none⟩ = some (.int .i64 1) := hc 14 _ rfl
        have HQ := Lib.hid (show ∀ W : World, Calls Try.prog 18 #[.int .u8 145, .int .i64 0] W (fun e w' => e = .returned (.tuple #[.int .i64 1, .int .i64 0]) ∧ W = w') from one_145 0 (by decide) (by decide))
        have HAR := Lib.hid (arity_145)
        clear hc
        go_wp2_with (first
          | (go_at_call 18; (with_reducible refine (HQ.out _).mono ?_); rintro e w' ⟨rfl, rfl⟩)
          | (go_at_call 24; (with_reducible refine (HAR.out _).mono ?_); rintro e w' ⟨rfl, rfl⟩))
        refine ⟨⟨5, by decide, rfl, rfl, HB.out.alloc HB.out.size _, by rw [World.size_alloc]; omega, fun k v h => cell_kept (HC.out k v h) (World.grownBy_alloc _ _ none) (fun r e => by cases e)⟩, by simp [intOf]⟩
      · subst hk
        have d0 : wr.cell? ⟨w6.heap.size, 15, none⟩ = some (.int .u8 145) := hc 15 _ rfl
        have d1 : wr.cell? ⟨w6.heap.size, 16, none⟩ = some (.int .i64 3) := hc 16 _ rfl
        have d2 : wr.cell? ⟨w6.heap.size, 17, none⟩ = some (.int .i64 0) := hc 17 _ rfl
        have HQ := Lib.hid (show ∀ W : World, Calls Try.prog 18 #[.int .u8 145, .int .i64 3] W (fun e w' => e = .returned (.tuple #[.int .i64 0, .int .i64 0]) ∧ W = w') from one_145 3 (by decide) (by decide))
        have HAR := Lib.hid (arity_145)
        clear hc
        go_wp2_with (first
          | (go_at_call 18; (with_reducible refine (HQ.out _).mono ?_); rintro e w' ⟨rfl, rfl⟩)
          | (go_at_call 24; (with_reducible refine (HAR.out _).mono ?_); rintro e w' ⟨rfl, rfl⟩))
        refine ⟨⟨6, by decide, rfl, rfl, HB.out.alloc HB.out.size _, by rw [World.size_alloc]; omega, fun k v h => cell_kept (HC.out k v h) (World.grownBy_alloc _ _ none) (fun r e => by cases e)⟩, by simp [intOf]⟩
      · subst hk
        have d0 : wr.cell? ⟨w6.heap.size, 18, none⟩ = some (.int .u8 146) := hc 18 _ rfl
        have d1 : wr.cell? ⟨w6.heap.size, 19, none⟩ = some (.int .i64 (-3)) := hc 19 _ rfl
        have d2 : wr.cell? ⟨w6.heap.size, 20, none⟩ = some (.int .i64 1) := hc 20 _ rfl
        have HQ := Lib.hid (show ∀ W : World, Calls Try.prog 18 #[.int .u8 146, .int .i64 (-3)] W (fun e w' => e = .returned (.tuple #[.int .i64 1, .int .i64 0]) ∧ W = w') from one_146 (-3) (by decide) (by decide))
        have HAR := Lib.hid (arity_146)
        clear hc
        go_wp2_with (first
          | (go_at_call 18; (with_reducible refine (HQ.out _).mono ?_); rintro e w' ⟨rfl, rfl⟩)
          | (go_at_call 24; (with_reducible refine (HAR.out _).mono ?_); rintro e w' ⟨rfl, rfl⟩))
        refine ⟨⟨7, by decide, rfl, rfl, HB.out.alloc HB.out.size _, by rw [World.size_alloc]; omega, fun k v h => cell_kept (HC.out k v h) (World.grownBy_alloc _ _ none) (fun r e => by cases e)⟩, by simp [intOf]⟩
      · subst hk
        have d0 : wr.cell? ⟨w6.heap.size, 21, none⟩ = some (.int .u8 146) := hc 21 _ rfl
        have d1 : wr.cell? ⟨w6.heap.size, 22, none⟩ = some (.int .i64 0) := hc 22 _ rfl
        have d2 : wr.cell? ⟨w6.heap.size, 23, none⟩ = some (.int .i64 0) := hc 23 _ rfl
        have HQ := Lib.hid (show ∀ W : World, Calls Try.prog 18 #[.int .u8 146, .int .i64 0] W (fun e w' => e = .returned (.tuple #[.int .i64 0, .int .i64 0]) ∧ W = w') from one_146 0 (by decide) (by decide))
        have HAR := Lib.hid (arity_146)
        clear hc
        go_wp2_with (first
          | (go_at_call 18; (with_reducible refine (HQ.out _).mono ?_); rintro e w' ⟨rfl, rfl⟩)
          | (go_at_call 24; (with_reducible refine (HAR.out _).mono ?_); rintro e w' ⟨rfl, rfl⟩))
        refine ⟨⟨8, by decide, rfl, rfl, HB.out.alloc HB.out.size _, by rw [World.size_alloc]; omega, fun k v h => cell_kept (HC.out k v h) (World.grownBy_alloc _ _ none) (fun r e => by cases e)⟩, by simp [intOf]⟩
      · subst hk
        have d0 : wr.cell? ⟨w6.heap.size, 24, none⟩ = some (.int .u8 139) := hc 24 _ rfl
        have d1 : wr.cell? ⟨w6.heap.size, 25, none⟩ = some (.int .i64 2147483647) := hc 25 _ rfl
        have d2 : wr.cell? ⟨w6.heap.size, 26, none⟩ = some (.int .i64 2147483648) := hc 26 _ rfl
        have HQ := Lib.hid (show ∀ W : World, Calls Try.prog 18 #[.int .u8 139, .int .i64 2147483647] W (fun e w' => e = .returned (.tuple #[.int .i64 2147483648, .int .i64 0]) ∧ W = w') from one_139 2147483647 (by decide) (by decide))
        have HAR := Lib.hid (arity_139)
        clear hc
        go_wp2_with (first
          | (go_at_call 18; (with_reducible refine (HQ.out _).mono ?_); rintro e w' ⟨rfl, rfl⟩)
          | (go_at_call 24; (with_reducible refine (HAR.out _).mono ?_); rintro e w' ⟨rfl, rfl⟩))
        refine ⟨⟨9, by decide, rfl, rfl, HB.out.alloc HB.out.size _, by rw [World.size_alloc]; omega, fun k v h => cell_kept (HC.out k v h) (World.grownBy_alloc _ _ none) (fun r e => by cases e)⟩, by simp [intOf]⟩
    · have dq : (9 : Int) ≤ (q : Int) := by omega
      clear hlt hq hc
      have HBW := Lib.hid hB
      clear hB
      rename World => wz
      go_wp2
      go_loopw [172, 11] (fun i o wq => ∃ q : Nat, q ≤ 15 ∧ i = .int .i64 (q : Int) ∧ o = .bool true ∧ Below w.heap.size w wq ∧ wz.heap.size < wq.heap.size ∧ ∀ k v, (#[.int .u8 147, .int .i64 2, .int .i64 3, .int .i64 5, .int .u8 148, .int .i64 2, .int .i64 3, .int .i64 (-1), .int .u8 154, .int .i64 2, .int .i64 0, .int .i64 0, .int .u8 154, .int .i64 2, .int .i64 3, .int .i64 1, .int .u8 155, .int .i64 0, .int .i64 0, .int .i64 0, .int .u8 155, .int .i64 0, .int .i64 (-1), .int .i64 1, .int .u8 156, .int .i64 4, .int .i64 4, .int .i64 1, .int .u8 157, .int .i64 4, .int .i64 5, .int .i64 0, .int .u8 158, .int .i64 4, .int .i64 5, .int .i64 1, .int .u8 159, .int .i64 1, .int .i64 2, .int .i64 1, .int .u8 160, .int .i64 1, .int .i64 2, .int .i64 0, .int .u8 161, .int .i64 2, .int .i64 2, .int .i64 1, .int .u8 162, .int .i64 1, .int .i64 2, .int .i64 0, .int .u8 163, .int .i64 3, .int .i64 (-3), .int .i64 (-3), .int .u8 164, .int .i64 3, .int .i64 (-3), .int .i64 3] : Array Value)[k]? = some v → wq.cell? ⟨wz.heap.size, k, none⟩ = some v) (fun i _ _ => 15 - (intOf i).toNat)
      case atStart =>
        refine ⟨0, by decide, rfl, rfl, HBW.out.alloc HBW.out.size _, by rw [World.size_alloc]; omega, fun k v hk => ?_⟩
        rw [cell_of_row _ _ k _ _ _ (heap_alloc_new _ _)]
        exact hk
      case round =>
        obtain ⟨q, hq, rfl, rfl, hB, hg2, hc⟩ := hrel
        by_cases hlt : q < 15
        · have HB := Lib.hid hB
          have HC := Lib.hid hc
          have hq9 : q = 0 ∨ q = 1 ∨ q = 2 ∨ q = 3 ∨ q = 4 ∨ q = 5 ∨ q = 6 ∨ q = 7 ∨ q = 8 ∨ q = 9 ∨ q = 10 ∨ q = 11 ∨ q = 12 ∨ q = 13 ∨ q = 14 := by omega
          clear hB hlt hq
          rcases hq9 with hk | hk | hk | hk | hk | hk | hk | hk | hk | hk | hk | hk | hk | hk | hk
          · subst hk
            have d0 : wr.cell? ⟨wz.heap.size, 0, none⟩ = some (.int .u8 147) := hc 0 _ rfl
            have d1 : wr.cell? ⟨wz.heap.size, 1, none⟩ = some (.int .i64 2) := hc 1 _ rfl
            have d2 : wr.cell? ⟨wz.heap.size, 2, none⟩ = some (.int .i64 3) := hc 2 _ rfl
            have d3 : wr.cell? ⟨wz.heap.size, 3, none⟩ = some (.int .i64 5) := hc 3 _ rfl
            have HQ := Lib.hid (show ∀ W : World, Calls Try.prog 20 #[.int .u8 147, .int .i64 2, .int .i64 3] W (fun e w' => e = .returned (.tuple #[.int .i64 5, .int .i64 0]) ∧ W = w') from two_147 2 3 (by decide) (by decide) (by decide) (by decide))
            have HAR := Lib.hid (arity_147)
            clear hc
            go_wp2_with (first
              | (go_at_call 20; (with_reducible refine (HQ.out _).mono ?_); rintro e w' ⟨rfl, rfl⟩)
              | (go_at_call 24; (with_reducible refine (HAR.out _).mono ?_); rintro e w' ⟨rfl, rfl⟩))
            refine ⟨⟨1, by decide, rfl, rfl, HB.out.alloc HB.out.size _, by rw [World.size_alloc]; omega, fun k v h => cell_kept (HC.out k v h) (World.grownBy_alloc _ _ none) (fun r e => by cases e)⟩, by simp [intOf]⟩
          · subst hk
            have d0 : wr.cell? ⟨wz.heap.size, 4, none⟩ = some (.int .u8 148) := hc 4 _ rfl
            have d1 : wr.cell? ⟨wz.heap.size, 5, none⟩ = some (.int .i64 2) := hc 5 _ rfl
            have d2 : wr.cell? ⟨wz.heap.size, 6, none⟩ = some (.int .i64 3) := hc 6 _ rfl
            have d3 : wr.cell? ⟨wz.heap.size, 7, none⟩ = some (.int .i64 (-1)) := hc 7 _ rfl
            have HQ := Lib.hid (show ∀ W : World, Calls Try.prog 20 #[.int .u8 148, .int .i64 2, .int .i64 3] W (fun e w' => e = .returned (.tuple #[.int .i64 (-1), .int .i64 0]) ∧ W = w') from two_148 2 3 (by decide) (by decide) (by decide) (by decide))
            have HAR := Lib.hid (arity_148)
            clear hc
            go_wp2_with (first
              | (go_at_call 20; (with_reducible refine (HQ.out _).mono ?_); rintro e w' ⟨rfl, rfl⟩)
              | (go_at_call 24; (with_reducible refine (HAR.out _).mono ?_); rintro e w' ⟨rfl, rfl⟩))
            refine ⟨⟨2, by decide, rfl, rfl, HB.out.alloc HB.out.size _, by rw [World.size_alloc]; omega, fun k v h => cell_kept (HC.out k v h) (World.grownBy_alloc _ _ none) (fun r e => by cases e)⟩, by simp [intOf]⟩
          · subst hk
            have d0 : wr.cell? ⟨wz.heap.size, 8, none⟩ = some (.int .u8 154) := hc 8 _ rfl
            have d1 : wr.cell? ⟨wz.heap.size, 9, none⟩ = some (.int .i64 2) := hc 9 _ rfl
            have d2 : wr.cell? ⟨wz.heap.size, 10, none⟩ = some (.int .i64 0) := hc 10 _ rfl
            have d3 : wr.cell? ⟨wz.heap.size, 11, none⟩ = some (.int .i64 0) := hc 11 _ rfl
            have HQ := Lib.hid (show ∀ W : World, Calls Try.prog 20 #[.int .u8 154, .int .i64 2, .int .i64 0] W (fun e w' => e = .returned (.tuple #[.int .i64 0, .int .i64 0]) ∧ W = w') from two_154 2 0 (by decide) (by decide) (by decide) (by decide))
            have HAR := Lib.hid (arity_154)
            clear hc
            go_wp2_with (first
              | (go_at_call 20; (with_reducible refine (HQ.out _).mono ?_); rintro e w' ⟨rfl, rfl⟩)
              | (go_at_call 24; (with_reducible refine (HAR.out _).mono ?_); rintro e w' ⟨rfl, rfl⟩))
            refine ⟨⟨3, by decide, rfl, rfl, HB.out.alloc HB.out.size _, by rw [World.size_alloc]; omega, fun k v h => cell_kept (HC.out k v h) (World.grownBy_alloc _ _ none) (fun r e => by cases e)⟩, by simp [intOf]⟩
          · subst hk
            have d0 : wr.cell? ⟨wz.heap.size, 12, none⟩ = some (.int .u8 154) := hc 12 _ rfl
            have d1 : wr.cell? ⟨wz.heap.size, 13, none⟩ = some (.int .i64 2) := hc 13 _ rfl
            have d2 : wr.cell? ⟨wz.heap.size, 14, none⟩ = some (.int .i64 3) := hc 14 _ rfl
            have d3 : wr.cell? ⟨wz.heap.size, 15, none⟩ = some (.int .i64 1) := hc 15 _ rfl
            have HQ := Lib.hid (show ∀ W : World, Calls Try.prog 20 #[.int .u8 154, .int .i64 2, .int .i64 3] W (fun e w' => e = .returned (.tuple #[.int .i64 1, .int .i64 0]) ∧ W = w') from two_154 2 3 (by decide) (by decide) (by decide) (by decide))
            have HAR := Lib.hid (arity_154)
            clear hc
            go_wp2_with (first
              | (go_at_call 20; (with_reducible refine (HQ.out _).mono ?_); rintro e w' ⟨rfl, rfl⟩)
              | (go_at_call 24; (with_reducible refine (HAR.out _).mono ?_); rintro e w' ⟨rfl, rfl⟩))
            refine ⟨⟨4, by decide, rfl, rfl, HB.out.alloc HB.out.size _, by rw [World.size_alloc]; omega, fun k v h => cell_kept (HC.out k v h) (World.grownBy_alloc _ _ none) (fun r e => by cases e)⟩, by simp [intOf]⟩
          · subst hk
            have d0 : wr.cell? ⟨wz.heap.size, 16, none⟩ = some (.int .u8 155) := hc 16 _ rfl
            have d1 : wr.cell? ⟨wz.heap.size, 17, none⟩ = some (.int .i64 0) := hc 17 _ rfl
            have d2 : wr.cell? ⟨wz.heap.size, 18, none⟩ = some (.int .i64 0) := hc 18 _ rfl
            have d3 : wr.cell? ⟨wz.heap.size, 19, none⟩ = some (.int .i64 0) := hc 19 _ rfl
            have HQ := Lib.hid (show ∀ W : World, Calls Try.prog 20 #[.int .u8 155, .int .i64 0, .int .i64 0] W (fun e w' => e = .returned (.tuple #[.int .i64 0, .int .i64 0]) ∧ W = w') from two_155 0 0 (by decide) (by decide) (by decide) (by decide))
            have HAR := Lib.hid (arity_155)
            clear hc
            go_wp2_with (first
              | (go_at_call 20; (with_reducible refine (HQ.out _).mono ?_); rintro e w' ⟨rfl, rfl⟩)
              | (go_at_call 24; (with_reducible refine (HAR.out _).mono ?_); rintro e w' ⟨rfl, rfl⟩))
            refine ⟨⟨5, by decide, rfl, rfl, HB.out.alloc HB.out.size _, by rw [World.size_alloc]; omega, fun k v h => cell_kept (HC.out k v h) (World.grownBy_alloc _ _ none) (fun r e => by cases e)⟩, by simp [intOf]⟩
          · subst hk
            have d0 : wr.cell? ⟨wz.heap.size, 20, none⟩ = some (.int .u8 155) := hc 20 _ rfl
            have d1 : wr.cell? ⟨wz.heap.size, 21, none⟩ = some (.int .i64 0) := hc 21 _ rfl
            have d2 : wr.cell? ⟨wz.heap.size, 22, none⟩ = some (.int .i64 (-1)) := hc 22 _ rfl
            have d3 : wr.cell? ⟨wz.heap.size, 23, none⟩ = some (.int .i64 1) := hc 23 _ rfl
            have HQ := Lib.hid (show ∀ W : World, Calls Try.prog 20 #[.int .u8 155, .int .i64 0, .int .i64 (-1)] W (fun e w' => e = .returned (.tuple #[.int .i64 1, .int .i64 0]) ∧ W = w') from two_155 0 (-1) (by decide) (by decide) (by decide) (by decide))
            have HAR := Lib.hid (arity_155)
            clear hc
            go_wp2_with (first
              | (go_at_call 20; (with_reducible refine (HQ.out _).mono ?_); rintro e w' ⟨rfl, rfl⟩)
              | (go_at_call 24; (with_reducible refine (HAR.out _).mono ?_); rintro e w' ⟨rfl, rfl⟩))
            refine ⟨⟨6, by decide, rfl, rfl, HB.out.alloc HB.out.size _, by rw [World.size_alloc]; omega, fun k v h => cell_kept (HC.out k v h) (World.grownBy_alloc _ _ none) (fun r e => by cases e)⟩, by simp [intOf]⟩
          · subst hk
            have d0 : wr.cell? ⟨wz.heap.size, 24, none⟩ = some (.int .u8 156) := hc 24 _ rfl
            have d1 : wr.cell? ⟨wz.heap.size, 25, none⟩ = some (.int .i64 4) := hc 25 _ rfl
            have d2 : wr.cell? ⟨wz.heap.size, 26, none⟩ = some (.int .i64 4) := hc 26 _ rfl
            have d3 : wr.cell? ⟨wz.heap.size, 27, none⟩ = some (.int .i64 1) := hc 27 _ rfl
            have HQ := Lib.hid (show ∀ W : World, Calls Try.prog 20 #[.int .u8 156, .int .i64 4, .int .i64 4] W (fun e w' => e = .returned (.tuple #[.int .i64 1, .int .i64 0]) ∧ W = w') from two_156 4 4 (by decide) (by decide) (by decide) (by decide))
            have HAR := Lib.hid (arity_156)
            clear hc
            go_wp2_with (first
              | (go_at_call 20; (with_reducible refine (HQ.out _).mono ?_); rintro e w' ⟨rfl, rfl⟩)
              | (go_at_call 24; (with_reducible refine (HAR.out _).mono ?_); rintro e w' ⟨rfl, rfl⟩))
            refine ⟨⟨7, by decide, rfl, rfl, HB.out.alloc HB.out.size _, by rw [World.size_alloc]; omega, fun k v h => cell_kept (HC.out k v h) (World.grownBy_alloc _ _ none) (fun r e => by cases e)⟩, by simp [intOf]⟩
          · subst hk
            have d0 : wr.cell? ⟨wz.heap.size, 28, none⟩ = some (.int .u8 157) := hc 28 _ rfl
            have d1 : wr.cell? ⟨wz.heap.size, 29, none⟩ = some (.int .i64 4) := hc 29 _ rfl
            have d2 : wr.cell? ⟨wz.heap.size, 30, none⟩ = some (.int .i64 5) := hc 30 _ rfl
            have d3 : wr.cell? ⟨wz.heap.size, 31, none⟩ = some (.int .i64 0) := hc 31 _ rfl
            have HQ := Lib.hid (show ∀ W : World, Calls Try.prog 20 #[.int .u8 157, .int .i64 4, .int .i64 5] W (fun e w' => e = .returned (.tuple #[.int .i64 0, .int .i64 0]) ∧ W = w') from two_157 4 5 (by decide) (by decide) (by decide) (by decide))
            have HAR := Lib.hid (arity_157)
            clear hc
            go_wp2_with (first
              | (go_at_call 20; (with_reducible refine (HQ.out _).mono ?_); rintro e w' ⟨rfl, rfl⟩)
              | (go_at_call 24; (with_reducible refine (HAR.out _).mono ?_); rintro e w' ⟨rfl, rfl⟩))
            refine ⟨⟨8, by decide, rfl, rfl, HB.out.alloc HB.out.size _, by rw [World.size_alloc]; omega, fun k v h => cell_kept (HC.out k v h) (World.grownBy_alloc _ _ none) (fun r e => by cases e)⟩, by simp [intOf]⟩
          · subst hk
            have d0 : wr.cell? ⟨wz.heap.size, 32, none⟩ = some (.int .u8 158) := hc 32 _ rfl
            have d1 : wr.cell? ⟨wz.heap.size, 33, none⟩ = some (.int .i64 4) := hc 33 _ rfl
            have d2 : wr.cell? ⟨wz.heap.size, 34, none⟩ = some (.int .i64 5) := hc 34 _ rfl
            have d3 : wr.cell? ⟨wz.heap.size, 35, none⟩ = some (.int .i64 1) := hc 35 _ rfl
            have HQ := Lib.hid (show ∀ W : World, Calls Try.prog 20 #[.int .u8 158, .int .i64 4, .int .i64 5] W (fun e w' => e = .returned (.tuple #[.int .i64 1, .int .i64 0]) ∧ W = w') from two_158 4 5 (by decide) (by decide) (by decide) (by decide))
            have HAR := Lib.hid (arity_158)
            clear hc
            go_wp2_with (first
              | (go_at_call 20; (with_reducible refine (HQ.out _).mono ?_); rintro e w' ⟨rfl, rfl⟩)
              | (go_at_call 24; (with_reducible refine (HAR.out _).mono ?_); rintro e w' ⟨rfl, rfl⟩))
            refine ⟨⟨9, by decide, rfl, rfl, HB.out.alloc HB.out.size _, by rw [World.size_alloc]; omega, fun k v h => cell_kept (HC.out k v h) (World.grownBy_alloc _ _ none) (fun r e => by cases e)⟩, by simp [intOf]⟩
          · subst hk
            have d0 : wr.cell? ⟨wz.heap.size, 36, none⟩ = some (.int .u8 159) := hc 36 _ rfl
            have d1 : wr.cell? ⟨wz.heap.size, 37, none⟩ = some (.int .i64 1) := hc 37 _ rfl
            have d2 : wr.cell? ⟨wz.heap.size, 38, none⟩ = some (.int .i64 2) := hc 38 _ rfl
            have d3 : wr.cell? ⟨wz.heap.size, 39, none⟩ = some (.int .i64 1) := hc 39 _ rfl
            have HQ := Lib.hid (show ∀ W : World, Calls Try.prog 20 #[.int .u8 159, .int .i64 1, .int .i64 2] W (fun e w' => e = .returned (.tuple #[.int .i64 1, .int .i64 0]) ∧ W = w') from two_159 1 2 (by decide) (by decide) (by decide) (by decide))
            have HAR := Lib.hid (arity_159)
            clear hc
            go_wp2_with (first
              | (go_at_call 20; (with_reducible refine (HQ.out _).mono ?_); rintro e w' ⟨rfl, rfl⟩)
              | (go_at_call 24; (with_reducible refine (HAR.out _).mono ?_); rintro e w' ⟨rfl, rfl⟩))
            refine ⟨⟨10, by decide, rfl, rfl, HB.out.alloc HB.out.size _, by rw [World.size_alloc]; omega, fun k v h => cell_kept (HC.out k v h) (World.grownBy_alloc _ _ none) (fun r e => by cases e)⟩, by simp [intOf]⟩
          · subst hk
            have d0 : wr.cell? ⟨wz.heap.size, 40, none⟩ = some (.int .u8 160) := hc 40 _ rfl
            have d1 : wr.cell? ⟨wz.heap.size, 41, none⟩ = some (.int .i64 1) := hc 41 _ rfl
            have d2 : wr.cell? ⟨wz.heap.size, 42, none⟩ = some (.int .i64 2) := hc 42 _ rfl
            have d3 : wr.cell? ⟨wz.heap.size, 43, none⟩ = some (.int .i64 0) := hc 43 _ rfl
            have HQ := Lib.hid (show ∀ W : World, Calls Try.prog 20 #[.int .u8 160, .int .i64 1, .int .i64 2] W (fun e w' => e = .returned (.tuple #[.int .i64 0, .int .i64 0]) ∧ W = w') from two_160 1 2 (by decide) (by decide) (by decide) (by decide))
            have HAR := Lib.hid (arity_160)
            clear hc
            go_wp2_with (first
              | (go_at_call 20; (with_reducible refine (HQ.out _).mono ?_); rintro e w' ⟨rfl, rfl⟩)
              | (go_at_call 24; (with_reducible refine (HAR.out _).mono ?_); rintro e w' ⟨rfl, rfl⟩))
            refine ⟨⟨11, by decide, rfl, rfl, HB.out.alloc HB.out.size _, by rw [World.size_alloc]; omega, fun k v h => cell_kept (HC.out k v h) (World.grownBy_alloc _ _ none) (fun r e => by cases e)⟩, by simp [intOf]⟩
          · subst hk
            have d0 : wr.cell? ⟨wz.heap.size, 44, none⟩ = some (.int .u8 161) := hc 44 _ rfl
            have d1 : wr.cell? ⟨wz.heap.size, 45, none⟩ = some (.int .i64 2) := hc 45 _ rfl
            have d2 : wr.cell? ⟨wz.heap.size, 46, none⟩ = some (.int .i64 2) := hc 46 _ rfl
            have d3 : wr.cell? ⟨wz.heap.size, 47, none⟩ = some (.int .i64 1) := hc 47 _ rfl
            have HQ := Lib.hid (show ∀ W : World, Calls Try.prog 20 #[.int .u8 161, .int .i64 2, .int .i64 2] W (fun e w' => e = .returned (.tuple #[.int .i64 1, .int .i64 0]) ∧ W = w') from two_161 2 2 (by decide) (by decide) (by decide) (by decide))
            have HAR := Lib.hid (arity_161)
            clear hc
            go_wp2_with (first
              | (go_at_call 20; (with_reducible refine (HQ.out _).mono ?_); rintro e w' ⟨rfl, rfl⟩)
              | (go_at_call 24; (with_reducible refine (HAR.out _).mono ?_); rintro e w' ⟨rfl, rfl⟩))
            refine ⟨⟨12, by decide, rfl, rfl, HB.out.alloc HB.out.size _, by rw [World.size_alloc]; omega, fun k v h => cell_kept (HC.out k v h) (World.grownBy_alloc _ _ none) (fun r e => by cases e)⟩, by simp [intOf]⟩
          · subst hk
            have d0 : wr.cell? ⟨wz.heap.size, 48, none⟩ = some (.int .u8 162) := hc 48 _ rfl
            have d1 : wr.cell? ⟨wz.heap.size, 49, none⟩ = some (.int .i64 1) := hc 49 _ rfl
            have d2 : wr.cell? ⟨wz.heap.size, 50, none⟩ = some (.int .i64 2) := hc 50 _ rfl
            have d3 : wr.cell? ⟨wz.heap.size, 51, none⟩ = some (.int .i64 0) := hc 51 _ rfl
            have HQ := Lib.hid (show ∀ W : World, Calls Try.prog 20 #[.int .u8 162, .int .i64 1, .int .i64 2] W (fun e w' => e = .returned (.tuple #[.int .i64 0, .int .i64 0]) ∧ W = w') from two_162 1 2 (by decide) (by decide) (by decide) (by decide))
            have HAR := Lib.hid (arity_162)
            clear hc
            go_wp2_with (first
              | (go_at_call 20; (with_reducible refine (HQ.out _).mono ?_); rintro e w' ⟨rfl, rfl⟩)
              | (go_at_call 24; (with_reducible refine (HAR.out _).mono ?_); rintro e w' ⟨rfl, rfl⟩))
            refine ⟨⟨13, by decide, rfl, rfl, HB.out.alloc HB.out.size _, by rw [World.size_alloc]; omega, fun k v h => cell_kept (HC.out k v h) (World.grownBy_alloc _ _ none) (fun r e => by cases e)⟩, by simp [intOf]⟩
          · subst hk
            have d0 : wr.cell? ⟨wz.heap.size, 52, none⟩ = some (.int .u8 163) := hc 52 _ rfl
            have d1 : wr.cell? ⟨wz.heap.size, 53, none⟩ = some (.int .i64 3) := hc 53 _ rfl
            have d2 : wr.cell? ⟨wz.heap.size, 54, none⟩ = some (.int .i64 (-3)) := hc 54 _ rfl
            have d3 : wr.cell? ⟨wz.heap.size, 55, none⟩ = some (.int .i64 (-3)) := hc 55 _ rfl
            have HQ := Lib.hid (show ∀ W : World, Calls Try.prog 20 #[.int .u8 163, .int .i64 3, .int .i64 (-3)] W (fun e w' => e = .returned (.tuple #[.int .i64 (-3), .int .i64 0]) ∧ W = w') from two_163 3 (-3) (by decide) (by decide) (by decide) (by decide))
            have HAR := Lib.hid (arity_163)
            clear hc
            go_wp2_with (first
              | (go_at_call 20; (with_reducible refine (HQ.out _).mono ?_); rintro e w' ⟨rfl, rfl⟩)
              | (go_at_call 24; (with_reducible refine (HAR.out _).mono ?_); rintro e w' ⟨rfl, rfl⟩))
            refine ⟨⟨14, by decide, rfl, rfl, HB.out.alloc HB.out.size _, by rw [World.size_alloc]; omega, fun k v h => cell_kept (HC.out k v h) (World.grownBy_alloc _ _ none) (fun r e => by cases e)⟩, by simp [intOf]⟩
          · subst hk
            have d0 : wr.cell? ⟨wz.heap.size, 56, none⟩ = some (.int .u8 164) := hc 56 _ rfl
            have d1 : wr.cell? ⟨wz.heap.size, 57, none⟩ = some (.int .i64 3) := hc 57 _ rfl
            have d2 : wr.cell? ⟨wz.heap.size, 58, none⟩ = some (.int .i64 (-3)) := hc 58 _ rfl
            have d3 : wr.cell? ⟨wz.heap.size, 59, none⟩ = some (.int .i64 3) := hc 59 _ rfl
            have HQ := Lib.hid (show ∀ W : World, Calls Try.prog 20 #[.int .u8 164, .int .i64 3, .int .i64 (-3)] W (fun e w' => e = .returned (.tuple #[.int .i64 3, .int .i64 0]) ∧ W = w') from two_164 3 (-3) (by decide) (by decide) (by decide) (by decide))
            have HAR := Lib.hid (arity_164)
            clear hc
            go_wp2_with (first
              | (go_at_call 20; (with_reducible refine (HQ.out _).mono ?_); rintro e w' ⟨rfl, rfl⟩)
              | (go_at_call 24; (with_reducible refine (HAR.out _).mono ?_); rintro e w' ⟨rfl, rfl⟩))
            refine ⟨⟨15, by decide, rfl, rfl, HB.out.alloc HB.out.size _, by rw [World.size_alloc]; omega, fun k v h => cell_kept (HC.out k v h) (World.grownBy_alloc _ _ none) (fun r e => by cases e)⟩, by simp [intOf]⟩
        · obtain rfl : q = 15 := by omega
          clear hlt hq hc
          have hBx := hB
          go_wp2_with (first
            | (go_at_call 18; (with_reducible refine (HZ1.out _).mono ?_); rintro e w' ⟨rfl, rfl⟩)
            | (go_at_call 20; (with_reducible refine (HZ2.out _).mono ?_); rintro e w' ⟨rfl, rfl⟩)
            | (go_at_call 18; (with_reducible refine (HZ3.out _).mono ?_); rintro e w' ⟨rfl, rfl⟩)
            | (go_at_call 20; (with_reducible refine (HZ4.out _).mono ?_); rintro e w' ⟨rfl, rfl⟩)
            | (go_at_call 20; (with_reducible refine (HZ5.out _).mono ?_); rintro e w' ⟨rfl, rfl⟩)
            | (go_at_call 22; (with_reducible refine (HZ6.out _).mono ?_); rintro e w' ⟨rfl, rfl⟩)
            | (go_at_call 22; (with_reducible refine (HZ7.out _).mono ?_); rintro e w' ⟨rfl, rfl⟩)
            | (go_at_call 24; (with_reducible refine (HZ8.out _).mono ?_); rintro e w' ⟨rfl, rfl⟩)
            | (go_at_call 24; (with_reducible refine (HZ9.out _).mono ?_); rintro e w' ⟨rfl, rfl⟩)
            | (go_at_call 28; refine (alive_any _).mono ?_; rintro e w' ⟨rfl, hb⟩; replace hBx := hBx.trans (hb.mono hBx.size); clear hb))
          go_ret
          exact ⟨rfl, hBx⟩
set_option maxRecDepth 100000 in
theorem names_lifted (os : Os) (started : os.Started) (H : Type) (enc : TypeId × Value → H) :
    ReturnsInHanded {} Try.checked os 5 .any (Rows.numNamesSpec.pre6 enc Try.prog Try.f5 Rows.numNamesRow.domain false) (Rows.numNamesSpec.post enc Try.prog Try.f5 false true false false) := by
  refine returnsInHanded_of_change (C := Try.checked) own started (by kernel_rfl) Try.func5
    (ChangeSpec.witness6 (enc := enc) (C := Try.checked) false ⟨#[], #[], []⟩ 8 (by kernel_rfl) (by kernel_rfl) (by kernel_rfl) (by kernel_rfl)) ?_
  intro W base args ds gs before hval0 hW hcnd _
  have hval : ∀ (j : Nat) t v, Try.f5.params[j]? = some t → args[j]? = some v → Value.okWide Try.prog W .any base t v := hval0
  have hW' := hW
  obtain ⟨p, q, hA0, hV, rfl, hfz, hnd⟩ := hW
  have hA : DataW.TrodAll enc Try.prog W 0 (fun _ => true) true Try.f5.params.toList args.toList ds p := hA0
  rw [Try.params5] at hA hval
  obtain ⟨hargs, rfl, rfl⟩ := trodAll_nil hA
  obtain rfl : args = #[] := by cases args; simp_all
  obtain ⟨rfl, rfl⟩ := trodVars_none hV
  clear hA0 hval0
  refine (names_walk W).mono fun e W' ⟨he, bel⟩ => ?_
  subst he
  exact ⟨_, rfl, _, _, _, [], _, [], hW', trodAll_mk1 (shut_bool Try.underlying4 _), trodAll_mk0, rfl, bel.frame _, fun h => by cases h⟩

theorem names_over : Rows.numNamesRow.holds Try.pinned (OpenSpec.ofChange Rows.numNamesSpec) :=
  OpenClaim.holds_of_wide 5 Try.f5 rfl rfl rfl rfl rfl rfl rfl ⟨rfl, rfl, rfl, rfl, rfl⟩ rfl rfl rfl rfl rfl (by kernel_rfl) Try.func5 (by kernel_rfl)
    (of_decide_eq_true (by kernel_rfl)) (by unfold Func.isWrapper; first | (rw [if_pos (by decide +kernel)]; kernel_rfl) | (rw [if_neg (by decide +kernel)]; exact ⟨rfl, rfl⟩))
    (fun os started H enc _ => names_lifted os started H enc)

/-- The error and the limit have their numbers; the examples of the chapter; each operation. No condition. -/
theorem names_proved : Rows.NumNamesSaid := names_over
#print axioms names_proved
end Go.Proofs.Ytbhopgklnddelaa
