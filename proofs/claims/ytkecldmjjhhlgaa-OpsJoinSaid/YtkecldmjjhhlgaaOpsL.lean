/- The contract of ops.Push; operations appended to a row of the call's own; a list of bytes that comes in. No condition beyond the memory's reach. -/
import Derived.Test.YtkecldmjjhhlgaaOpsK
import Derived.Laws.ResultCell
namespace Go.Proofs.Ytkecldmjjhhlgaa.Oct
open Go.Proofs.Ytkecldmjjhhlgaa Go.RowKit Go.Shelf
theorem two_cells {U : World} {b : Nat} {x y : Value} {t : TypeId} (h : U.heap[b]? = some (.cells #[x, y] t (0, 0))) : U.cell? ⟨b, 0, none⟩ = some x ∧ U.cell? ⟨b, 1, none⟩ = some y ∧ U.frozen? ⟨b, 0, none⟩ = false ∧ U.frozen? ⟨b, 1, none⟩ = false := by
  refine ⟨?_, ?_, ?_, ?_⟩
  · rw [cell_of_row _ _ _ _ _ _ h]; rfl
  · rw [cell_of_row _ _ _ _ _ _ h]; rfl
  · unfold World.frozen?
    rw [h]
    rfl
  · unfold World.frozen?
    rw [h]
    rfl
def pushC (n : Nat) : Nat := if n ≤ 75 then n else if n ≤ 255 then 76 else 77
def PushO (w : World) (bs : List UInt8) (z : Int) (e : Ending) (w' : World) : Prop := ∃ X cx, e = .returned (.tuple #[.agg #[.int .u8 z, .slice X bs.length cx], .int .i64 0]) ∧ Holds8 w'.heap.size w' X bs ∧ (∀ a, X = some a → w.heap.size ≤ a.block) ∧ Below w.heap.size w w'
theorem holds_keep {n : Nat} {W W' : World} {X : Option Addr} {bs : List UInt8} (h : Holds8 n W X bs) (hk : ∀ a, X = some a → W'.heap[a.block]? = W.heap[a.block]?) (hn : n ≤ W'.heap.size) : Holds8 W'.heap.size W' X bs := by
  rcases h with q | ⟨b, off, e, hb, hc⟩
  · exact .inl q
  · refine .inr ⟨b, off, e, Nat.lt_of_lt_of_le hb hn, fun j hj => ?_⟩
    rw [← hc j hj]
    unfold World.cell?
    rw [hk _ e]
theorem set_block (W : World) (b j : Nat) (u : Value) {k : Nat} (hk : b ≠ k) : (W.setCell ⟨b, j, none⟩ u).heap[k]? = W.heap[k]? := by
  unfold World.setCell
  simp only [Array.getElem?_modify]
  rw [if_neg hk]
theorem set_size (W : World) (b j : Nat) (u : Value) : (W.setCell ⟨b, j, none⟩ u).heap.size = W.heap.size := by
  unfold World.setCell
  simp
theorem alloc_old (W : World) (o : Obj) (k : Nat) (hk : k < W.heap.size) : (W.alloc o).heap[k]? = W.heap[k]? := ((below_new W o).block k hk)
theorem below_set {B k j : Nat} {a : World} (W : World) (h : Below B a W) (hk : B ≤ k) (u : Value) : Below B a (W.setCell ⟨k, j, none⟩ u) :=
  ⟨h.os, h.tape, h.output, by rw [set_size]; exact h.size, fun i hi => (set_block W k j u (by omega)).trans (h.block i hi)⟩
set_option maxRecDepth 100000 in
set_option maxHeartbeats 1000000 in
theorem push_75 (bs : List UInt8) (n : Nat) (HN : Hid (n = bs.length)) (hn6 : n ≤ 1000000000) (A : Option Addr) (c : Nat) (w : World) (HC : Hid (Calls Try.prog 29 #[.slice A n c] (w.alloc (.cells #[.int .u8 0, .slice none 0 0] 32)) (OwnBytes (w.alloc (.cells #[.int .u8 0, .slice none 0 0] 32)) bs))) (f0 : (n : Int) ≤ 75) :
    Calls Try.prog 22 #[.slice A n c] w (PushO w bs (n : Int)) := by
  have HB0 := Lib.hid (below_new w (.cells #[.int .u8 0, .slice none 0 0] 32))
  go_enter Try.func22, Try.ntmps22
  go_wp2_with (go_at_call 29; refine HC.out.mono ?_; rintro e w1 ⟨v, rfl, hown, hb⟩; have hx1 := (hb.block w.heap.size (by rw [World.size_alloc]; omega)).trans (World.alloc_heap_new w _); obtain ⟨e0, e1, g0, g1⟩ := two_cells hx1; have hl1 := (Array.getElem?_eq_some_iff.1 hx1).1; obtain ⟨X, cx, rfl, h8, _, _, hxb⟩ := own_open hown; rw [← HN.out]; have H8 := Lib.hid h8; have HXB := Lib.hid hxb; have HB1 := Lib.hid hb; clear hb hx1 hown h8 hxb)
  (try simp only [Exit.inBlock, Exit.then])
  refine bodyPost_ret (v := .tuple #[.agg #[.int .u8 (n : Int), .slice X n cx], .int .i64 0]) ?_ rfl ?_
  · rw [results_cell_tmp rfl]
    go_simp
  · refine ⟨X, cx, by rw [HN.out], ?_, fun a ha => ?_, ?_⟩
    · refine holds_keep H8.out (fun a ha => ?_) ?_
      · have q := HXB.out a ha
        rw [World.size_alloc] at q
        rw [alloc_old _ _ _ (by rw [set_size, set_size]; exact q.2), set_block _ _ _ _ (show w.heap.size ≠ a.block by omega), set_block _ _ _ _ (show w.heap.size ≠ a.block by omega)]
      · rw [World.size_alloc, set_size, set_size]
        omega
    · have q := HXB.out a ha
      rw [World.size_alloc] at q
      omega
    · exact (below_set _ (below_set _ (btr HB0.out HB1.out HB0.out.size) (Nat.le_refl _) _) (Nat.le_refl _) _).alloc (by rw [set_size, set_size]; omega) _
set_option maxRecDepth 100000 in
set_option maxHeartbeats 1000000 in
theorem push_76 (bs : List UInt8) (n : Nat) (HN : Hid (n = bs.length)) (hn6 : n ≤ 1000000000) (A : Option Addr) (c : Nat) (w : World) (HC : Hid (Calls Try.prog 29 #[.slice A n c] (w.alloc (.cells #[.int .u8 0, .slice none 0 0] 32)) (OwnBytes (w.alloc (.cells #[.int .u8 0, .slice none 0 0] 32)) bs))) (f0 : (75 : Int) < (n : Int)) (f1 : (n : Int) ≤ 255) :
    Calls Try.prog 22 #[.slice A n c] w (PushO w bs 76) := by
  have HB0 := Lib.hid (below_new w (.cells #[.int .u8 0, .slice none 0 0] 32))
  go_enter Try.func22, Try.ntmps22
  go_wp2_with (go_at_call 29; refine HC.out.mono ?_; rintro e w1 ⟨v, rfl, hown, hb⟩; have hx1 := (hb.block w.heap.size (by rw [World.size_alloc]; omega)).trans (World.alloc_heap_new w _); obtain ⟨e0, e1, g0, g1⟩ := two_cells hx1; have hl1 := (Array.getElem?_eq_some_iff.1 hx1).1; obtain ⟨X, cx, rfl, h8, _, _, hxb⟩ := own_open hown; rw [← HN.out]; have H8 := Lib.hid h8; have HXB := Lib.hid hxb; have HB1 := Lib.hid hb; clear hb hx1 hown h8 hxb)
  (try simp only [Exit.inBlock, Exit.then])
  refine bodyPost_ret (v := .tuple #[.agg #[.int .u8 76, .slice X n cx], .int .i64 0]) ?_ rfl ?_
  · rw [results_cell_tmp rfl]
    go_simp
  · refine ⟨X, cx, by rw [HN.out], ?_, fun a ha => ?_, ?_⟩
    · refine holds_keep H8.out (fun a ha => ?_) ?_
      · have q := HXB.out a ha
        rw [World.size_alloc] at q
        rw [alloc_old _ _ _ (by rw [set_size, set_size]; exact q.2), set_block _ _ _ _ (show w.heap.size ≠ a.block by omega), set_block _ _ _ _ (show w.heap.size ≠ a.block by omega)]
      · rw [World.size_alloc, set_size, set_size]
        omega
    · have q := HXB.out a ha
      rw [World.size_alloc] at q
      omega
    · exact (below_set _ (below_set _ (btr HB0.out HB1.out HB0.out.size) (Nat.le_refl _) _) (Nat.le_refl _) _).alloc (by rw [set_size, set_size]; omega) _
set_option maxRecDepth 100000 in
set_option maxHeartbeats 1000000 in
theorem push_77 (bs : List UInt8) (n : Nat) (HN : Hid (n = bs.length)) (hn6 : n ≤ 1000000000) (A : Option Addr) (c : Nat) (w : World) (HC : Hid (Calls Try.prog 29 #[.slice A n c] (w.alloc (.cells #[.int .u8 0, .slice none 0 0] 32)) (OwnBytes (w.alloc (.cells #[.int .u8 0, .slice none 0 0] 32)) bs))) (f0 : (255 : Int) < (n : Int)) (f1 : (n : Int) ≤ 65535) :
    Calls Try.prog 22 #[.slice A n c] w (PushO w bs 77) := by
  have HB0 := Lib.hid (below_new w (.cells #[.int .u8 0, .slice none 0 0] 32))
  go_enter Try.func22, Try.ntmps22
  go_wp2_with (go_at_call 29; refine HC.out.mono ?_; rintro e w1 ⟨v, rfl, hown, hb⟩; have hx1 := (hb.block w.heap.size (by rw [World.size_alloc]; omega)).trans (World.alloc_heap_new w _); obtain ⟨e0, e1, g0, g1⟩ := two_cells hx1; have hl1 := (Array.getElem?_eq_some_iff.1 hx1).1; obtain ⟨X, cx, rfl, h8, _, _, hxb⟩ := own_open hown; rw [← HN.out]; have H8 := Lib.hid h8; have HXB := Lib.hid hxb; have HB1 := Lib.hid hb; clear hb hx1 hown h8 hxb)
  (try simp only [Exit.inBlock, Exit.then])
  refine bodyPost_ret (v := .tuple #[.agg #[.int .u8 77, .slice X n cx], .int .i64 0]) ?_ rfl ?_
  · rw [results_cell_tmp rfl]
    go_simp
  · refine ⟨X, cx, by rw [HN.out], ?_, fun a ha => ?_, ?_⟩
    · refine holds_keep H8.out (fun a ha => ?_) ?_
      · have q := HXB.out a ha
        rw [World.size_alloc] at q
        rw [alloc_old _ _ _ (by rw [set_size, set_size]; exact q.2), set_block _ _ _ _ (show w.heap.size ≠ a.block by omega), set_block _ _ _ _ (show w.heap.size ≠ a.block by omega)]
      · rw [World.size_alloc, set_size, set_size]
        omega
    · have q := HXB.out a ha
      rw [World.size_alloc] at q
      omega
    · exact (below_set _ (below_set _ (btr HB0.out HB1.out HB0.out.size) (Nat.le_refl _) _) (Nat.le_refl _) _).alloc (by rw [set_size, set_size]; omega) _
set_option maxRecDepth 100000 in
set_option maxHeartbeats 1000000 in
theorem push_bad (bs : List UInt8) (n : Nat) (HN : Hid (n = bs.length)) (hn6 : n ≤ 1000000000) (A : Option Addr) (c : Nat) (w : World) (HC : Hid (Calls Try.prog 29 #[.slice A n c] (w.alloc (.cells #[.int .u8 0, .slice none 0 0] 32)) (OwnBytes (w.alloc (.cells #[.int .u8 0, .slice none 0 0] 32)) bs))) (f0 : (65535 : Int) < (n : Int)) :
    Calls Try.prog 22 #[.slice A n c] w fun e w' => e = .returned (.tuple #[.agg #[.int .u8 0, .slice none 0 0], .int .i64 100]) ∧ Below w.heap.size w w' := by
  have HB0 := Lib.hid (below_new w (.cells #[.int .u8 0, .slice none 0 0] 32))
  go_enter Try.func22, Try.ntmps22
  go_wp2_with (go_at_call 29; refine HC.out.mono ?_; rintro e w1 ⟨v, rfl, hown, hb⟩; have hx1 := (hb.block w.heap.size (by rw [World.size_alloc]; omega)).trans (World.alloc_heap_new w _); obtain ⟨e0, e1, g0, g1⟩ := two_cells hx1; have hl1 := (Array.getElem?_eq_some_iff.1 hx1).1; obtain ⟨X, cx, rfl, h8, _, _, hxb⟩ := own_open hown; rw [← HN.out]; have H8 := Lib.hid h8; have HXB := Lib.hid hxb; have HB1 := Lib.hid hb; clear hb hx1 hown h8 hxb)
  (try simp only [Exit.inBlock, Exit.then])
  refine bodyPost_ret (v := .tuple #[.agg #[.int .u8 0, .slice none 0 0], .int .i64 100]) ?_ rfl ?_
  · rw [results_cell_tmp rfl]
    go_simp
  · refine ⟨rfl, ?_⟩
    exact (below_set _ (below_set _ (btr HB0.out HB1.out HB0.out.size) (Nat.le_refl _) _) (Nat.le_refl _) _).alloc (by rw [set_size, set_size]; omega) _
def PushR (w : World) (bs : List UInt8) (e : Ending) (w' : World) : Prop := Below w.heap.size w w' ∧ ((bs.length ≤ 65535 ∧ ∃ X cx, e = .returned (.tuple #[.agg #[.int .u8 ((pushC bs.length : Nat) : Int), .slice X bs.length cx], .int .i64 0]) ∧ Holds8 w'.heap.size w' X bs ∧ (∀ a, X = some a → w.heap.size ≤ a.block)) ∨ (65535 < bs.length ∧ e = .returned (.tuple #[.agg #[.int .u8 0, .slice none 0 0], .int .i64 100])))
theorem PushO.is {w w' : World} {bs : List UInt8} {z : Int} {e : Ending} (h : PushO w bs z e w') (h1 : bs.length ≤ 65535) (hz : z = ((pushC bs.length : Nat) : Int)) : PushR w bs e w' := by
  obtain ⟨X, cx, he, h2, h3, h4⟩ := h
  subst hz
  exact ⟨h4, .inl ⟨h1, X, cx, he, h2, h3⟩⟩
theorem push_any (bs : List UInt8) (n : Nat) (hn : n = bs.length) (hn6 : n ≤ 1000000000) (A : Option Addr) (c n₀ : Nat) (w : World) (hh : Bytes8 n₀ w A bs) (hn0 : n₀ ≤ w.heap.size) : Calls Try.prog 22 #[.slice A n c] w (PushR w bs) := by
  have hb := below_new w (.cells #[.int .u8 0, .slice none 0 0] 32)
  have HC := Lib.hid (clone_in bs n hn A c n₀ (w.alloc (.cells #[.int .u8 0, .slice none 0 0] 32)) (hh.below (hb.mono hn0) (Nat.le_refl _)) (Nat.le_trans hn0 hb.size) (by omega))
  by_cases h1 : n ≤ 75
  · exact (push_75 bs n (Lib.hid hn) hn6 A c w HC (by omega)).mono fun e w' h => h.is (by omega) (by rw [← hn]; unfold pushC; rw [if_pos h1])
  by_cases h2 : n ≤ 255
  · exact (push_76 bs n (Lib.hid hn) hn6 A c w HC (by omega) (by omega)).mono fun e w' h => h.is (by omega) (by rw [← hn]; unfold pushC; rw [if_neg h1, if_pos h2]; rfl)
  by_cases h3 : n ≤ 65535
  · exact (push_77 bs n (Lib.hid hn) hn6 A c w HC (by omega) (by omega)).mono fun e w' h => h.is (by omega) (by rw [← hn]; unfold pushC; rw [if_neg h1, if_neg h2]; rfl)
  · exact (push_bad bs n (Lib.hid hn) hn6 A c w HC (by omega)).mono fun e w' h => ⟨h.2, .inr ⟨by omega, h.1⟩⟩
end Go.Proofs.Ytkecldmjjhhlgaa.Oct
