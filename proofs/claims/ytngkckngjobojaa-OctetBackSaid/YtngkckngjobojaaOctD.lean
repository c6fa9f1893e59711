/- The contracts of a pen's Size, Raw, Bytes, Len, All, and of slices.Clone. No condition beyond the memory's reach. -/
import Derived.Test.YtngkckngjobojaaOctC
import Derived.WalkSpells
namespace Go.Proofs.Ytngkckngjobojaa.Oct
open Go.Proofs.Ytngkckngjobojaa Go.RowKit Go.Shelf

/-- The bytes bs in a row of the call's own. -/
def OwnBytes (w : World) (bs : List UInt8) (e : Ending) (w' : World) : Prop := ∃ v, e = .returned v ∧ w'.ownsRow w.heap.size 5 1 v bs.length (vals bs) ∧ Below w.heap.size w w'
theorem own_empty (w : World) : (w.alloc (.cells #[] 5)).ownsRow w.heap.size 5 1 (.slice (some ⟨w.heap.size, 0, none⟩) 0 0) 0 [] :=
  ⟨rfl, .inr ⟨w.heap.size, 0, #[], rfl, Nat.le_refl _, heap_alloc_new w _, Nat.le_refl _, by simp, rfl, rfl⟩⟩
set_option maxHeartbeats 1000000 in
theorem clone_any (bs : List UInt8) (A : Option Addr) (c n₀ : Nat) (hA : A = none → c = 0) (w : World) (hh : Holds8 n₀ w A bs) (hn : n₀ ≤ w.heap.size) (hl : bs.length ≤ 140737488355328) :
    Calls Try.prog 36 #[.slice A bs.length c] w (OwnBytes w bs) := by
  rcases hh with ⟨rfl, rfl⟩ | ⟨b, off, rfl, hb, hc⟩
  · obtain rfl := hA rfl
    have hnil := @Lib.run_eql_slice_nil
    go_enter Try.func36, Try.ntmps36
    go_wp2
    go_ret
    exact ⟨_, rfl, World.ownsRow_nil _ _ _ _, Below.refl _ _⟩
  · have hh : Holds8 n₀ w (some ⟨b, off, none⟩) bs := .inr ⟨b, off, rfl, hb, hc⟩
    have HH := Lib.hid ((hh.more hn).later ((Below.refl _ w).alloc (Nat.le_refl _) (.cells #[] 5)))
    clear hh hc
    have hoe : (w.alloc (.cells #[] 5)).ownsRow w.heap.size 5 1 (.slice (some ⟨w.heap.size, 0, none⟩) 0 0) ([] : List UInt8).length (vals []) := own_empty w
    have hnil := @Lib.run_eql_slice_nil
    go_enter Try.func36, Try.ntmps36
    go_wp2_with (at_builtin; refine wpList_append_bytes rfl (.tmp 5) (.tmp 6) rfl w.heap.size _ _ [] bs rfl hoe (some ⟨b, off, none⟩) c rfl HH.out (by simpa using hl) (by simp) ?_; intro v' w1 hown' hgr hv)
    go_ret
    exact ⟨_, rfl, hown', ((Below.refl _ w).alloc (Nat.le_refl _) _).grown hgr (by simp) (fun k hk => by
      have h2 : some w.heap.size = some k := hk
      injection h2 with h2
      omega)⟩

theorem OwnBytes.new {w : World} {bs : List UInt8} {e : Ending} {w' : World} (h : OwnBytes w bs e w') : NewBytes w bs e w' := by
  obtain ⟨v, rfl, hr, hb⟩ := h
  obtain ⟨A, c, rfl, hh, ha⟩ := own_holds rfl hr
  exact ⟨A, c, rfl, hh, ha, hb⟩

theorem penLen_any (base b : Nat) (bs : List UInt8) (w : World) (hp : PenAt base w b bs) :
    Calls Try.prog 11 #[.pointer (some ⟨b, 0, none⟩)] w fun e w' => e = .returned (.int .i64 (bs.length : Int)) ∧ w = w' := by
  obtain ⟨A, c, hcell, _⟩ := hp.cell
  clear hp
  go_enter Try.func11, Try.ntmps11
  go_wp2
  go_ret
  exact ⟨rfl, rfl⟩
theorem PenAt.cap {base : Nat} {W : World} {b : Nat} {bs : List UInt8} (h : PenAt base W b bs) : ∃ A c, W.cell? ⟨b, 0, none⟩ = some (.slice A bs.length c) ∧ Holds8 W.heap.size W A bs ∧ (A = none → c = 0) := by
  obtain ⟨_, v, hh, hr, hne⟩ := h
  have hc : W.cell? ⟨b, 0, none⟩ = some v := by rw [cell_of_row _ _ _ _ _ _ hh]; rfl
  obtain ⟨A, c, e, hh8, _⟩ := own_holds rfl hr
  refine ⟨A, c, by rw [hc, e], hh8, fun hA => ?_⟩
  subst hA
  rcases hr.2 with ⟨e2, _⟩ | ⟨g, cap, cur, e2, _⟩
  · rw [e] at e2
    injection e2
  · rw [e] at e2
    cases e2
theorem penAll_any (base b : Nat) (bs : List UInt8) (w : World) (hp : PenAt base w b bs) (hl : bs.length ≤ 140737488355328) :
    Calls Try.prog 12 #[.pointer (some ⟨b, 0, none⟩)] w (OwnBytes w bs) := by
  obtain ⟨A, c, hcell, hh, hA⟩ := hp.cap
  have hc := clone_any bs A c w.heap.size hA w hh (Nat.le_refl _) hl
  clear hp hh hA
  go_enter Try.func12, Try.ntmps12
  go_wp2_with (go_at_call 36; refine hc.mono ?_; rintro e w1 ⟨v, rfl, hr, hb⟩)
  go_ret
  exact ⟨_, rfl, hr, hb⟩

/-- Bytes of which each is known. -/
theorem holds_lit (w : World) (xs : List Value) (bs : List UInt8) (h : xs = vals bs) (n : Nat) (hn : n = bs.length) : Holds8 (w.alloc (.cells xs.toArray 5)).heap.size (w.alloc (.cells xs.toArray 5)) (some ⟨w.heap.size, 0, none⟩) bs := by
  refine .inr ⟨w.heap.size, 0, rfl, by simp, fun j hj => ?_⟩
  rw [cell_of_row _ _ _ _ _ _ (heap_alloc_new w _), h, Nat.zero_add]
  simpa using vals_get bs j hj

set_option maxRecDepth 100000 in
set_option maxHeartbeats 2000000 in
theorem penSize_any (base b : Nat) (bs : List UInt8) (x : Nat) (hx : x < 18446744073709551616) (w : World) (hp : PenAt base w b bs) (hl : bs.length + 9 ≤ 100000000000000) (hbase : base ≤ w.heap.size) :
    Calls Try.prog 28 #[.pointer (some ⟨b, 0, none⟩), .int .u64 (x : Int)] w (Wrote base b bs (sizeB x) 0 w) := by
  have hcp := compact_any x hx
  have hpw := hp
  have hlt := hp.lt
  by_cases h1 : x < 253
  · have hs : sizeB x = leB 1 x := by unfold sizeB; rw [if_pos h1]
    have hc3 : (cmpL x : Int) = 1 := by unfold cmpL; rw [if_pos h1]; rfl
    rw [hc3] at hcp
    have HS := Lib.hid hs
    clear h1 hs hc3
    go_enter Try.func28, Try.ntmps28
    go_wp2_with (first
      | (go_at_call 13; refine (hcp _).mono ?_; rintro e w1 ⟨rfl, hb1⟩)
      | (go_at_call 43; refine (fixed_any base b bs 1 x (by decide) hx _ (hpw.below hb1) (by omega) (by have := hb1.size; omega)).mono ?_; rintro e w2 ⟨⟨v, rfl⟩, hp2, hs2⟩))
    go_ret
    exact ⟨rfl, by rw [HS.out]; exact hp2, (PenStep.of_below hlt hb1).trans hs2⟩
  · by_cases h2 : x < 65536
    · have hs : sizeB x = 253 :: leB 2 x := by unfold sizeB; rw [if_neg h1, if_pos h2]
      have hc3 : (cmpL x : Int) = 3 := by unfold cmpL; rw [if_neg h1, if_pos h2]; rfl
      rw [hc3] at hcp
      have HS := Lib.hid hs
      clear hs hc3
      obtain ⟨hgb, v0, hheap, hrow, hne⟩ := hp
      obtain ⟨A, c, rfl, _, _⟩ := own_holds rfl hrow
      have hcell : w.cell? ⟨b, 0, none⟩ = some (.slice A bs.length c) := by rw [cell_of_row _ _ _ _ _ _ hheap]; rfl
      have HY := Lib.hid (show ∀ W, Holds8 (W.alloc (.cells #[.int .u8 253] 5)).heap.size (W.alloc (.cells #[.int .u8 253] 5)) (some ⟨W.heap.size, 0, none⟩) [253] from fun W => holds_one W 253)
      go_enter Try.func28, Try.ntmps28
      go_wp2_with (first
        | (go_at_call 13; refine (hcp _).mono ?_; rintro e w1 ⟨rfl, hb1⟩; have hc1 : w1.cell? ⟨b, 0, none⟩ = some (.slice A bs.length c) := (hb1.cell (p := ⟨b, 0, none⟩) hlt).trans hcell)
        | (at_builtin; refine wpList_append_bytes rfl (.tmp 32) (.tmp 33) rfl base _ _ bs [253] rfl (ownsRow_below hrow (hb1.alloc hb1.size _)) (some ⟨w1.heap.size, 0, none⟩) 1 rfl (HY.out w1) (by simp; omega) (by have := hb1.size; simp; omega) ?_; intro v' w2 hown' hgr hv; have hck := pen_cell_kept hheap hne (hb1.alloc hb1.size _) hgr; have hc2 := hck.1; have hf2 := hck.2; obtain ⟨A', c', rfl, _, _⟩ := own_holds rfl hown'; have hpp := pen_put hgb hheap hrow hne (hb1.alloc hb1.size _) hgr hown' hv; clear hown' hgr hv hck; simp only [List.length_append, List.length_singleton] at hpp; have HPP := Lib.hid hpp; clear hpp)
        | (go_at_call 43; refine (fixed_any base b (bs ++ [253]) 2 x (by decide) hx _ HPP.out.1 (by simp; omega) (by have := HPP.out.2.size; omega)).mono ?_; rintro e w3 ⟨⟨v, rfl⟩, hp3, hs3⟩))
      go_ret
      exact ⟨rfl, by rw [HS.out, show bs ++ 253 :: leB 2 x = (bs ++ [253]) ++ leB 2 x by simp]; exact hp3, HPP.out.2.trans hs3⟩
    · by_cases h3 : x < 4294967296
      · have hs : sizeB x = 254 :: leB 4 x := by unfold sizeB; rw [if_neg h1, if_neg h2, if_pos h3]
        have hc3 : (cmpL x : Int) = 5 := by unfold cmpL; rw [if_neg h1, if_neg h2, if_pos h3]; rfl
        rw [hc3] at hcp
        have HS := Lib.hid hs
        clear hs hc3
        obtain ⟨hgb, v0, hheap, hrow, hne⟩ := hp
        obtain ⟨A, c, rfl, _, _⟩ := own_holds rfl hrow
        have hcell : w.cell? ⟨b, 0, none⟩ = some (.slice A bs.length c) := by rw [cell_of_row _ _ _ _ _ _ hheap]; rfl
        have HY := Lib.hid (show ∀ W, Holds8 (W.alloc (.cells #[.int .u8 254] 5)).heap.size (W.alloc (.cells #[.int .u8 254] 5)) (some ⟨W.heap.size, 0, none⟩) [254] from fun W => holds_one W 254)
        go_enter Try.func28, Try.ntmps28
        go_wp2_with (first
          | (go_at_call 13; refine (hcp _).mono ?_; rintro e w1 ⟨rfl, hb1⟩; have hc1 : w1.cell? ⟨b, 0, none⟩ = some (.slice A bs.length c) := (hb1.cell (p := ⟨b, 0, none⟩) hlt).trans hcell)
          | (at_builtin; refine wpList_append_bytes rfl (.tmp 46) (.tmp 47) rfl base _ _ bs [254] rfl (ownsRow_below hrow (hb1.alloc hb1.size _)) (some ⟨w1.heap.size, 0, none⟩) 1 rfl (HY.out w1) (by simp; omega) (by have := hb1.size; simp; omega) ?_; intro v' w2 hown' hgr hv; have hck := pen_cell_kept hheap hne (hb1.alloc hb1.size _) hgr; have hc2 := hck.1; have hf2 := hck.2; obtain ⟨A', c', rfl, _, _⟩ := own_holds rfl hown'; have hpp := pen_put hgb hheap hrow hne (hb1.alloc hb1.size _) hgr hown' hv; clear hown' hgr hv hck; simp only [List.length_append, List.length_singleton] at hpp; have HPP := Lib.hid hpp; clear hpp)
          | (go_at_call 43; refine (fixed_any base b (bs ++ [254]) 4 x (by decide) hx _ HPP.out.1 (by simp; omega) (by have := HPP.out.2.size; omega)).mono ?_; rintro e w3 ⟨⟨v, rfl⟩, hp3, hs3⟩))
        go_ret
        exact ⟨rfl, by rw [HS.out, show bs ++ 254 :: leB 4 x = (bs ++ [254]) ++ leB 4 x by simp]; exact hp3, HPP.out.2.trans hs3⟩
      · have hs : sizeB x = 255 :: leB 8 x := by unfold sizeB; rw [if_neg h1, if_neg h2, if_neg h3]
        have hc3 : (cmpL x : Int) = 9 := by unfold cmpL; rw [if_neg h1, if_neg h2, if_neg h3]; rfl
        rw [hc3] at hcp
        have HS := Lib.hid hs
        clear hs hc3
        obtain ⟨hgb, v0, hheap, hrow, hne⟩ := hp
        obtain ⟨A, c, rfl, _, _⟩ := own_holds rfl hrow
        have hcell : w.cell? ⟨b, 0, none⟩ = some (.slice A bs.length c) := by rw [cell_of_row _ _ _ _ _ _ hheap]; rfl
        have HY := Lib.hid (show ∀ W, Holds8 (W.alloc (.cells #[.int .u8 255] 5)).heap.size (W.alloc (.cells #[.int .u8 255] 5)) (some ⟨W.heap.size, 0, none⟩) [255] from fun W => holds_one W 255)
        go_enter Try.func28, Try.ntmps28
        go_wp2_with (first
          | (go_at_call 13; refine (hcp _).mono ?_; rintro e w1 ⟨rfl, hb1⟩; have hc1 : w1.cell? ⟨b, 0, none⟩ = some (.slice A bs.length c) := (hb1.cell (p := ⟨b, 0, none⟩) hlt).trans hcell)
          | (at_builtin; refine wpList_append_bytes rfl (.tmp 13) (.tmp 14) rfl base _ _ bs [255] rfl (ownsRow_below hrow (hb1.alloc hb1.size _)) (some ⟨w1.heap.size, 0, none⟩) 1 rfl (HY.out w1) (by simp; omega) (by have := hb1.size; simp; omega) ?_; intro v' w2 hown' hgr hv; have hck := pen_cell_kept hheap hne (hb1.alloc hb1.size _) hgr; have hc2 := hck.1; have hf2 := hck.2; obtain ⟨A', c', rfl, _, _⟩ := own_holds rfl hown'; have hpp := pen_put hgb hheap hrow hne (hb1.alloc hb1.size _) hgr hown' hv; clear hown' hgr hv hck; simp only [List.length_append, List.length_singleton] at hpp; have HPP := Lib.hid hpp; clear hpp)
          | (go_at_call 43; refine (fixed_any base b (bs ++ [255]) 8 x (by decide) hx _ HPP.out.1 (by simp; omega) (by have := HPP.out.2.size; omega)).mono ?_; rintro e w3 ⟨⟨v, rfl⟩, hp3, hs3⟩))
        go_ret
        exact ⟨rfl, by rw [HS.out, show bs ++ 255 :: leB 8 x = (bs ++ [255]) ++ leB 8 x by simp]; exact hp3, HPP.out.2.trans hs3⟩
end Go.Proofs.Ytngkckngjobojaa.Oct
