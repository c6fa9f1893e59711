/- The contract of the reference's bytes. No condition beyond the memory's reach. -/
import Derived.Test.YtkecldmjjhhlgaaOpsU
namespace Go.Proofs.Ytkecldmjjhhlgaa.Oct
open Go.Proofs.Ytkecldmjjhhlgaa Go.RowKit Go.Shelf
theorem bt0 {a b c : World} (h1 : Below a.heap.size a b) (h2 : Below b.heap.size b c) : Below a.heap.size a c := h1.trans (h2.mono h1.size)
set_option maxRecDepth 100000 in
set_option maxHeartbeats 2000000 in
theorem byt_76 (bs : List UInt8) (dn : Nat) (hdn : bs.length = dn) (hd7 : dn ≤ 10000000) (A : Option Addr) (c n₀ : Nat) (w : World) (hh : Bytes8 n₀ w A bs) (hn0 : n₀ ≤ w.heap.size) : Calls Try.prog 35 #[.agg #[.int .u8 76, .slice A dn c]] w (OwnBytes w (opBytes (76, bs))) := by
  obtain ⟨y, hy⟩ : ∃ y, UInt8.ofNat (dn % 256) = y := ⟨_, rfl⟩
  have ey : (dn : Int) % 256 = (y.toNat : Int) := by rw [← hy, UInt8.toNat_ofNat']; omega
  have HHD := Lib.hid (show headOf (76, bs) = [y] by unfold headOf; dsimp only; rw [if_pos (by rfl), hdn, hy])
  have HDN := Lib.hid hdn
  have hb0 := below_new w (.cells #[.int .u8 76, .slice A dn c] 32)
  have hb1 := bt0 hb0 (below_new (w.alloc (.cells #[.int .u8 76, .slice A dn c] 32)) (.cells #[.int .u8 76] 5))
  have hx1 := ((below_new (w.alloc (.cells #[.int .u8 76, .slice A dn c] 32)) (.cells #[.int .u8 76] 5)).block w.heap.size (by rw [World.size_alloc]; omega)).trans (World.alloc_heap_new w (.cells #[.int .u8 76, .slice A dn c] 32))
  have hr1 : ((w.alloc (.cells #[.int .u8 76, .slice A dn c] 32)).alloc (.cells #[.int .u8 76] 5)).ownsRow w.heap.size 5 1 (.slice (some ⟨(w.alloc (.cells #[.int .u8 76, .slice A dn c] 32)).heap.size, 0, none⟩) 1 1) 1 (vals [76]) := own_one_at (w.alloc (.cells #[.int .u8 76, .slice A dn c] 32)) w.heap.size hb0.size 76 76 rfl
  have hne1 : (Value.slice (some ⟨(w.alloc (.cells #[.int .u8 76, .slice A dn c] 32)).heap.size, 0, none⟩) 1 1).ownBlock ≠ some w.heap.size := fun e => by
    have e2 : (w.alloc (.cells #[.int .u8 76, .slice A dn c] 32)).heap.size = w.heap.size := Option.some.inj e
    rw [World.size_alloc] at e2
    omega
  have hlx1 := (Array.getElem?_eq_some_iff.1 hx1).1
  obtain ⟨X2, m2, d2, W2, ha2, hm2, hr2, hx2, hn2, hbw2⟩ := push_run (((w.alloc (.cells #[.int .u8 76, .slice A dn c] 32)).alloc (.cells #[.int .u8 76] 5)).alloc (.cells #[.int .u8 (y.toNat : Int)] 5)) w.heap.size _ (some ⟨(w.alloc (.cells #[.int .u8 76, .slice A dn c] 32)).heap.size, 0, none⟩) 1 1 [76] rfl (ownsRow_below hr1 (below_new ((w.alloc (.cells #[.int .u8 76, .slice A dn c] 32)).alloc (.cells #[.int .u8 76] 5)) _)) (some ⟨((w.alloc (.cells #[.int .u8 76, .slice A dn c] 32)).alloc (.cells #[.int .u8 76] 5)).heap.size, 0, none⟩) 1 1 [y] rfl (.inl (holds_one ((w.alloc (.cells #[.int .u8 76, .slice A dn c] 32)).alloc (.cells #[.int .u8 76] 5)) y)) w.heap.size _ (((below_new ((w.alloc (.cells #[.int .u8 76, .slice A dn c] 32)).alloc (.cells #[.int .u8 76] 5)) (.cells #[.int .u8 (y.toNat : Int)] 5)).block _ hlx1).trans hx1) hne1 (by simp) (bt0 hb1 (below_new ((w.alloc (.cells #[.int .u8 76, .slice A dn c] 32)).alloc (.cells #[.int .u8 76] 5)) (.cells #[.int .u8 (y.toNat : Int)] 5))).size
  have hbW2 := hbw2 w (Nat.le_refl _) (bt0 hb1 (below_new ((w.alloc (.cells #[.int .u8 76, .slice A dn c] 32)).alloc (.cells #[.int .u8 76] 5)) (.cells #[.int .u8 (y.toNat : Int)] 5)))
  have e0 := cell_of_row W2 w.heap.size 0 _ _ _ hx2
  have e1 := cell_of_row W2 w.heap.size 1 _ _ _ hx2
  simp only [List.getElem?_toArray, List.getElem?_cons_zero, List.getElem?_cons_succ] at e0 e1
  have hl2 := (Array.getElem?_eq_some_iff.1 hx2).1
  simp only [World.size_alloc] at ha2
  obtain ⟨X4, m4, d4, W4, ha4, hm4, hr4, hx4, hn4, hbw4⟩ := push_run W2 w.heap.size n₀ X2 m2 d2 ([76] ++ [y]) hm2 hr2 A c dn bs hdn.symm (hh.below (hbW2.mono hn0) (Nat.le_refl _)) w.heap.size _ hx2 hn2 (by simp only [List.length_append, List.length_cons, List.length_nil]; omega) hbW2.size
  have HB4 := Lib.hid (hbw4 w (Nat.le_refl _) hbW2)
  have HR4 := Lib.hid hr4
  have HM4 := Lib.hid hm4
  clear hr4 hm4 hx4 hn4 hbw4 hr1 hne1 hh hdn hr2 hm2 hn2 hbw2 hbW2 hx2 hb0 hb1 hx1 hlx1 hy 
  go_enter Try.func35, Try.ntmps35
  go_wp2_with (first
    | (at_builtin; refine wpList_append_run (.tmp 14) (.tmp 17) 22 rfl (by rfl) _ _ rfl rfl _ _ ha2 ?_; clear ha2)
    | (at_builtin; refine wpList_append_run (.tmp 31) (.tmp 33) 22 rfl (by rfl) _ _ rfl rfl _ _ ha4 ?_; clear ha4))
  go_ret
  have hfin : opBytes (76, bs) = ([76] ++ [y]) ++ bs := by unfold opBytes; rw [HHD.out]; simp
  rw [hfin]
  exact ⟨_, rfl, by rw [← HM4.out]; exact HR4.out, HB4.out⟩
set_option maxRecDepth 100000 in
set_option maxHeartbeats 2000000 in
theorem byt_77 (bs : List UInt8) (dn : Nat) (hdn : bs.length = dn) (hd7 : dn ≤ 10000000) (A : Option Addr) (c n₀ : Nat) (w : World) (hh : Bytes8 n₀ w A bs) (hn0 : n₀ ≤ w.heap.size) : Calls Try.prog 35 #[.agg #[.int .u8 77, .slice A dn c]] w (OwnBytes w (opBytes (77, bs))) := by
  obtain ⟨y, hy⟩ : ∃ y, UInt8.ofNat (dn % 256) = y := ⟨_, rfl⟩
  have ey : (dn : Int) % 256 = (y.toNat : Int) := by rw [← hy, UInt8.toNat_ofNat']; omega
  obtain ⟨z, hz⟩ : ∃ z, UInt8.ofNat (dn / 256 % 256) = z := ⟨_, rfl⟩
  have ez : (dn : Int) / 256 % 256 = (z.toNat : Int) := by rw [← hz, UInt8.toNat_ofNat']; omega
  have ey2 : (dn : Int) % 256 % 256 = (y.toNat : Int) := by omega
  have HHD := Lib.hid (show headOf (77, bs) = [y, z] by unfold headOf; dsimp only; rw [if_neg (by decide), if_pos (by rfl), hdn, hy, hz])
  have HDN := Lib.hid hdn
  have hb0 := below_new w (.cells #[.int .u8 77, .slice A dn c] 32)
  have hb1 := bt0 hb0 (below_new (w.alloc (.cells #[.int .u8 77, .slice A dn c] 32)) (.cells #[.int .u8 77] 5))
  have hx1 := ((below_new (w.alloc (.cells #[.int .u8 77, .slice A dn c] 32)) (.cells #[.int .u8 77] 5)).block w.heap.size (by rw [World.size_alloc]; omega)).trans (World.alloc_heap_new w (.cells #[.int .u8 77, .slice A dn c] 32))
  have hr1 : ((w.alloc (.cells #[.int .u8 77, .slice A dn c] 32)).alloc (.cells #[.int .u8 77] 5)).ownsRow w.heap.size 5 1 (.slice (some ⟨(w.alloc (.cells #[.int .u8 77, .slice A dn c] 32)).heap.size, 0, none⟩) 1 1) 1 (vals [77]) := own_one_at (w.alloc (.cells #[.int .u8 77, .slice A dn c] 32)) w.heap.size hb0.size 77 77 rfl
  have hne1 : (Value.slice (some ⟨(w.alloc (.cells #[.int .u8 77, .slice A dn c] 32)).heap.size, 0, none⟩) 1 1).ownBlock ≠ some w.heap.size := fun e => by
    have e2 : (w.alloc (.cells #[.int .u8 77, .slice A dn c] 32)).heap.size = w.heap.size := Option.some.inj e
    rw [World.size_alloc] at e2
    omega
  have hlx1 := (Array.getElem?_eq_some_iff.1 hx1).1
  obtain ⟨X2, m2, d2, W2, ha2, hm2, hr2, hx2, hn2, hbw2⟩ := push_run (((w.alloc (.cells #[.int .u8 77, .slice A dn c] 32)).alloc (.cells #[.int .u8 77] 5)).alloc (.cells #[.int .u8 (y.toNat : Int), .int .u8 (z.toNat : Int)] 5)) w.heap.size _ (some ⟨(w.alloc (.cells #[.int .u8 77, .slice A dn c] 32)).heap.size, 0, none⟩) 1 1 [77] rfl (ownsRow_below hr1 (below_new ((w.alloc (.cells #[.int .u8 77, .slice A dn c] 32)).alloc (.cells #[.int .u8 77] 5)) _)) (some ⟨((w.alloc (.cells #[.int .u8 77, .slice A dn c] 32)).alloc (.cells #[.int .u8 77] 5)).heap.size, 0, none⟩) 2 2 [y, z] rfl (.inl (holds_two ((w.alloc (.cells #[.int .u8 77, .slice A dn c] 32)).alloc (.cells #[.int .u8 77] 5)) y z)) w.heap.size _ (((below_new ((w.alloc (.cells #[.int .u8 77, .slice A dn c] 32)).alloc (.cells #[.int .u8 77] 5)) (.cells #[.int .u8 (y.toNat : Int), .int .u8 (z.toNat : Int)] 5)).block _ hlx1).trans hx1) hne1 (by simp) (bt0 hb1 (below_new ((w.alloc (.cells #[.int .u8 77, .slice A dn c] 32)).alloc (.cells #[.int .u8 77] 5)) (.cells #[.int .u8 (y.toNat : Int), .int .u8 (z.toNat : Int)] 5))).size
  have hbW2 := hbw2 w (Nat.le_refl _) (bt0 hb1 (below_new ((w.alloc (.cells #[.int .u8 77, .slice A dn c] 32)).alloc (.cells #[.int .u8 77] 5)) (.cells #[.int .u8 (y.toNat : Int), .int .u8 (z.toNat : Int)] 5)))
  have e0 := cell_of_row W2 w.heap.size 0 _ _ _ hx2
  have e1 := cell_of_row W2 w.heap.size 1 _ _ _ hx2
  simp only [List.getElem?_toArray, List.getElem?_cons_zero, List.getElem?_cons_succ] at e0 e1
  have hl2 := (Array.getElem?_eq_some_iff.1 hx2).1
  simp only [World.size_alloc] at ha2
  obtain ⟨X4, m4, d4, W4, ha4, hm4, hr4, hx4, hn4, hbw4⟩ := push_run W2 w.heap.size n₀ X2 m2 d2 ([77] ++ [y, z]) hm2 hr2 A c dn bs hdn.symm (hh.below (hbW2.mono hn0) (Nat.le_refl _)) w.heap.size _ hx2 hn2 (by simp only [List.length_append, List.length_cons, List.length_nil]; omega) hbW2.size
  have HB4 := Lib.hid (hbw4 w (Nat.le_refl _) hbW2)
  have HR4 := Lib.hid hr4
  have HM4 := Lib.hid hm4
  clear hr4 hm4 hx4 hn4 hbw4 hr1 hne1 hh hdn hr2 hm2 hn2 hbw2 hbW2 hx2 hb0 hb1 hx1 hlx1 hy hz
  go_enter Try.func35, Try.ntmps35
  go_wp2_with (first
    | (at_builtin; refine wpList_append_run (.tmp 22) (.tmp 29) 22 rfl (by rfl) _ _ rfl rfl _ _ ha2 ?_; clear ha2)
    | (at_builtin; refine wpList_append_run (.tmp 31) (.tmp 33) 22 rfl (by rfl) _ _ rfl rfl _ _ ha4 ?_; clear ha4))
  go_ret
  have hfin : opBytes (77, bs) = ([77] ++ [y, z]) ++ bs := by unfold opBytes; rw [HHD.out]; simp
  rw [hfin]
  exact ⟨_, rfl, by rw [← HM4.out]; exact HR4.out, HB4.out⟩
set_option maxRecDepth 100000 in
set_option maxHeartbeats 2000000 in
theorem byt_no (x : UInt8) (f1 : ((x.toNat : Int) == 76) = false) (f2 : ((x.toNat : Int) == 77) = false) (bs : List UInt8) (dn : Nat) (hdn : bs.length = dn) (hd7 : dn ≤ 10000000) (A : Option Addr) (c n₀ : Nat) (w : World) (hh : Bytes8 n₀ w A bs) (hn0 : n₀ ≤ w.heap.size) : Calls Try.prog 35 #[.agg #[.int .u8 (x.toNat : Int), .slice A dn c]] w (OwnBytes w (opBytes (x, bs))) := by
  have HHD := Lib.hid (show headOf (x, bs) = [] by unfold headOf; dsimp only; rw [if_neg (by intro h; rw [h] at f1; exact absurd f1 (by decide)), if_neg (by intro h; rw [h] at f2; exact absurd f2 (by decide))])
  have HDN := Lib.hid hdn
  have hb0 := below_new w (.cells #[.int .u8 (x.toNat : Int), .slice A dn c] 32)
  have hb1 := bt0 hb0 (below_new (w.alloc (.cells #[.int .u8 (x.toNat : Int), .slice A dn c] 32)) (.cells #[.int .u8 (x.toNat : Int)] 5))
  have hx1 := ((below_new (w.alloc (.cells #[.int .u8 (x.toNat : Int), .slice A dn c] 32)) (.cells #[.int .u8 (x.toNat : Int)] 5)).block w.heap.size (by rw [World.size_alloc]; omega)).trans (World.alloc_heap_new w (.cells #[.int .u8 (x.toNat : Int), .slice A dn c] 32))
  have hr1 : ((w.alloc (.cells #[.int .u8 (x.toNat : Int), .slice A dn c] 32)).alloc (.cells #[.int .u8 (x.toNat : Int)] 5)).ownsRow w.heap.size 5 1 (.slice (some ⟨(w.alloc (.cells #[.int .u8 (x.toNat : Int), .slice A dn c] 32)).heap.size, 0, none⟩) 1 1) 1 (vals [x]) := own_one_at (w.alloc (.cells #[.int .u8 (x.toNat : Int), .slice A dn c] 32)) w.heap.size hb0.size (x.toNat : Int) x rfl
  have hne1 : (Value.slice (some ⟨(w.alloc (.cells #[.int .u8 (x.toNat : Int), .slice A dn c] 32)).heap.size, 0, none⟩) 1 1).ownBlock ≠ some w.heap.size := fun e => by
    have e2 : (w.alloc (.cells #[.int .u8 (x.toNat : Int), .slice A dn c] 32)).heap.size = w.heap.size := Option.some.inj e
    rw [World.size_alloc] at e2
    omega
  have hlx1 := (Array.getElem?_eq_some_iff.1 hx1).1
  obtain ⟨X4, m4, d4, W4, ha4, hm4, hr4, hx4, hn4, hbw4⟩ := push_run ((w.alloc (.cells #[.int .u8 (x.toNat : Int), .slice A dn c] 32)).alloc (.cells #[.int .u8 (x.toNat : Int)] 5)) w.heap.size n₀ (some ⟨(w.alloc (.cells #[.int .u8 (x.toNat : Int), .slice A dn c] 32)).heap.size, 0, none⟩) 1 1 [x] rfl hr1 A c dn bs hdn.symm (hh.below (hb1.mono hn0) (Nat.le_refl _)) w.heap.size _ hx1 hne1 (by simp only [List.length_append, List.length_cons, List.length_nil]; omega) hb1.size
  have HB4 := Lib.hid (hbw4 w (Nat.le_refl _) hb1)
  have HR4 := Lib.hid hr4
  have HM4 := Lib.hid hm4
  have e0 := cell_of_row _ w.heap.size 0 _ _ _ hx1
  have e1 := cell_of_row _ w.heap.size 1 _ _ _ hx1
  simp only [List.getElem?_toArray, List.getElem?_cons_zero, List.getElem?_cons_succ] at e0 e1
  simp only [World.size_alloc] at ha4
  clear hr4 hm4 hx4 hn4 hbw4 hr1 hne1 hh hdn  hb0 hb1 hx1 hlx1  
  go_enter Try.func35, Try.ntmps35
  go_wp2_with (first
    | (at_builtin; refine wpList_append_run (.tmp 31) (.tmp 33) 22 rfl (by rfl) _ _ rfl rfl _ _ ha4 ?_; clear ha4))
  go_ret
  have hfin : opBytes (x, bs) = [x] ++ bs := by unfold opBytes; rw [HHD.out]; simp
  rw [hfin]
  exact ⟨_, rfl, by rw [← HM4.out]; exact HR4.out, HB4.out⟩
theorem refBytes_any (p : PV) (n₀ : Nat) (w : World) (hh : Bytes8 n₀ w p.A p.b) (hn0 : n₀ ≤ w.heap.size) (hl : p.b.length ≤ 10000000) : Calls Try.prog 35 #[.agg #[.int .u8 (p.code.toNat : Int), .slice p.A p.b.length p.c]] w (OwnBytes w (opBytes p.is)) := by
  obtain ⟨x, A, bs, c⟩ := p
  by_cases h76 : x.toNat = 76
  · obtain rfl : x = 76 := UInt8.toNat_inj.1 h76
    exact byt_76 bs _ rfl hl A c n₀ w hh hn0
  by_cases h77 : x.toNat = 77
  · obtain rfl : x = 77 := UInt8.toNat_inj.1 h77
    exact byt_77 bs _ rfl hl A c n₀ w hh hn0
  exact byt_no x (by rw [beq_eq_false_iff_ne]; omega) (by rw [beq_eq_false_iff_ne]; omega) bs _ rfl hl A c n₀ w hh hn0
end Go.Proofs.Ytkecldmjjhhlgaa.Oct
