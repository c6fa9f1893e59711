/- The contracts of the reference's Value and Push. No condition beyond the memory's reach. -/
import Derived.Test.YtkecldmjjhhlgaaOpsU
import Derived.Test.YtkecldmjjhhlgaaOctV
import Derived.Laws.ResultCell
namespace Go.Proofs.Ytkecldmjjhhlgaa.Oct
open Go.Proofs.Ytkecldmjjhhlgaa Go.RowKit Go.Shelf
set_option maxRecDepth 100000 in
set_option maxHeartbeats 1000000 in
theorem rval_bad (z : Int) (A : Option Addr) (n c : Nat) (w : World) (HVD : Calls Try.prog 34 #[.agg #[.int .u8 z, .slice A n c]] (w.alloc (.cells #[.int .u8 z, .slice A n c] 32)) fun e w' => e = .returned (.bool false) ∧ Below (w.alloc (.cells #[.int .u8 z, .slice A n c] 32)).heap.size (w.alloc (.cells #[.int .u8 z, .slice A n c] 32)) w') : Calls Try.prog 21 #[.agg #[.int .u8 z, .slice A n c]] w fun e w' => e = .returned (.tuple #[.slice none 0 0, .bool false]) ∧ Below w.heap.size w w' := by
  have HBA := Lib.hid (below_new w (.cells #[.int .u8 z, .slice A n c] 32))
  go_enter Try.func21, Try.ntmps21
  go_wp2_with (go_at_call 34; refine HVD.mono ?_; rintro e w1 ⟨rfl, hb⟩; have HB1 := Lib.hid (HBA.out.trans (hb.mono HBA.out.size)); have hx1 := (hb.block w.heap.size (by rw [World.size_alloc]; omega)).trans (World.alloc_heap_new w _); have e0 := cell_of_row w1 w.heap.size 0 _ _ _ hx1; have e1 := cell_of_row w1 w.heap.size 1 _ _ _ hx1; simp only [List.getElem?_toArray, List.getElem?_cons_zero, List.getElem?_cons_succ] at e0 e1; have hl1 := (Array.getElem?_eq_some_iff.1 hx1).1; clear hb hx1 HVD)
  go_ret2
  exact ⟨rfl, HB1.out⟩
set_option maxRecDepth 100000 in
set_option maxHeartbeats 1000000 in
theorem rval_77 (z : Int) (f0 : z < 78) (A : Option Addr) (bs : List UInt8) (n c : Nat) (w : World) (HVD : Calls Try.prog 34 #[.agg #[.int .u8 z, .slice A n c]] (w.alloc (.cells #[.int .u8 z, .slice A n c] 32)) fun e w' => e = .returned (.bool true) ∧ Below (w.alloc (.cells #[.int .u8 z, .slice A n c] 32)).heap.size (w.alloc (.cells #[.int .u8 z, .slice A n c] 32)) w') (hcl : ∀ w1 : World, Below w.heap.size w w1 → Calls Try.prog 30 #[.slice A n c] w1 (OwnBytes w1 bs)) : Calls Try.prog 21 #[.agg #[.int .u8 z, .slice A n c]] w (ValO w bs) := by
  have HBA := Lib.hid (below_new w (.cells #[.int .u8 z, .slice A n c] 32))
  go_enter Try.func21, Try.ntmps21
  go_wp2_with (first
    | (go_at_call 34; refine HVD.mono ?_; rintro e w1 ⟨rfl, hb⟩; have HB1 := Lib.hid (HBA.out.trans (hb.mono HBA.out.size)); have hx1 := (hb.block w.heap.size (by rw [World.size_alloc]; omega)).trans (World.alloc_heap_new w _); have e0 := cell_of_row w1 w.heap.size 0 _ _ _ hx1; have e1 := cell_of_row w1 w.heap.size 1 _ _ _ hx1; simp only [List.getElem?_toArray, List.getElem?_cons_zero, List.getElem?_cons_succ] at e0 e1; have hl1 := (Array.getElem?_eq_some_iff.1 hx1).1; clear hb hx1 HVD; have HC := Lib.hid (hcl w1 HB1.out))
    | (go_at_call 30; refine HC.out.mono ?_; rintro e w2 ⟨v, rfl, hown, hb2⟩))
  go_ret2
  exact ⟨v, rfl, ownsRow_base hown HB1.out.size, HB1.out.trans (hb2.mono HB1.out.size)⟩
set_option maxRecDepth 100000 in
set_option maxHeartbeats 1000000 in
theorem rval_79  (A : Option Addr) (n c : Nat) (w : World) (HVD : Calls Try.prog 34 #[.agg #[.int .u8 79, .slice A n c]] (w.alloc (.cells #[.int .u8 79, .slice A n c] 32)) fun e w' => e = .returned (.bool true) ∧ Below (w.alloc (.cells #[.int .u8 79, .slice A n c] 32)).heap.size (w.alloc (.cells #[.int .u8 79, .slice A n c] 32)) w') : Calls Try.prog 21 #[.agg #[.int .u8 79, .slice A n c]] w (ValO w [129]) := by
  have HBA := Lib.hid (below_new w (.cells #[.int .u8 79, .slice A n c] 32))
  go_enter Try.func21, Try.ntmps21
  go_wp2_with (go_at_call 34; refine HVD.mono ?_; rintro e w1 ⟨rfl, hb⟩; have HB1 := Lib.hid (HBA.out.trans (hb.mono HBA.out.size)); have hx1 := (hb.block w.heap.size (by rw [World.size_alloc]; omega)).trans (World.alloc_heap_new w _); have e0 := cell_of_row w1 w.heap.size 0 _ _ _ hx1; have e1 := cell_of_row w1 w.heap.size 1 _ _ _ hx1; simp only [List.getElem?_toArray, List.getElem?_cons_zero, List.getElem?_cons_succ] at e0 e1; have hl1 := (Array.getElem?_eq_some_iff.1 hx1).1; clear hb hx1 HVD)
  go_ret2
  exact ⟨_, rfl, own_one_at w1 w.heap.size HB1.out.size _ _ rfl, HB1.out.trans ((below_new w1 _).mono HB1.out.size)⟩
set_option maxRecDepth 100000 in
set_option maxHeartbeats 1000000 in
theorem rval_81 (z : Int) (f0 : (78 : Int) ≤ z) (f3 : (z == 79) = false) (f4 : (80 : Int) < z) (f5 : z < 97) (y : UInt8) (hy : z - 80 = (y.toNat : Int)) (A : Option Addr) (n c : Nat) (w : World) (HVD : Calls Try.prog 34 #[.agg #[.int .u8 z, .slice A n c]] (w.alloc (.cells #[.int .u8 z, .slice A n c] 32)) fun e w' => e = .returned (.bool true) ∧ Below (w.alloc (.cells #[.int .u8 z, .slice A n c] 32)).heap.size (w.alloc (.cells #[.int .u8 z, .slice A n c] 32)) w') : Calls Try.prog 21 #[.agg #[.int .u8 z, .slice A n c]] w (ValO w [y]) := by
  have HBA := Lib.hid (below_new w (.cells #[.int .u8 z, .slice A n c] 32))
  have HY := Lib.hid hy
  clear hy
  go_enter Try.func21, Try.ntmps21
  go_wp2_with (go_at_call 34; refine HVD.mono ?_; rintro e w1 ⟨rfl, hb⟩; have HB1 := Lib.hid (HBA.out.trans (hb.mono HBA.out.size)); have hx1 := (hb.block w.heap.size (by rw [World.size_alloc]; omega)).trans (World.alloc_heap_new w _); have e0 := cell_of_row w1 w.heap.size 0 _ _ _ hx1; have e1 := cell_of_row w1 w.heap.size 1 _ _ _ hx1; simp only [List.getElem?_toArray, List.getElem?_cons_zero, List.getElem?_cons_succ] at e0 e1; have hl1 := (Array.getElem?_eq_some_iff.1 hx1).1; clear hb hx1 HVD)
  go_ret2
  exact ⟨_, rfl, own_one_at w1 w.heap.size HB1.out.size _ _ HY.out, HB1.out.trans ((below_new w1 _).mono HB1.out.size)⟩
set_option maxRecDepth 100000 in
set_option maxHeartbeats 1000000 in
theorem rval_97 (z : Int) (f0 : (78 : Int) ≤ z) (f3 : (z == 79) = false) (f4 : (80 : Int) < z) (f5 : (97 : Int) ≤ z) (A : Option Addr) (n c : Nat) (w : World) (HVD : Calls Try.prog 34 #[.agg #[.int .u8 z, .slice A n c]] (w.alloc (.cells #[.int .u8 z, .slice A n c] 32)) fun e w' => e = .returned (.bool true) ∧ Below (w.alloc (.cells #[.int .u8 z, .slice A n c] 32)).heap.size (w.alloc (.cells #[.int .u8 z, .slice A n c] 32)) w') : Calls Try.prog 21 #[.agg #[.int .u8 z, .slice A n c]] w fun e w' => e = .returned (.tuple #[.slice none 0 0, .bool false]) ∧ Below w.heap.size w w' := by
  have HBA := Lib.hid (below_new w (.cells #[.int .u8 z, .slice A n c] 32))
  go_enter Try.func21, Try.ntmps21
  go_wp2_with (go_at_call 34; refine HVD.mono ?_; rintro e w1 ⟨rfl, hb⟩; have HB1 := Lib.hid (HBA.out.trans (hb.mono HBA.out.size)); have hx1 := (hb.block w.heap.size (by rw [World.size_alloc]; omega)).trans (World.alloc_heap_new w _); have e0 := cell_of_row w1 w.heap.size 0 _ _ _ hx1; have e1 := cell_of_row w1 w.heap.size 1 _ _ _ hx1; simp only [List.getElem?_toArray, List.getElem?_cons_zero, List.getElem?_cons_succ] at e0 e1; have hl1 := (Array.getElem?_eq_some_iff.1 hx1).1; clear hb hx1 HVD)
  go_ret2
  exact ⟨rfl, HB1.out⟩
set_option maxRecDepth 100000 in
set_option maxHeartbeats 1000000 in
theorem rval_80 (z : Int) (f0 : (78 : Int) ≤ z) (f3 : (z == 79) = false) (f4 : decide ((80 : Int) < z) = false) (A : Option Addr) (n c : Nat) (w : World) (HVD : Calls Try.prog 34 #[.agg #[.int .u8 z, .slice A n c]] (w.alloc (.cells #[.int .u8 z, .slice A n c] 32)) fun e w' => e = .returned (.bool true) ∧ Below (w.alloc (.cells #[.int .u8 z, .slice A n c] 32)).heap.size (w.alloc (.cells #[.int .u8 z, .slice A n c] 32)) w') : Calls Try.prog 21 #[.agg #[.int .u8 z, .slice A n c]] w fun e w' => e = .returned (.tuple #[.slice none 0 0, .bool false]) ∧ Below w.heap.size w w' := by
  have HBA := Lib.hid (below_new w (.cells #[.int .u8 z, .slice A n c] 32))
  go_enter Try.func21, Try.ntmps21
  go_wp2_with (go_at_call 34; refine HVD.mono ?_; rintro e w1 ⟨rfl, hb⟩; have HB1 := Lib.hid (HBA.out.trans (hb.mono HBA.out.size)); have hx1 := (hb.block w.heap.size (by rw [World.size_alloc]; omega)).trans (World.alloc_heap_new w _); have e0 := cell_of_row w1 w.heap.size 0 _ _ _ hx1; have e1 := cell_of_row w1 w.heap.size 1 _ _ _ hx1; simp only [List.getElem?_toArray, List.getElem?_cons_zero, List.getElem?_cons_succ] at e0 e1; have hl1 := (Array.getElem?_eq_some_iff.1 hx1).1; clear hb hx1 HVD)
  go_ret2
  exact ⟨rfl, HB1.out⟩
set_option maxRecDepth 100000 in
theorem refValue_any (p : PV) (n₀ : Nat) (w : World) (hh : Bytes8 n₀ w p.A p.b) (hn0 : n₀ ≤ w.heap.size) : Calls Try.prog 21 #[.agg #[.int .u8 (p.code.toNat : Int), .slice p.A p.b.length p.c]] w (ValR w p.is) := by
  have HVD := refMay_any p (w.alloc (.cells #[.int .u8 (p.code.toNat : Int), .slice p.A p.b.length p.c] 32))
  obtain ⟨x, A, bs, c⟩ := p
  simp only at hh HVD ⊢
  have hx := UInt8.toNat_lt x
  have his : (PV.is ⟨x, A, bs, c⟩) = (x, bs) := rfl
  rw [his] at HVD ⊢
  cases hv : validB (x, bs) with
  | false =>
    rw [hv] at HVD
    refine (rval_bad (x.toNat : Int) A bs.length c w HVD).mono fun e w' h => ?_
    exact ⟨h.2, .inr ⟨by unfold valB; rw [if_neg (by rw [hv]; decide)], h.1⟩⟩
  | true =>
    rw [hv] at HVD
    have hsm : bs.length ≤ 65535 := valid_small hv
    have hcl : ∀ w1 : World, Below w.heap.size w w1 → Calls Try.prog 30 #[.slice A bs.length c] w1 (OwnBytes w1 bs) := fun w1 hb1 => twin_in bs A c n₀ w1 (hh.below (hb1.mono hn0) (Nat.le_refl _)) (by omega)
    by_cases h77 : x.toNat ≤ 77
    · exact (rval_77 (x.toNat : Int) (by omega) A bs bs.length c w HVD hcl).mono fun e w' ⟨v, he, ho, hb⟩ => ⟨hb, .inl ⟨bs, v, by unfold valB; rw [if_pos hv, if_pos h77], he, ho⟩⟩
    by_cases h79 : x.toNat = 79
    · have hz : (x.toNat : Int) = 79 := by omega
      rw [hz] at HVD ⊢
      exact (rval_79 A bs.length c w HVD).mono fun e w' ⟨v, he, ho, hb⟩ => ⟨hb, .inl ⟨[129], v, by unfold valB; rw [if_pos hv]; dsimp only; rw [if_neg (by omega), if_pos h79], he, ho⟩⟩
    have f0 : (78 : Int) ≤ (x.toNat : Int) := by omega
    have f3 : ((x.toNat : Int) == 79) = false := by rw [beq_eq_false_iff_ne]; omega
    by_cases h81 : 80 < x.toNat
    · by_cases h96 : x.toNat < 97
      · have hy : (x.toNat : Int) - 80 = ((UInt8.ofNat (x.toNat - 80)).toNat : Int) := by rw [UInt8.toNat_ofNat']; omega
        exact (rval_81 (x.toNat : Int) f0 f3 (by omega) (by omega) _ hy A bs.length c w HVD).mono fun e w' ⟨v, he, ho, hb⟩ => ⟨hb, .inl ⟨[UInt8.ofNat (x.toNat - 80)], v, by unfold valB; rw [if_pos hv]; dsimp only; rw [if_neg (by omega), if_neg h79, if_pos ⟨by omega, by omega⟩], he, ho⟩⟩
      · exact (rval_97 (x.toNat : Int) f0 f3 (by omega) (by omega) A bs.length c w HVD).mono fun e w' h => ⟨h.2, .inr ⟨by unfold valB; rw [if_pos hv]; dsimp only; rw [if_neg (by omega), if_neg h79, if_neg (by omega)], h.1⟩⟩
    · exact (rval_80 (x.toNat : Int) f0 f3 (by simp; omega) A bs.length c w HVD).mono fun e w' h => ⟨h.2, .inr ⟨by unfold valB; rw [if_pos hv]; dsimp only; rw [if_neg (by omega), if_neg h79, if_neg (by omega)], h.1⟩⟩
set_option maxRecDepth 100000 in
set_option maxHeartbeats 1000000 in
theorem rpush_75 (bs : List UInt8) (n : Nat) (HN : Hid (n = bs.length)) (hn6 : n ≤ 1000000000) (A : Option Addr) (c : Nat) (w : World) (HC : Hid (Calls Try.prog 30 #[.slice A n c] (w.alloc (.cells #[.int .u8 0, .slice none 0 0] 32)) (OwnBytes (w.alloc (.cells #[.int .u8 0, .slice none 0 0] 32)) bs))) (f0 : (n : Int) < 76) (f1 : (n : Int) < 256) (f2 : (n : Int) ≤ 65535) :
    Calls Try.prog 23 #[.slice A n c] w (PushO w bs (n : Int)) := by
  have HB0 := Lib.hid (below_new w (.cells #[.int .u8 0, .slice none 0 0] 32))
  go_enter Try.func23, Try.ntmps23
  go_wp2_with (go_at_call 30; refine HC.out.mono ?_; rintro e w1 ⟨v, rfl, hown, hb⟩; have hx1 := (hb.block w.heap.size (by rw [World.size_alloc]; omega)).trans (World.alloc_heap_new w _); obtain ⟨e0, e1, g0, g1⟩ := two_cells hx1; have hl1 := (Array.getElem?_eq_some_iff.1 hx1).1; obtain ⟨X, cx, rfl, h8, _, _, hxb⟩ := own_open hown; rw [← HN.out]; have H8 := Lib.hid h8; have HXB := Lib.hid hxb; have HB1 := Lib.hid hb; clear hb hx1 hown h8 hxb)
  (try simp only [Exit.inBlock, Exit.then])
  refine bodyPost_ret (v := .tuple #[.agg #[.int .u8 (n : Int), .slice X n cx], .int .i64 0]) ?_ rfl ?_
  · rw [results_cell_tmp rfl]
    go_simp
  · refine ⟨X, cx, by rw [HN.out], ?_, fun a ha => ?_, ?_⟩
    · refine holds_keep H8.out (fun a ha => ?_) ?_
      · have q := HXB.out a ha
        rw [World.size_alloc] at q
        rw [alloc_old _ _ _ (by rw [set_size, set_size]; exact q.2), set_block _ _ _ _ (show w.heap.size ≠ a.block by omega), set_block _ _ _ _ (show w.heap.size ≠ a.block by omega)]
      · rw [World.size_alloc, set_size, set_size]
        omega
    · have q := HXB.out a ha
      rw [World.size_alloc] at q
      omega
    · exact (below_set _ (below_set _ (btr HB0.out HB1.out HB0.out.size) (Nat.le_refl _) _) (Nat.le_refl _) _).alloc (by rw [set_size, set_size]; omega) _
set_option maxRecDepth 100000 in
set_option maxHeartbeats 1000000 in
theorem rpush_76 (bs : List UInt8) (n : Nat) (HN : Hid (n = bs.length)) (hn6 : n ≤ 1000000000) (A : Option Addr) (c : Nat) (w : World) (HC : Hid (Calls Try.prog 30 #[.slice A n c] (w.alloc (.cells #[.int .u8 0, .slice none 0 0] 32)) (OwnBytes (w.alloc (.cells #[.int .u8 0, .slice none 0 0] 32)) bs))) (f0 : (76 : Int) ≤ (n : Int)) (f1 : (n : Int) < 256) (f2 : (n : Int) ≤ 65535) :
    Calls Try.prog 23 #[.slice A n c] w (PushO w bs 76) := by
  have HB0 := Lib.hid (below_new w (.cells #[.int .u8 0, .slice none 0 0] 32))
  go_enter Try.func23, Try.ntmps23
  go_wp2_with (go_at_call 30; refine HC.out.mono ?_; rintro e w1 ⟨v, rfl, hown, hb⟩; have hx1 := (hb.block w.heap.size (by rw [World.size_alloc]; omega)).trans (World.alloc_heap_new w _); obtain ⟨e0, e1, g0, g1⟩ := two_cells hx1; have hl1 := (Array.getElem?_eq_some_iff.1 hx1).1; obtain ⟨X, cx, rfl, h8, _, _, hxb⟩ := own_open hown; rw [← HN.out]; have H8 := Lib.hid h8; have HXB := Lib.hid hxb; have HB1 := Lib.hid hb; clear hb hx1 hown h8 hxb)
  (try simp only [Exit.inBlock, Exit.then])
  refine bodyPost_ret (v := .tuple #[.agg #[.int .u8 76, .slice X n cx], .int .i64 0]) ?_ rfl ?_
  · rw [results_cell_tmp rfl]
    go_simp
  · refine ⟨X, cx, by rw [HN.out], ?_, fun a ha => ?_, ?_⟩
    · refine holds_keep H8.out (fun a ha => ?_) ?_
      · have q := HXB.out a ha
        rw [World.size_alloc] at q
        rw [alloc_old _ _ _ (by rw [set_size, set_size]; exact q.2), set_block _ _ _ _ (show w.heap.size ≠ a.block by omega), set_block _ _ _ _ (show w.heap.size ≠ a.block by omega)]
      · rw [World.size_alloc, set_size, set_size]
        omega
    · have q := HXB.out a ha
      rw [World.size_alloc] at q
      omega
    · exact (below_set _ (below_set _ (btr HB0.out HB1.out HB0.out.size) (Nat.le_refl _) _) (Nat.le_refl _) _).alloc (by rw [set_size, set_size]; omega) _
set_option maxRecDepth 100000 in
set_option maxHeartbeats 1000000 in
theorem rpush_77 (bs : List UInt8) (n : Nat) (HN : Hid (n = bs.length)) (hn6 : n ≤ 1000000000) (A : Option Addr) (c : Nat) (w : World) (HC : Hid (Calls Try.prog 30 #[.slice A n c] (w.alloc (.cells #[.int .u8 0, .slice none 0 0] 32)) (OwnBytes (w.alloc (.cells #[.int .u8 0, .slice none 0 0] 32)) bs))) (f0 : (76 : Int) ≤ (n : Int)) (f1 : (256 : Int) ≤ (n : Int)) (f2 : (n : Int) ≤ 65535) :
    Calls Try.prog 23 #[.slice A n c] w (PushO w bs 77) := by
  have HB0 := Lib.hid (below_new w (.cells #[.int .u8 0, .slice none 0 0] 32))
  go_enter Try.func23, Try.ntmps23
  go_wp2_with (go_at_call 30; refine HC.out.mono ?_; rintro e w1 ⟨v, rfl, hown, hb⟩; have hx1 := (hb.block w.heap.size (by rw [World.size_alloc]; omega)).trans (World.alloc_heap_new w _); obtain ⟨e0, e1, g0, g1⟩ := two_cells hx1; have hl1 := (Array.getElem?_eq_some_iff.1 hx1).1; obtain ⟨X, cx, rfl, h8, _, _, hxb⟩ := own_open hown; rw [← HN.out]; have H8 := Lib.hid h8; have HXB := Lib.hid hxb; have HB1 := Lib.hid hb; clear hb hx1 hown h8 hxb)
  (try simp only [Exit.inBlock, Exit.then])
  refine bodyPost_ret (v := .tuple #[.agg #[.int .u8 77, .slice X n cx], .int .i64 0]) ?_ rfl ?_
  · rw [results_cell_tmp rfl]
    go_simp
  · refine ⟨X, cx, by rw [HN.out], ?_, fun a ha => ?_, ?_⟩
    · refine holds_keep H8.out (fun a ha => ?_) ?_
      · have q := HXB.out a ha
        rw [World.size_alloc] at q
        rw [alloc_old _ _ _ (by rw [set_size, set_size]; exact q.2), set_block _ _ _ _ (show w.heap.size ≠ a.block by omega), set_block _ _ _ _ (show w.heap.size ≠ a.block by omega)]
      · rw [World.size_alloc, set_size, set_size]
        omega
    · have q := HXB.out a ha
      rw [World.size_alloc] at q
      omega
    · exact (below_set _ (below_set _ (btr HB0.out HB1.out HB0.out.size) (Nat.le_refl _) _) (Nat.le_refl _) _).alloc (by rw [set_size, set_size]; omega) _
set_option maxRecDepth 100000 in
theorem rpush_bad (n : Nat) (A : Option Addr) (c : Nat) (w : World) (f0 : (65535 : Int) < (n : Int)) : Calls Try.prog 23 #[.slice A n c] w fun e w' => e = .returned (.tuple #[.agg #[.int .u8 0, .slice none 0 0], .int .i64 100]) ∧ Below w.heap.size w w' := by
  go_enter Try.func23, Try.ntmps23
  go_wp2
  (try simp only [Exit.inBlock, Exit.then])
  refine bodyPost_ret (v := .tuple #[.agg #[.int .u8 0, .slice none 0 0], .int .i64 100]) ?_ rfl ?_
  · rw [results_cell_tmp rfl]
    go_simp
  · exact ⟨rfl, below_new w _⟩
theorem refPush_any (bs : List UInt8) (n : Nat) (hn : n = bs.length) (hn6 : n ≤ 1000000000) (A : Option Addr) (c n₀ : Nat) (w : World) (hh : Bytes8 n₀ w A bs) (hn0 : n₀ ≤ w.heap.size) : Calls Try.prog 23 #[.slice A n c] w (PushR w bs) := by
  have hb := below_new w (.cells #[.int .u8 0, .slice none 0 0] 32)
  have hc := twin_in bs A c n₀ (w.alloc (.cells #[.int .u8 0, .slice none 0 0] 32)) (hh.below (hb.mono hn0) (Nat.le_refl _)) (by omega)
  rw [← hn] at hc
  have HC := Lib.hid hc
  by_cases h3 : n ≤ 65535
  · by_cases h1 : n ≤ 75
    · exact (rpush_75 bs n (Lib.hid hn) hn6 A c w HC (by omega) (by omega) (by omega)).mono fun e w' h => h.is (by omega) (by rw [← hn]; unfold pushC; rw [if_pos h1])
    by_cases h2 : n ≤ 255
    · exact (rpush_76 bs n (Lib.hid hn) hn6 A c w HC (by omega) (by omega) (by omega)).mono fun e w' h => h.is (by omega) (by rw [← hn]; unfold pushC; rw [if_neg h1, if_pos h2]; rfl)
    · exact (rpush_77 bs n (Lib.hid hn) hn6 A c w HC (by omega) (by omega) (by omega)).mono fun e w' h => h.is (by omega) (by rw [← hn]; unfold pushC; rw [if_neg h1, if_neg h2]; rfl)
  · exact (rpush_bad n A c w (by omega)).mono fun e w' h => ⟨h.2, .inr ⟨by omega, h.1⟩⟩
end Go.Proofs.Ytkecldmjjhhlgaa.Oct
