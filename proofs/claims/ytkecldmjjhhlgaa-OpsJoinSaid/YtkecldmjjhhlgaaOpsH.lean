/- The contract of ops.Join. No condition beyond the memory's reach. -/
import Derived.Test.YtkecldmjjhhlgaaOpsG
import Derived.Test.YtkecldmjjhhlgaaOpsR
namespace Go.Proofs.Ytkecldmjjhhlgaa.Oct
open Go.Proofs.Ytkecldmjjhhlgaa Go.RowKit Go.Shelf
theorem below_new (w : World) (o : Obj) : Below w.heap.size w (w.alloc o) := (Below.refl _ w).alloc (Nat.le_refl _) o
theorem push_run (W : World) (base n₀ : Nat) (VA : Option Addr) (m vc : Nat) (xs : List UInt8) (hm : m = xs.length) (hown : W.ownsRow base 5 1 (.slice VA m vc) m (vals xs)) (B : Option Addr) (c k : Nat) (ys : List UInt8) (hk : k = ys.length) (hh : Bytes8 n₀ W B ys) (bx : Nat) (o : Obj) (hbx : W.heap[bx]? = some o) (hne : (Value.slice VA m vc).ownBlock ≠ some bx) (hl : xs.length + ys.length ≤ 100000000) (hbase : base ≤ W.heap.size) :
    ∃ X m' cx W', (Builtin.append_ #[22, 22] 22 #[.slice VA m vc, .slice B k c]).run Try.prog W = .ok (.slice X m' cx) W' ∧ m' = (xs ++ ys).length ∧ W'.ownsRow base 5 1 (.slice X m' cx) m' (vals (xs ++ ys)) ∧ W'.heap[bx]? = some o ∧ (Value.slice X m' cx).ownBlock ≠ some bx ∧ (∀ W0, W0.heap.size ≤ base → Below W0.heap.size W0 W → Below W0.heap.size W0 W') := by
  subst hm hk
  obtain ⟨v', w', hr, h2, h3, h4⟩ := append_any W 22 base n₀ _ xs ys hown B c hh (by omega) hbase
  obtain ⟨X, cx, rfl, _⟩ := own_open h2
  have hb := (Array.getElem?_eq_some_iff.1 hbx).1
  refine ⟨X, _, cx, w', hr, rfl, h2, (h3.block bx hb (fun e => hne e.symm)).trans hbx, ?_, fun W0 h5 h6 => h6.grown h3 (Nat.le_trans h5 hbase) (fun r e => Nat.le_trans h5 (own_row_ge hown r e))⟩
  rcases h4 with q | q
  · rw [q]; exact hne
  · rw [q]; intro e; injection e with e; omega
theorem holds_two (w : World) (y z : UInt8) : Holds8 (w.alloc (.cells #[.int .u8 (y.toNat : Int), .int .u8 (z.toNat : Int)] 5)).heap.size (w.alloc (.cells #[.int .u8 (y.toNat : Int), .int .u8 (z.toNat : Int)] 5)) (some ⟨w.heap.size, 0, none⟩) [y, z] := holds_lit w [.int .u8 (y.toNat : Int), .int .u8 (z.toNat : Int)] [y, z] rfl 2 rfl
def JoinR (w : World) (L : List (UInt8 × List UInt8)) (e : Ending) (w' : World) : Prop :=
  Below w.heap.size w w' ∧ ((L.all validB = true ∧ ∃ X c, e = .returned (.tuple #[.slice X (joinB L).length c, .int .i64 0]) ∧ w'.ownsRow w.heap.size 5 1 (.slice X (joinB L).length c) (joinB L).length (vals (joinB L))) ∨ (L.all validB = false ∧ e = .returned (.tuple #[.slice none 0 0, .int .i64 100])))
theorem joinB_take_le (l : List PV) (q : Nat) : (joinB ((l.take q).map PV.is)).length ≤ (joinB (l.map PV.is)).length := by
  conv => rhs; rw [← List.take_append_drop q l, List.map_append, joinB_append, List.length_append]
  omega
set_option maxRecDepth 100000 in
set_option maxHeartbeats 4000000 in
theorem join_any (l : List PV) (n : Nat) (hn : n = l.length) (LA : Option Addr) (c n₀ : Nat) (w : World) (hl : PvsAt n₀ w LA l) (hn0 : n₀ ≤ w.heap.size) (hsz : l.length ≤ 1000000) (hjl : (joinB (l.map PV.is)).length ≤ 10000000) :
    Calls Try.prog 17 #[.slice LA n c] w (JoinR w (l.map PV.is)) := by
  have HN := Lib.hid hn
  have HL := Lib.hid hl
  have hn6 : n ≤ 1000000 := by omega
  clear hn hl
  go_enter Try.func17, Try.ntmps17
  go_wp2
  go_loopw [4, 10] (fun sc i wr => ∃ (q m : Nat) (VA : Option Addr) (vc : Nat), q ≤ n ∧ i = .int .i64 (q : Int) ∧ sc = .slice VA m vc ∧ m = (joinB ((l.take q).map PV.is)).length ∧ wr.ownsRow w.heap.size 5 1 (.slice VA m vc) m (Go.Proofs.Ytkecldmjjhhlgaa.Oct.vals (joinB ((l.take q).map PV.is))) ∧ (∀ p ∈ l.take q, validB p.is = true) ∧ Below w.heap.size w wr) (fun _ i _ => n - (intOf i).toNat)
  case atStart => exact ⟨0, 0, none, 0, Nat.zero_le _, rfl, rfl, rfl, World.ownsRow_nil _ _ _ _, (fun p hp => by simp at hp), Below.refl _ _⟩
  case round =>
    obtain ⟨q, m, VA, vc, hq, rfl, rfl, hm, hrow, hva, hB⟩ := hrel
    by_cases hlt : q < n
    · have hql : q < l.length := by rw [← HN.out]; exact hlt
      obtain ⟨b1, o1, rfl, hb1, c1, c2⟩ := (HL.out.later (hB.mono hn0)).cells q hql
      have hbr1 : b1 < wr.heap.size := Nat.lt_of_lt_of_le hb1 (Nat.le_trans hn0 hB.size)
      have htk : l.take (q + 1) = l.take q ++ [l[q]] := List.take_succ_eq_append_getElem hql
      have hjt := joinB_take_le l (q + 1)
      have hp1 := HL.out.held _ (List.getElem_mem hql)
      have hbad : validB l[q].is = false → (l.map PV.is).all validB = false := fun h => by
        rw [List.all_eq_false]
        exact ⟨_, List.mem_map.2 ⟨l[q], List.getElem_mem hql, rfl⟩, by simp [h]⟩
      rw [htk, List.map_append, joinB_append, List.length_append] at hjt
      obtain ⟨x, hx⟩ : ∃ x, l[q] = x := ⟨_, rfl⟩
      rw [hx] at c1 c2 htk hp1 hbad hjt
      have hjx : (joinB ([x].map PV.is)).length = 1 + (headOf x.is).length + x.b.length := by
        rw [List.map_singleton]
        unfold joinB
        rw [List.flatMap_singleton, opBytes_length]
        rfl
      have HTK := Lib.hid htk
      have HVA := Lib.hid hva
      obtain ⟨J, hJ⟩ : ∃ J, joinB ((l.take q).map PV.is) = J := ⟨_, rfl⟩
      rw [hJ] at hm hrow hjt
      have HJ := Lib.hid hJ
      have HM := Lib.hid hm
      have HROW := Lib.hid hrow
      have HB := Lib.hid hB
      have HP := Lib.hid hp1
      have hJl : J.length + (1 + (headOf x.is).length + x.b.length) ≤ 10000000 := by omega
      have HBX := Lib.hid (World.alloc_heap_new wr (.cells #[.int .u8 (x.code.toNat : Int), .slice x.A x.b.length x.c] 32))
      have HBA := Lib.hid (below_new wr (.cells #[.int .u8 (x.code.toNat : Int), .slice x.A x.b.length x.c] 32))
      have hnw := Nat.le_trans hn0 hB.size
      have hwz := hB.size
      have HVD := Lib.hid (valid_any x (wr.alloc (.cells #[.int .u8 (x.code.toNat : Int), .slice x.A x.b.length x.c] 32)))
      clear hm hrow hva hB hx htk hjt hp1 hJ hjx
      cases hvd : validB x.is with
      | false =>
        rw [hvd] at HVD
        have HBAD := Lib.hid (hbad hvd)
        clear hvd hbad hJl
        go_wp2_with (go_at_call 33; refine HVD.out.mono ?_; rintro e w2 ⟨rfl, hb2⟩; have HB2 := Lib.hid (HB.out.trans ((HBA.out.trans (hb2.mono HBA.out.size)).mono hwz)); clear hb2)
        go_ret2
        exact ⟨HB2.out, .inr ⟨HBAD.out, rfl⟩⟩
      | true =>
        rw [hvd] at HVD
        have HVX := Lib.hid hvd
        clear hvd hbad
        obtain ⟨xc, xA, xb, xcc⟩ := x
        simp only at c1 c2 HP HBX HBA HVD
        obtain ⟨dn, hdn⟩ : ∃ dn, xb.length = dn := ⟨_, rfl⟩
        have HDN := Lib.hid hdn
        have hJ3 : J.length + xb.length ≤ 10000000 := by simp only at hJl; omega
        rw [hdn] at c2 HBX HBA HVD
        have hdl : dn ≤ 10000000 := by rw [← hdn]; simp only at hJl; omega
        clear hdn
        by_cases hc76 : xc.toNat = 76
        · obtain rfl : xc = 76 := UInt8.toNat_inj.1 hc76
          clear hc76
          have hk : (((76 : UInt8).toNat : Nat) : Int) = 76 := rfl
          rw [hk] at c1 HBX HBA HVD
          clear hk
          obtain ⟨y, hy⟩ : ∃ y, UInt8.ofNat (dn % 256) = y := ⟨_, rfl⟩
          have ey : (dn : Int) % 256 = (y.toNat : Int) := by rw [← hy, UInt8.toNat_ofNat']; omega
          have HHD := Lib.hid (show headOf (PV.is ⟨76, xA, xb, xcc⟩) = [y] by unfold headOf PV.is; simp only; rw [if_pos (by rfl), HDN.out, hy])
          go_wp2_with (first
            | (go_at_call 33; refine HVD.out.mono ?_; rintro e w2 ⟨rfl, hb2⟩; have hb12 := HBA.out.trans (hb2.mono HBA.out.size); have hx2 := (hb2.block wr.heap.size (by rw [World.size_alloc]; omega)).trans HBX.out; have hlx := (Array.getElem?_eq_some_iff.1 hx2).1; have e0 := cell_of_row w2 wr.heap.size 0 _ _ _ hx2; have e1 := cell_of_row w2 wr.heap.size 1 _ _ _ hx2; simp only [List.getElem?_toArray, List.getElem?_cons_zero, List.getElem?_cons_succ] at e0 e1; obtain ⟨X1, m1, d1, W1, ha1, hm1, hr1, hx1, hn1, hbw1⟩ := push_run (w2.alloc (.cells #[.int .u8 76] 5)) w.heap.size _ VA m vc J HM.out (ownsRow_below HROW.out (hb12.trans ((below_new w2 _).mono hb12.size))) (some ⟨w2.heap.size, 0, none⟩) 1 1 [76] rfl (.inl (holds_one w2 76)) wr.heap.size _ ((below_new w2 (.cells #[.int .u8 76] 5)).block _ hlx |>.trans hx2) (fun e => by have := (HROW.out.lt _ e).2; omega) (by simp only [List.length_cons, List.length_nil]; omega) (Nat.le_trans hwz (Nat.le_trans hb12.size (below_new w2 _).size)); have HF1 := Lib.hid (hbw1 w (Nat.le_refl _) (HB.out.trans ((hb12.trans ((below_new w2 _).mono hb12.size)).mono hwz))); have g0 := cell_of_row W1 wr.heap.size 0 _ _ _ hx1; have g1 := cell_of_row W1 wr.heap.size 1 _ _ _ hx1; simp only [List.getElem?_toArray, List.getElem?_cons_zero, List.getElem?_cons_succ] at g0 g1; have hlx1 := (Array.getElem?_eq_some_iff.1 hx1).1; obtain ⟨X2, m2, d2, W2, ha2, hm2, hr2, hx3, hn2, hbw2⟩ := push_run (W1.alloc (.cells #[.int .u8 (y.toNat : Int)] 5)) w.heap.size _ X1 m1 d1 (J ++ [76]) hm1 (ownsRow_below hr1 (below_new W1 _)) (some ⟨W1.heap.size, 0, none⟩) 1 1 [y] rfl (.inl (holds_one W1 y)) wr.heap.size _ ((below_new W1 (.cells #[.int .u8 (y.toNat : Int)] 5)).block _ hlx1 |>.trans hx1) hn1 (by simp only [List.length_append, List.length_cons, List.length_nil]; omega) (Nat.le_trans HF1.out.size (below_new W1 _).size); have HF2 := Lib.hid (hbw2 w (Nat.le_refl _) (HF1.out.trans ((below_new W1 _).mono HF1.out.size))); have g2 := cell_of_row W2 wr.heap.size 1 _ _ _ hx3; simp only [List.getElem?_toArray, List.getElem?_cons_zero, List.getElem?_cons_succ] at g2; obtain ⟨X4, m4, d4, W4, ha4, hm4, hr4, hx4, hn4, hbw4⟩ := push_run W2 w.heap.size n₀ X2 m2 d2 (J ++ [76] ++ [y]) hm2 hr2 xA xcc dn xb HDN.out.symm (HP.out.below (HF2.out.mono hn0) (Nat.le_refl _)) wr.heap.size _ hx3 hn2 (by simp only [List.length_append, List.length_cons, List.length_nil]; omega) HF2.out.size; have HF4 := Lib.hid (hbw4 w (Nat.le_refl _) HF2.out); have HR4 := Lib.hid hr4; have HM4 := Lib.hid hm4; clear hr4 hm4 hx4 hn4 hbw4 hr1 hm1 hx1 hn1 hbw1 hr2 hm2 hx3 hn2 hbw2 hb12 hx2 hb2 hlx hlx1)
            | (at_builtin; refine wpList_append_run (.tmp 17) (.tmp 20) 22 rfl (by rfl) _ _ rfl rfl _ _ ha1 ?_; clear ha1 e0 e1)
            | (at_builtin; refine wpList_append_run (.tmp 29) (.tmp 32) 22 rfl (by rfl) _ _ rfl rfl _ _ ha2 ?_; clear ha2)
            | (at_builtin; refine wpList_append_run (.tmp 44) (.tmp 46) 22 rfl (by rfl) _ _ rfl rfl _ _ ha4 ?_; clear ha4))
          have hfin : joinB ((l.take (q + 1)).map PV.is) = J ++ [76] ++ [y] ++ xb := by
            rw [HTK.out, List.map_append, joinB_append, HJ.out, List.map_singleton]
            unfold joinB
            rw [List.flatMap_singleton]
            show J ++ opBytes (PV.is ⟨76, xA, xb, xcc⟩) = _
            unfold opBytes
            rw [HHD.out]
            unfold PV.is
            simp
          refine ⟨⟨q + 1, m4, X4, d4, by omega, by go_num, rfl, by rw [hfin, HM4.out], by rw [hfin]; exact HR4.out, fun p hp => ?_, HF4.out⟩, ?_⟩
          · rw [HTK.out] at hp
            rcases List.mem_append.1 hp with hp | hp
            · exact HVA.out p hp
            · rw [List.mem_singleton.1 hp]
              exact HVX.out
          · simp [intOf]
            omega
        · by_cases hc77 : xc.toNat = 77
          · obtain rfl : xc = 77 := UInt8.toNat_inj.1 hc77
            clear hc77 hc76
            have hk : (((77 : UInt8).toNat : Nat) : Int) = 77 := rfl
            rw [hk] at c1 HBX HBA HVD
            clear hk
            obtain ⟨y, hy⟩ : ∃ y, UInt8.ofNat (dn % 256) = y := ⟨_, rfl⟩
            have ey : (dn : Int) % 256 = (y.toNat : Int) := by rw [← hy, UInt8.toNat_ofNat']; omega
            obtain ⟨z, hz⟩ : ∃ z, UInt8.ofNat (dn / 256 % 256) = z := ⟨_, rfl⟩
            have ez : (dn : Int) / 256 % 256 = (z.toNat : Int) := by rw [← hz, UInt8.toNat_ofNat']; omega
            have HHD := Lib.hid (show headOf (PV.is ⟨77, xA, xb, xcc⟩) = [y, z] by unfold headOf PV.is; simp only; rw [if_neg (by decide), if_pos (by rfl), HDN.out, hy, hz])
            go_wp2_with (first
              | (go_at_call 33; refine HVD.out.mono ?_; rintro e w2 ⟨rfl, hb2⟩; have hb12 := HBA.out.trans (hb2.mono HBA.out.size); have hx2 := (hb2.block wr.heap.size (by rw [World.size_alloc]; omega)).trans HBX.out; have hlx := (Array.getElem?_eq_some_iff.1 hx2).1; have e0 := cell_of_row w2 wr.heap.size 0 _ _ _ hx2; have e1 := cell_of_row w2 wr.heap.size 1 _ _ _ hx2; simp only [List.getElem?_toArray, List.getElem?_cons_zero, List.getElem?_cons_succ] at e0 e1; obtain ⟨X1, m1, d1, W1, ha1, hm1, hr1, hx1, hn1, hbw1⟩ := push_run (w2.alloc (.cells #[.int .u8 77] 5)) w.heap.size _ VA m vc J HM.out (ownsRow_below HROW.out (hb12.trans ((below_new w2 _).mono hb12.size))) (some ⟨w2.heap.size, 0, none⟩) 1 1 [77] rfl (.inl (holds_one w2 77)) wr.heap.size _ ((below_new w2 (.cells #[.int .u8 77] 5)).block _ hlx |>.trans hx2) (fun e => by have := (HROW.out.lt _ e).2; omega) (by simp only [List.length_cons, List.length_nil]; omega) (Nat.le_trans hwz (Nat.le_trans hb12.size (below_new w2 _).size)); have HF1 := Lib.hid (hbw1 w (Nat.le_refl _) (HB.out.trans ((hb12.trans ((below_new w2 _).mono hb12.size)).mono hwz))); have g0 := cell_of_row W1 wr.heap.size 0 _ _ _ hx1; have g1 := cell_of_row W1 wr.heap.size 1 _ _ _ hx1; simp only [List.getElem?_toArray, List.getElem?_cons_zero, List.getElem?_cons_succ] at g0 g1; have hlx1 := (Array.getElem?_eq_some_iff.1 hx1).1; obtain ⟨X2, m2, d2, W2, ha2, hm2, hr2, hx3, hn2, hbw2⟩ := push_run (W1.alloc (.cells #[.int .u8 (y.toNat : Int), .int .u8 (z.toNat : Int)] 5)) w.heap.size _ X1 m1 d1 (J ++ [77]) hm1 (ownsRow_below hr1 (below_new W1 _)) (some ⟨W1.heap.size, 0, none⟩) 2 2 [y, z] rfl (.inl (holds_two W1 y z)) wr.heap.size _ ((below_new W1 (.cells #[.int .u8 (y.toNat : Int), .int .u8 (z.toNat : Int)] 5)).block _ hlx1 |>.trans hx1) hn1 (by simp only [List.length_append, List.length_cons, List.length_nil]; omega) (Nat.le_trans HF1.out.size (below_new W1 _).size); have HF2 := Lib.hid (hbw2 w (Nat.le_refl _) (HF1.out.trans ((below_new W1 _).mono HF1.out.size))); have g2 := cell_of_row W2 wr.heap.size 1 _ _ _ hx3; simp only [List.getElem?_toArray, List.getElem?_cons_zero, List.getElem?_cons_succ] at g2; obtain ⟨X4, m4, d4, W4, ha4, hm4, hr4, hx4, hn4, hbw4⟩ := push_run W2 w.heap.size n₀ X2 m2 d2 (J ++ [77] ++ [y, z]) hm2 hr2 xA xcc dn xb HDN.out.symm (HP.out.below (HF2.out.mono hn0) (Nat.le_refl _)) wr.heap.size _ hx3 hn2 (by simp only [List.length_append, List.length_cons, List.length_nil]; omega) HF2.out.size; have HF4 := Lib.hid (hbw4 w (Nat.le_refl _) HF2.out); have HR4 := Lib.hid hr4; have HM4 := Lib.hid hm4; clear hr4 hm4 hx4 hn4 hbw4 hr1 hm1 hx1 hn1 hbw1 hr2 hm2 hx3 hn2 hbw2 hb12 hx2 hb2 hlx hlx1)
              | (at_builtin; refine wpList_append_run (.tmp 17) (.tmp 20) 22 rfl (by rfl) _ _ rfl rfl _ _ ha1 ?_; clear ha1 e0 e1)
              | (at_builtin; refine wpList_append_run (.tmp 36) (.tmp 42) 22 rfl (by rfl) _ _ rfl rfl _ _ ha2 ?_; clear ha2)
              | (at_builtin; refine wpList_append_run (.tmp 44) (.tmp 46) 22 rfl (by rfl) _ _ rfl rfl _ _ ha4 ?_; clear ha4))
            have hfin : joinB ((l.take (q + 1)).map PV.is) = J ++ [77] ++ [y, z] ++ xb := by
              rw [HTK.out, List.map_append, joinB_append, HJ.out, List.map_singleton]
              unfold joinB
              rw [List.flatMap_singleton]
              show J ++ opBytes (PV.is ⟨77, xA, xb, xcc⟩) = _
              unfold opBytes
              rw [HHD.out]
              unfold PV.is
              simp
            refine ⟨⟨q + 1, m4, X4, d4, by omega, by go_num, rfl, by rw [hfin, HM4.out], by rw [hfin]; exact HR4.out, fun p hp => ?_, HF4.out⟩, ?_⟩
            · rw [HTK.out] at hp
              rcases List.mem_append.1 hp with hp | hp
              · exact HVA.out p hp
              · rw [List.mem_singleton.1 hp]
                exact HVX.out
            · simp [intOf]
              omega
          · have f1 : ((xc.toNat : Int) == 76) = false := by rw [beq_eq_false_iff_ne]; omega
            have f2 : ((xc.toNat : Int) == 77) = false := by rw [beq_eq_false_iff_ne]; omega
            have HHD := Lib.hid (show headOf (PV.is ⟨xc, xA, xb, xcc⟩) = [] by unfold headOf PV.is; simp only; rw [if_neg (by omega), if_neg (by omega)])
            clear hc76 hc77
            go_wp2_with (first
              | (go_at_call 33; refine HVD.out.mono ?_; rintro e w2 ⟨rfl, hb2⟩; have hb12 := HBA.out.trans (hb2.mono HBA.out.size); have hx2 := (hb2.block wr.heap.size (by rw [World.size_alloc]; omega)).trans HBX.out; have hlx := (Array.getElem?_eq_some_iff.1 hx2).1; have e0 := cell_of_row w2 wr.heap.size 0 _ _ _ hx2; have e1 := cell_of_row w2 wr.heap.size 1 _ _ _ hx2; simp only [List.getElem?_toArray, List.getElem?_cons_zero, List.getElem?_cons_succ] at e0 e1; obtain ⟨X1, m1, d1, W1, ha1, hm1, hr1, hx1, hn1, hbw1⟩ := push_run (w2.alloc (.cells #[.int .u8 (xc.toNat : Int)] 5)) w.heap.size _ VA m vc J HM.out (ownsRow_below HROW.out (hb12.trans ((below_new w2 _).mono hb12.size))) (some ⟨w2.heap.size, 0, none⟩) 1 1 [xc] rfl (.inl (holds_one w2 xc)) wr.heap.size _ ((below_new w2 (.cells #[.int .u8 (xc.toNat : Int)] 5)).block _ hlx |>.trans hx2) (fun e => by have := (HROW.out.lt _ e).2; omega) (by simp only [List.length_cons, List.length_nil]; omega) (Nat.le_trans hwz (Nat.le_trans hb12.size (below_new w2 _).size)); have HF1 := Lib.hid (hbw1 w (Nat.le_refl _) (HB.out.trans ((hb12.trans ((below_new w2 _).mono hb12.size)).mono hwz))); have g0 := cell_of_row W1 wr.heap.size 0 _ _ _ hx1; have g1 := cell_of_row W1 wr.heap.size 1 _ _ _ hx1; simp only [List.getElem?_toArray, List.getElem?_cons_zero, List.getElem?_cons_succ] at g0 g1; have hlx1 := (Array.getElem?_eq_some_iff.1 hx1).1; obtain ⟨X4, m4, d4, W4, ha4, hm4, hr4, hx4, hn4, hbw4⟩ := push_run W1 w.heap.size n₀ X1 m1 d1 (J ++ [xc]) hm1 hr1 xA xcc dn xb HDN.out.symm (HP.out.below (HF1.out.mono hn0) (Nat.le_refl _)) wr.heap.size _ hx1 hn1 (by simp only [List.length_append, List.length_cons, List.length_nil]; omega) HF1.out.size; have HF4 := Lib.hid (hbw4 w (Nat.le_refl _) HF1.out); have HR4 := Lib.hid hr4; have HM4 := Lib.hid hm4; clear hr4 hm4 hx4 hn4 hbw4 hr1 hm1 hx1 hn1 hbw1 hb12 hx2 hb2 hlx hlx1)
              | (at_builtin; refine wpList_append_run (.tmp 17) (.tmp 20) 22 rfl (by rfl) _ _ rfl rfl _ _ ha1 ?_; clear ha1 e0 e1)
              | (at_builtin; refine wpList_append_run (.tmp 44) (.tmp 46) 22 rfl (by rfl) _ _ rfl rfl _ _ ha4 ?_; clear ha4))
            have hfin : joinB ((l.take (q + 1)).map PV.is) = J ++ [xc] ++ [] ++ xb := by
              rw [HTK.out, List.map_append, joinB_append, HJ.out, List.map_singleton]
              unfold joinB
              rw [List.flatMap_singleton]
              show J ++ opBytes (PV.is ⟨xc, xA, xb, xcc⟩) = _
              unfold opBytes
              rw [HHD.out]
              unfold PV.is
              simp
            refine ⟨⟨q + 1, m4, X4, d4, by omega, by go_num, rfl, by rw [hfin, HM4.out]; simp, by rw [hfin]; rw [List.append_nil]; exact HR4.out, fun p hp => ?_, HF4.out⟩, ?_⟩
            · rw [HTK.out] at hp
              rcases List.mem_append.1 hp with hp | hp
              · exact HVA.out p hp
              · rw [List.mem_singleton.1 hp]
                exact HVX.out
            · simp [intOf]
              omega
    · obtain rfl : n = q := by omega
      have hT : l.take n = l := List.take_of_length_le (by rw [← HN.out]; exact Nat.le_refl _)
      rw [hT] at hm hrow hva
      have HALL := Lib.hid (show (l.map PV.is).all validB = true by
        rw [List.all_eq_true]
        intro o ho
        obtain ⟨p, hp, rfl⟩ := List.mem_map.1 ho
        exact hva p hp)
      have HROW := Lib.hid hrow
      have HM := Lib.hid hm
      have HB := Lib.hid hB
      clear hm hrow hva hB hT hq hlt
      go_wp2
      go_ret2
      refine ⟨HB.out, .inl ⟨HALL.out, VA, vc, ?_, ?_⟩⟩
      · rw [← HM.out]
        rfl
      · have := HROW.out
        rwa [HM.out] at this
end Go.Proofs.Ytkecldmjjhhlgaa.Oct
