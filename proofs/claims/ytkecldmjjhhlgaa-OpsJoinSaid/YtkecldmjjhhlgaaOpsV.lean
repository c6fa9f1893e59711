/- The contracts of the reference's Join, Same, Value and Push. No condition beyond the memory's reach. -/
import Derived.Test.YtkecldmjjhhlgaaOpsY
import Derived.Test.YtkecldmjjhhlgaaOctV
import Derived.Deep.QuietTactic
import Derived.BigQuiet
namespace Go.Proofs.Ytkecldmjjhhlgaa.Oct
open Go.Proofs.Ytkecldmjjhhlgaa Go.RowKit Go.Shelf
theorem app_row (W : World) (base : Nat) (VA : Option Addr) (m vc : Nat) (J : List UInt8) (hm : m = J.length) (hown : W.ownsRow base 5 1 (.slice VA m vc) m (vals J)) (n₀ : Nat) (X : Option Addr) (c k : Nat) (ys : List UInt8) (hk : k = ys.length) (hh : Bytes8 n₀ W X ys) (hl : J.length + ys.length ≤ 100000000) (hbase : base ≤ W.heap.size) :
    ∃ Y m' cy W', (Builtin.append_ #[22, 22] 22 #[.slice VA m vc, .slice X k c]).run Try.prog W = .ok (.slice Y m' cy) W' ∧ m' = (J ++ ys).length ∧ W'.ownsRow base 5 1 (.slice Y m' cy) m' (vals (J ++ ys)) ∧ (∀ W0, W0.heap.size ≤ base → Below W0.heap.size W0 W → Below W0.heap.size W0 W') := by
  subst hm hk
  obtain ⟨v', w', hr, h2, h3, h4⟩ := append_any W 22 base n₀ _ J ys hown X c hh (by omega) hbase
  obtain ⟨Y, cy, rfl, _⟩ := own_open h2
  exact ⟨Y, _, cy, w', hr, rfl, h2, fun W0 h5 h6 => h6.grown h3 (Nat.le_trans h5 hbase) (fun r e => Nat.le_trans h5 (own_row_ge hown r e))⟩
set_option maxRecDepth 100000 in
set_option maxHeartbeats 4000000 in
theorem refJoin_any (l : List PV) (n : Nat) (hn : n = l.length) (LA : Option Addr) (c n₀ : Nat) (w : World) (hl : PvsAt n₀ w LA l) (hn0 : n₀ ≤ w.heap.size) (hsz : l.length ≤ 1000000) (hjl : (joinB (l.map PV.is)).length ≤ 10000000) :
    Calls Try.prog 18 #[.slice LA n c] w (JoinR w (l.map PV.is)) := by
  have HN := Lib.hid hn
  have HL := Lib.hid hl
  have hn6 : n ≤ 1000000 := by omega
  clear hn hl
  go_enter Try.func18, Try.ntmps18
  go_wp2
  go_loopw [4, 5] (fun sc i wr => ∃ (q m : Nat) (VA : Option Addr) (vc : Nat), q ≤ n ∧ i = .int .i64 (q : Int) ∧ sc = .slice VA m vc ∧ m = (joinB ((l.take q).map PV.is)).length ∧ wr.ownsRow w.heap.size 5 1 (.slice VA m vc) m (Go.Proofs.Ytkecldmjjhhlgaa.Oct.vals (joinB ((l.take q).map PV.is))) ∧ (∀ p ∈ l.take q, validB p.is = true) ∧ Below w.heap.size w wr) (fun _ i _ => n - (intOf i).toNat)
  case atStart => exact ⟨0, 0, none, 0, Nat.zero_le _, rfl, rfl, rfl, World.ownsRow_nil _ _ _ _, (fun p hp => by simp at hp), Below.refl _ _⟩
  case round =>
    obtain ⟨q, m, VA, vc, hq, rfl, rfl, hm, hrow, hva, hB⟩ := hrel
    by_cases hlt : q < n
    · have hql : q < l.length := by rw [← HN.out]; exact hlt
      obtain ⟨b1, o1, rfl, hb1, c1, c2⟩ := (HL.out.later (hB.mono hn0)).cells q hql
      have hbr1 : b1 < wr.heap.size := Nat.lt_of_lt_of_le hb1 (Nat.le_trans hn0 hB.size)
      have htk : l.take (q + 1) = l.take q ++ [l[q]] := List.take_succ_eq_append_getElem hql
      have hjt := joinB_take_le l (q + 1)
      have hp1 := HL.out.held _ (List.getElem_mem hql)
      have hbad : validB l[q].is = false → (l.map PV.is).all validB = false := fun h => by
        rw [List.all_eq_false]
        exact ⟨_, List.mem_map.2 ⟨l[q], List.getElem_mem hql, rfl⟩, by simp [h]⟩
      rw [htk, List.map_append, joinB_append, List.length_append] at hjt
      obtain ⟨x, hx⟩ : ∃ x, l[q] = x := ⟨_, rfl⟩
      rw [hx] at c1 c2 htk hp1 hbad hjt
      have hjx : (joinB ([x].map PV.is)).length = (opBytes x.is).length := by
        rw [List.map_singleton, joinB_one]
      have hol := opBytes_length x.is
      have hxb : x.is.2.length = x.b.length := rfl
      obtain ⟨J, hJ⟩ : ∃ J, joinB ((l.take q).map PV.is) = J := ⟨_, rfl⟩
      rw [hJ] at hm hrow hjt
      have hJl : J.length + (opBytes x.is).length ≤ 10000000 := by omega
      have hdl : x.b.length ≤ 10000000 := by omega
      have HTK := Lib.hid htk
      have HVA := Lib.hid hva
      have HJ := Lib.hid hJ
      have HM := Lib.hid hm
      have HROW := Lib.hid hrow
      have HB := Lib.hid hB
      have HP := Lib.hid hp1
      have HJL := Lib.hid hJl
      have HDL := Lib.hid hdl
      have hnw := Nat.le_trans hn0 hB.size
      have hwz := hB.size
      have HMY := Lib.hid (refMay_any x wr)
      clear hm hrow hva hB hx htk hjt hp1 hJ hjx hol hxb hJl hdl hwz
      cases hvd : validB x.is with
      | false =>
        rw [hvd] at HMY
        have HBAD := Lib.hid (hbad hvd)
        clear hvd hbad
        go_wp2_with (go_at_call 34; refine HMY.out.mono ?_; rintro e w2 ⟨rfl, hb2⟩; have HB2 := Lib.hid (btr HB.out hb2 HB.out.size); clear hb2)
        go_ret2
        exact ⟨HB2.out, .inr ⟨HBAD.out, rfl⟩⟩
      | true =>
        rw [hvd] at HMY
        have HVX := Lib.hid hvd
        clear hvd hbad
        go_wp2_with (first
          | (go_at_call 34; refine HMY.out.mono ?_; rintro e w2 ⟨rfl, hb2⟩; have HB2 := Lib.hid hb2; have c3 := (hb2.cell (p := ⟨b1, _, none⟩) hbr1).trans c1; have c4 := (hb2.cell (p := ⟨b1, _, none⟩) hbr1).trans c2; have hbr2 := Nat.lt_of_lt_of_le hbr1 hb2.size; have HBY := Lib.hid (refBytes_any x n₀ w2 (HP.out.below ((btr HB.out HB2.out HB.out.size).mono hn0) (Nat.le_refl _)) (Nat.le_trans hn0 (btr HB.out HB2.out HB.out.size).size) HDL.out); clear hb2 HMY c1 c2)
          | (go_at_call 35; refine HBY.out.mono ?_; rintro e w3 ⟨vb, rfl, hown, hb⟩; have HB3 := Lib.hid hb; obtain ⟨Xb, cb, rfl, h8, _⟩ := own_open hown; obtain ⟨ob, hob⟩ : ∃ ob, ob = (opBytes x.is).length := ⟨_, rfl⟩; rw [← hob]; obtain ⟨Y, m4, cy, w4, ha, hm4, ho4, hbw⟩ := app_row w3 w.heap.size VA m vc J HM.out (ownsRow_below HROW.out (btr HB2.out HB3.out HB2.out.size)) _ Xb cb ob (opBytes x.is) hob (.inl h8) (by have := HJL.out; omega) (btr HB.out (btr HB2.out HB3.out HB2.out.size) HB.out.size).size; have HB4 := Lib.hid (hbw w (Nat.le_refl _) (btr HB.out (btr HB2.out HB3.out HB2.out.size) HB.out.size)); have HM4 := Lib.hid hm4; have HO4 := Lib.hid ho4; clear hb hown h8 hob hm4 ho4 hbw HBY)
          | (at_builtin; refine wpList_append_run (.tmp 20) (.tmp 25) 22 rfl (by rfl) _ _ rfl rfl _ _ ha ?_; clear ha))
        have hfin : joinB ((l.take (q + 1)).map PV.is) = J ++ opBytes x.is := by
          rw [HTK.out, List.map_append, joinB_append, HJ.out, List.map_singleton, joinB_one]
        refine ⟨⟨q + 1, m4, Y, cy, by omega, by go_num, rfl, by rw [hfin, HM4.out], by rw [hfin]; exact HO4.out, fun p hp => ?_, HB4.out⟩, ?_⟩
        · rw [HTK.out] at hp
          rcases List.mem_append.1 hp with hp | hp
          · exact HVA.out p hp
          · rw [List.mem_singleton.1 hp]
            exact HVX.out
        · simp [intOf]
          omega
    · obtain rfl : n = q := by omega
      have hT : l.take n = l := List.take_of_length_le (by rw [← HN.out]; exact Nat.le_refl _)
      rw [hT] at hm hrow hva
      have HALL := Lib.hid (show (l.map PV.is).all validB = true by
        rw [List.all_eq_true]
        intro o ho
        obtain ⟨p, hp, rfl⟩ := List.mem_map.1 ho
        exact hva p hp)
      have HROW := Lib.hid hrow
      have HM := Lib.hid hm
      have HB := Lib.hid hB
      clear hm hrow hva hB hT hq hlt
      go_wp2
      go_ret2
      refine ⟨HB.out, .inl ⟨HALL.out, VA, vc, ?_, ?_⟩⟩
      · rw [← HM.out]
        rfl
      · have := HROW.out
        rwa [HM.out] at this
end Go.Proofs.Ytkecldmjjhhlgaa.Oct
