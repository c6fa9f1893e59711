/- What is pushed by Push is its value, by as few bytes as any other push of it; a script of pushes only pushes: the walk. No condition beyond the memory's reach. -/
import Derived.Test.YtkecldmjjhhlgaaOpsM
import Derived.Deep.QuietTactic
import Derived.BigQuiet
namespace Go.Proofs.Ytkecldmjjhhlgaa.Oct
open Go.Proofs.Ytkecldmjjhhlgaa Go.RowKit Go.Shelf
def PushedL (w : World) (q : Nat) (v : Value) (wr : World) (rs : List PV) : Prop :=
  rs.length = q ∧ (∀ p ∈ rs, validB p.is = true ∧ noB p.is = false ∧ p.b.length ≤ 2000) ∧ wr.ownsRow w.heap.size 32 2 v q (pvRow rs) ∧ (∀ p ∈ rs, Holds8 wr.heap.size wr p.A p.b ∧ ∀ a, p.A = some a → w.heap.size ≤ a.block ∧ v.ownBlock ≠ some a.block)
theorem PushR.ok {w w' : World} {bs : List UInt8} {e : Ending} (h : PushR w bs e w') (n : Nat) (hn : bs.length = n) (hl : n ≤ 65535) : ∃ (pc : UInt8) (X : Option Addr) (cx : Nat), e = .returned (.tuple #[.agg #[.int .u8 (pc.toNat : Int), .slice X n cx], .int .i64 0]) ∧ pc.toNat = pushC bs.length ∧ Holds8 w'.heap.size w' X bs ∧ (∀ a, X = some a → w.heap.size ≤ a.block) ∧ Below w.heap.size w w' := by
  subst hn
  obtain ⟨hb, ⟨_, X, cx, he, h8, hx⟩ | ⟨h2, _⟩⟩ := h
  · have hp : (UInt8.ofNat (pushC bs.length)).toNat = pushC bs.length := ofNat_lt (by have := pushC_le bs.length; omega)
    exact ⟨UInt8.ofNat (pushC bs.length), X, cx, by rw [hp]; exact he, hp, h8, hx, hb⟩
  · omega
theorem pushed_grow {w wr wl : World} {q : Nat} {v : Value} {rs : List PV} (h : PushedL w q v wr rs) (hbl : Below wr.heap.size wr wl) (p : PV) (hpv : validB p.is = true ∧ noB p.is = false ∧ p.b.length ≤ 2000) (h8 : Holds8 wl.heap.size wl p.A p.b) (hpa : ∀ a, p.A = some a → wr.heap.size ≤ a.block) {v' : Value} {w' : World} (ho : w'.ownsRow w.heap.size 32 2 v' (q + 1) (pvRow (rs ++ [p]))) (hg : wl.grownBy w' v.ownBlock) (h5 : v'.ownBlock = v.ownBlock ∨ v'.ownBlock = some wl.heap.size) (hwr : w.heap.size ≤ wr.heap.size) : PushedL w (q + 1) v' w' (rs ++ [p]) := by
  obtain ⟨h1, h2, h3, h4⟩ := h
  have key : ∀ (p2 : PV), Holds8 wl.heap.size wl p2.A p2.b → (∀ a, p2.A = some a → w.heap.size ≤ a.block ∧ v.ownBlock ≠ some a.block) → Holds8 w'.heap.size w' p2.A p2.b ∧ ∀ a, p2.A = some a → w.heap.size ≤ a.block ∧ v'.ownBlock ≠ some a.block := by
    intro p2 q8 qa
    have hlt : ∀ a, p2.A = some a → a.block < wl.heap.size := by
      intro a ea
      rcases q8 with ⟨e, _⟩ | ⟨b, off, e, hb, _⟩
      · rw [e] at ea; cases ea
      · rw [e] at ea; injection ea with ea; rw [← ea]; exact hb
    refine ⟨holds_keep q8 (fun a ea => hg.block _ (hlt a ea) (fun e => (qa a ea).2 e.symm)) hg.size, fun a ea => ⟨(qa a ea).1, ?_⟩⟩
    rcases h5 with e | e
    · rw [e]; exact (qa a ea).2
    · rw [e]; intro e2; injection e2 with e2; have := hlt a ea; omega
  have hcase : ∀ p2 ∈ rs ++ [p], p2 ∈ rs ∨ p2 = p := fun p2 hp => by
    rcases List.mem_append.1 hp with q | q
    · exact .inl q
    · exact .inr (List.mem_singleton.1 q)
  refine ⟨by simp [h1], fun p2 hp => ?_, ho, fun p2 hp => ?_⟩
  · rcases hcase p2 hp with q | rfl
    · exact h2 p2 q
    · exact hpv
  · rcases hcase p2 hp with q | rfl
    · have q4 := h4 p2 q
      refine key p2 (holds_keep q4.1 (fun a ea => ?_) hbl.size) q4.2
      refine hbl.block _ ?_
      rcases q4.1 with ⟨e, _⟩ | ⟨b, off, e, hb, _⟩
      · rw [e] at ea; cases ea
      · rw [e] at ea; injection ea with ea; rw [← ea]; exact hb
    · exact key p2 h8 fun a ea => ⟨Nat.le_trans hwr (hpa a ea), fun e => by have := (h3.lt _ e).2; have := hpa a ea; omega⟩
theorem total_small (rs : List PV) (h : ∀ p ∈ rs, p.b.length ≤ 2000) : totalP rs ≤ 2000 * rs.length := by
  induction rs with
  | nil => simp [totalP]
  | cons p rs ih =>
    have h1 := h p (List.mem_cons_self ..)
    have h2 := ih fun x hx => h x (List.mem_cons_of_mem _ hx)
    have h3 : totalP (p :: rs) = p.b.length + totalP rs := by simp [totalP]
    rw [h3, List.length_cons]
    omega
theorem JoinR.own {w w' : World} {M : List (UInt8 × List UInt8)} {u : List UInt8} {e : Ending} (h : JoinR w M e w') (hv : M.all validB = true) (hj : joinB M = u) (n : Nat) (hn : n = u.length) : ∃ X c, e = .returned (.tuple #[.slice X n c, .int .i64 0]) ∧ w'.ownsRow w.heap.size 5 1 (.slice X n c) n (vals u) ∧ c ≤ 9223372036854775807 ∧ Below w.heap.size w w' := by
  obtain ⟨hb, ⟨_, X, c, he, hr⟩ | ⟨hv2, _⟩⟩ := h
  · subst hj hn
    refine ⟨X, c, he, hr, ?_, hb⟩
    rcases hr.2 with ⟨e, _⟩ | ⟨g, cap, cur, e, _, _, _, hm, _⟩
    · injection e with _ _ e; omega
    · injection e with _ _ e
      unfold maxLen at hm
      omega
  · rw [hv] at hv2; cases hv2
theorem own_h8 {w : World} {base : Nat} {X : Option Addr} {n c : Nat} {u : List UInt8} (hn : n = u.length) (h : w.ownsRow base 5 1 (.slice X n c) n (vals u)) : Holds8 w.heap.size w X u ∧ u.length ≤ c := by
  subst hn
  obtain ⟨X2, c2, e2, h8, hlc, _, _⟩ := own_open h
  injection e2 with e3 e4 e5
  subst e3 e5
  exact ⟨h8, hlc⟩
/-- append(s, code). -/
theorem app_code (W : World) (base : Nat) (S : Option Addr) (j c : Nat) (J : List UInt8) (hj : j = J.length) (hown : W.ownsRow base 5 1 (.slice S j c) j (vals J)) (x : UInt8) (hl : J.length ≤ 1000000) (hbase : base ≤ W.heap.size) :
    ∃ Y m cy W', (Builtin.append_ #[22, 22] 22 #[.slice S j c, .slice (some ⟨W.heap.size, 0, none⟩) 1 1]).run Try.prog (W.alloc (.cells #[.int .u8 (x.toNat : Int)] 5)) = .ok (.slice Y m cy) W' ∧ m = (J ++ [x]).length ∧ Holds8 W'.heap.size W' Y (J ++ [x]) ∧ (J ++ [x]).length ≤ cy ∧ cy ≤ 9223372036854775807 ∧ (∀ W0 : World, W0.heap.size ≤ base → Below W0.heap.size W0 W → Below W0.heap.size W0 W') := by
  subst hj
  have hz := below_new W (.cells #[.int .u8 (x.toNat : Int)] 5)
  obtain ⟨v1, W1, r1, o1, g1, q1⟩ := append_any (W.alloc (.cells #[.int .u8 (x.toNat : Int)] 5)) 22 base _ _ J [x] (ownsRow_below hown hz) (some ⟨W.heap.size, 0, none⟩) 1 (.inl (holds_one W x)) (by simp; omega) (Nat.le_trans hbase hz.size)
  obtain ⟨Y, cy, rfl, h8, hl2, _⟩ := own_open o1
  refine ⟨Y, _, cy, W1, r1, rfl, h8, hl2, ?_, fun W0 h5 h6 => (btr h6 hz h6.size).grown g1 (btr h6 hz h6.size).size (fun r e => Nat.le_trans h5 (own_row_ge (ownsRow_below hown hz) r e))⟩
  rcases o1.2 with ⟨e, _⟩ | ⟨g, cap, cur, e, _, _, _, hm, _⟩
  · injection e with _ _ e; omega
  · injection e with _ _ e
    unfold maxLen at hm
    omega
theorem split_one (x : UInt8) (h : x.toNat = 0 ∨ 77 < x.toNat) : splitL [x] = some [(x, [])] := by
  have he : ext [x] = (1, 0) := by
    unfold ext
    show (if x.toNat ≤ 75 then (1, x.toNat) else if x.toNat = 76 then (2, (([] : List UInt8).headD 0).toNat) else if x.toNat = 77 then (3, two77 []) else (1, 0)) = (1, 0)
    rcases h with h | h
    · rw [if_pos (by omega), h]
    · rw [if_neg (by omega), if_neg (by omega), if_neg (by omega)]
  have hn : splitL ([] : List UInt8) = some [] := by unfold splitL; rfl
  rw [splitL, he, if_pos (by simp)]
  simp only [Nat.add_zero, List.drop_succ_cons, List.drop_zero, List.take_zero]
  rw [hn]
  rfl
theorem all_pushes (M : List (UInt8 × List UInt8)) (h : ∀ o ∈ M, noB o = false) : pushesL M = true := by
  unfold pushesL
  rw [List.all_eq_true]
  intro o ho
  rw [h o ho]
  rfl
theorem pushes_join (M : List (UInt8 × List UInt8)) (hv : M.all validB = true) (h : ∀ o ∈ M, noB o = false) : pushesB (joinB M) = true := by
  have hsp : splitL ([] : List UInt8) = some [] := by unfold splitL; rfl
  have q := join_split M hv []
  rw [List.append_nil, hsp] at q
  unfold pushesB
  rw [q]
  show pushesL (M ++ []) = true
  rw [List.append_nil]
  exact all_pushes M h
theorem pushes_more (M : List (UInt8 × List UInt8)) (hv : M.all validB = true) (h : ∀ o ∈ M, noB o = false) (x : UInt8) (hx : x.toNat = 0 ∨ 77 < x.toNat) : pushesB (joinB M ++ [x]) = (valB (x, [])).isSome := by
  have q := join_split M hv [x]
  rw [split_one x hx] at q
  unfold pushesB
  rw [q]
  show pushesL (M ++ [(x, [])]) = _
  have q2 := all_pushes M h
  unfold pushesL at q2 ⊢
  rw [List.all_append, q2]
  simp [noB]
set_option maxRecDepth 100000 in
set_option maxHeartbeats 4000000 in
theorem opsPushed_walk (l : List BV) (LA : Option Addr) (cl : Nat) (xq : UInt8) (w : World) (hl : BvsAt w.heap.size w LA l) (hll : l.length ≤ 9223372036854775807) :
    Calls Try.prog 7 #[.slice LA l.length cl, .int .u8 (xq.toNat : Int)] w fun e w' => e = .returned (.bool true) ∧ Below w.heap.size w w' := by
  obtain ⟨n, hn⟩ : ∃ n, l.length = n := ⟨_, rfl⟩
  rw [hn]
  rw [hn] at hll
  have HN := Lib.hid hn
  have HL := Lib.hid hl
  clear hn hl
  by_cases hbig : 3 < n
  · have d1 : (3 : Int) < (n : Int) := by omega
    clear hbig
    go_enter Try.func7, Try.ntmps7
    go_wp2_with (go_at_call 26; refine (alive_any _).mono ?_; rintro e w1 ⟨rfl, hb1⟩)
    go_ret
    exact ⟨rfl, hb1⟩
  have hn3 : n ≤ 3 := by omega
  clear hbig hll
  go_enter Try.func7, Try.ntmps7
  go_wp2_with (go_at_call 26; refine (alive_any _).mono ?_; rintro e w1 ⟨rfl, hb⟩; have HB1 := Lib.hid hb; clear hb)
  go_loopw [6, 33] (fun v i wr => ∃ (q : Nat) (rs : List PV), q ≤ n ∧ i = .int .i64 (q : Int) ∧ PushedL w q v wr rs ∧ Below w.heap.size w wr) (fun _ i _ => n - (intOf i).toNat)
  case atStart => exact ⟨0, [], Nat.zero_le _, rfl, ⟨rfl, (fun p hp => by cases hp), World.ownsRow_nil _ _ _ _, fun p hp => by cases hp⟩, HB1.out⟩
  case round =>
    obtain ⟨q, rs, hq, rfl, hP, hB⟩ := hrel
    by_cases hlt : q < n
    · have hql : q < l.length := by rw [HN.out]; exact hlt
      obtain ⟨b0, off, rfl, hb0, c0⟩ := (HL.out.later hB).cells q hql
      have hp1 := (HL.out.later hB).held _ (List.getElem_mem hql)
      have hbr : b0 < wr.heap.size := Nat.lt_of_lt_of_le hb0 hB.size
      obtain ⟨x0, hx0⟩ : ∃ x0, l[q] = x0 := ⟨_, rfl⟩
      rw [hx0] at c0 hp1
      obtain ⟨xA, xb, xc⟩ := x0
      simp only at c0 hp1
      obtain ⟨dn, hdn⟩ : ∃ dn, xb.length = dn := ⟨_, rfl⟩
      rw [hdn] at c0
      have HDN := Lib.hid hdn
      have HP := Lib.hid hP
      have HB := Lib.hid hB
      have HX := Lib.hid hp1
      clear hP hB hp1 hdn hx0
      by_cases h2000 : 2000 < dn
      · have d2 : (2000 : Int) < (dn : Int) := by omega
        clear h2000 hq
        go_wp2
        go_ret
        exact ⟨rfl, HB.out⟩
      · have d2 : decide ((2000 : Int) < (dn : Int)) = false := by simp; omega
        have hd2 : dn ≤ 2000 := by omega
        have HPU := Lib.hid (push_any xb dn HDN.out.symm (by omega) xA xc w.heap.size wr HX.out HB.out.size)
        clear h2000
        go_wp2_with (first
          | (go_at_call 22; refine HPU.out.mono ?_; intro e wp hr; obtain ⟨pc, X, cx, rfl, hpc, h8, hxb, hb⟩ := hr.ok dn HDN.out (by omega); have HB2 := Lib.hid hb; have H8 := Lib.hid h8; have HXB := Lib.hid hxb; have HPC := Lib.hid hpc; have HG8 := Lib.hid (World.alloc_heap_new wp (.cells #[.int .u8 (pc.toNat : Int), .slice X dn cx] 32)); have HBP := Lib.hid (below_new wp (.cells #[.int .u8 (pc.toNat : Int), .slice X dn cx] 32)); have hva := value_any ⟨pc, X, xb, cx⟩ wp.heap.size (wp.alloc (.cells #[.int .u8 (pc.toNat : Int), .slice X dn cx] 32)) (.inl (H8.out.below HBP.out (Nat.le_refl _))) HBP.out.size; simp only [HDN.out] at hva; have HVA := Lib.hid hva; clear hva; clear hr h8 hxb hpc hb HPU)
          | (go_at_call 20; refine HVA.out.mono ?_; intro e w2 hr; obtain ⟨v2, rfl, hown, hb⟩ := hr.some (push_val pc xb HPC.out (by rw [HDN.out]; omega)); obtain ⟨V, cv, rfl, h8v, _, _, _⟩ := own_open hown; have HB3 := Lib.hid (HBP.out.trans (hb.mono HBP.out.size)); have HBV := Lib.hid (hb); have HBW := Lib.hid (btr (btr HB.out HB2.out HB.out.size) HB3.out (btr HB.out HB2.out HB.out.size).size); have est := fun k => str_of (h8v.below (below_drewN w2 k) (Nat.le_refl _)) cv; have est2 := fun k => str_bytes (HX.out.below (btr (btr HB2.out HB3.out HB2.out.size |>.mono HB.out.size) (below_drewN w2 k) HBW.out.size) (Nat.le_refl _)) xc; simp only [HDN.out] at est est2; rw [HDN.out]; have c1 := ((btr HB2.out HB3.out HB2.out.size).cell (p := ⟨b0, off + q, none⟩) hbr).trans c0; clear hr hown hb h8v HVA))
        go_quiet (fail)
        obtain ⟨w3, hw3⟩ : ∃ w3, w2.drewN nq = w3 := ⟨_, rfl⟩
        have HB4 := Lib.hid (show Below w2.heap.size w2 w3 by rw [← hw3]; exact below_drewN w2 nq)
        rw [hw3]
        have hbp3 := (HBV.out.trans (HB4.out.mono HBV.out.size))
        have hx3 := (hbp3.block wp.heap.size (by rw [World.size_alloc]; omega)).trans HG8.out
        have c3 := (HB4.out.cell (p := ⟨b0, off + q, none⟩) (Nat.lt_of_lt_of_le hb0 HBW.out.size)).trans c1
        obtain ⟨e0, e1, _, _⟩ := two_cells hx3
        have hl3 := (Array.getElem?_eq_some_iff.1 hx3).1
        have hb03 := Nat.lt_of_lt_of_le hb0 (btr HBW.out HB4.out HBW.out.size).size
        have HBWP := Lib.hid (btr HB3.out HB4.out HB3.out.size)
        have H83 := Lib.hid (Holds8.below HBWP.out (Nat.le_refl _) H8.out)
        have HX3 := Lib.hid hx3
        have hbk : b0 ≠ wp.heap.size := by have := (btr HB.out HB2.out HB.out.size).size; omega
        have HJO := Lib.hid (join_any [⟨pc, X, xb, cx⟩] 1 rfl (some ⟨w3.heap.size, 0, none⟩) 1 (w3.alloc (.cells #[.int .u8 (pc.toNat : Int), .slice X dn cx] 32)).heap.size _ (pvs_one (by rw [← HDN.out]; exact World.alloc_heap_new w3 _) (.inl ((H83.out.below (below_new w3 _ |>.mono HBWP.out.size) (Nat.le_refl _)).more (Nat.le_trans HBWP.out.size (below_new w3 _).size)))) (Nat.le_refl _) (by simp) (by show (joinB [(pc, xb)]).length ≤ _; rw [push_len pc xb HPC.out, HDN.out]; unfold pushLen; (repeat' split) <;> omega))
        obtain ⟨sl, hsl⟩ : ∃ sl, pushLen dn = sl := ⟨_, rfl⟩
        have hs76 : dn ≤ 255 → sl ≤ 2 + dn := by intro h255; rw [← hsl]; unfold pushLen; (repeat' split) <;> omega
        have hs77 : sl ≤ 3 + dn := by rw [← hsl]; unfold pushLen; (repeat' split) <;> omega
        have HS76 := Lib.hid hs76
        have HS77 := Lib.hid hs77
        clear hs76 hs77
        clear est est2 hw3 hbp3 hx3 c1
        go_wp2_with (go_at_call 17; refine HJO.out.mono ?_; intro e w5 hr; obtain ⟨S, cS, rfl, _, _, _, hb⟩ := JoinR.ok hr (by show [(pc, xb)].all validB = true; rw [List.all_cons, push_valid pc xb HPC.out (by rw [HDN.out]; omega)]; rfl) (rfl : joinB [(pc, xb)] = joinB [(pc, xb)]) sl (by rw [push_len pc xb HPC.out, HDN.out, hsl]); have HB5 := Lib.hid (btr (below_new w3 _) hb (below_new w3 _).size); have c5 := (HB5.out.cell (p := ⟨b0, off + q, none⟩) hb03).trans c3; have hx5 := (HB5.out.block wp.heap.size hl3).trans HX3.out; clear hr hb)
        have hb05 := Nat.lt_of_lt_of_le hb03 HB5.out.size
        have hl5 := Nat.lt_of_lt_of_le hl3 HB5.out.size
        have HX5 := Lib.hid hx5
        have HB5W := Lib.hid (btr (btr HBW.out HB4.out HBW.out.size) HB5.out (btr HBW.out HB4.out HBW.out.size).size)
        have HBL := Lib.hid (below_new w5 (.cells #[.int .u8 76, .int .u8 77] 5))
        have HXL := Lib.hid (World.alloc_heap_new w5 (.cells #[.int .u8 76, .int .u8 77] 5))
        have HXX := Lib.hid (HX.out.below ((btr (btr (btr HB2.out HB3.out HB2.out.size) HB4.out (btr HB2.out HB3.out HB2.out.size).size) HB5.out (btr (btr HB2.out HB3.out HB2.out.size) HB4.out (btr HB2.out HB3.out HB2.out.size).size).size).mono HB.out.size) (Nat.le_refl _))
        clear hx5 e0 e1 c3
        go_loopw [80] (fun i wi => ∃ k : Nat, k ≤ 2 ∧ i = .int .i64 (k : Int) ∧ Below (w5.alloc (.cells #[.int .u8 76, .int .u8 77] 5)).heap.size (w5.alloc (.cells #[.int .u8 76, .int .u8 77] 5)) wi) (fun i _ => 2 - (intOf i).toNat)
        case atStart => exact ⟨0, by decide, rfl, Below.refl _ _⟩
        case round =>
          obtain ⟨k, hk, rfl, hbi⟩ := hrel
          have HBI := Lib.hid hbi
          have HB5I := Lib.hid (HBL.out.trans (hbi.mono HBL.out.size))
          have HBWI := Lib.hid (HB5I.out)
          have hwi : w5.heap.size < wr.heap.size := by have := hbi.size; rw [World.size_alloc] at this; omega
          have hxi := (hbi.block w5.heap.size (by rw [World.size_alloc]; omega)).trans HXL.out
          obtain ⟨g0, g1, _, _⟩ := two_cells hxi
          have c6 := (HB5I.out.cell (p := ⟨b0, off + q, none⟩) hb05).trans c5
          have hx6 := (HB5I.out.block wp.heap.size hl5).trans HX5.out
          have hb06 := Nat.lt_of_lt_of_le hb05 HB5I.out.size
          have hl6 := Nat.lt_of_lt_of_le hl5 HB5I.out.size
          have hne5 : b0 ≠ w5.heap.size := by omega
          clear hxi hbi
          by_cases hk2 : k < 2
          · have h01 : k = 0 ∨ k = 1 := by omega
            clear hk hx6
            rcases h01 with rfl | rfl
            · clear hk2
              have HJ6 := Lib.hid (join_any [⟨76, xA, xb, xc⟩] 1 rfl (some ⟨wr.heap.size, 0, none⟩) 1 (wr.alloc (.cells #[.int .u8 76, .slice xA dn xc] 32)).heap.size _ (pvs_one (by rw [← HDN.out]; exact World.alloc_heap_new wr _) ((HXX.out.below ((HBWI.out.trans ((below_new wr (.cells #[.int .u8 76, .slice xA dn xc] 32)).mono HBWI.out.size)).mono HB5W.out.size) (Nat.le_refl _)).more (Nat.le_trans (Nat.le_trans HB5W.out.size HBWI.out.size) (below_new wr _).size))) (Nat.le_refl _) (by simp) (by show (joinB [((76 : UInt8), xb)]).length ≤ _; rw [len_76, HDN.out]; omega))
              by_cases h255 : dn ≤ 255
              · obtain ⟨o2, ho2⟩ : ∃ o2, 2 + dn = o2 := ⟨_, rfl⟩
                have HO2 := Lib.hid ho2
                have d9 : decide (o2 < sl) = false := by have := HS76.out h255; simp; omega
                have hvd : [((76 : UInt8), xb)].all validB = true := by rw [List.all_cons, valid_76, HDN.out]; simp; omega
                have HVD := Lib.hid hvd
                clear ho2 hvd
                go_wp2_with (go_at_call 17; refine HJ6.out.mono ?_; intro e w7 hr; obtain ⟨S7, c7, rfl, _, _, _, hb⟩ := JoinR.ok hr HVD.out (rfl : joinB [((76 : UInt8), xb)] = joinB [((76 : UInt8), xb)]) o2 (by rw [len_76, HDN.out, HO2.out]); have HB7 := Lib.hid (btr (below_new wr _) hb (below_new wr _).size); clear hr hb)
                refine ⟨⟨1, by omega, by go_num, btr HBI.out HB7.out HBI.out.size⟩, ?_⟩
                simp [intOf]
              · have hvd : [((76 : UInt8), xb)].all validB = false := by rw [List.all_cons, valid_76, HDN.out]; simp; omega
                have HVD := Lib.hid hvd
                clear hvd
                go_wp2_with (go_at_call 17; refine HJ6.out.mono ?_; intro e w7 hr; obtain ⟨rfl, hb⟩ := JoinR.bad hr HVD.out; have HB7 := Lib.hid (btr (below_new wr _) hb (below_new wr _).size); clear hr hb)
                refine ⟨⟨1, by omega, by go_num, btr HBI.out HB7.out HBI.out.size⟩, ?_⟩
                simp [intOf]
            · clear hk2
              have HJ6 := Lib.hid (join_any [⟨77, xA, xb, xc⟩] 1 rfl (some ⟨wr.heap.size, 0, none⟩) 1 (wr.alloc (.cells #[.int .u8 77, .slice xA dn xc] 32)).heap.size _ (pvs_one (by rw [← HDN.out]; exact World.alloc_heap_new wr _) ((HXX.out.below ((HBWI.out.trans ((below_new wr (.cells #[.int .u8 77, .slice xA dn xc] 32)).mono HBWI.out.size)).mono HB5W.out.size) (Nat.le_refl _)).more (Nat.le_trans (Nat.le_trans HB5W.out.size HBWI.out.size) (below_new wr _).size))) (Nat.le_refl _) (by simp) (by show (joinB [((77 : UInt8), xb)]).length ≤ _; rw [len_77, HDN.out]; omega))
              obtain ⟨o2, ho2⟩ : ∃ o2, 3 + dn = o2 := ⟨_, rfl⟩
              have HO2 := Lib.hid ho2
              have d9 : decide (o2 < sl) = false := by have := HS77.out; simp; omega
              have hvd : [((77 : UInt8), xb)].all validB = true := by rw [List.all_cons, valid_77, HDN.out]; simp; omega
              have HVD := Lib.hid hvd
              clear ho2 hvd
              go_wp2_with (go_at_call 17; refine HJ6.out.mono ?_; intro e w7 hr; obtain ⟨S7, c7, rfl, _, _, _, hb⟩ := JoinR.ok hr HVD.out (rfl : joinB [((77 : UInt8), xb)] = joinB [((77 : UInt8), xb)]) o2 (by rw [len_77, HDN.out, HO2.out]); have HB7 := Lib.hid (btr (below_new wr _) hb (below_new wr _).size); clear hr hb)
              refine ⟨⟨2, by omega, by go_num, btr HBI.out HB7.out HBI.out.size⟩, ?_⟩
              simp [intOf]
          · obtain rfl : k = 2 := by omega
            clear hk hk2 g0 g1
            obtain ⟨e0, e1, _, _⟩ := two_cells hx6
            have HBRI := Lib.hid (btr (btr (btr (btr HB2.out HB3.out HB2.out.size) HB4.out (btr HB2.out HB3.out HB2.out.size).size) HB5.out (btr (btr HB2.out HB3.out HB2.out.size) HB4.out (btr HB2.out HB3.out HB2.out.size).size).size) HB5I.out (btr (btr (btr HB2.out HB3.out HB2.out.size) HB4.out (btr HB2.out HB3.out HB2.out.size).size) HB5.out (btr (btr HB2.out HB3.out HB2.out.size) HB4.out (btr HB2.out HB3.out HB2.out.size).size).size).size)
            have HBRA := Lib.hid (btr HBRI.out (below_new wr (.cells #[.int .u8 (pc.toNat : Int), .slice X dn cx] 32)) HBRI.out.size)
            have H8W := Lib.hid (Holds8.more (Holds8.below (btr (btr (btr HB3.out HB4.out HB3.out.size) HB5.out (btr HB3.out HB4.out HB3.out.size).size) (btr HB5I.out (below_new wr (.cells #[.int .u8 (pc.toNat : Int), .slice X dn cx] 32)) HB5I.out.size) (btr (btr HB3.out HB4.out HB3.out.size) HB5.out (btr HB3.out HB4.out HB3.out.size).size).size) (Nat.le_refl _) H8.out) (btr (btr (btr HB3.out HB4.out HB3.out.size) HB5.out (btr HB3.out HB4.out HB3.out.size).size) (btr HB5I.out (below_new wr (.cells #[.int .u8 (pc.toNat : Int), .slice X dn cx] 32)) HB5I.out.size) (btr (btr HB3.out HB4.out HB3.out.size) HB5.out (btr HB3.out HB4.out HB3.out.size).size).size).size)
            clear hx6
            go_wp2_with (at_builtin; refine wpList_append_pv rfl (.tmp 109) (.tmp 111) rfl w.heap.size _ rs ⟨pc, X, xb, cx⟩ q wr.heap.size rfl (ownsRow_below HP.out.2.2.1 HBRA.out) rfl (by rw [← HDN.out]; exact World.alloc_heap_new wr _) (by omega) (Nat.le_trans HB.out.size HBRA.out.size) ?_; intro v' w8 ho8 hg8 h58)
            refine ⟨⟨q + 1, rs ++ [⟨pc, X, xb, cx⟩], by omega, by go_num, pushed_grow HP.out HBRA.out ⟨pc, X, xb, cx⟩ ⟨push_valid pc xb HPC.out (by rw [HDN.out]; omega), push_no pc xb HPC.out (by rw [HDN.out]; omega), by show xb.length ≤ 2000; rw [HDN.out]; exact hd2⟩ H8W.out HXB.out ho8 hg8 h58 HB.out.size, (btr HB.out HBRA.out HB.out.size).grown hg8 (btr HB.out HBRA.out HB.out.size).size (fun r e => (HP.out.2.2.1.lt r e).1)⟩, ?_⟩
            simp [intOf]
            omega
    · obtain rfl : n = q := by omega
      obtain ⟨p1, p2, p3, p4⟩ := hP
      obtain ⟨PA, ca, rfl, hpv, _⟩ := pvs_row (w := w) p1.symm p3 (fun p hp => (p4 p hp).1)
      have hjl0 : (joinB (rs.map PV.is)).length ≤ 100000 := by
        have q1 := join_len rs
        have q2 := total_small rs fun p hp => (p2 p hp).2.2
        omega
      have hv : (rs.map PV.is).all validB = true := by
        rw [List.all_eq_true]
        intro o ho
        obtain ⟨p, hp, rfl⟩ := List.mem_map.1 ho
        exact (p2 p hp).1
      have hno : ∀ o ∈ rs.map PV.is, noB o = false := by
        intro o ho
        obtain ⟨p, hp, rfl⟩ := List.mem_map.1 ho
        exact (p2 p hp).2.1
      have HJO := Lib.hid (join_any rs n p1.symm PA ca wr.heap.size wr hpv (Nat.le_refl _) (by omega) (by omega))
      have HB := Lib.hid hB
      have HV := Lib.hid hv
      have HPJ0 := pushes_join _ hv hno
      obtain ⟨J, hJ⟩ : ∃ J, joinB (rs.map PV.is) = J := ⟨_, rfl⟩
      rw [hJ] at hjl0 HPJ0
      have hjl : J.length ≤ 900000 := by omega
      have HJE := Lib.hid hJ
      have HPJ := Lib.hid HPJ0
      obtain ⟨j, hj⟩ : ∃ j, j = J.length := ⟨_, rfl⟩
      have HJ := Lib.hid hj
      have hval : ∀ W : World, Calls Try.prog 20 #[.agg #[.int .u8 (xq.toNat : Int), .slice none 0 0]] W (ValR W (xq, [])) := fun W => value_any ⟨xq, none, [], 0⟩ W.heap.size W (.inl (.inl ⟨rfl, rfl⟩)) (Nat.le_refl _)
      clear hB p1 p2 p3 p4 hpv hjl0 HPJ0 hJ hj hq
      by_cases hz : xq.toNat = 0
      · cases hvb : valB (xq, []) with
        | none =>
          have HVB := Lib.hid hvb
          have HPM := Lib.hid (show pushesB (J ++ [xq]) = false by rw [← HJE.out, pushes_more _ hv hno xq (by omega), HVB.out]; rfl)
          have f0 : decide ((1 : Int) ≤ (xq.toNat : Int)) = false := by simp; omega
          clear hv hno hvb hz
          go_wp2_with (first
            | (go_at_call 17; refine HJO.out.mono ?_; intro e w2 hr; obtain ⟨S, cS, rfl, hown, hcx, hb⟩ := JoinR.own hr HV.out HJE.out j HJ.out; have HB2 := Lib.hid hb; have HOW := Lib.hid hown; have HVA := Lib.hid (hval w2); clear hr hb hown)
            | (go_at_call 20; refine HVA.out.mono ?_; intro e w3 hr; obtain ⟨rfl, hb⟩ := hr.none HVB.out; have HB3 := Lib.hid hb; have HPU := Lib.hid (pushes_any J j HJ.out S cS w2.heap.size w3 (by omega) (own_h8 HJ.out HOW.out).2 hcx (Holds8.below HB3.out (Nat.le_refl _) (own_h8 HJ.out HOW.out).1) HB3.out.size); rw [HPJ.out] at HPU; clear hr hb HVA)
            | (go_at_call 12; (with_reducible refine HPU.out.mono ?_); rintro e w4 ⟨rfl, hb⟩; have HB4 := Lib.hid hb; clear hb HPU; obtain ⟨Y, m, cy, w5, ha, hm, h8, hyl, hym, hbw⟩ := app_code w4 wr.heap.size S j cS J HJ.out (ownsRow_below HOW.out (btr HB3.out HB4.out HB3.out.size)) xq (by omega) (btr (btr HB2.out HB3.out HB2.out.size) HB4.out (btr HB2.out HB3.out HB2.out.size).size).size; have HB5 := Lib.hid (hbw w HB.out.size (btr HB.out (btr (btr HB2.out HB3.out HB2.out.size) HB4.out (btr HB2.out HB3.out HB2.out.size).size) HB.out.size)); have HP2 := Lib.hid (pushes_any (J ++ [xq]) m hm Y cy w5.heap.size w5 (by rw [List.length_append, List.length_singleton]; omega) hyl hym h8 (Nat.le_refl _)); rw [HPM.out] at HP2; clear hm h8 hyl hym hbw)
            | (at_builtin; refine wpList_append_run (.tmp 142) (.tmp 144) 22 rfl (by rfl) _ _ rfl rfl _ _ ha ?_; clear ha)
            | (go_at_call 12; (with_reducible refine HP2.out.mono ?_); rintro e w6 ⟨rfl, hb⟩; have HB6 := Lib.hid hb; clear hb HP2))
          go_ret
          exact ⟨rfl, btr HB5.out HB6.out HB5.out.size⟩
        | some u =>
          have HVB := Lib.hid hvb
          have HPM := Lib.hid (show pushesB (J ++ [xq]) = true by rw [← HJE.out, pushes_more _ hv hno xq (by omega), HVB.out]; rfl)
          have f0 : decide ((1 : Int) ≤ (xq.toNat : Int)) = false := by simp; omega
          clear hv hno hvb hz
          go_wp2_with (first
            | (go_at_call 17; refine HJO.out.mono ?_; intro e w2 hr; obtain ⟨S, cS, rfl, hown, hcx, hb⟩ := JoinR.own hr HV.out HJE.out j HJ.out; have HB2 := Lib.hid hb; have HOW := Lib.hid hown; have HVA := Lib.hid (hval w2); clear hr hb hown)
            | (go_at_call 20; refine HVA.out.mono ?_; intro e w3 hr; obtain ⟨vv, rfl, _, hb⟩ := hr.some HVB.out; have HB3 := Lib.hid hb; have HPU := Lib.hid (pushes_any J j HJ.out S cS w2.heap.size w3 (by omega) (own_h8 HJ.out HOW.out).2 hcx (Holds8.below HB3.out (Nat.le_refl _) (own_h8 HJ.out HOW.out).1) HB3.out.size); rw [HPJ.out] at HPU; clear hr hb HVA)
            | (go_at_call 12; (with_reducible refine HPU.out.mono ?_); rintro e w4 ⟨rfl, hb⟩; have HB4 := Lib.hid hb; clear hb HPU; obtain ⟨Y, m, cy, w5, ha, hm, h8, hyl, hym, hbw⟩ := app_code w4 wr.heap.size S j cS J HJ.out (ownsRow_below HOW.out (btr HB3.out HB4.out HB3.out.size)) xq (by omega) (btr (btr HB2.out HB3.out HB2.out.size) HB4.out (btr HB2.out HB3.out HB2.out.size).size).size; have HB5 := Lib.hid (hbw w HB.out.size (btr HB.out (btr (btr HB2.out HB3.out HB2.out.size) HB4.out (btr HB2.out HB3.out HB2.out.size).size) HB.out.size)); have HP2 := Lib.hid (pushes_any (J ++ [xq]) m hm Y cy w5.heap.size w5 (by rw [List.length_append, List.length_singleton]; omega) hyl hym h8 (Nat.le_refl _)); rw [HPM.out] at HP2; clear hm h8 hyl hym hbw)
            | (at_builtin; refine wpList_append_run (.tmp 142) (.tmp 144) 22 rfl (by rfl) _ _ rfl rfl _ _ ha ?_; clear ha)
            | (go_at_call 12; (with_reducible refine HP2.out.mono ?_); rintro e w6 ⟨rfl, hb⟩; have HB6 := Lib.hid hb; clear hb HP2))
          go_ret
          exact ⟨rfl, btr HB5.out HB6.out HB5.out.size⟩
      · by_cases hg : xq.toNat ≤ 77
        · cases hvb : valB (xq, []) with
          | none =>
            have HVB := Lib.hid hvb
            have f0 : (1 : Int) ≤ (xq.toNat : Int) := by omega
            have f1 : (xq.toNat : Int) ≤ 77 := by omega
            clear hv hno hvb hz hg
            go_wp2_with (first
              | (go_at_call 17; refine HJO.out.mono ?_; intro e w2 hr; obtain ⟨S, cS, rfl, hown, hcx, hb⟩ := JoinR.own hr HV.out HJE.out j HJ.out; have HB2 := Lib.hid hb; have HOW := Lib.hid hown; have HVA := Lib.hid (hval w2); clear hr hb hown)
              | (go_at_call 20; refine HVA.out.mono ?_; intro e w3 hr; obtain ⟨rfl, hb⟩ := hr.none HVB.out; have HB3 := Lib.hid hb; have HPU := Lib.hid (pushes_any J j HJ.out S cS w2.heap.size w3 (by omega) (own_h8 HJ.out HOW.out).2 hcx (Holds8.below HB3.out (Nat.le_refl _) (own_h8 HJ.out HOW.out).1) HB3.out.size); rw [HPJ.out] at HPU; clear hr hb HVA)
              | (go_at_call 12; (with_reducible refine HPU.out.mono ?_); rintro e w4 ⟨rfl, hb⟩; have HB4 := Lib.hid hb; clear hb HPU))
            go_ret
            exact ⟨rfl, btr HB.out (btr (btr HB2.out HB3.out HB2.out.size) HB4.out (btr HB2.out HB3.out HB2.out.size).size) HB.out.size⟩
          | some u =>
            have HVB := Lib.hid hvb
            have f0 : (1 : Int) ≤ (xq.toNat : Int) := by omega
            have f1 : (xq.toNat : Int) ≤ 77 := by omega
            clear hv hno hvb hz hg
            go_wp2_with (first
              | (go_at_call 17; refine HJO.out.mono ?_; intro e w2 hr; obtain ⟨S, cS, rfl, hown, hcx, hb⟩ := JoinR.own hr HV.out HJE.out j HJ.out; have HB2 := Lib.hid hb; have HOW := Lib.hid hown; have HVA := Lib.hid (hval w2); clear hr hb hown)
              | (go_at_call 20; refine HVA.out.mono ?_; intro e w3 hr; obtain ⟨vv, rfl, _, hb⟩ := hr.some HVB.out; have HB3 := Lib.hid hb; have HPU := Lib.hid (pushes_any J j HJ.out S cS w2.heap.size w3 (by omega) (own_h8 HJ.out HOW.out).2 hcx (Holds8.below HB3.out (Nat.le_refl _) (own_h8 HJ.out HOW.out).1) HB3.out.size); rw [HPJ.out] at HPU; clear hr hb HVA)
              | (go_at_call 12; (with_reducible refine HPU.out.mono ?_); rintro e w4 ⟨rfl, hb⟩; have HB4 := Lib.hid hb; clear hb HPU))
            go_ret
            exact ⟨rfl, btr HB.out (btr (btr HB2.out HB3.out HB2.out.size) HB4.out (btr HB2.out HB3.out HB2.out.size).size) HB.out.size⟩
        · cases hvb : valB (xq, []) with
          | none =>
            have HVB := Lib.hid hvb
            have HPM := Lib.hid (show pushesB (J ++ [xq]) = false by rw [← HJE.out, pushes_more _ hv hno xq (by omega), HVB.out]; rfl)
            have f0 : (1 : Int) ≤ (xq.toNat : Int) := by omega
            have f1 : decide ((xq.toNat : Int) ≤ 77) = false := by simp; omega
            clear hv hno hvb hz hg
            go_wp2_with (first
              | (go_at_call 17; refine HJO.out.mono ?_; intro e w2 hr; obtain ⟨S, cS, rfl, hown, hcx, hb⟩ := JoinR.own hr HV.out HJE.out j HJ.out; have HB2 := Lib.hid hb; have HOW := Lib.hid hown; have HVA := Lib.hid (hval w2); clear hr hb hown)
              | (go_at_call 20; refine HVA.out.mono ?_; intro e w3 hr; obtain ⟨rfl, hb⟩ := hr.none HVB.out; have HB3 := Lib.hid hb; have HPU := Lib.hid (pushes_any J j HJ.out S cS w2.heap.size w3 (by omega) (own_h8 HJ.out HOW.out).2 hcx (Holds8.below HB3.out (Nat.le_refl _) (own_h8 HJ.out HOW.out).1) HB3.out.size); rw [HPJ.out] at HPU; clear hr hb HVA)
              | (go_at_call 12; (with_reducible refine HPU.out.mono ?_); rintro e w4 ⟨rfl, hb⟩; have HB4 := Lib.hid hb; clear hb HPU; obtain ⟨Y, m, cy, w5, ha, hm, h8, hyl, hym, hbw⟩ := app_code w4 wr.heap.size S j cS J HJ.out (ownsRow_below HOW.out (btr HB3.out HB4.out HB3.out.size)) xq (by omega) (btr (btr HB2.out HB3.out HB2.out.size) HB4.out (btr HB2.out HB3.out HB2.out.size).size).size; have HB5 := Lib.hid (hbw w HB.out.size (btr HB.out (btr (btr HB2.out HB3.out HB2.out.size) HB4.out (btr HB2.out HB3.out HB2.out.size).size) HB.out.size)); have HP2 := Lib.hid (pushes_any (J ++ [xq]) m hm Y cy w5.heap.size w5 (by rw [List.length_append, List.length_singleton]; omega) hyl hym h8 (Nat.le_refl _)); rw [HPM.out] at HP2; clear hm h8 hyl hym hbw)
              | (at_builtin; refine wpList_append_run (.tmp 142) (.tmp 144) 22 rfl (by rfl) _ _ rfl rfl _ _ ha ?_; clear ha)
              | (go_at_call 12; (with_reducible refine HP2.out.mono ?_); rintro e w6 ⟨rfl, hb⟩; have HB6 := Lib.hid hb; clear hb HP2))
            go_ret
            exact ⟨rfl, btr HB5.out HB6.out HB5.out.size⟩
          | some u =>
            have HVB := Lib.hid hvb
            have HPM := Lib.hid (show pushesB (J ++ [xq]) = true by rw [← HJE.out, pushes_more _ hv hno xq (by omega), HVB.out]; rfl)
            have f0 : (1 : Int) ≤ (xq.toNat : Int) := by omega
            have f1 : decide ((xq.toNat : Int) ≤ 77) = false := by simp; omega
            clear hv hno hvb hz hg
            go_wp2_with (first
              | (go_at_call 17; refine HJO.out.mono ?_; intro e w2 hr; obtain ⟨S, cS, rfl, hown, hcx, hb⟩ := JoinR.own hr HV.out HJE.out j HJ.out; have HB2 := Lib.hid hb; have HOW := Lib.hid hown; have HVA := Lib.hid (hval w2); clear hr hb hown)
              | (go_at_call 20; refine HVA.out.mono ?_; intro e w3 hr; obtain ⟨vv, rfl, _, hb⟩ := hr.some HVB.out; have HB3 := Lib.hid hb; have HPU := Lib.hid (pushes_any J j HJ.out S cS w2.heap.size w3 (by omega) (own_h8 HJ.out HOW.out).2 hcx (Holds8.below HB3.out (Nat.le_refl _) (own_h8 HJ.out HOW.out).1) HB3.out.size); rw [HPJ.out] at HPU; clear hr hb HVA)
              | (go_at_call 12; (with_reducible refine HPU.out.mono ?_); rintro e w4 ⟨rfl, hb⟩; have HB4 := Lib.hid hb; clear hb HPU; obtain ⟨Y, m, cy, w5, ha, hm, h8, hyl, hym, hbw⟩ := app_code w4 wr.heap.size S j cS J HJ.out (ownsRow_below HOW.out (btr HB3.out HB4.out HB3.out.size)) xq (by omega) (btr (btr HB2.out HB3.out HB2.out.size) HB4.out (btr HB2.out HB3.out HB2.out.size).size).size; have HB5 := Lib.hid (hbw w HB.out.size (btr HB.out (btr (btr HB2.out HB3.out HB2.out.size) HB4.out (btr HB2.out HB3.out HB2.out.size).size) HB.out.size)); have HP2 := Lib.hid (pushes_any (J ++ [xq]) m hm Y cy w5.heap.size w5 (by rw [List.length_append, List.length_singleton]; omega) hyl hym h8 (Nat.le_refl _)); rw [HPM.out] at HP2; clear hm h8 hyl hym hbw)
              | (at_builtin; refine wpList_append_run (.tmp 142) (.tmp 144) 22 rfl (by rfl) _ _ rfl rfl _ _ ha ?_; clear ha)
              | (go_at_call 12; (with_reducible refine HP2.out.mono ?_); rintro e w6 ⟨rfl, hb⟩; have HB6 := Lib.hid hb; clear hb HP2))
            go_ret
            exact ⟨rfl, btr HB5.out HB6.out HB5.out.size⟩
end Go.Proofs.Ytkecldmjjhhlgaa.Oct
