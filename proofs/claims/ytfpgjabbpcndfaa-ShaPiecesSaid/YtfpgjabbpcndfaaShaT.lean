/- ShaPieces is true at every input. No condition. -/
import Derived.Test.YtfpgjabbpcndfaaShaR
import Derived.LaidEqlPtr
namespace Go.Proofs.Ytfpgjabbpcndfaa.Oct
set_option linter.unusedVariables false
set_option linter.unusedSimpArgs false
open Go.Proofs.Ytfpgjabbpcndfaa Go.RowKit Go.Lib Go.Shelf Go.ChangeShapes Go.WideShapes Go.ChangeAt

theorem PJ.two {w W : World} {gs go : Nat} {va ve : Value} {sl al el : List UInt8} (h : PJ w gs go va ve sl al el W) {row : Nat} (hb : W.heap.size ≤ row) {W' : World} (hg : W.grownBy W' none ∨ W.grownBy W' (some row)) : PJ w gs go va ve sl al el W' := by
  have hs := h.sum.lt
  have ho := h.oth.lt
  have hw := h.bel.size
  rcases hg with hg | hg
  · exact h.turn hg (fun k e => by cases e) (fun e => by cases e) (fun e => by cases e) (fun k _ e => by cases e) (fun k _ e => by cases e)
  · exact h.turn hg (fun k e => by injection e with e; omega) (fun e => by injection e with e; omega) (fun e => by injection e with e; omega) (fun k e e2 => by injection e2 with e2; have := (h.rowA.lt k e).2; omega) (fun k e e2 => by injection e2 with e2; have := (h.rowE.lt k e).2; omega)
theorem holds_heap {W : World} {g : Nat} {cur : Array Value} {bs : List UInt8} (h : W.heap[g]? = some (.cells cur 5 (0, 0))) (hc : ∀ i, i < bs.length → cur[i]? = some (.int .u8 (((bs.getD i 0).toNat : Nat) : Int))) : Holds8 W.heap.size W (some ⟨g, 0, none⟩) bs :=
  .inr ⟨g, 0, rfl, (Array.getElem?_eq_some_iff.1 h).1, fun j hj => by
    rw [cell_of_row _ _ _ _ _ _ h, Nat.zero_add, hc j hj]
    simp [List.getD, hj]⟩
theorem grown_setCellT (w : World) (a : Addr) (u : Value) : w.grownBy (w.setCell a u) (some a.block) :=
  ⟨rfl, rfl, rfl, by simp, fun k _ hk => heap_setCell_other w a k u (fun e => hk (by rw [e]))⟩
theorem setCell_row (W : World) (g i : Nat) (cs : Array Value) (t : TypeId) (v : Value) (h : W.heap[g]? = some (.cells cs t (0, 0))) : (W.setCell ⟨g, i, none⟩ v).heap[g]? = some (.cells (cs.setIfInBounds i v) t (0, 0)) := by
  rw [setCell_eq_setRow W g i cs t (0, 0) v h]
  exact setRow_heap _ _ _ _ _ _ h
theorem run_neq_ptr {P : Program} {tp te : TypeId} {j : TypeInfo} (a : Addr) (hp : P.underlying tp = some (.pointer te)) (hte : P.info? te = some j) (w : World) :
    (binOp .neq tp (.pointer (some a)) (.pointer (some a))).run P w = .ok (.bool false) w := by
  have h : ∀ d : Nat, (Op.equalIn (d + 1) tp (.pointer (some a)) (.pointer (some a))).run P w = .ok true w := fun d => by
    simp [Op.equalIn, run_underlying hp, sizeOf, typeInfo, hte, run_sameAddr_same]
  simp only [binOp]
  simp [Op.equal, Op.maxDepth, h 9999]
theorem neq_sum (a : Addr) (w : World) : (binOp .neq 29 (.pointer (some a)) (.pointer (some a))).run Try.prog w = .ok (.bool false) w := by
  cases hj : Try.prog.info? 49 with
  | none => exact absurd (sumc_info squ zero64b 0 0 rfl) (by rw [hj]; intro h; cases h)
  | some j => exact run_neq_ptr a Try.underlying29 hj w
theorem PJ.holdsA {w W : World} {gs go n c : Nat} {X : Option Addr} {ve : Value} {sl al el : List UInt8} (h : PJ w gs go (.slice X n c) ve sl al el W) : Holds8 W.heap.size W X al := by
  obtain ⟨A, c', e, h2, _⟩ := own_open h.rowA
  injection e with e
  rw [e]
  exact h2
theorem PJ.holdsE {w W : World} {gs go n c : Nat} {X : Option Addr} {va : Value} {sl al el : List UInt8} (h : PJ w gs go va (.slice X n c) sl al el W) : Holds8 W.heap.size W X el := by
  obtain ⟨A, c', e, h2, _⟩ := own_open h.rowE
  injection e with e
  rw [e]
  exact h2
theorem rowA_holds {W : World} {base n c : Nat} {X : Option Addr} {bs : List UInt8} (h : W.ownsRow base 5 1 (.slice X n c) bs.length (vals bs)) : Holds8 W.heap.size W X bs := by
  obtain ⟨A, c', e, h2, _⟩ := own_open h
  injection e with e
  rw [e]
  exact h2
/-- A row of the call's own, made of what came in. -/
theorem own_some {W W' : World} {base g0 : Nat} {v : Value} {bs : List UInt8} (h : W'.ownsRow base 5 1 v bs.length (vals bs)) (hv : v.ownBlock = some g0 ∨ v.ownBlock = some W.heap.size) : ∃ g c cur, v = .slice (some ⟨g, 0, none⟩) bs.length c ∧ base ≤ g ∧ g < W'.heap.size ∧ bs.length ≤ c ∧ W'.heap[g]? = some (.cells cur 5 (0, 0)) ∧ ∀ i, i < bs.length → cur[i]? = some (.int .u8 (((bs.getD i 0).toNat : Nat) : Int)) := by
  rcases h.2 with ⟨e, _⟩ | ⟨g, cap, cur, rfl, hg, hc, hn, _, hs, ht⟩
  · subst e
    rcases hv with hv | hv <;> cases hv
  · refine ⟨g, cap, cur, rfl, hg, (Array.getElem?_eq_some_iff.1 hc).1, hn, hc, fun i hi => ?_⟩
    have h1 := vals_get bs i hi
    rw [← ht, List.getElem?_take_of_lt (by omega), Array.getElem?_toList] at h1
    rw [h1, List.getD, List.getElem?_eq_getElem hi]
    rfl

set_option maxRecDepth 100000 in
set_option maxHeartbeats 8000000 in
theorem pieces_walk (l : List BV) (PA : Option Addr) (cap : Nat) (at_ : Int) (hat : 0 ≤ at_ ∧ at_ < 256) (hcap : l.length ≤ cap) (w : World) (hB : BvsAt w.heap.size w PA l) :
    Calls Try.prog 4 #[.slice PA l.length cap, .int .u8 at_] w fun e w' => e = .returned (.bool true) ∧ Below w.heap.size w w' := by
  have HB := Lib.hid hB
  obtain ⟨n, hn⟩ : ∃ n, l.length = n := ⟨_, rfl⟩
  rw [hn] at hcap ⊢
  have HN := Lib.hid hn
  clear hn hB
  by_cases hbig : 20 < n
  · go_enter Try.func4, Try.ntmps4
    go_wp2
    go_ret
    exact ⟨rfl, Below.refl _ _⟩
  · have d1 : decide ((20 : Int) < (n : Int)) = false := by simp; omega
    have hn20 : n ≤ 20 := by omega
    clear hbig
    have CN := Lib.hid (fun W => new_any W)
    go_enter Try.func4, Try.ntmps4
    go_wp2_with (first
      | (go_at_call 13; (with_reducible refine (CN.out _).mono ?_); rintro e W1 ⟨gs, rfl, hgs, hs1, hb1⟩; have CC := Lib.hid (copy_any W1 gs [] 0 hs1))
      | (go_at_call 14; (with_reducible refine CC.out.mono ?_); rintro e W2 ⟨go, rfl, hgo, hs2, hb2⟩; have hlt := hs1.lt; have hJ0 : PJ w gs go (.slice none 0 0) (.slice none 0 0) [] [] [] W2 := ⟨hb1.trans (hb2.mono hb1.size), hs1.same (hb2.block gs hlt), hs2, World.ownsRow_nil _ _ _ _, World.ownsRow_nil _ _ _ _, hgs, Nat.le_trans hb1.size hgo, (by omega), (by intro e; cases e), (by intro e; cases e), (by intro e; cases e), (by intro e; cases e), (by intro k e; cases e)⟩; clear CC hgs hs1 hb1 hgo hs2 hb2 hlt))
    have HJ0 := Lib.hid hJ0
    clear hJ0
    obtain ⟨q, hq⟩ : ∃ q : Nat, at_ % (n : Int) = (q : Int) ∨ n = 0 := ⟨(at_ % (n : Int)).toNat, by rcases Nat.eq_zero_or_pos n with h | h; exact .inr h; exact .inl (Int.toNat_of_nonneg (Int.emod_nonneg _ (by omega))).symm⟩
    have HQ := Lib.hid hq
    clear hq
    go_loopw [6, 7, 8, 20] (fun vo va ve iv wr => ∃ (i go : Nat) (al el : List UInt8), i ≤ n ∧ iv = .int .i64 (i : Int) ∧ vo = .pointer (some ⟨go, 0, none⟩) ∧ al.length ≤ 300 * i ∧ el.length ≤ 6000 ∧ Hid ((i ≤ q → el = []) ∧ PJ w gs go va ve al al el wr)) (fun _ _ _ iv _ => n - (RowKit.intOf iv).toNat)
    case atStart => exact ⟨0, go, [], [], Nat.zero_le _, rfl, rfl, Nat.zero_le _, Nat.zero_le _, Lib.hid ⟨fun _ => rfl, HJ0.out⟩⟩
    case round =>
      clear HJ0
      obtain ⟨i, go, al, el, hi, rfl, rfl, hal, hel, HR⟩ := hrel
      obtain ⟨XA, ca, rfl, hXA, hca, hcn, hXb⟩ := own_open HR.out.2.rowA
      obtain ⟨XE, ce, rfl, hXE, hce, hcen, hXeb⟩ := own_open HR.out.2.rowE
      obtain ⟨na, hna⟩ : ∃ na, al.length = na := ⟨_, rfl⟩
      obtain ⟨ne, hne⟩ : ∃ ne, el.length = ne := ⟨_, rfl⟩
      rw [hna] at hal hca ⊢
      rw [hne] at hel hce ⊢
      have HNA := Lib.hid hna
      have HNE := Lib.hid hne
      by_cases hlt : i < n
      · have hBw := HB.out.later HR.out.2.bel
        obtain ⟨p, hp⟩ : ∃ p, l[i]? = some p := ⟨l[i]'(by rw [HN.out]; exact hlt), List.getElem?_eq_getElem _⟩
        have hpi : l[i]'(by rw [HN.out]; exact hlt) = p := (List.getElem?_eq_some_iff.1 hp).2
        obtain ⟨pb, po, rfl, hpb, hpc⟩ := hBw.cells i (by rw [HN.out]; exact hlt)
        have hpm : p ∈ l := List.mem_of_getElem? hp
        obtain ⟨hp8, hplc⟩ := hBw.held p hpm
        have hpw : pb < wr.heap.size := Nat.lt_of_lt_of_le hpb HR.out.2.bel.size
        rw [hpi] at hpc
        obtain ⟨lA, lb, lc⟩ := p
        dsimp only at *
        obtain ⟨m, hm⟩ : ∃ m, lb.length = m := ⟨_, rfl⟩
        rw [hm] at hpc hplc
        have HM := Lib.hid hm
        have HP8 := Lib.hid hp8
        have HPM := Lib.hid hpm
        clear hna hne hp hpi hpm hm hp8 hXA hXE hXb hXeb hBw
        by_cases hlong : 300 < m
        · have HRB := Lib.hid HR.out.2.bel
          go_wp2
          go_ret
          exact ⟨rfl, HRB.out⟩
        · have d3 : decide ((300 : Int) < (m : Int)) = false := by simp; omega
          have hm300 : m ≤ 300 := by omega
          clear hlong
          go_wp2_with (first
            | (at_builtin; refine wpList_append_in rfl (.tmp 29) (.tmp 33) rfl wr.heap.size w.heap.size (.slice (some ⟨wr.heap.size, 0, none⟩) 0 0) [] lb rfl (own_emptyB wr _ (Nat.le_refl _)) lA lc (by rw [HM.out]; rfl) (HP8.out.below (((Below.refl wr.heap.size wr).alloc (Nat.le_refl _) (.cells #[] 5)).mono HR.out.2.bel.size) (Nat.le_refl _)) (by rw [HM.out]; show 0 + m ≤ _; omega) (by rw [World.size_alloc]; omega) ?_; intro v1 W3 hown3 hgr3 hv3; rw [List.nil_append] at hown3))
          obtain ⟨gw, co, curw, e3, hgw, hgwl, hmco, hrow, hcurw⟩ := own_some hown3 hv3
          rw [HM.out] at e3 hmco
          subst e3
          have hb3 : Below wr.heap.size wr W3 := ((Below.refl wr.heap.size wr).alloc (Nat.le_refl _) (.cells #[] 5)).grown hgr3 (by rw [World.size_alloc]; omega) (fun k hk => (by have h2 : some wr.heap.size = some k := hk; injection h2 with h2; omega))
          have hJ3 := HR.out.2.call hb3
          have hgs := HR.out.2.sum.lt
          have hgo := HR.out.2.oth.lt
          have hwgs : gw ≠ gs := by omega
          have hwgo : gw ≠ go := by omega
          have hwA : ∀ k, (Value.slice XA na ca).ownBlock = some k → gw ≠ k := fun k e => by have := (HR.out.2.rowA.lt k (by rw [HNA.out]; exact e)).2; omega
          have hwE : ∀ k, (Value.slice XE ne ce).ownBlock = some k → gw ≠ k := fun k e => by have := (HR.out.2.rowE.lt k (by rw [HNE.out]; exact e)).2; omega
          have hwb : w.heap.size ≤ gw := Nat.le_trans HR.out.2.bel.size hgw
          have hw0 := (HR.out.2.bel.cell (p := ⟨pb, po + i, none⟩) hpb).symm.trans hpc
          have HPW : Hid (∀ W, Below w.heap.size w W → Bytes8 w.heap.size W lA lb) := Lib.hid fun W hb => ((HB.out.later hb).held _ HPM.out).1
          have hI0 : PJ w gs go (.slice XA na ca) (.slice XE ne ce) al al el W3 ∧ W3.heap[gw]? = some (.cells curw 5 (0, 0)) := ⟨by rw [HNA.out, HNE.out] at hJ3; exact hJ3, hrow⟩
          have HEL := Lib.hid HR.out.1
          obtain ⟨LS, hLS⟩ : ∃ x : ByteArray, x = ⟨lb.toArray⟩ := ⟨_, rfl⟩
          have HLS := Lib.hid hLS
          have HCW := Lib.hid hcurw
          have HI0 := Lib.hid hI0
          have HWA := Lib.hid hwA
          have HWE := Lib.hid hwE
          have HW0 := Lib.hid hw0
          have hin : (i : Int) < (n : Int) := by omega
          clear hown3 hgr3 hv3 hgw hgwl hrow hcurw hb3 hJ3 hgs hgo hpc hLS HR HP8 hI0 hwA hwE hw0
          refine wp_region_phased 121 rfl (fun k d W W' => d = 0 → Below W.heap.size W W') (fun p W1 => PJ w gs go (.slice XA na ca) (.slice XE ne ce) (if p = 0 then al else al ++ lb) al el W1 ∧ W1.heap[gw]? = some (.cells curw 5 (0, 0))) [.is (.pointer (some ⟨gs, 0, none⟩)), .is (.slice (some ⟨gw, 0, none⟩) m co), .is (.pointer (some ⟨gs, 0, none⟩)), .is (.pointer (some ⟨gs, 0, none⟩)), .is (.bool false), .is (.bool false), .is (.slice (some ⟨gw, 0, none⟩) m co), .is (.string LS), .is (.slice (some ⟨pb, po, none⟩) n cap), .is (.int .i64 (i : Int)), .is (.pointer (some ⟨pb, po + i, none⟩)), .is (.slice lA m lc), .is (.string LS), .is (.bool false), .is (.bool false)] [2] [0, 0, 0, 0, 1, 1, 1, 1, 1, 1, 1, 1, 1, 1, 1] [0, 0, 0, 1, 1, 1, 1, 1, 1, 1, 1, 1, 1, 1, 1] (by kernel_rfl) (by kernel_rfl) (by kernel_rfl) (fun _ _ W _ => Below.refl _ W) (⟨HI0.out.1.call (Below.refl _ _).drew, HI0.out.2⟩) ⟨?oa0, ?oa1, ?oa2, ?oa3, ?oa4, ?oa5, ?oa6, ?oa7, ?oa8, ?oa9, ?oa10, ?oa11, ?oa12, ?oa13, ?oa14, trivial⟩ ?oaend
          case oa0 => as_aux_lemma =>
            intro p vals W1 F hF hlo hhi hI hd
            have hp : p = 0 := Nat.le_antisymm hhi hlo
            subst hp
            clear hlo hhi
            have E5 : F.eval (.tmp 5) = .pointer (some ⟨gs, 0, none⟩) := hF.out_ (by kernel_rfl) rfl
            refine .inr ⟨wanted_none rfl, .inl ⟨.pointer (some ⟨gs, 0, none⟩), ?_, hI, TyP.of_is rfl⟩⟩
            simp only [execOp, E5, Sem.run_pure]
          case oa1 => as_aux_lemma =>
            intro p vals W1 F hF hlo hhi hI hd
            have hp : p = 0 := Nat.le_antisymm hhi hlo
            subst hp
            clear hlo hhi
            have E10 : F.eval (.tmp 10) = .slice (some ⟨gw, 0, none⟩) m co := hF.out_ (by kernel_rfl) rfl
            refine .inr ⟨wanted_none rfl, .inl ⟨.slice (some ⟨gw, 0, none⟩) m co, ?_, hI, TyP.of_is rfl⟩⟩
            simp only [execOp, E10, Sem.run_pure]
          case oa2 => as_aux_lemma =>
            intro p vals W1 F hF hlo hhi hI hd
            have hp : p = 0 := Nat.le_antisymm hhi hlo
            subst hp
            clear hlo hhi
            have d0 : vals 0 = .pointer (some ⟨gs, 0, none⟩) := hd ⟨0, .data⟩ (Array.mem_of_getElem? (i := 0) rfl) rfl (show (0 : Nat) ≤ 1000 by decide)
            have d1 : vals 1 = .slice (some ⟨gw, 0, none⟩) m co := hd ⟨1, .data⟩ (Array.mem_of_getElem? (i := 1) rfl) rfl (show (0 : Nat) ≤ 1000 by decide)
            have E35 := eval_some (hF.own_ 0 rfl rfl (by kernel_rfl) (by decide)); rw [d0] at E35
            have E36 := eval_some (hF.own_ 1 rfl rfl (by kernel_rfl) (by decide)); rw [d1] at E36
            refine .inr ⟨wanted_none rfl, ?_⟩
            refine .inr (.inr (.inl ⟨15, #[.pointer (some ⟨gs, 0, none⟩), .slice (some ⟨gw, 0, none⟩) m co], ?_, (write_any' W1 gs al na (some ⟨gw, 0, none⟩) m co lb HM.out (by rw [← HNA.out]; exact hI.1.sum) (holds_heap hI.2 HCW.out) hmco (by omega) (by omega) (fun a e => by cases e; exact hwgs)).mono ?_⟩))
            · have Ec : ∀ v, F.eval (.const v) = v := fun _ => rfl; have Ef : ∀ f, F.eval (.func f) = .func (.func f) #[] #[] := fun _ => rfl; clear hF hd; generalize F.eval = ρ at E35 E36 Ec Ef ⊢
              simp [execOp, go_sem, Ec, Ef, E35, E36]
            rintro e W2 ⟨rfl, hs, hg⟩
            have hs2 : SumIn W2 gs (al ++ lb) (al ++ lb).length := by rw [List.length_append, HNA.out, HM.out]; exact hs
            exact ⟨_, rfl, fun h => absurd h (by decide), ⟨hI.1.write hg hs2, (hg.block gw (Array.getElem?_eq_some_iff.1 hI.2).1 (fun e => by injection e with e; exact hwgs e)).trans hI.2⟩, TyP.of_is rfl⟩
          case oa3 => as_aux_lemma =>
            intro p vals W1 F hF hlo hhi hI hd
            have E5 : F.eval (.tmp 5) = .pointer (some ⟨gs, 0, none⟩) := hF.out_ (by kernel_rfl) rfl
            refine .inr ⟨wanted_none rfl, .inl ⟨.pointer (some ⟨gs, 0, none⟩), ?_, hI, TyP.of_is rfl⟩⟩
            simp only [execOp, E5, Sem.run_pure]
          case oa4 => as_aux_lemma =>
            intro p vals W1 F hF hlo hhi hI hd
            have hp : p = 1 := Nat.le_antisymm hhi hlo
            subst hp
            clear hlo hhi
            have d2 : vals 2 = .pointer (some ⟨gs, 0, none⟩) := hd ⟨2, .data⟩ (Array.mem_of_getElem? (i := 0) rfl) rfl (show (1 : Nat) ≤ 1000 by decide)
            have d3 : vals 3 = .pointer (some ⟨gs, 0, none⟩) := hd ⟨3, .data⟩ (Array.mem_of_getElem? (i := 1) rfl) rfl (show (1 : Nat) ≤ 1000 by decide)
            have E37 := eval_some (hF.own_ 2 rfl rfl (by kernel_rfl) (by decide)); rw [d2] at E37
            have E38 := eval_some (hF.own_ 3 rfl rfl (by kernel_rfl) (by decide)); rw [d3] at E38
            refine .inr ⟨wanted_none rfl, .inl ⟨.bool false, ?_, hI, TyP.of_is rfl⟩⟩
            have Ec : ∀ v, F.eval (.const v) = v := fun _ => rfl; have Ef : ∀ f, F.eval (.func f) = .func (.func f) #[] #[] := fun _ => rfl; clear hF hd; generalize F.eval = ρ at E37 E38 Ec Ef ⊢
            simp [execOp, go_sem, Ec, E37, E38, neq_sum]
          case oa5 => as_aux_lemma =>
            intro p vals W1 F hF hlo hhi hI hd
            have hp : p = 1 := Nat.le_antisymm hhi hlo
            subst hp
            clear hlo hhi
            have d4 : vals 4 = .bool false := hd ⟨4, .data⟩ (Array.mem_of_getElem? (i := 0) rfl) rfl (show (1 : Nat) ≤ 1000 by decide)
            have E39 := eval_some (hF.own_ 4 rfl rfl (by kernel_rfl) (by decide)); rw [d4] at E39
            refine .inr ⟨wanted_none rfl, .inl ⟨.bool false, ?_, hI, TyP.of_is rfl⟩⟩
            simp only [execOp, E39, Sem.run_pure]
          case oa6 => as_aux_lemma =>
            intro p vals W1 F hF hlo hhi hI hd
            have hp : p = 1 := Nat.le_antisymm hhi hlo
            subst hp
            clear hlo hhi
            have d5 : vals 5 = .bool false := hd ⟨5, .guard⟩ (Array.mem_of_getElem? (i := 0) rfl) rfl (show (1 : Nat) ≤ 1000 by decide)
            have E10 : F.eval (.tmp 10) = .slice (some ⟨gw, 0, none⟩) m co := hF.out_ (by kernel_rfl) rfl
            have G := hF.own_ 5 rfl rfl (by kernel_rfl) (by decide); rw [d5] at G
            refine .inr ⟨wanted_yes rfl rfl rfl G, .inl ⟨.slice (some ⟨gw, 0, none⟩) m co, ?_, hI, TyP.of_is rfl⟩⟩
            simp only [execOp, E10, Sem.run_pure]
          case oa7 => as_aux_lemma =>
            intro p vals W1 F hF hlo hhi hI hd
            have hp : p = 1 := Nat.le_antisymm hhi hlo
            subst hp
            clear hlo hhi
            have d5 : vals 5 = .bool false := hd ⟨5, .guard⟩ (Array.mem_of_getElem? (i := 1) rfl) rfl (show (1 : Nat) ≤ 1000 by decide)
            have d6 : vals 6 = .slice (some ⟨gw, 0, none⟩) m co := hd ⟨6, .data⟩ (Array.mem_of_getElem? (i := 0) rfl) rfl (show (1 : Nat) ≤ 1000 by decide)
            have E41 := eval_some (hF.own_ 6 rfl rfl (by kernel_rfl) (by decide)); rw [d6] at E41
            have G := hF.own_ 5 rfl rfl (by kernel_rfl) (by decide); rw [d5] at G
            refine .inr ⟨wanted_yes rfl rfl rfl G, ?_⟩
            have hst := str_of (holds_heap hI.2 HCW.out) co
            refine .inl ⟨.string LS, ?_, hI, TyP.of_is rfl⟩
            have Ec : ∀ v, F.eval (.const v) = v := fun _ => rfl; have Ef : ∀ f, F.eval (.func f) = .func (.func f) #[] #[] := fun _ => rfl; clear hF hd; generalize F.eval = ρ at E41 Ec Ef ⊢
            simp only [execOp, E41]
            rw [HM.out] at hst
            rw [Sem.run_bind, hst, ← HLS.out]
            rfl
          case oa8 => as_aux_lemma =>
            intro p vals W1 F hF hlo hhi hI hd
            have hp : p = 1 := Nat.le_antisymm hhi hlo
            subst hp
            clear hlo hhi
            have d5 : vals 5 = .bool false := hd ⟨5, .guard⟩ (Array.mem_of_getElem? (i := 0) rfl) rfl (show (1 : Nat) ≤ 1000 by decide)
            have E0 : F.eval (.tmp 0) = .slice (some ⟨pb, po, none⟩) n cap := hF.out_ (by kernel_rfl) rfl
            have G := hF.own_ 5 rfl rfl (by kernel_rfl) (by decide); rw [d5] at G
            refine .inr ⟨wanted_yes rfl rfl rfl G, .inl ⟨.slice (some ⟨pb, po, none⟩) n cap, ?_, hI, TyP.of_is rfl⟩⟩
            simp only [execOp, E0, Sem.run_pure]
          case oa9 => as_aux_lemma =>
            intro p vals W1 F hF hlo hhi hI hd
            have hp : p = 1 := Nat.le_antisymm hhi hlo
            subst hp
            clear hlo hhi
            have d5 : vals 5 = .bool false := hd ⟨5, .guard⟩ (Array.mem_of_getElem? (i := 0) rfl) rfl (show (1 : Nat) ≤ 1000 by decide)
            have E9 : F.eval (.tmp 9) = .int .i64 (i : Int) := hF.out_ (by kernel_rfl) rfl
            have G := hF.own_ 5 rfl rfl (by kernel_rfl) (by decide); rw [d5] at G
            refine .inr ⟨wanted_yes rfl rfl rfl G, .inl ⟨.int .i64 (i : Int), ?_, hI, TyP.of_is rfl⟩⟩
            simp only [execOp, E9, Sem.run_pure]
          case oa10 => as_aux_lemma =>
            intro p vals W1 F hF hlo hhi hI hd
            have hp : p = 1 := Nat.le_antisymm hhi hlo
            subst hp
            clear hlo hhi
            have d5 : vals 5 = .bool false := hd ⟨5, .guard⟩ (Array.mem_of_getElem? (i := 2) rfl) rfl (show (1 : Nat) ≤ 1000 by decide)
            have d8 : vals 8 = .slice (some ⟨pb, po, none⟩) n cap := hd ⟨8, .data⟩ (Array.mem_of_getElem? (i := 0) rfl) rfl (show (1 : Nat) ≤ 1000 by decide)
            have d9 : vals 9 = .int .i64 (i : Int) := hd ⟨9, .data⟩ (Array.mem_of_getElem? (i := 1) rfl) rfl (show (1 : Nat) ≤ 1000 by decide)
            have E43 := eval_some (hF.own_ 8 rfl rfl (by kernel_rfl) (by decide)); rw [d8] at E43
            have E44 := eval_some (hF.own_ 9 rfl rfl (by kernel_rfl) (by decide)); rw [d9] at E44
            have G := hF.own_ 5 rfl rfl (by kernel_rfl) (by decide); rw [d5] at G
            refine .inr ⟨wanted_yes rfl rfl rfl G, .inl ⟨.pointer (some ⟨pb, po + i, none⟩), ?_, hI, TyP.of_is rfl⟩⟩
            have Ec : ∀ v, F.eval (.const v) = v := fun _ => rfl; have Ef : ∀ f, F.eval (.func f) = .func (.func f) #[] #[] := fun _ => rfl; clear hF hd; generalize F.eval = ρ at E43 E44 Ec Ef ⊢
            simp [execOp, go_sem, Ec, E43, E44, hin]
          case oa11 => as_aux_lemma =>
            intro p vals W1 F hF hlo hhi hI hd
            have hp : p = 1 := Nat.le_antisymm hhi hlo
            subst hp
            clear hlo hhi
            have d5 : vals 5 = .bool false := hd ⟨5, .guard⟩ (Array.mem_of_getElem? (i := 1) rfl) rfl (show (1 : Nat) ≤ 1000 by decide)
            have d10 : vals 10 = .pointer (some ⟨pb, po + i, none⟩) := hd ⟨10, .data⟩ (Array.mem_of_getElem? (i := 0) rfl) rfl (show (1 : Nat) ≤ 1000 by decide)
            have E45 := eval_some (hF.own_ 10 rfl rfl (by kernel_rfl) (by decide)); rw [d10] at E45
            have G := hF.own_ 5 rfl rfl (by kernel_rfl) (by decide); rw [d5] at G
            have hcell := (hI.1.bel.cell (p := ⟨pb, po + i, none⟩) hpb).trans HW0.out
            refine .inr ⟨wanted_yes rfl rfl rfl G, .inl ⟨.slice lA m lc, ?_, hI, TyP.of_is rfl⟩⟩
            have Ec : ∀ v, F.eval (.const v) = v := fun _ => rfl; have Ef : ∀ f, F.eval (.func f) = .func (.func f) #[] #[] := fun _ => rfl; clear hF hd; generalize F.eval = ρ at E45 Ec Ef ⊢
            simp [execOp, go_sem, Ec, E45, hcell]
          case oa12 => as_aux_lemma =>
            intro p vals W1 F hF hlo hhi hI hd
            have hp : p = 1 := Nat.le_antisymm hhi hlo
            subst hp
            clear hlo hhi
            have d5 : vals 5 = .bool false := hd ⟨5, .guard⟩ (Array.mem_of_getElem? (i := 1) rfl) rfl (show (1 : Nat) ≤ 1000 by decide)
            have d11 : vals 11 = .slice lA m lc := hd ⟨11, .data⟩ (Array.mem_of_getElem? (i := 0) rfl) rfl (show (1 : Nat) ≤ 1000 by decide)
            have E46 := eval_some (hF.own_ 11 rfl rfl (by kernel_rfl) (by decide)); rw [d11] at E46
            have G := hF.own_ 5 rfl rfl (by kernel_rfl) (by decide); rw [d5] at G
            refine .inr ⟨wanted_yes rfl rfl rfl G, ?_⟩
            have hst := str_bytes (HPW.out W1 hI.1.bel) lc
            refine .inl ⟨.string LS, ?_, hI, TyP.of_is rfl⟩
            have Ec : ∀ v, F.eval (.const v) = v := fun _ => rfl; have Ef : ∀ f, F.eval (.func f) = .func (.func f) #[] #[] := fun _ => rfl; clear hF hd; generalize F.eval = ρ at E46 Ec Ef ⊢
            simp only [execOp, E46]
            rw [HM.out] at hst
            rw [Sem.run_bind, hst, ← HLS.out]
            rfl
          case oa13 => as_aux_lemma =>
            intro p vals W1 F hF hlo hhi hI hd
            have hp : p = 1 := Nat.le_antisymm hhi hlo
            subst hp
            clear hlo hhi
            have d5 : vals 5 = .bool false := hd ⟨5, .guard⟩ (Array.mem_of_getElem? (i := 2) rfl) rfl (show (1 : Nat) ≤ 1000 by decide)
            have d7 : vals 7 = .string LS := hd ⟨7, .data⟩ (Array.mem_of_getElem? (i := 0) rfl) rfl (show (1 : Nat) ≤ 1000 by decide)
            have d12 : vals 12 = .string LS := hd ⟨12, .data⟩ (Array.mem_of_getElem? (i := 1) rfl) rfl (show (1 : Nat) ≤ 1000 by decide)
            have E42 := eval_some (hF.own_ 7 rfl rfl (by kernel_rfl) (by decide)); rw [d7] at E42
            have E47 := eval_some (hF.own_ 12 rfl rfl (by kernel_rfl) (by decide)); rw [d12] at E47
            have G := hF.own_ 5 rfl rfl (by kernel_rfl) (by decide); rw [d5] at G
            refine .inr ⟨wanted_yes rfl rfl rfl G, .inl ⟨.bool false, ?_, hI, TyP.of_is rfl⟩⟩
            have Ec : ∀ v, F.eval (.const v) = v := fun _ => rfl; have Ef : ∀ f, F.eval (.func f) = .func (.func f) #[] #[] := fun _ => rfl; clear hF hd; generalize F.eval = ρ at E42 E47 Ec Ef ⊢
            simp [execOp, go_sem, Ec, E42, E47]
          case oa14 => as_aux_lemma =>
            intro p vals W1 F hF hlo hhi hI hd
            have hp : p = 1 := Nat.le_antisymm hhi hlo
            subst hp
            clear hlo hhi
            have d5 : vals 5 = .bool false := hd ⟨5, .data⟩ (Array.mem_of_getElem? (i := 0) rfl) rfl (show (1 : Nat) ≤ 1000 by decide)
            have d13 : vals 13 = .bool false := hd ⟨13, .data⟩ (Array.mem_of_getElem? (i := 1) rfl) rfl (show (1 : Nat) ≤ 1000 by decide)
            have E40 := eval_some (hF.own_ 5 rfl rfl (by kernel_rfl) (by decide)); rw [d5] at E40
            have E48 := eval_some (hF.own_ 13 rfl rfl (by kernel_rfl) (by decide)); rw [d13] at E48
            refine .inr ⟨wanted_none rfl, .inl ⟨.bool false, ?_, hI, TyP.of_is rfl⟩⟩
            have Ec : ∀ v, F.eval (.const v) = v := fun _ => rfl; have Ef : ∀ f, F.eval (.func f) = .func (.func f) #[] #[] := fun _ => rfl; clear hF hd; generalize F.eval = ρ at E40 E48 Ec Ef ⊢
            simp [execOp, go_sem, Ec, E40, E48]
          case oaend =>
            intro vals W1 F hF hdef hI hT
            have hv : vals 14 = .bool false := hT 14 (by decide) (show (1 : Nat) ≤ 1000 by decide)
            rename_i K hK9
            refine hK9 _ _ ?_
            rw [hF.act]
            simp only [fin, Act.put, List.setIfInBounds_toArray, List.set_cons_succ, List.set_cons_zero]
            rw [hv]
            clear hF hT hv HI0
            obtain ⟨W4, hW4⟩ : ∃ W4, W1 = W4 := ⟨_, rfl⟩
            rw [hW4] at hI ⊢
            clear hW4
            have HI4 : Hid (PJ w gs go (.slice XA na ca) (.slice XE ne ce) (al ++ lb) al el W4 ∧ W4.heap[gw]? = some (.cells curw 5 (0, 0))) := Lib.hid hI
            clear hI
            go_wp2
            go_loopw [52] (fun kv wr => ∃ k : Nat, k ≤ m ∧ kv = .int .i64 (k : Int) ∧ PJ w gs go (.slice XA na ca) (.slice XE ne ce) (al ++ lb) al el wr ∧ ∃ cur : Array Value, (∀ j, j < m → ∃ z : Int, cur[j]? = some (.int .u8 z)) ∧ wr.heap[gw]? = some (.cells cur 5 (0, 0))) (fun kv _ => m - (RowKit.intOf kv).toNat)
            case atStart => exact ⟨0, Nat.zero_le _, rfl, HI4.out.1, curw, fun j hj => ⟨_, HCW.out j (by rw [HM.out]; exact hj)⟩, HI4.out.2⟩
            case round =>
              clear HI4
              obtain ⟨k, hk, rfl, hJ, cur, hcur, hrow⟩ := hrel
              have HCUR := Lib.hid hcur
              by_cases hltk : k < m
              · obtain ⟨z, hz⟩ := hcur k hltk
                have HSZ := Lib.hid (Array.getElem?_eq_some_iff.1 hz).1
                have hc := cell_of_row wr gw k _ _ _ hrow
                have hf := frozen_of_row wr gw k _ _ hrow
                rw [hz] at hc
                have HROW := Lib.hid hrow
                have HJ := Lib.hid hJ
                have hkm : (k : Int) < (m : Int) := by omega
                clear hcur hrow hJ
                go_wp2
                go_roundw
                case rel =>
                  refine ⟨k + 1, by omega, by go_num, HJ.out.turn (grown_setCellT wr ⟨gw, k, none⟩ _) (fun k2 e => by injection e with e; rw [← e]; exact hwb) (fun e => by injection e with e; exact hwgs e) (fun e => by injection e with e; exact hwgo e) (fun k2 e e2 => by injection e2 with e2; exact HWA.out k2 e e2) (fun k2 e e2 => by injection e2 with e2; exact HWE.out k2 e e2), cur.setIfInBounds k (.int .u8 (IntKind.u8.wrap (z + 1))), fun j hj => ?_, ?_⟩
                  · obtain ⟨y, hy⟩ := HCUR.out j hj
                    rw [Array.getElem?_setIfInBounds]
                    split
                    · rw [if_pos HSZ.out]; exact ⟨_, rfl⟩
                    · exact ⟨y, hy⟩
                  · exact setCell_row wr gw k _ _ _ HROW.out
                case measure => simp [RowKit.intOf]; omega
              · have HJ := Lib.hid hJ
                have hcl := (hJ.bel.cell (p := ⟨pb, po + i, none⟩) hpb).trans HW0.out
                clear hJ hcur hrow HCUR
                have hq0 : at_ % (n : Int) = (q : Int) := HQ.out.resolve_right (by omega)
                obtain ⟨N5, hN5⟩ : ∃ N5, (al ++ lb).length = N5 := ⟨_, rfl⟩
                have hN5m : N5 = na + m := by rw [← hN5, List.length_append, HNA.out, HM.out]
                have HN5 := Lib.hid hN5
                have HN5M := Lib.hid hN5m
                have hN5le : N5 ≤ 6300 := by omega
                obtain ⟨D5, hD5⟩ : ∃ D5, sha (al ++ lb) = D5 := ⟨_, rfl⟩
                have hD32 : D5.length = 32 := by rw [← hD5]; exact hashOf_length _
                have HD5 := Lib.hid hD5
                have heq5 := eq32 D5 hD32
                have hw5 : IntKind.u64.wrap (N5 : Int) = (N5 : Int) := by rw [IntKind.wrap_u64]; omega
                clear hN5 hD5 hD32 hN5m
                by_cases hiq : i = q
                ·
                  have hiqb : ((i : Int) == (q : Int)) = true := by simp; omega
                  have hel0 : el = [] := HEL.out (by omega)
                  subst hel0
                  have HIQ := Lib.hid hiq
                  clear hiq HEL
                  go_wp2_with (first
                    | (at_builtin; refine wpList_append_in rfl (.tmp 62) (.tmp 66) rfl w.heap.size w.heap.size (.slice XA na ca) al lb rfl HJ.out.rowA lA lc (by rw [HM.out]; rfl) (HPW.out _ HJ.out.bel) (by rw [HNA.out, HM.out]; omega) HJ.out.bel.size ?_; intro v5 W5 hown5 hgr5 hv5; have hJ5 := HJ.out.all hown5 hgr5 hv5; obtain ⟨X5, c5, rfl, hX5, hc5, _, _⟩ := own_open hJ5.rowA; rw [HN5.out]; rw [HN5.out] at hJ5; have CC := Lib.hid (copy_any W5 gs (al ++ lb) N5 (by have h := hJ5.sum; rw [HN5.out] at h; exact h)); clear HJ hown5 hgr5 hv5 hX5)
                    | (go_at_call 14; (with_reducible refine CC.out.mono ?_); rintro e W6 ⟨go2, rfl, hgo2, hs6, hb6⟩; have hJ6 := hJ5.call hb6; have hgs5 := hJ5.sum.lt; have HsA := Lib.hid (fun k e => (hJ5.rowA.lt k e).2); have HsE := Lib.hid (fun k e => (hJ5.rowE.lt k e).2); have hw6 := hJ5.bel.size; clear CC hJ5 hb6)
                    | (at_builtin; refine wpList_append_bytes rfl (.tmp 77) (.tmp 78) rfl w.heap.size W6.heap.size (.slice XE ne ce) [] (al ++ lb) rfl hJ6.rowE X5 c5 (by rw [HN5.out]; rfl) hJ6.holdsA (by rw [HN5.out]; show 0 + N5 ≤ _; omega) hJ6.bel.size ?_; intro v7 W7 hown7 hgr7 hv7; rw [List.nil_append] at hown7; have hJ7 := hJ6.early hown7 hgr7 hv7 (Nat.le_trans hw6 hgo2) (by rw [HN5.out]; exact hs6) (by omega) (fun e => by have := HsA.out go2 e; omega) (fun e => by have := HsE.out go2 e; omega); obtain ⟨X7, c7, rfl, hX7, hc7, _, _⟩ := own_open hJ7.rowE; rw [HN5.out]; rw [HN5.out] at hJ7; have CE := Lib.hid (end_any W7 gs (al ++ lb) hJ7.sum (by rw [HN5.out]; omega)); rw [HD5.out] at CE; clear hJ6 hown7 hgr7 hv7 hX7 HsA HsE hw6 hgo2 hs6 hgs5)
                    | (go_at_call 16; (with_reducible refine CE.out.mono ?_); rintro e W8 ⟨rfl, hb8⟩; have hJ8 := hJ7.call hb8; have CRO := Lib.hid (rof_any W8 X5 N5 c5 (al ++ lb) HN5.out hJ8.holdsA (by omega)); rw [HD5.out] at CRO; clear hJ7 hb8 CE)
                    | (go_at_call 9; (with_reducible refine CRO.out.mono ?_); rintro e W9 ⟨rfl, hb9⟩; have hJ9 := hJ8.call hb9; have CL := Lib.hid (len_any W9 gs (al ++ lb) N5 (by rw [← HN5.out]; exact hJ9.sum)); clear hJ8 hb9 CRO)
                    | (go_at_call 17; (with_reducible refine CL.out.mono ?_); rintro e W10 ⟨rfl, rfl⟩; have HJ9 := Lib.hid hJ9; clear hJ9 CL))
                  go_roundw
                  case rel =>
                    refine ⟨i + 1, go2, al ++ lb, al ++ lb, by omega, by go_num, rfl, by rw [HN5.out]; have := HN5M.out; omega, by rw [HN5.out]; have := HN5M.out; omega, Lib.hid ⟨fun hh => by have := HIQ.out; omega, HJ9.out⟩⟩
                  case measure => simp [RowKit.intOf]; omega
                · have hiqb : ((i : Int) == (q : Int)) = false := by simp; omega
                  have HIQ := Lib.hid hiq
                  clear hiq
                  go_wp2_with (first
                    | (at_builtin; refine wpList_append_in rfl (.tmp 62) (.tmp 66) rfl w.heap.size w.heap.size (.slice XA na ca) al lb rfl HJ.out.rowA lA lc (by rw [HM.out]; rfl) (HPW.out _ HJ.out.bel) (by rw [HNA.out, HM.out]; omega) HJ.out.bel.size ?_; intro v5 W5 hown5 hgr5 hv5; have hJ5 := HJ.out.all hown5 hgr5 hv5; obtain ⟨X5, c5, rfl, hX5, hc5, _, _⟩ := own_open hJ5.rowA; rw [HN5.out]; have CE := Lib.hid (end_any W5 gs (al ++ lb) hJ5.sum (by rw [HN5.out]; omega)); rw [HD5.out] at CE; clear HJ hown5 hgr5 hv5)
                    | (go_at_call 16; (with_reducible refine CE.out.mono ?_); rintro e W6 ⟨rfl, hb6⟩; have hJ6 := hJ5.call hb6; have CRO := Lib.hid (rof_any W6 X5 N5 c5 (al ++ lb) HN5.out (hX5.later hb6) (by omega)); rw [HD5.out] at CRO; clear hJ5 hX5 hb6 CE)
                    | (go_at_call 9; (with_reducible refine CRO.out.mono ?_); rintro e W7 ⟨rfl, hb7⟩; have hJ7 := hJ6.call hb7; have CL := Lib.hid (len_any W7 gs (al ++ lb) N5 (by rw [← HN5.out]; exact hJ7.sum)); clear hJ6 hb7 CRO)
                    | (go_at_call 17; (with_reducible refine CL.out.mono ?_); rintro e W8 ⟨rfl, rfl⟩; have HJ7 := Lib.hid hJ7; clear hJ7 CL))
                  go_roundw
                  case rel =>
                    refine ⟨i + 1, go, al ++ lb, el, by omega, by go_num, rfl, by rw [HN5.out]; have := HN5M.out; omega, by rw [HNE.out]; omega, Lib.hid ⟨fun hh => HEL.out (by omega), ?_⟩⟩
                    have h9 := HJ7.out
                    rw [HN5.out] at h9
                    exact h9
                  case measure => simp [RowKit.intOf]; omega
      ·
        have hJ : PJ w gs go (.slice XA na ca) (.slice XE ne ce) al al el wr := by have h := HR.out.2; rw [hna, hne] at h; exact h
        have hal6 : na ≤ 6000 := by omega
        obtain ⟨DE, hDE⟩ : ∃ D, sha el = D := ⟨_, rfl⟩
        obtain ⟨DX, hDX⟩ : ∃ D, sha (el ++ [120]) = D := ⟨_, rfl⟩
        obtain ⟨DA, hDA⟩ : ∃ D, sha al = D := ⟨_, rfl⟩
        have heqE := eq32 DE (by rw [← hDE]; exact hashOf_length _)
        have heqX := eq32 DX (by rw [← hDX]; exact hashOf_length _)
        have heqA := eq32 DA (by rw [← hDA]; exact hashOf_length _)
        have HDE := Lib.hid hDE
        have HDX := Lib.hid hDX
        have HDA := Lib.hid hDA
        have HNX := Lib.hid (show (el ++ [(120 : UInt8)]).length = ne + 1 by rw [List.length_append, hne]; rfl)
        have hlc := fun W => laid_conv W [120] #[.int .u8 120] rfl 1
        have HSE := Lib.hid hJ.sE
        have HAE := Lib.hid hJ.AE
        have HON := Lib.hid (fun W : World => holds_one W 120)
        have CE := Lib.hid (end_any wr go el hJ.oth (by rw [hne]; omega))
        rw [hDE] at CE
        clear hDE hDX hDA hna hne HR hXA hXE hXb hXeb hal
        go_wp2_with (first
          | (go_at_call 16; (with_reducible refine CE.out.mono ?_); rintro e Wa ⟨rfl, hba⟩; have hJa := hJ.call hba; have CO := Lib.hid (rof_any Wa XE ne ce el HNE.out hJa.holdsE (by omega)); rw [HDE.out] at CO; clear hba CE hJ)
          | (go_at_call 9; (with_reducible refine CO.out.mono ?_); rintro e Wb ⟨rfl, hbb⟩; have hJb := hJa.call hbb; have hgob := hJb.oth.lt; have hJc := hJb.call (laid_below Wb [120]); have CW := Lib.hid (write_any' (laid Wb [120]) go el ne (some ⟨Wb.heap.size, 0, none⟩) 1 1 [120] rfl (by rw [← HNE.out]; exact hJc.oth) (laid_holds Wb [120]) (by decide) (by decide) (by omega) (fun a e => by cases e; dsimp only; omega)); clear hbb CO hJa hJb hgob)
          | (go_at_call 15; (with_reducible refine CW.out.mono ?_); rintro e Wd ⟨rfl, hs, hg⟩; obtain ⟨f1, f2, f3, f4, f5⟩ := hJc.writeO hg (by rw [HNX.out]; exact hs); have CE2 := Lib.hid (end_any Wd go (el ++ [120]) f2 (by rw [HNX.out]; omega)); rw [HDX.out] at CE2; clear hs hg CW hJc f2)
          | (go_at_call 16; (with_reducible refine CE2.out.mono ?_); rintro e We ⟨rfl, hbe⟩; have g1 := f1.later hbe; have g3 := ownsRow_below f3 hbe; have g4 := ownsRow_below f4 hbe; have g5 := f5.trans (hbe.mono f5.size); clear f1 f3 f4 f5 hbe CE2)
          | (at_builtin; refine wpList_append_bytes rfl (.tmp 109) (.tmp 110) rfl w.heap.size (We.alloc (.cells #[.int .u8 120] 5)).heap.size (.slice XE ne ce) el [120] rfl (ownsRow_below g4 ((Below.refl _ _).alloc (Nat.le_refl _) _)) (some ⟨We.heap.size, 0, none⟩) 1 rfl (HON.out We) (by rw [HNE.out, List.length_singleton]; omega) (by rw [World.size_alloc]; have := g5.size; omega) ?_; intro v8 Wf hown8 hgr8 hv8; have hba := (Below.refl We.heap.size We).alloc (Nat.le_refl _) (.cells #[.int .u8 120] 5); have k1 := g1.later hba; have k3 := ownsRow_below g3 hba; have m1 := k1.same (hgr8.block gs k1.lt (Ne.symm HSE.out)); have m3 := ownsRow_same k3 (fun k e => hgr8.block k (k3.lt k e).2 (fun e2 => HAE.out k e e2.symm)); have m5 := (g5.trans (hba.mono g5.size)).grown hgr8 (by rw [World.size_alloc]; have := g5.size; omega) (fun k e => (g4.lt k e).1); obtain ⟨X8, c8, rfl, hX8, _, _, _⟩ := own_open hown8; rw [HNX.out]; have CO2 := Lib.hid (rof_any Wf X8 (ne + 1) c8 (el ++ [120]) HNX.out hX8 (by omega)); rw [HDX.out] at CO2; clear hown8 hgr8 hv8 hba k1 k3 g1 g3 g4 g5 hX8)
          | (go_at_call 9; (with_reducible refine CO2.out.mono ?_); rintro e Wg ⟨rfl, hbg⟩; have p1 := m1.later hbg; have p3 := ownsRow_below m3 hbg; have p5 := m5.trans (hbg.mono m5.size); have CE3 := Lib.hid (end_any Wg gs al p1 (by rw [HNA.out]; omega)); rw [HDA.out] at CE3; clear m1 m3 m5 hbg CO2 p1)
          | (go_at_call 16; (with_reducible refine CE3.out.mono ?_); rintro e Wh ⟨rfl, hbh⟩; have q3 := ownsRow_below p3 hbh; have q5 := p5.trans (hbh.mono p5.size); have CO3 := Lib.hid (rof_any Wh XA na ca al HNA.out (rowA_holds q3) (by omega)); rw [HDA.out] at CO3; clear p3 p5 hbh CE3)
          | (go_at_call 9; (with_reducible refine CO3.out.mono ?_); rintro e Wk ⟨rfl, hbk⟩; have HQ5 := Lib.hid (q5.trans (hbk.mono q5.size)); clear q3 q5 hbk CO3))
        go_ret
        exact ⟨rfl, HQ5.out⟩
set_option maxRecDepth 100000 in
theorem pieces_lifted (os : Os) (started : os.Started) (H : Type) (enc : TypeId × Value → H) :
    ReturnsInHanded {} Try.checked os 4 .any (Rows.shaPiecesSpec.pre6 enc Try.prog Try.f4 Rows.shaPiecesRow.domain false) (Rows.shaPiecesSpec.post enc Try.prog Try.f4 false true false false) := by
  refine returnsInHanded_of_change (C := Try.checked) own started (by kernel_rfl) Try.func4
    (ChangeSpec.witness6 (enc := enc) (C := Try.checked) false ⟨#[], #[.slice none 0 0, .int .u8 0], []⟩ 8 (by kernel_rfl) (by kernel_rfl) (by kernel_rfl) (by kernel_rfl)) ?_
  intro W base args ds gs before hval0 hW hcnd _
  have hval : ∀ (j : Nat) t v, Try.f4.params[j]? = some t → args[j]? = some v → Value.okWide Try.prog W .any base t v := hval0
  have hW' := hW
  obtain ⟨p, q, hA0, hV, rfl, hfz, hnd⟩ := hW
  have hA : DataW.TrodAll enc Try.prog W 0 (fun _ => true) true Try.f4.params.toList args.toList ds p := hA0
  rw [Try.params4] at hA hval
  obtain ⟨v0, vs0, d0, ds0, p0, q0, hargs, rfl, rfl, h0, r0⟩ := trodAll_cons hA
  obtain ⟨v1, vs1, d1, ds1, p1, q1, rfl, rfl, rfl, h1, r1⟩ := trodAll_cons r0
  obtain ⟨rfl, rfl, rfl⟩ := trodAll_nil r1
  obtain rfl : args = #[v0, v1] := by cases args; simp_all
  obtain ⟨rfl, rfl⟩ := trodVars_none hV
  have k0 := h0
  have lt0 : ∀ x ∈ p0, x.block < W.heap.size := by obtain ⟨m, hm⟩ := k0; exact DataW.trod_lt m _ _ _ hm
  have k1 := h1
  have lt1 : ∀ x ∈ p1, x.block < W.heap.size := by obtain ⟨m, hm⟩ := k1; exact DataW.trod_lt m _ _ _ hm
  obtain ⟨A0, l0, cap0, rfl, hB0, hlen0, hnil0, hcap0⟩ := open_bvs (hval 0 28 v0 rfl rfl) k0
  obtain ⟨z1, rfl, rfl, rfl, wz1⟩ := open_int Try.underlying5 (hval 1 5 v1 rfl rfl) h1
  have hz1 := bounds_u8 wz1
  clear hA0 hval0
  refine (pieces_walk l0 A0 cap0 z1 (by omega) hlen0 W hB0).mono fun e W' ⟨he, bel⟩ => ?_
  subst he
  exact ⟨_, rfl, _, _, _, [], _, [], hW', trodAll_mk1 (shut_bool Try.underlying4 _), (trodAll_cons_mk (Below.trod laidOut (by kernel_rfl) (of_decide_eq_true (by kernel_rfl)) k0 bel lt0) (trodAll_cons_mk (Below.trod laidOut (by kernel_rfl) (of_decide_eq_true (by kernel_rfl)) k1 bel lt1) trodAll_mk0)), rfl, bel.frame _, fun h => by cases h⟩

theorem pieces_over : Rows.shaPiecesRow.holds Try.pinned (OpenSpec.ofChange Rows.shaPiecesSpec) :=
  OpenClaim.holds_of_wide 4 Try.f4 rfl rfl rfl rfl rfl rfl rfl ⟨rfl, rfl, rfl, rfl, rfl⟩ rfl rfl rfl rfl rfl (by kernel_rfl) Try.func4 (by kernel_rfl)
    (of_decide_eq_true (by kernel_rfl)) (by unfold Func.isWrapper; first | (rw [if_pos (by decide +kernel)]; kernel_rfl) | (rw [if_neg (by decide +kernel)]; exact ⟨rfl, rfl⟩))
    (fun os started H enc _ => pieces_lifted os started H enc)

/-- In whatever pieces a message is written (at most 20 of 300 bytes), what is told behind each is the hash of what there is, and how much; a copy goes on by itself; pieces stay. No condition. -/
theorem pieces_proved : Rows.ShaPiecesSaid := pieces_over
#print axioms pieces_proved
end Go.Proofs.Ytfpgjabbpcndfaa.Oct
