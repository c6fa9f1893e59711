/- The reference's keys and signatures are sign's own. Secrets and digests have 32 bytes. -/
import Derived.Test.YtijobhpmaenjlaaRefSE
import Derived.Test.YtijobhpmaenjlaaSigC
import Derived.Test.YtijobhpmaenjlaaReg3
import Derived.Test.YtijobhpmaenjlaaApp
namespace Go.Proofs.Ytijobhpmaenjlaa.Oct
set_option linter.unusedVariables false
set_option linter.unusedSimpArgs false
open Go.Proofs.Ytijobhpmaenjlaa Go.RowKit Go.Lib Go.Shelf

set_option maxRecDepth 100000 in
set_option maxHeartbeats 2000000 in
theorem rpublic_any (w : World) (s : List UInt8) (hs : s.length = 32) : Calls Try.prog 11 #[.agg (arr8 s)] w fun e w' => e = .returned (.agg (arr8 (sha s))) ∧ Below w.heap.size w w' := by
  have hK := ((Keeps.nil w).new (arr8 s) 23).new (arr8 zero32) 23
  rw [World.size_alloc] at hK
  have CO := Lib.hid (rof_any _ (some ⟨w.heap.size, 0, none⟩) 32 32 s hs (holdsK (k := 0) hK rfl) (by decide))
  have hd32 : (sha s).length = 32 := hashOf_length _
  clear hs
  generalize sha s = D at *
  have HD := Lib.hid hd32
  clear hd32
  go_enter Try.func11, Try.ntmps11
  go_wp2_with (first | (refine wpList_alloc rfl 23 rfl (z := arr8 zero32) (by kernel_rfl) ?_; try simp only [World.size_alloc]) | (go_at_call 20; (with_reducible refine CO.out.mono ?_); rintro e W1 ⟨rfl, hb⟩; replace hK := hK.call hb; clear hb) | (refine wpList_put hK 1 rfl 23 (.tmp 2) (.tmp 4) rfl rfl rfl rfl (infoH _ HD.out) (size_same rfl HD.out) (one8x _) ?_; clear hK; intro W5 hK))
  refine bodyPost_ret (v := .agg (arr8 D)) ?_ rfl ⟨rfl, hK.bel⟩
  exact results_cell_row rfl _ _ (w.heap.size + 1) 23 _ (0, 0) _ rfl (hK.get 1 rfl) Try.underlying23 rfl (infoH _ HD.out)

theorem wpList_fillR {P : Program} {W0 W : World} {l : List (Nat × Array Value × TypeId)} {ops : Array Oper} {Q : Exit → Act → World → Prop} {rest : List Oper} {o : Oper} {a : Act} (h : Keeps W0 l W) {old : Array Value} (hw : Region.wanted o (yielded ops a.tmps) = true) (ty : TypeId) (x y : Operand) (ho : o.op = .store ty x y)
    {cs : Array Value} (hx : a.eval x = .pointer (some ⟨W.heap.size, 0, none⟩)) (hy : a.eval y = .agg cs) (hs : (P.info? ty).map (·.size) = some cs.size) (hold : old.size = cs.size) (h1 : cs.all (·.oneCell') = true)
    (hn : ∀ W1, Keeps W0 (l ++ [(W.heap.size, cs, ty)]) W1 → Below W.heap.size W W1 → wpList P ops Q rest (a.put o.dst undef) W1) : wpList P ops Q (o :: rest) a (W.alloc (.cells old ty)) :=
  wpList_wanted hw fun _ hK => wp_store_row ty x y ho W.heap.size cs hx hy ty old (heap_alloc_new _ _) hs hold h1 (hK _ _ (hn _ (h.newput old cs ty) (((Below.refl _ _).alloc (Nat.le_refl _) _).trans ⟨rfl, rfl, rfl, by simp [World.setRow], fun k hk => setRow_other _ _ _ _ (Nat.ne_of_lt hk)⟩)))
/-- What stands in memory where the reference signs. -/
structure SgI (w : World) (B b0 : Nat) (s d : List UInt8) (bv : Value) (W : World) : Prop where
  keeps : Keeps w [(w.heap.size, arr8 s, 23), (w.heap.size + 1, arr8 d, 23)] W
  own : W.ownsRow B 5 1 bv s.length (vals s)
  big : b0 ≤ W.heap.size
theorem SgI.call {w : World} {B b0 : Nat} {s d : List UInt8} {bv : Value} {W W' : World} (h : SgI w B b0 s d bv W) (hb : Below W.heap.size W W') : SgI w B b0 s d bv W' :=
  ⟨h.keeps.call hb, ownsRow_below h.own hb, Nat.le_trans h.big hb.size⟩
theorem keeps_growR {W0 W W' : World} {l : List (Nat × Array Value × TypeId)} {row : Option Nat} (h : Keeps W0 l W) (hg : W.grownBy W' row) (hr : ∀ (i : Nat) p, l[i]? = some p → some p.1 ≠ row) (hb : ∀ k, row = some k → W0.heap.size ≤ k) : Keeps W0 l W' :=
  ⟨fun i p hi => by
    have hlt := h.lt i hi
    rw [hg.block p.1 hlt (hr i p hi)]
    exact h.rows i p hi, h.base, h.apart, ⟨hg.os.trans h.bel.os, hg.tape.trans h.bel.tape, hg.output.trans h.bel.output, Nat.le_trans h.bel.size hg.size, fun k hk => (hg.block k (Nat.lt_of_lt_of_le hk h.bel.size) (fun e => by have := hb k e.symm; omega)).trans (h.bel.block k hk)⟩⟩
theorem keeps_grow2 {w : World} {s d : List UInt8} {W W' : World} {b0 : Nat} {row : Option Nat} (h : Keeps w [(w.heap.size, arr8 s, 23), (w.heap.size + 1, arr8 d, 23)] W) (hg : W.grownBy W' row) (hb0 : w.heap.size + 2 ≤ b0) (hr : ∀ k, row = some k → b0 ≤ k) : Keeps w [(w.heap.size, arr8 s, 23), (w.heap.size + 1, arr8 d, 23)] W' :=
  keeps_growR h hg (fun i p hi e => by
    have := hr p.1 e.symm
    match i, hi with
    | 0, hi => cases hi; dsimp only at this; omega
    | 1, hi => cases hi; dsimp only at this; omega) (fun k e => by have := hr k e; omega)
theorem SgI.grow {w : World} {B b0 : Nat} {s d : List UInt8} {bv : Value} {W W' : World} {row : Option Nat} (h : SgI w B b0 s d bv W) (hb0 : w.heap.size + 2 ≤ b0) (hbv : ∀ k, bv.ownBlock = some k → k < b0) (hg : W.grownBy W' row) (hr : ∀ k, row = some k → b0 ≤ k) : SgI w B b0 s d bv W' :=
  ⟨keeps_grow2 h.keeps hg hb0 hr, ownsRow_same h.own (fun k e => hg.block k (Nat.lt_of_lt_of_le (hbv k e) h.big) (fun e2 => by have := hr k e2.symm; have := hbv k e; omega)), Nat.le_trans h.big hg.size⟩

set_option maxRecDepth 100000 in
set_option maxHeartbeats 4000000 in
theorem rsign_any (w : World) (s d : List UInt8) (hs : s.length = 32) (hd : d.length = 32) : Calls Try.prog 12 #[.agg (arr8 s), .agg (arr8 d)] w (OwnBytes w (s ++ sha (s ++ d))) := by
  have hK := ((Keeps.nil w).new (arr8 s) 23).new (arr8 d) 23
  simp only [World.size_alloc, List.nil_append, List.cons_append] at hK
  have hd32 : (sha (s ++ d)).length = 32 := hashOf_length _
  have hC : ∀ (W : World) (X : Option Addr) (c : Nat), Holds8 W.heap.size W X (s ++ d) → Calls Try.prog 20 #[.slice X 64 c] W fun e w' => e = .returned (.agg (arr8 (sha (s ++ d)))) ∧ Below W.heap.size W w' :=
    fun W X c h => rof_any W X 64 c (s ++ d) (by rw [List.length_append, hs, hd]) h (by decide)
  generalize sha (s ++ d) = D at *
  have HS := Lib.hid hs
  have HD := Lib.hid hd
  have HH := Lib.hid hd32
  have HC := Lib.hid hC
  have HB := Lib.hid (show w.heap.size + 2 ≤ w.heap.size + 1 + 1 from Nat.le_refl _)
  have HK := Lib.hid hK
  clear hs hd hd32 hC hK
  go_enter Try.func12, Try.ntmps12
  go_wp2
  go_loopw [5, 6] (fun b i wr => ∃ (k : Nat) (X : Option Addr) (c : Nat), k ≤ 32 ∧ i = .int .i64 (k : Int) ∧ b = .slice X k c ∧ wr.ownsRow (w.heap.size + 1 + 1) 5 1 (.slice X k c) (s.take k).length (vals (s.take k)) ∧ Keeps w [(w.heap.size, arr8 s, 23), (w.heap.size + 1, arr8 d, 23)] wr) (fun _ i _ => 32 - (RowKit.intOf i).toNat)
  case atStart => exact ⟨0, none, 0, Nat.zero_le _, rfl, rfl, World.ownsRow_nil _ _ _ _, HK.out⟩
  case round =>
    clear HK
    obtain ⟨k, X, c, hk, rfl, rfl, hrow, hK⟩ := hrel
    have HROW := Lib.hid hrow
    clear hrow
    by_cases hlt : k < 32
    · have hc := hK.cell 0 rfl k
      rw [arr8_get _ _ (by rw [HS.out]; exact hlt)] at hc
      have hst : s.take (k + 1) = s.take k ++ [s.getD k 0] := by
        rw [List.take_succ_eq_append_getElem (by rw [HS.out]; exact hlt)]
        simp [List.getD, HS.out, hlt]
      have hlen : (s.take (k + 1)).length = k + 1 := by rw [List.length_take, HS.out]; omega
      have hlk : (s.take k).length = k := by rw [List.length_take, HS.out]; omega
      generalize s.getD k 0 = x at *
      have HST := Lib.hid hst
      have HLEN := Lib.hid hlen
      have HLK := Lib.hid hlk
      have HW := Lib.hid hK.bel.size
      have HON := Lib.hid (fun W : World => holds_one W x)
      clear hst hlen hlk
      go_wp2_with (at_builtin; refine wpList_append_bytes rfl (.tmp 13) (.tmp 17) rfl (w.heap.size + 1 + 1) _ _ (s.take k) [x] rfl (ownsRow_below HROW.out ((Below.refl _ _).alloc (Nat.le_refl _) _)) (some ⟨wr.heap.size, 0, none⟩) 1 rfl (HON.out wr) (by rw [HLK.out, List.length_singleton]; omega) (by have h1 : w.heap.size + 1 < wr.heap.size := hK.lt 1 rfl; rw [World.size_alloc]; omega) ?_; intro v3 w3 hown3 hgr3 hv3; have HOW := Lib.hid hown3; have hK3 := keeps_grow2 (hK.call ((Below.refl _ wr).alloc (Nat.le_refl _) (.cells #[.int .u8 (x.toNat : Int)] 5))) hgr3 HB.out (own_row_ge HROW.out); clear hown3 hgr3 hv3)
      have HOW3 := Lib.hid (show w3.ownsRow (w.heap.size + 1 + 1) 5 1 v3 (s.take (k + 1)).length (vals (s.take (k + 1))) by rw [HST.out]; exact HOW.out)
      obtain ⟨X3, c3, e3, _, _, _, _⟩ := own_open HOW3.out
      rw [HLEN.out] at e3
      subst e3
      go_roundw
      case rel => exact ⟨k + 1, X3, c3, by omega, by go_num, rfl, HOW3.out, hK3⟩
      case measure => simp [RowKit.intOf]; omega
    · have h32 : k = 32 := by omega
      subst h32
      have hrow2 : wr.ownsRow (w.heap.size + 1 + 1) 5 1 (.slice X 32 c) s.length (vals s) := by
        have h := HROW.out
        rw [List.take_of_length_le (by rw [HS.out]; decide)] at h
        exact h
      obtain ⟨X', c', e', hX8, _, _, hXb⟩ := own_open hrow2
      have ex : X = X' := by injection e'
      subst ex
      have hX0 : ∀ k, (Value.slice X 32 c).ownBlock = some k → k < wr.heap.size := fun k e => (hrow2.lt k e).2
      have HX0 := Lib.hid hX0
      have hI0 : SgI w (w.heap.size + 1 + 1) wr.heap.size s d (.slice X 32 c) wr := ⟨hK, hrow2, Nat.le_refl _⟩
      have HI0 := Lib.hid hI0
      have HB0 := Lib.hid (show w.heap.size + 2 ≤ wr.heap.size from by have h1 : w.heap.size + 1 < wr.heap.size := hK.lt 1 rfl; omega)
      have HB1 : Hid (w.heap.size + 1 + 1 ≤ wr.heap.size) := HB0
      clear hK hrow2 hX8 hXb hX0 hI0 e' HROW
      go_wp2
      generalize hb0 : wr.heap.size = b0 at *
      refine wp_region_phased 29 rfl (fun k d W W' => (d = 0 → Below W.heap.size W W') ∧ (2 ≤ k → Below W.heap.size W W')) (fun p W1 => SgI w (w.heap.size + 1 + 1) b0 s d (.slice X 32 c) W1) [.is (.slice none 0 0), .is (.slice X 32 c), ⟨1, 1, fun v W => W.ownsRow b0 5 1 v s.length (Go.Proofs.Ytijobhpmaenjlaa.Oct.vals s), fun k d v W W' hk hd h hr => ownsRow_below h (hr.1 (by omega))⟩, .is (.slice (some ⟨w.heap.size + 1, 0, none⟩) 32 32), ⟨2, 1000, fun v W => ∃ X c, v = .slice X 64 c ∧ Holds8 W.heap.size W X (s ++ d), fun k d v W W' hk hd h hr => by obtain ⟨X, c, e, h2⟩ := h; exact ⟨X, c, e, h2.later (hr.2 hk)⟩⟩, ⟨2, 1000, fun v W => ∃ X c, v = .slice X 64 c ∧ Holds8 W.heap.size W X (s ++ d), fun k d v W W' hk hd h hr => by obtain ⟨X, c, e, h2⟩ := h; exact ⟨X, c, e, h2.later (hr.2 hk)⟩⟩] [2, 4] [0, 0, 0, 0, 1, 2] [0, 0, 0, 1, 1, 2] (by kernel_rfl) (by kernel_rfl) (by kernel_rfl) (fun _ _ W => ⟨fun _ => Below.refl _ W, fun _ => Below.refl _ W⟩) (HI0.out.call (Below.refl _ _).drew) ⟨?ob0, ?ob1, ?ob2, ?ob3, ?ob4, ?ob5, trivial⟩ ?obend
      case ob0 => as_aux_lemma =>
        intro p vals W1 F hF hlo hhi hI hd
        have hp : p = 0 := Nat.le_antisymm hhi hlo
        subst hp
        clear hlo hhi
        have E7 : F.eval (.tmp 7) = .slice none 0 0 := hF.out_ (by kernel_rfl) rfl
        refine .inr ⟨wanted_none rfl, .inl ⟨.slice none 0 0, ?_, hI, TyP.of_is rfl⟩⟩
        simp only [execOp, E7, Sem.run_pure]
      case ob1 => as_aux_lemma =>
        intro p vals W1 F hF hlo hhi hI hd
        have hp : p = 0 := Nat.le_antisymm hhi hlo
        subst hp
        clear hlo hhi
        have E5 : F.eval (.tmp 5) = .slice X 32 c := hF.out_ (by kernel_rfl) rfl
        refine .inr ⟨wanted_none rfl, .inl ⟨.slice X 32 c, ?_, hI, TyP.of_is rfl⟩⟩
        simp only [execOp, E5, Sem.run_pure]
      case ob2 => as_aux_lemma =>
        intro p vals W1 F hF hlo hhi hI hd
        have hp : p = 0 := Nat.le_antisymm hhi hlo
        subst hp
        clear hlo hhi
        have d0 : vals 0 = .slice none 0 0 := hd ⟨0, .data⟩ (Array.mem_of_getElem? (i := 0) rfl) rfl (show (0 : Nat) ≤ 1000 by decide)
        have d1 : vals 1 = .slice X 32 c := hd ⟨1, .data⟩ (Array.mem_of_getElem? (i := 1) rfl) rfl (show (0 : Nat) ≤ 1000 by decide)
        have E19 := eval_some (hF.own_ 0 rfl rfl (by kernel_rfl) (by decide)); rw [d0] at E19
        have E20 := eval_some (hF.own_ 1 rfl rfl (by kernel_rfl) (by decide)); rw [d1] at E20
        refine .inr ⟨wanted_none rfl, ?_⟩
        obtain ⟨X2, c2, e2, hX2, _⟩ := own_open hI.own
        rw [HS.out] at e2
        injection e2 with e2 _ e2c
        subst e2 e2c
        obtain ⟨v', w', hr, h2, h3, h4⟩ := append_run W1 24 b0 W1.heap.size (.slice none 0 0) [] s (World.ownsRow_nil _ _ _ _) X c hX2 (by rw [HS.out]; decide) hI.big
        refine .inr (.inl ⟨v', w', ?_, ⟨fun h => absurd h (by decide), fun h => absurd h (by decide)⟩, hI.grow HB0.out HX0.out h3 (fun k e => by cases e), h2⟩)
        rw [HS.out] at hr
        have Ec : ∀ v, F.eval (.const v) = v := fun _ => rfl; have Ef : ∀ f, F.eval (.func f) = .func (.func f) #[] #[] := fun _ => rfl; clear hF hd; generalize F.eval = ρ at E19 E20 Ec Ef ⊢
        unfold execOp
        simp only [resolve, invoke, builtin, Sem.run_bind, Sem.run_pure, Result.andThen_ok, List.map_toArray, List.map_cons, List.map_nil, E19, E20, hr]
      case ob3 => as_aux_lemma =>
        intro p vals W1 F hF hlo hhi hI hd
        have E3 : F.eval (.tmp 3) = .pointer (some ⟨w.heap.size + 1, 0, none⟩) := hF.out_ (by kernel_rfl) rfl
        refine .inr ⟨wanted_none rfl, .inl ⟨.slice (some ⟨w.heap.size + 1, 0, none⟩) 32 32, ?_, hI, TyP.of_is rfl⟩⟩
        have Ec : ∀ v, F.eval (.const v) = v := fun _ => rfl; have Ef : ∀ f, F.eval (.func f) = .func (.func f) #[] #[] := fun _ => rfl; clear hF hd; generalize F.eval = ρ at E3 Ec Ef ⊢
        simp [execOp, go_sem, Ec, E3]
      case ob4 => as_aux_lemma =>
        intro p vals W1 F hF hlo hhi hI hd
        have hp : p = 1 := Nat.le_antisymm hhi hlo
        subst hp
        clear hlo hhi
        obtain hr2 := hd ⟨2, .data⟩ (Array.mem_of_getElem? (i := 0) rfl) rfl (show (1 : Nat) ≤ 1 by decide)
        have d2 : vals 2 = vals 2 := rfl
        have d3 : vals 3 = .slice (some ⟨w.heap.size + 1, 0, none⟩) 32 32 := hd ⟨3, .data⟩ (Array.mem_of_getElem? (i := 1) rfl) rfl (show (1 : Nat) ≤ 1000 by decide)
        have E21 := eval_some (hF.own_ 2 rfl rfl (by kernel_rfl) (by decide)); rw [d2] at E21
        have E22 := eval_some (hF.own_ 3 rfl rfl (by kernel_rfl) (by decide)); rw [d3] at E22
        have hr2' : W1.ownsRow b0 5 1 (vals 2) s.length (Go.Proofs.Ytijobhpmaenjlaa.Oct.vals s) := hr2
        refine .inr ⟨wanted_none rfl, ?_⟩
        obtain ⟨v', w', hr, h2, h3, h4⟩ := append_run W1 24 b0 W1.heap.size _ s d hr2' (some ⟨w.heap.size + 1, 0, none⟩) 32 (holdsK (k := 1) hI.keeps rfl) (by rw [HS.out, HD.out]; decide) hI.big
        obtain ⟨X', c', rfl, hX, hXc, _⟩ := own_open h2
        rw [List.length_append, HS.out, HD.out] at hr hXc
        refine .inr (.inl ⟨.slice X' 64 c', w', ?_, ⟨fun h => absurd h (by decide), fun h => absurd h (by decide)⟩, hI.grow HB0.out HX0.out h3 (fun k e => own_row_ge hr2' k e), X', c', rfl, hX⟩)
        rw [show (32 + 32 : Nat) = 64 from rfl] at hr
        have Ec : ∀ v, F.eval (.const v) = v := fun _ => rfl; have Ef : ∀ f, F.eval (.func f) = .func (.func f) #[] #[] := fun _ => rfl; clear hF hd; generalize F.eval = ρ at E21 E22 Ec Ef ⊢
        unfold execOp
        simp only [resolve, invoke, builtin, Sem.run_bind, Sem.run_pure, Result.andThen_ok, List.map_toArray, List.map_cons, List.map_nil, E21, E22, hr]
      case ob5 => as_aux_lemma =>
        intro p vals W1 F hF hlo hhi hI hd
        have hp : p = 2 := Nat.le_antisymm hhi hlo
        subst hp
        clear hlo hhi
        obtain ⟨X4, c4, hspec4, hh4⟩ := hd ⟨4, .data⟩ (Array.mem_of_getElem? (i := 0) rfl) rfl (show (2 : Nat) ≤ 1000 by decide)
        have d4 : vals 4 = .slice X4 64 c4 := hspec4
        have E23 := eval_some (hF.own_ 4 rfl rfl (by kernel_rfl) (by decide)); rw [d4] at E23
        refine .inr ⟨wanted_none rfl, ?_⟩
        refine .inl ⟨.slice X4 64 c4, ?_, hI, X4, c4, rfl, hh4⟩
        simp only [execOp, E23, Sem.run_pure]
      case obend =>
        intro vals W1 F hF hdef hI hT
        obtain ⟨X5, c5, hv, hh5⟩ := hT 5 (by decide) (show (2 : Nat) ≤ 1000 by decide)
        rename_i K hK9
        refine hK9 _ _ ?_
        rw [hF.act]
        simp only [fin, Act.put, List.setIfInBounds_toArray, List.set_cons_succ, List.set_cons_zero]
        rw [hv]
        clear hF hT hv
        have CO := Lib.hid (HC.out W1 X5 c5 hh5)
        have HI1 := Lib.hid hI
        clear hI hh5 HI0
        go_wp2_with (first | (go_at_call 20; (with_reducible refine CO.out.mono ?_); rintro e W2 ⟨rfl, hb2⟩; have hI2 := HI1.out.call hb2; clear hb2 CO) | (refine wpList_alloc rfl 23 rfl (z := arr8 zero32) (by kernel_rfl) ?_; try simp only [World.size_alloc]) | (refine wpList_fillR hI2.keeps rfl 23 (.tmp 8) (.tmp 25) rfl rfl rfl (infoH _ HH.out) (size_same rfl HH.out) (one8x _) ?_; intro W3 hK3 hb3; have hI3 := hI2.call hb3; clear hI2 hb3) | (at_builtin; refine wpList_append_bytes rfl (.tmp 26) (.tmp 27) rfl (w.heap.size + 1 + 1) W3.heap.size (.slice X 32 c) s D rfl hI3.own (some ⟨W2.heap.size, 0, none⟩) 32 (by rw [HH.out]; rfl) (holdsK (k := 2) hK3 rfl) (by rw [HS.out, HH.out]; decide) (Nat.le_trans HB1.out hI3.big) ?_; intro v4 w4 hown4 hgr4 hv4))
        go_ret
        exact ⟨_, rfl, ownsRow_base hown4 (by omega), (keeps_grow2 hI3.keeps hgr4 HB.out (own_row_ge hI3.own)).bel⟩
end Go.Proofs.Ytijobhpmaenjlaa.Oct
