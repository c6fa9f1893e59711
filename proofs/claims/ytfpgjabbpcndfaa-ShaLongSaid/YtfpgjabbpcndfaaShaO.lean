/- ShaLong is true at every input. No condition. -/
import Derived.Test.YtfpgjabbpcndfaaShaM
import Derived.Test.YtfpgjabbpcndfaaApp
namespace Go.Proofs.Ytfpgjabbpcndfaa.Oct
set_option linter.unusedVariables false
set_option linter.unusedSimpArgs false
open Go.Proofs.Ytfpgjabbpcndfaa Go.RowKit Go.Lib Go.Shelf Go.ChangeShapes Go.WideShapes Go.ChangeAt

theorem Holds8.blk {n0 : Nat} {W : World} {A : Option Addr} {bs : List UInt8} (h : Holds8 n0 W A bs) : ∀ a, A = some a → a.block < n0 := fun a e => by
  rcases h with ⟨e1, _⟩ | ⟨b, off, e1, hb, _⟩
  · rw [e] at e1; cases e1
  · rw [e] at e1; injection e1 with e1; rw [e1]; exact hb
theorem own_emptyB (w : World) (base : Nat) (h : base ≤ w.heap.size) : (w.alloc (.cells #[] 5)).ownsRow base 5 1 (.slice (some ⟨w.heap.size, 0, none⟩) 0 0) 0 [] :=
  ⟨rfl, .inr ⟨w.heap.size, 0, #[], rfl, h, heap_alloc_new w _, Nat.le_refl _, by simp, rfl, rfl⟩⟩
/-- What stands in memory where ShaLong judges. -/
structure LongI (w : World) (b0 B6 B8 B9 gs N : Nat) (h6 h9 m : List UInt8) (W : World) : Prop where
  keeps : Keeps w [(B6, arr8 h6, 25), (B8, arr8 h6, 25), (B9, arr8 h9, 25)] W
  sum : SumIn W gs m N
  big : b0 ≤ W.heap.size
theorem LongI.call {w : World} {b0 B6 B8 B9 gs N : Nat} {h6 h9 m : List UInt8} {W W' : World} (h : LongI w b0 B6 B8 B9 gs N h6 h9 m W) (hb : Below W.heap.size W W') : LongI w b0 B6 B8 B9 gs N h6 h9 m W' :=
  ⟨h.keeps.call hb, h.sum.later hb, Nat.le_trans h.big hb.size⟩
theorem keeps_growO {W0 W W' : World} {l : List (Nat × Array Value × TypeId)} {row : Option Nat} (h : Keeps W0 l W) (hg : W.grownBy W' row) (hr : ∀ (i : Nat) p, l[i]? = some p → some p.1 ≠ row) (hb : ∀ k, row = some k → W0.heap.size ≤ k) : Keeps W0 l W' :=
  ⟨fun i p hi => by
    have hlt := h.lt i hi
    rw [hg.block p.1 hlt (hr i p hi)]
    exact h.rows i p hi, h.base, h.apart, ⟨hg.os.trans h.bel.os, hg.tape.trans h.bel.tape, hg.output.trans h.bel.output, Nat.le_trans h.bel.size hg.size, fun k hk => (hg.block k (Nat.lt_of_lt_of_le hk h.bel.size) (fun e => by have := hb k e.symm; omega)).trans (h.bel.block k hk)⟩⟩
theorem LongI.grow {w : World} {b0 B6 B8 B9 gs N : Nat} {h6 h9 m : List UInt8} {W W' : World} {row : Option Nat} (h : LongI w b0 B6 B8 B9 gs N h6 h9 m W) (k6 : B6 < b0) (k8 : B8 < b0) (k9 : B9 < b0) (kg : gs < b0) (hg : W.grownBy W' row) (hr : ∀ k, row = some k → b0 ≤ k) : LongI w b0 B6 B8 B9 gs N h6 h9 m W' := by
  have hwb : w.heap.size ≤ B6 := h.keeps.base 0 _ rfl
  refine ⟨keeps_growO h.keeps hg (fun i p hi e => ?_) (fun k e => by have := hr k e; omega), ?_, Nat.le_trans h.big hg.size⟩
  · have := hr p.1 e.symm
    match i, hi with
    | 0, hi => cases hi; dsimp only at this; omega
    | 1, hi => cases hi; dsimp only at this; omega
    | 2, hi => cases hi; dsimp only at this; omega
  · have hl := h.sum.lt
    obtain ⟨tl, h1, h2, h3⟩ := h.sum
    exact ⟨tl, h1, h2, by rw [hg.block gs hl (fun e => by have := hr gs e.symm; omega)]; exact h3⟩
theorem holdsK {w W : World} {l : List (Nat × Array Value × TypeId)} {k g : Nat} {bs : List UInt8} {t : TypeId} (h : Keeps w l W) (hk : l[k]? = some (g, arr8 bs, t)) : Holds8 W.heap.size W (some ⟨g, 0, none⟩) bs := Keeps.holds32 h hk
/-- The store of a whole box that was just made, and what it leaves as it was. -/
theorem wpList_fillS {P : Program} {W0 W : World} {l : List (Nat × Array Value × TypeId)} {ops : Array Oper} {Q : Exit → Act → World → Prop} {rest : List Oper} {o : Oper} {a : Act} (h : Keeps W0 l W) {old : Array Value} (hw : Region.wanted o (yielded ops a.tmps) = true) (ty : TypeId) (x y : Operand) (ho : o.op = .store ty x y)
    {cs : Array Value} (hx : a.eval x = .pointer (some ⟨W.heap.size, 0, none⟩)) (hy : a.eval y = .agg cs) (hs : (P.info? ty).map (·.size) = some cs.size) (hold : old.size = cs.size) (h1 : cs.all (·.oneCell') = true)
    (hn : ∀ W1, Keeps W0 (l ++ [(W.heap.size, cs, ty)]) W1 → Below W.heap.size W W1 → wpList P ops Q rest (a.put o.dst undef) W1) : wpList P ops Q (o :: rest) a (W.alloc (.cells old ty)) :=
  wpList_wanted hw fun _ hK => wp_store_row ty x y ho W.heap.size cs hx hy ty old (heap_alloc_new _ _) hs hold h1 (hK _ _ (hn _ (h.newput old cs ty) (((Below.refl _ _).alloc (Nat.le_refl _) _).trans ⟨rfl, rfl, rfl, by simp [World.setRow], fun k hk => setRow_other _ _ _ _ (Nat.ne_of_lt hk)⟩)))
set_option maxRecDepth 100000 in
set_option maxHeartbeats 4000000 in
theorem long_walk (bs cs : List UInt8) (A C : Option Addr) (cap cc : Nat) (hcap : bs.length ≤ cap) (hcc : cs.length ≤ cc) (w : World) (hh : Holds8 w.heap.size w A bs) (hk : Holds8 w.heap.size w C cs) :
    Calls Try.prog 6 #[.slice A bs.length cap, .slice C cs.length cc] w fun e w' => e = .returned (.bool true) ∧ Below w.heap.size w w' := by
  have CA := Lib.hid (alive_any w)
  have HH := Lib.hid hh
  have HC := Lib.hid hk
  obtain ⟨L, hL⟩ : ∃ L, bs.length = L := ⟨_, rfl⟩
  obtain ⟨M, hM⟩ : ∃ M, cs.length = M := ⟨_, rfl⟩
  rw [hL] at hcap ⊢
  rw [hM] at hcc ⊢
  have HL := Lib.hid hL
  have HM := Lib.hid hM
  clear hL hM hh hk
  by_cases hbig : 1000 < L
  · go_enter Try.func6, Try.ntmps6
    go_wp2_with (go_at_call 18; (with_reducible refine CA.out.mono ?_); rintro e W1 ⟨rfl, hb⟩)
    go_ret
    exact ⟨rfl, hb⟩
  · have d1 : decide ((1000 : Int) < (L : Int)) = false := by simp; omega
    have hsm : L ≤ 1000 := by omega
    by_cases hbig2 : 1000 < M
    · clear hbig
      go_enter Try.func6, Try.ntmps6
      go_wp2_with (go_at_call 18; (with_reducible refine CA.out.mono ?_); rintro e W1 ⟨rfl, hb⟩)
      go_ret
      exact ⟨rfl, hb⟩
    · have d2 : decide ((1000 : Int) < (M : Int)) = false := by simp; omega
      have hsm2 : M ≤ 1000 := by omega
      clear hbig hbig2
      have H8 : Hid (∀ W, Below w.heap.size w W → Holds8 W.heap.size W A bs) := Lib.hid fun W hb => (HH.out.below hb (Nat.le_refl _)).more hb.size
      have H9 : Hid (∀ W, Below w.heap.size w W → Holds8 W.heap.size W C cs) := Lib.hid fun W hb => (HC.out.below hb (Nat.le_refl _)).more hb.size
      obtain ⟨E, hE⟩ : ∃ E, sha bs = E := ⟨_, rfl⟩
      obtain ⟨D, hD⟩ : ∃ D, sha E = D := ⟨_, rfl⟩
      have HEl := Lib.hid (show E.length = 32 by rw [← hE]; exact sha_length _)
      have HDl := Lib.hid (show D.length = 32 by rw [← hD]; exact sha_length _)
      have HE := Lib.hid hE
      have HD := Lib.hid hD
      clear hE hD
      have CO : Hid (∀ W, Below w.heap.size w W → Calls Try.prog 8 #[.slice A L cap] W fun e w' => e = .returned (.agg (arr8 E)) ∧ Below W.heap.size W w') :=
        Lib.hid fun W hb => by have h := of_any' W A L cap bs HL.out (H8.out W hb) hcap (by omega); rw [HE.out] at h; exact h
      have CT : Hid (∀ W, Below w.heap.size w W → Calls Try.prog 10 #[.slice A L cap] W fun e w' => e = .returned (.agg (arr8 D)) ∧ Below W.heap.size W w') :=
        Lib.hid fun W hb => by have h := twice_any' W A L cap bs HL.out (H8.out W hb) hcap (by omega); rw [HE.out, HD.out] at h; exact h
      go_enter Try.func6, Try.ntmps6
      go_wp2_with (first | (go_at_call 18; (with_reducible refine CA.out.mono ?_); rintro e W1 ⟨rfl, hb⟩; have hK := (Keeps.nil w).call hb; clear hb) | (go_at_call 8; (with_reducible refine (CO.out _ hK.bel).mono ?_); rintro e W2 ⟨rfl, hb2⟩; replace hK := hK.call hb2; clear hb2) | (refine wpList_alloc rfl 25 rfl (z := arr8 zero32) (by kernel_rfl) ?_; try simp only [World.size_alloc]) | (refine wpList_fill hK rfl 25 (.tmp 6) (.tmp 25) rfl rfl rfl (infoH _ HEl.out) (size_same rfl HEl.out) (one8x _) ?_; clear hK; intro W3 hK))
      have h10 : W2.heap.size < W3.heap.size := hK.lt 0 rfl
      have h11 : w.heap.size ≤ W2.heap.size := hK.base 0 _ rfl
      refine (new_any W3).mono ?_
      rintro e W4 ⟨gs, rfl, hgs, hs4, hb4⟩
      have hne : W2.heap.size ≠ gs := by omega
      have hbg : w.heap.size ≤ gs := by omega
      replace hK := hK.call hb4
      have CW := Lib.hid (write_any' W4 gs [] 0 A L cap bs HL.out hs4 (H8.out _ hK.bel) hcap (by omega) (by decide) (fun a e => by have := HH.out.blk a e; omega))
      clear hs4 hb4
      go_wp2_with fail
      refine CW.out.mono ?_
      rintro e W5 ⟨rfl, hs5, hg5⟩
      rw [List.nil_append, Nat.zero_add] at hs5
      replace hK := hK.grow hg5 (fun i p hi => by (match i, hi with | 0, hi => exact (by cases hi; exact hne))) hbg
      have CE := Lib.hid (end_any W5 gs bs (by rw [HL.out]; exact hs5) (by rw [HL.out]; omega))
      rw [HE.out] at CE
      clear hg5 CW
      go_wp2_with fail
      refine CE.out.mono ?_
      rintro e W6 ⟨rfl, hb6⟩
      replace hK := hK.call hb6
      have hs6 := hs5.later hb6
      have hlt6 := hs6.lt
      have HS6 := Lib.hid hs6
      clear CE hs5 hb6 hs6
      go_wp2_with (first | (refine wpList_alloc rfl 25 rfl (z := arr8 zero32) (by kernel_rfl) ?_; try simp only [World.size_alloc]) | (refine wpList_fillS hK rfl 25 (.tmp 8) (.tmp 30) rfl rfl rfl (infoH _ HEl.out) (size_same rfl HEl.out) (one8x _) ?_; clear hK; intro W7 hK hsame))
      have hs7 := HS6.out.later hsame
      have hne8 : W6.heap.size ≠ gs := by have := HS6.out.lt; omega
      have hbg7 := hK.bel.size
      have CW := Lib.hid (write_any' W7 gs bs L C M cc cs HM.out hs7 (H9.out _ hK.bel) hcc (by omega) (by omega) (fun a e => by have := HC.out.blk a e; omega))
      clear hsame hs7 HS6
      refine CW.out.mono ?_
      rintro e W8 ⟨rfl, hs8, hg8⟩
      replace hK := hK.grow hg8 (fun i p hi => by
        match i, hi with
        | 0, hi => cases hi; exact hne
        | 1, hi => cases hi; exact hne8) hbg
      have HS8 := Lib.hid hs8
      clear hs8 hg8 CW hbg7
      go_wp2_with (first | (go_at_call 10; (with_reducible refine (CT.out _ hK.bel).mono ?_); rintro e W9 ⟨rfl, hb9⟩; replace hK := hK.call hb9; have HS9 := Lib.hid (HS8.out.later hb9); clear hb9 HS8) | (refine wpList_alloc rfl 25 rfl (z := arr8 zero32) (by kernel_rfl) ?_; try simp only [World.size_alloc]) | (refine wpList_fillS hK rfl 25 (.tmp 9) (.tmp 35) rfl rfl rfl (infoH _ HDl.out) (size_same rfl HDl.out) (one8x _) ?_; clear hK; intro Wb hK hsame))
      go_frame
      have hsb := HS9.out.later hsame
      clear hsame HS9
      obtain ⟨B6, hB6⟩ : ∃ B6, W2.heap.size = B6 := ⟨_, rfl⟩
      obtain ⟨B8, hB8⟩ : ∃ B8, W6.heap.size = B8 := ⟨_, rfl⟩
      obtain ⟨B9, hB9⟩ : ∃ B9, W9.heap.size = B9 := ⟨_, rfl⟩
      rw [hB6] at hK hne h10 h11
      rw [hB8] at hK hne8
      rw [hB9] at hK
      rw [hB6, hB8, hB9]
      clear hB6 hB8 hB9
      simp only [List.cons_append, List.nil_append] at hK
      have hk6 : B6 < Wb.heap.size := hK.lt 0 rfl
      have hk8 : B8 < Wb.heap.size := hK.lt 1 rfl
      have hk9 : B9 < Wb.heap.size := hK.lt 2 rfl
      have hgsb := hsb.lt
      have hI0 : LongI w Wb.heap.size B6 B8 B9 gs (L + M) E D (bs ++ cs) Wb := ⟨hK, hsb, Nat.le_refl _⟩
      have hLM : IntKind.i64.wrap ((L : Int) + (M : Int)) = ((L + M : Nat) : Int) := by rw [IntKind.wrap_i64]; omega
      have hLM2 : IntKind.u64.wrap ((L + M : Nat) : Int) = ((L + M : Nat) : Int) := by rw [IntKind.wrap_u64]; omega
      have hLM3 : IntKind.u64.wrap ((L : Int) + (M : Int)) = (L : Int) + (M : Int) := by rw [IntKind.wrap_u64]; omega
      clear hK hsb hne hne8 h10 hgs
      refine wp_region_phased 80 rfl (fun k d W W' => (d = 0 → Below W.heap.size W W') ∧ (3 ≤ k → Below W.heap.size W W')) (fun p W1 => LongI w Wb.heap.size B6 B8 B9 gs (L + M) E D (bs ++ cs) W1) [.is (.bool true), .is (.bool true), .is (.agg (arr8 E)), .is (.agg (arr8 E)), .is (.bool true), .is (.bool true), .is (.bool true), .is (.agg (arr8 D)), ⟨0, 0, fun v W => ∃ g, v = .pointer (some ⟨g, 0, none⟩) ∧ Wb.heap.size ≤ g ∧ SumIn W g [] 0, fun k d v W W' hk hd h hr => by obtain ⟨g, e, h1, h2⟩ := h; exact ⟨g, e, h1, h2.later (hr.1 (by omega))⟩⟩, .is (.slice (some ⟨B6, 0, none⟩) 32 32), ⟨1, 1, fun v W => ∃ g, v = .pointer (some ⟨g, 0, none⟩) ∧ SumIn W g E 32, fun k d v W W' hk hd h hr => by obtain ⟨g, e, h2⟩ := h; exact ⟨g, e, h2.later (hr.1 (by omega))⟩⟩, .is (.agg (arr8 D)), .is (.bool true), .is (.bool true), .is (.bool true), .is (.slice A L cap), ⟨1, 1, fun v W => ∃ X c, v = .slice X 20 c ∧ Holds8 W.heap.size W X (D.take 20), fun k d v W W' hk hd h hr => by obtain ⟨X, c, e, h2⟩ := h; exact ⟨X, c, e, h2.later (hr.1 (by omega))⟩⟩, .is (.string ⟨(D.take 20).toArray⟩), .is (.slice (some ⟨B9, 0, none⟩) 20 32), .is (.string ⟨(D.take 20).toArray⟩), .is (.bool true), .is (.bool true), .is (.bool true), .is (.pointer (some ⟨gs, 0, none⟩)), .is (.agg (arr8 (sha (bs ++ cs)))), ⟨1, 1, fun v W => ∃ g, v = .slice (some ⟨g, 0, none⟩) 0 0 ∧ Wb.heap.size ≤ g ∧ W.ownsRow Wb.heap.size 5 1 v 0 [], fun k d v W W' hk hd h hr => by obtain ⟨g, e, h1, h2⟩ := h; exact ⟨g, e, h1, ownsRow_below h2 (hr.1 (by omega))⟩⟩, .is (.slice A L cap), ⟨2, 2, fun v W => W.ownsRow Wb.heap.size 5 1 v bs.length (Go.Proofs.Ytfpgjabbpcndfaa.Oct.vals bs), fun k d v W W' hk hd h hr => ownsRow_below h (hr.1 (by omega))⟩, .is (.slice C M cc), ⟨3, 1000, fun v W => ∃ X c, v = .slice X (L + M) c ∧ Holds8 W.heap.size W X (bs ++ cs) ∧ L + M ≤ c, fun k d v W W' hk hd h hr => by obtain ⟨X, c, e, h2, h3⟩ := h; exact ⟨X, c, e, h2.later (hr.2 hk), h3⟩⟩, .is (.agg (arr8 (sha (bs ++ cs)))), .is (.bool true), .is (.bool true), .is (.bool true), .is (.pointer (some ⟨gs, 0, none⟩)), .is (.int .u64 ((L + M : Nat) : Int)), .is (.slice A L cap), .is (.int .i64 (L : Int)), .is (.slice C M cc), .is (.int .i64 (M : Int)), .is (.int .i64 ((L + M : Nat) : Int)), .is (.int .u64 ((L + M : Nat) : Int)), .is (.bool true), .is (.bool true), .is (.bool true)] [10, 27, 29] [0, 0, 0, 0, 0, 0, 0, 0, 0, 0, 0, 1, 1, 1, 1, 1, 1, 1, 1, 1, 1, 1, 1, 1, 1, 1, 1, 1, 1, 2, 3, 3, 3, 3, 3, 3, 3, 3, 3, 3, 3, 3, 3, 3, 3] [0, 0, 0, 0, 0, 0, 0, 1, 0, 0, 0, 1, 1, 1, 1, 1, 1, 1, 1, 1, 1, 1, 1, 1, 1, 1, 1, 1, 2, 2, 3, 3, 3, 3, 3, 3, 3, 3, 3, 3, 3, 3, 3, 3, 3] (by kernel_rfl) (by kernel_rfl) (by kernel_rfl) (fun _ _ W => ⟨fun _ => Below.refl _ W, fun _ => Below.refl _ W⟩) (hI0.call (Below.refl _ _).drew) ⟨?ob0, ?ob1, ?ob2, ?ob3, ?ob4, ?ob5, ?ob6, ?ob7, ?ob8, ?ob9, ?ob10, ?ob11, ?ob12, ?ob13, ?ob14, ?ob15, ?ob16, ?ob17, ?ob18, ?ob19, ?ob20, ?ob21, ?ob22, ?ob23, ?ob24, ?ob25, ?ob26, ?ob27, ?ob28, ?ob29, ?ob30, ?ob31, ?ob32, ?ob33, ?ob34, ?ob35, ?ob36, ?ob37, ?ob38, ?ob39, ?ob40, ?ob41, ?ob42, ?ob43, ?ob44, trivial⟩ ?obend
      case ob0 => as_aux_lemma =>
        intro p vals W1 F hF hlo hhi hI hd
        have hp : p = 0 := Nat.le_antisymm hhi hlo
        subst hp
        clear hlo hhi
        have E5 : F.eval (.tmp 5) = .bool true := hF.out_ (by kernel_rfl) rfl
        refine .inr ⟨wanted_none rfl, .inl ⟨.bool true, ?_, hI, TyP.of_is rfl⟩⟩
        simp only [execOp, E5, Sem.run_pure]
      case ob1 => as_aux_lemma =>
        intro p vals W1 F hF hlo hhi hI hd
        have hp : p = 0 := Nat.le_antisymm hhi hlo
        subst hp
        clear hlo hhi
        have d0 : vals 0 = .bool true := hd ⟨0, .data⟩ (Array.mem_of_getElem? (i := 0) rfl) rfl (show (0 : Nat) ≤ 1000 by decide)
        have E36 := eval_some (hF.own_ 0 rfl rfl (by kernel_rfl) (by decide)); rw [d0] at E36
        refine .inr ⟨wanted_none rfl, .inl ⟨.bool true, ?_, hI, TyP.of_is rfl⟩⟩
        simp only [execOp, E36, Sem.run_pure]
      case ob2 => as_aux_lemma =>
        intro p vals W1 F hF hlo hhi hI hd
        have hp : p = 0 := Nat.le_antisymm hhi hlo
        subst hp
        clear hlo hhi
        have d1 : vals 1 = .bool true := hd ⟨1, .guard⟩ (Array.mem_of_getElem? (i := 0) rfl) rfl (show (0 : Nat) ≤ 1000 by decide)
        have E8 : F.eval (.tmp 8) = .pointer (some ⟨B8, 0, none⟩) := hF.out_ (by kernel_rfl) rfl
        have G := hF.own_ 1 rfl rfl (by kernel_rfl) (by decide); rw [d1] at G
        refine .inr ⟨wanted_yes rfl rfl rfl G, ?_⟩
        have hl := run_loadVar_row (P := Try.prog) W1 B8 25 25 (arr8 E) (0, 0) _ (hI.keeps.get 1 rfl) Try.underlying25 rfl (infoH _ HEl.out)
        refine .inl ⟨.agg (arr8 E), ?_, hI, TyP.of_is rfl⟩
        have Ec : ∀ v, F.eval (.const v) = v := fun _ => rfl; have Ef : ∀ f, F.eval (.func f) = .func (.func f) #[] #[] := fun _ => rfl; clear hF hd; generalize F.eval = ρ at E8 Ec Ef ⊢
        simp only [execOp, E8, Instr.loadAt, Instr.sureAddr, Sem.run_bind, Sem.run_pure, Result.andThen_ok, hl]
      case ob3 => as_aux_lemma =>
        intro p vals W1 F hF hlo hhi hI hd
        have hp : p = 0 := Nat.le_antisymm hhi hlo
        subst hp
        clear hlo hhi
        have d1 : vals 1 = .bool true := hd ⟨1, .guard⟩ (Array.mem_of_getElem? (i := 0) rfl) rfl (show (0 : Nat) ≤ 1000 by decide)
        have E6 : F.eval (.tmp 6) = .pointer (some ⟨B6, 0, none⟩) := hF.out_ (by kernel_rfl) rfl
        have G := hF.own_ 1 rfl rfl (by kernel_rfl) (by decide); rw [d1] at G
        refine .inr ⟨wanted_yes rfl rfl rfl G, ?_⟩
        have hl := run_loadVar_row (P := Try.prog) W1 B6 25 25 (arr8 E) (0, 0) _ (hI.keeps.get 0 rfl) Try.underlying25 rfl (infoH _ HEl.out)
        refine .inl ⟨.agg (arr8 E), ?_, hI, TyP.of_is rfl⟩
        have Ec : ∀ v, F.eval (.const v) = v := fun _ => rfl; have Ef : ∀ f, F.eval (.func f) = .func (.func f) #[] #[] := fun _ => rfl; clear hF hd; generalize F.eval = ρ at E6 Ec Ef ⊢
        simp only [execOp, E6, Instr.loadAt, Instr.sureAddr, Sem.run_bind, Sem.run_pure, Result.andThen_ok, hl]
      case ob4 => as_aux_lemma =>
        intro p vals W1 F hF hlo hhi hI hd
        have hp : p = 0 := Nat.le_antisymm hhi hlo
        subst hp
        clear hlo hhi
        have d1 : vals 1 = .bool true := hd ⟨1, .guard⟩ (Array.mem_of_getElem? (i := 2) rfl) rfl (show (0 : Nat) ≤ 1000 by decide)
        have d2 : vals 2 = .agg (arr8 E) := hd ⟨2, .data⟩ (Array.mem_of_getElem? (i := 0) rfl) rfl (show (0 : Nat) ≤ 1000 by decide)
        have d3 : vals 3 = .agg (arr8 E) := hd ⟨3, .data⟩ (Array.mem_of_getElem? (i := 1) rfl) rfl (show (0 : Nat) ≤ 1000 by decide)
        have E38 := eval_some (hF.own_ 2 rfl rfl (by kernel_rfl) (by decide)); rw [d2] at E38
        have E39 := eval_some (hF.own_ 3 rfl rfl (by kernel_rfl) (by decide)); rw [d3] at E39
        have G := hF.own_ 1 rfl rfl (by kernel_rfl) (by decide); rw [d1] at G
        refine .inr ⟨wanted_yes rfl rfl rfl G, .inl ⟨.bool true, ?_, hI, TyP.of_is rfl⟩⟩
        have Ec : ∀ v, F.eval (.const v) = v := fun _ => rfl; have Ef : ∀ f, F.eval (.func f) = .func (.func f) #[] #[] := fun _ => rfl; clear hF hd; generalize F.eval = ρ at E38 E39 Ec Ef ⊢
        simp [execOp, go_sem, Ec, E38, E39, eq32 E HEl.out]
      case ob5 => as_aux_lemma =>
        intro p vals W1 F hF hlo hhi hI hd
        have hp : p = 0 := Nat.le_antisymm hhi hlo
        subst hp
        clear hlo hhi
        have d1 : vals 1 = .bool true := hd ⟨1, .data⟩ (Array.mem_of_getElem? (i := 0) rfl) rfl (show (0 : Nat) ≤ 1000 by decide)
        have d4 : vals 4 = .bool true := hd ⟨4, .data⟩ (Array.mem_of_getElem? (i := 1) rfl) rfl (show (0 : Nat) ≤ 1000 by decide)
        have E37 := eval_some (hF.own_ 1 rfl rfl (by kernel_rfl) (by decide)); rw [d1] at E37
        have E40 := eval_some (hF.own_ 4 rfl rfl (by kernel_rfl) (by decide)); rw [d4] at E40
        refine .inr ⟨wanted_none rfl, .inl ⟨.bool true, ?_, hI, TyP.of_is rfl⟩⟩
        have Ec : ∀ v, F.eval (.const v) = v := fun _ => rfl; have Ef : ∀ f, F.eval (.func f) = .func (.func f) #[] #[] := fun _ => rfl; clear hF hd; generalize F.eval = ρ at E37 E40 Ec Ef ⊢
        simp [execOp, go_sem, Ec, E37, E40]
      case ob6 => as_aux_lemma =>
        intro p vals W1 F hF hlo hhi hI hd
        have hp : p = 0 := Nat.le_antisymm hhi hlo
        subst hp
        clear hlo hhi
        have d5 : vals 5 = .bool true := hd ⟨5, .data⟩ (Array.mem_of_getElem? (i := 0) rfl) rfl (show (0 : Nat) ≤ 1000 by decide)
        have E41 := eval_some (hF.own_ 5 rfl rfl (by kernel_rfl) (by decide)); rw [d5] at E41
        refine .inr ⟨wanted_none rfl, .inl ⟨.bool true, ?_, hI, TyP.of_is rfl⟩⟩
        simp only [execOp, E41, Sem.run_pure]
      case ob7 => as_aux_lemma =>
        intro p vals W1 F hF hlo hhi hI hd
        have d6 : vals 6 = .bool true := hd ⟨6, .guard⟩ (Array.mem_of_getElem? (i := 0) rfl) rfl (Nat.le_trans hhi (show (1 : Nat) ≤ 1000 by decide))
        have E9 : F.eval (.tmp 9) = .pointer (some ⟨B9, 0, none⟩) := hF.out_ (by kernel_rfl) rfl
        have G := hF.own_ 6 rfl rfl (by kernel_rfl) (by decide); rw [d6] at G
        refine .inr ⟨wanted_yes rfl rfl rfl G, ?_⟩
        have hl := run_loadVar_row (P := Try.prog) W1 B9 25 25 (arr8 D) (0, 0) _ (hI.keeps.get 2 rfl) Try.underlying25 rfl (infoH _ HDl.out)
        refine .inl ⟨.agg (arr8 D), ?_, hI, TyP.of_is rfl⟩
        have Ec : ∀ v, F.eval (.const v) = v := fun _ => rfl; have Ef : ∀ f, F.eval (.func f) = .func (.func f) #[] #[] := fun _ => rfl; clear hF hd; generalize F.eval = ρ at E9 Ec Ef ⊢
        simp only [execOp, E9, Instr.loadAt, Instr.sureAddr, Sem.run_bind, Sem.run_pure, Result.andThen_ok, hl]
      case ob8 => as_aux_lemma =>
        intro p vals W1 F hF hlo hhi hI hd
        have hp : p = 0 := Nat.le_antisymm hhi hlo
        subst hp
        clear hlo hhi
        have d6 : vals 6 = .bool true := hd ⟨6, .chain⟩ (Array.mem_of_getElem? (i := 0) rfl) rfl (show (0 : Nat) ≤ 1000 by decide)
        have G := hF.own_ 6 rfl rfl (by kernel_rfl) (by decide); rw [d6] at G
        refine .inr ⟨wanted_yes rfl rfl rfl G, ?_⟩
        refine .inr (.inr (.inl ⟨13, #[], ?_, (new_any W1).mono ?_⟩))
        · have Ec : ∀ v, F.eval (.const v) = v := fun _ => rfl; have Ef : ∀ f, F.eval (.func f) = .func (.func f) #[] #[] := fun _ => rfl; clear hF hd; generalize F.eval = ρ at  Ec Ef ⊢
          simp [execOp, go_sem, Ec, Ef, ]
        rintro e W2 ⟨g, rfl, hg, hs, hb⟩
        exact ⟨_, rfl, ⟨fun _ => hb, fun _ => hb⟩, hI.call hb, g, rfl, Nat.le_trans hI.big hg, hs⟩
      case ob9 => as_aux_lemma =>
        intro p vals W1 F hF hlo hhi hI hd
        have hp : p = 0 := Nat.le_antisymm hhi hlo
        subst hp
        clear hlo hhi
        have d6 : vals 6 = .bool true := hd ⟨6, .guard⟩ (Array.mem_of_getElem? (i := 0) rfl) rfl (show (0 : Nat) ≤ 1000 by decide)
        have E6 : F.eval (.tmp 6) = .pointer (some ⟨B6, 0, none⟩) := hF.out_ (by kernel_rfl) rfl
        have G := hF.own_ 6 rfl rfl (by kernel_rfl) (by decide); rw [d6] at G
        refine .inr ⟨wanted_yes rfl rfl rfl G, .inl ⟨.slice (some ⟨B6, 0, none⟩) 32 32, ?_, hI, TyP.of_is rfl⟩⟩
        have Ec : ∀ v, F.eval (.const v) = v := fun _ => rfl; have Ef : ∀ f, F.eval (.func f) = .func (.func f) #[] #[] := fun _ => rfl; clear hF hd; generalize F.eval = ρ at E6 Ec Ef ⊢
        simp [execOp, go_sem, Ec, E6]
      case ob10 => as_aux_lemma =>
        intro p vals W1 F hF hlo hhi hI hd
        have hp : p = 0 := Nat.le_antisymm hhi hlo
        subst hp
        clear hlo hhi
        have d6 : vals 6 = .bool true := hd ⟨6, .guard⟩ (Array.mem_of_getElem? (i := 3) rfl) rfl (show (0 : Nat) ≤ 1000 by decide)
        obtain ⟨g8, hspec8, hg8, hs8⟩ := hd ⟨8, .data⟩ (Array.mem_of_getElem? (i := 0) rfl) rfl (show (0 : Nat) ≤ 0 by decide)
        have d8 : vals 8 = .pointer (some ⟨g8, 0, none⟩) := hspec8
        have d9 : vals 9 = .slice (some ⟨B6, 0, none⟩) 32 32 := hd ⟨9, .data⟩ (Array.mem_of_getElem? (i := 1) rfl) rfl (show (0 : Nat) ≤ 1000 by decide)
        have E44 := eval_some (hF.own_ 8 rfl rfl (by kernel_rfl) (by decide)); rw [d8] at E44
        have E45 := eval_some (hF.own_ 9 rfl rfl (by kernel_rfl) (by decide)); rw [d9] at E45
        have G := hF.own_ 6 rfl rfl (by kernel_rfl) (by decide); rw [d6] at G
        refine .inr ⟨wanted_yes rfl rfl rfl G, ?_⟩
        refine .inr (.inr (.inl ⟨15, #[.pointer (some ⟨g8, 0, none⟩), .slice (some ⟨B6, 0, none⟩) 32 32], ?_, (write_any' W1 g8 [] 0 (some ⟨B6, 0, none⟩) 32 32 E HEl.out hs8 (holdsK (k := 0) hI.keeps rfl) (by decide) (by decide) (by decide) (fun a e => by cases e; show B6 ≠ g8; omega)).mono ?_⟩))
        · have Ec : ∀ v, F.eval (.const v) = v := fun _ => rfl; have Ef : ∀ f, F.eval (.func f) = .func (.func f) #[] #[] := fun _ => rfl; clear hF hd; generalize F.eval = ρ at E44 E45 Ec Ef ⊢
          simp [execOp, go_sem, Ec, Ef, E44, E45]
        rintro e W2 ⟨rfl, hs, hg⟩
        rw [List.nil_append, Nat.zero_add] at hs
        exact ⟨_, rfl, ⟨fun h => absurd h (by decide), fun h => absurd h (by decide)⟩, hI.grow hk6 hk8 hk9 hgsb hg (fun k e => by injection e with e; omega), g8, rfl, hs⟩
      case ob11 => as_aux_lemma =>
        intro p vals W1 F hF hlo hhi hI hd
        have hp : p = 1 := Nat.le_antisymm hhi hlo
        subst hp
        clear hlo hhi
        have d6 : vals 6 = .bool true := hd ⟨6, .guard⟩ (Array.mem_of_getElem? (i := 2) rfl) rfl (show (1 : Nat) ≤ 1000 by decide)
        obtain ⟨g10, hspec10, hs10⟩ := hd ⟨10, .data⟩ (Array.mem_of_getElem? (i := 0) rfl) rfl (show (1 : Nat) ≤ 1 by decide)
        have d10 : vals 10 = .pointer (some ⟨g10, 0, none⟩) := hspec10
        have E46 := eval_some (hF.own_ 10 rfl rfl (by kernel_rfl) (by decide)); rw [d10] at E46
        have G := hF.own_ 6 rfl rfl (by kernel_rfl) (by decide); rw [d6] at G
        refine .inr ⟨wanted_yes rfl rfl rfl G, ?_⟩
        have hend := end_any W1 g10 E (by rw [HEl.out]; exact hs10) (by rw [HEl.out]; decide)
        rw [HD.out] at hend
        refine .inr (.inr (.inl ⟨16, #[.pointer (some ⟨g10, 0, none⟩)], ?_, hend.mono ?_⟩))
        · have Ec : ∀ v, F.eval (.const v) = v := fun _ => rfl; have Ef : ∀ f, F.eval (.func f) = .func (.func f) #[] #[] := fun _ => rfl; clear hF hd; generalize F.eval = ρ at E46 Ec Ef ⊢
          simp [execOp, go_sem, Ec, Ef, E46]
        rintro e W2 ⟨rfl, hb⟩
        exact ⟨_, rfl, ⟨fun _ => hb, fun _ => hb⟩, hI.call hb, TyP.of_is rfl⟩
      case ob12 => as_aux_lemma =>
        intro p vals W1 F hF hlo hhi hI hd
        have hp : p = 1 := Nat.le_antisymm hhi hlo
        subst hp
        clear hlo hhi
        have d6 : vals 6 = .bool true := hd ⟨6, .guard⟩ (Array.mem_of_getElem? (i := 2) rfl) rfl (show (1 : Nat) ≤ 1000 by decide)
        have d7 : vals 7 = .agg (arr8 D) := hd ⟨7, .data⟩ (Array.mem_of_getElem? (i := 0) rfl) rfl (show (1 : Nat) ≤ 1000 by decide)
        have d11 : vals 11 = .agg (arr8 D) := hd ⟨11, .data⟩ (Array.mem_of_getElem? (i := 1) rfl) rfl (show (1 : Nat) ≤ 1000 by decide)
        have E43 := eval_some (hF.own_ 7 rfl rfl (by kernel_rfl) (by decide)); rw [d7] at E43
        have E47 := eval_some (hF.own_ 11 rfl rfl (by kernel_rfl) (by decide)); rw [d11] at E47
        have G := hF.own_ 6 rfl rfl (by kernel_rfl) (by decide); rw [d6] at G
        refine .inr ⟨wanted_yes rfl rfl rfl G, .inl ⟨.bool true, ?_, hI, TyP.of_is rfl⟩⟩
        have Ec : ∀ v, F.eval (.const v) = v := fun _ => rfl; have Ef : ∀ f, F.eval (.func f) = .func (.func f) #[] #[] := fun _ => rfl; clear hF hd; generalize F.eval = ρ at E43 E47 Ec Ef ⊢
        simp [execOp, go_sem, Ec, E43, E47, eq32 D HDl.out]
      case ob13 => as_aux_lemma =>
        intro p vals W1 F hF hlo hhi hI hd
        have hp : p = 1 := Nat.le_antisymm hhi hlo
        subst hp
        clear hlo hhi
        have d6 : vals 6 = .bool true := hd ⟨6, .data⟩ (Array.mem_of_getElem? (i := 0) rfl) rfl (show (1 : Nat) ≤ 1000 by decide)
        have d12 : vals 12 = .bool true := hd ⟨12, .data⟩ (Array.mem_of_getElem? (i := 1) rfl) rfl (show (1 : Nat) ≤ 1000 by decide)
        have E42 := eval_some (hF.own_ 6 rfl rfl (by kernel_rfl) (by decide)); rw [d6] at E42
        have E48 := eval_some (hF.own_ 12 rfl rfl (by kernel_rfl) (by decide)); rw [d12] at E48
        refine .inr ⟨wanted_none rfl, .inl ⟨.bool true, ?_, hI, TyP.of_is rfl⟩⟩
        have Ec : ∀ v, F.eval (.const v) = v := fun _ => rfl; have Ef : ∀ f, F.eval (.func f) = .func (.func f) #[] #[] := fun _ => rfl; clear hF hd; generalize F.eval = ρ at E42 E48 Ec Ef ⊢
        simp [execOp, go_sem, Ec, E42, E48]
      case ob14 => as_aux_lemma =>
        intro p vals W1 F hF hlo hhi hI hd
        have hp : p = 1 := Nat.le_antisymm hhi hlo
        subst hp
        clear hlo hhi
        have d13 : vals 13 = .bool true := hd ⟨13, .data⟩ (Array.mem_of_getElem? (i := 0) rfl) rfl (show (1 : Nat) ≤ 1000 by decide)
        have E49 := eval_some (hF.own_ 13 rfl rfl (by kernel_rfl) (by decide)); rw [d13] at E49
        refine .inr ⟨wanted_none rfl, .inl ⟨.bool true, ?_, hI, TyP.of_is rfl⟩⟩
        simp only [execOp, E49, Sem.run_pure]
      case ob15 => as_aux_lemma =>
        intro p vals W1 F hF hlo hhi hI hd
        have hp : p = 1 := Nat.le_antisymm hhi hlo
        subst hp
        clear hlo hhi
        have d14 : vals 14 = .bool true := hd ⟨14, .guard⟩ (Array.mem_of_getElem? (i := 0) rfl) rfl (show (1 : Nat) ≤ 1000 by decide)
        have E0 : F.eval (.tmp 0) = .slice A L cap := hF.out_ (by kernel_rfl) rfl
        have G := hF.own_ 14 rfl rfl (by kernel_rfl) (by decide); rw [d14] at G
        refine .inr ⟨wanted_yes rfl rfl rfl G, .inl ⟨.slice A L cap, ?_, hI, TyP.of_is rfl⟩⟩
        simp only [execOp, E0, Sem.run_pure]
      case ob16 => as_aux_lemma =>
        intro p vals W1 F hF hlo hhi hI hd
        have hp : p = 1 := Nat.le_antisymm hhi hlo
        subst hp
        clear hlo hhi
        have d14 : vals 14 = .bool true := hd ⟨14, .chain⟩ (Array.mem_of_getElem? (i := 1) rfl) rfl (show (1 : Nat) ≤ 1000 by decide)
        have d15 : vals 15 = .slice A L cap := hd ⟨15, .data⟩ (Array.mem_of_getElem? (i := 0) rfl) rfl (show (1 : Nat) ≤ 1000 by decide)
        have E51 := eval_some (hF.own_ 15 rfl rfl (by kernel_rfl) (by decide)); rw [d15] at E51
        have G := hF.own_ 14 rfl rfl (by kernel_rfl) (by decide); rw [d14] at G
        refine .inr ⟨wanted_yes rfl rfl rfl G, ?_⟩
        have hsh := short_any W1 A L cap bs HL.out (H8.out W1 hI.keeps.bel) hcap (by omega)
        rw [HE.out, HD.out] at hsh
        refine .inr (.inr (.inl ⟨7, #[.slice A L cap], ?_, hsh.mono ?_⟩))
        · have Ec : ∀ v, F.eval (.const v) = v := fun _ => rfl; have Ef : ∀ f, F.eval (.func f) = .func (.func f) #[] #[] := fun _ => rfl; clear hF hd; generalize F.eval = ρ at E51 Ec Ef ⊢
          simp [execOp, go_sem, Ec, Ef, E51]
        rintro e W2 ⟨v, rfl, hown, hb⟩
        obtain ⟨X, c, hv, hX, _⟩ := own_open hown
        rw [show (D.take 20).length = 20 by rw [List.length_take, HDl.out]; rfl] at hv
        exact ⟨_, rfl, ⟨fun _ => hb, fun _ => hb⟩, hI.call hb, X, c, hv, hX⟩
      case ob17 => as_aux_lemma =>
        intro p vals W1 F hF hlo hhi hI hd
        have hp : p = 1 := Nat.le_antisymm hhi hlo
        subst hp
        clear hlo hhi
        have d14 : vals 14 = .bool true := hd ⟨14, .guard⟩ (Array.mem_of_getElem? (i := 1) rfl) rfl (show (1 : Nat) ≤ 1000 by decide)
        obtain ⟨X16, c16, hspec16, hh16⟩ := hd ⟨16, .data⟩ (Array.mem_of_getElem? (i := 0) rfl) rfl (show (1 : Nat) ≤ 1 by decide)
        have d16 : vals 16 = .slice X16 20 c16 := hspec16
        have E52 := eval_some (hF.own_ 16 rfl rfl (by kernel_rfl) (by decide)); rw [d16] at E52
        have G := hF.own_ 14 rfl rfl (by kernel_rfl) (by decide); rw [d14] at G
        refine .inr ⟨wanted_yes rfl rfl rfl G, ?_⟩
        have hst := str_of hh16 c16
        refine .inl ⟨.string ⟨(D.take 20).toArray⟩, ?_, hI, TyP.of_is rfl⟩
        have Ec : ∀ v, F.eval (.const v) = v := fun _ => rfl; have Ef : ∀ f, F.eval (.func f) = .func (.func f) #[] #[] := fun _ => rfl; clear hF hd; generalize F.eval = ρ at E52 Ec Ef ⊢
        simp only [execOp, E52]
        rw [show (D.take 20).length = 20 by rw [List.length_take, HDl.out]; rfl] at hst
        rw [Sem.run_bind, hst]
        rfl
      case ob18 => as_aux_lemma =>
        intro p vals W1 F hF hlo hhi hI hd
        have hp : p = 1 := Nat.le_antisymm hhi hlo
        subst hp
        clear hlo hhi
        have d14 : vals 14 = .bool true := hd ⟨14, .guard⟩ (Array.mem_of_getElem? (i := 0) rfl) rfl (show (1 : Nat) ≤ 1000 by decide)
        have E9 : F.eval (.tmp 9) = .pointer (some ⟨B9, 0, none⟩) := hF.out_ (by kernel_rfl) rfl
        have G := hF.own_ 14 rfl rfl (by kernel_rfl) (by decide); rw [d14] at G
        refine .inr ⟨wanted_yes rfl rfl rfl G, .inl ⟨.slice (some ⟨B9, 0, none⟩) 20 32, ?_, hI, TyP.of_is rfl⟩⟩
        have Ec : ∀ v, F.eval (.const v) = v := fun _ => rfl; have Ef : ∀ f, F.eval (.func f) = .func (.func f) #[] #[] := fun _ => rfl; clear hF hd; generalize F.eval = ρ at E9 Ec Ef ⊢
        simp [execOp, go_sem, Ec, E9]
      case ob19 => as_aux_lemma =>
        intro p vals W1 F hF hlo hhi hI hd
        have hp : p = 1 := Nat.le_antisymm hhi hlo
        subst hp
        clear hlo hhi
        have d14 : vals 14 = .bool true := hd ⟨14, .guard⟩ (Array.mem_of_getElem? (i := 1) rfl) rfl (show (1 : Nat) ≤ 1000 by decide)
        have d18 : vals 18 = .slice (some ⟨B9, 0, none⟩) 20 32 := hd ⟨18, .data⟩ (Array.mem_of_getElem? (i := 0) rfl) rfl (show (1 : Nat) ≤ 1000 by decide)
        have E54 := eval_some (hF.own_ 18 rfl rfl (by kernel_rfl) (by decide)); rw [d18] at E54
        have G := hF.own_ 14 rfl rfl (by kernel_rfl) (by decide); rw [d14] at G
        refine .inr ⟨wanted_yes rfl rfl rfl G, ?_⟩
        have hst := str_of (Holds8.takeS (holdsK (k := 2) hI.keeps rfl) 20) 32
        refine .inl ⟨.string ⟨(D.take 20).toArray⟩, ?_, hI, TyP.of_is rfl⟩
        have Ec : ∀ v, F.eval (.const v) = v := fun _ => rfl; have Ef : ∀ f, F.eval (.func f) = .func (.func f) #[] #[] := fun _ => rfl; clear hF hd; generalize F.eval = ρ at E54 Ec Ef ⊢
        simp only [execOp, E54]
        rw [show (D.take 20).length = 20 by rw [List.length_take, HDl.out]; rfl] at hst
        rw [Sem.run_bind, hst]
        rfl
      case ob20 => as_aux_lemma =>
        intro p vals W1 F hF hlo hhi hI hd
        have hp : p = 1 := Nat.le_antisymm hhi hlo
        subst hp
        clear hlo hhi
        have d14 : vals 14 = .bool true := hd ⟨14, .guard⟩ (Array.mem_of_getElem? (i := 2) rfl) rfl (show (1 : Nat) ≤ 1000 by decide)
        have d17 : vals 17 = .string ⟨(D.take 20).toArray⟩ := hd ⟨17, .data⟩ (Array.mem_of_getElem? (i := 0) rfl) rfl (show (1 : Nat) ≤ 1000 by decide)
        have d19 : vals 19 = .string ⟨(D.take 20).toArray⟩ := hd ⟨19, .data⟩ (Array.mem_of_getElem? (i := 1) rfl) rfl (show (1 : Nat) ≤ 1000 by decide)
        have E53 := eval_some (hF.own_ 17 rfl rfl (by kernel_rfl) (by decide)); rw [d17] at E53
        have E55 := eval_some (hF.own_ 19 rfl rfl (by kernel_rfl) (by decide)); rw [d19] at E55
        have G := hF.own_ 14 rfl rfl (by kernel_rfl) (by decide); rw [d14] at G
        refine .inr ⟨wanted_yes rfl rfl rfl G, .inl ⟨.bool true, ?_, hI, TyP.of_is rfl⟩⟩
        have Ec : ∀ v, F.eval (.const v) = v := fun _ => rfl; have Ef : ∀ f, F.eval (.func f) = .func (.func f) #[] #[] := fun _ => rfl; clear hF hd; generalize F.eval = ρ at E53 E55 Ec Ef ⊢
        simp [execOp, go_sem, Ec, E53, E55]
      case ob21 => as_aux_lemma =>
        intro p vals W1 F hF hlo hhi hI hd
        have hp : p = 1 := Nat.le_antisymm hhi hlo
        subst hp
        clear hlo hhi
        have d14 : vals 14 = .bool true := hd ⟨14, .data⟩ (Array.mem_of_getElem? (i := 0) rfl) rfl (show (1 : Nat) ≤ 1000 by decide)
        have d20 : vals 20 = .bool true := hd ⟨20, .data⟩ (Array.mem_of_getElem? (i := 1) rfl) rfl (show (1 : Nat) ≤ 1000 by decide)
        have E50 := eval_some (hF.own_ 14 rfl rfl (by kernel_rfl) (by decide)); rw [d14] at E50
        have E56 := eval_some (hF.own_ 20 rfl rfl (by kernel_rfl) (by decide)); rw [d20] at E56
        refine .inr ⟨wanted_none rfl, .inl ⟨.bool true, ?_, hI, TyP.of_is rfl⟩⟩
        have Ec : ∀ v, F.eval (.const v) = v := fun _ => rfl; have Ef : ∀ f, F.eval (.func f) = .func (.func f) #[] #[] := fun _ => rfl; clear hF hd; generalize F.eval = ρ at E50 E56 Ec Ef ⊢
        simp [execOp, go_sem, Ec, E50, E56]
      case ob22 => as_aux_lemma =>
        intro p vals W1 F hF hlo hhi hI hd
        have hp : p = 1 := Nat.le_antisymm hhi hlo
        subst hp
        clear hlo hhi
        have d21 : vals 21 = .bool true := hd ⟨21, .data⟩ (Array.mem_of_getElem? (i := 0) rfl) rfl (show (1 : Nat) ≤ 1000 by decide)
        have E57 := eval_some (hF.own_ 21 rfl rfl (by kernel_rfl) (by decide)); rw [d21] at E57
        refine .inr ⟨wanted_none rfl, .inl ⟨.bool true, ?_, hI, TyP.of_is rfl⟩⟩
        simp only [execOp, E57, Sem.run_pure]
      case ob23 => as_aux_lemma =>
        intro p vals W1 F hF hlo hhi hI hd
        have hp : p = 1 := Nat.le_antisymm hhi hlo
        subst hp
        clear hlo hhi
        have d22 : vals 22 = .bool true := hd ⟨22, .guard⟩ (Array.mem_of_getElem? (i := 0) rfl) rfl (show (1 : Nat) ≤ 1000 by decide)
        have E7 : F.eval (.tmp 7) = .pointer (some ⟨gs, 0, none⟩) := hF.out_ (by kernel_rfl) rfl
        have G := hF.own_ 22 rfl rfl (by kernel_rfl) (by decide); rw [d22] at G
        refine .inr ⟨wanted_yes rfl rfl rfl G, .inl ⟨.pointer (some ⟨gs, 0, none⟩), ?_, hI, TyP.of_is rfl⟩⟩
        simp only [execOp, E7, Sem.run_pure]
      case ob24 => as_aux_lemma =>
        intro p vals W1 F hF hlo hhi hI hd
        have hp : p = 1 := Nat.le_antisymm hhi hlo
        subst hp
        clear hlo hhi
        have d22 : vals 22 = .bool true := hd ⟨22, .chain⟩ (Array.mem_of_getElem? (i := 1) rfl) rfl (show (1 : Nat) ≤ 1000 by decide)
        have d23 : vals 23 = .pointer (some ⟨gs, 0, none⟩) := hd ⟨23, .data⟩ (Array.mem_of_getElem? (i := 0) rfl) rfl (show (1 : Nat) ≤ 1000 by decide)
        have E59 := eval_some (hF.own_ 23 rfl rfl (by kernel_rfl) (by decide)); rw [d23] at E59
        have G := hF.own_ 22 rfl rfl (by kernel_rfl) (by decide); rw [d22] at G
        refine .inr ⟨wanted_yes rfl rfl rfl G, ?_⟩
        refine .inr (.inr (.inl ⟨16, #[.pointer (some ⟨gs, 0, none⟩)], ?_, (end_any W1 gs (bs ++ cs) (by rw [List.length_append, HL.out, HM.out]; exact hI.sum) (by rw [List.length_append, HL.out, HM.out]; omega)).mono ?_⟩))
        · have Ec : ∀ v, F.eval (.const v) = v := fun _ => rfl; have Ef : ∀ f, F.eval (.func f) = .func (.func f) #[] #[] := fun _ => rfl; clear hF hd; generalize F.eval = ρ at E59 Ec Ef ⊢
          simp [execOp, go_sem, Ec, Ef, E59]
        rintro e W2 ⟨rfl, hb⟩
        exact ⟨_, rfl, ⟨fun _ => hb, fun _ => hb⟩, hI.call hb, TyP.of_is rfl⟩
      case ob25 => as_aux_lemma =>
        intro p vals W1 F hF hlo hhi hI hd
        have hp : p = 1 := Nat.le_antisymm hhi hlo
        subst hp
        clear hlo hhi
        have d22 : vals 22 = .bool true := hd ⟨22, .guard⟩ (Array.mem_of_getElem? (i := 0) rfl) rfl (show (1 : Nat) ≤ 1000 by decide)
        have G := hF.own_ 22 rfl rfl (by kernel_rfl) (by decide); rw [d22] at G
        refine .inr ⟨wanted_yes rfl rfl rfl G, ?_⟩
        refine .inr (.inl ⟨.slice (some ⟨W1.heap.size, 0, none⟩) 0 0, W1.alloc (.cells #[] 5), ?_, ⟨fun _ => (Below.refl _ _).alloc (Nat.le_refl _) _, fun _ => (Below.refl _ _).alloc (Nat.le_refl _) _⟩, hI.call ((Below.refl _ _).alloc (Nat.le_refl _) _), W1.heap.size, rfl, hI.big, own_emptyB W1 _ hI.big⟩)
        have Ec : ∀ v, F.eval (.const v) = v := fun _ => rfl; have Ef : ∀ f, F.eval (.func f) = .func (.func f) #[] #[] := fun _ => rfl; clear hF hd; generalize F.eval = ρ at  Ec Ef ⊢
        simp [execOp, go_sem, Ec]
      case ob26 => as_aux_lemma =>
        intro p vals W1 F hF hlo hhi hI hd
        have hp : p = 1 := Nat.le_antisymm hhi hlo
        subst hp
        clear hlo hhi
        have d22 : vals 22 = .bool true := hd ⟨22, .guard⟩ (Array.mem_of_getElem? (i := 0) rfl) rfl (show (1 : Nat) ≤ 1000 by decide)
        have E0 : F.eval (.tmp 0) = .slice A L cap := hF.out_ (by kernel_rfl) rfl
        have G := hF.own_ 22 rfl rfl (by kernel_rfl) (by decide); rw [d22] at G
        refine .inr ⟨wanted_yes rfl rfl rfl G, .inl ⟨.slice A L cap, ?_, hI, TyP.of_is rfl⟩⟩
        simp only [execOp, E0, Sem.run_pure]
      case ob27 => as_aux_lemma =>
        intro p vals W1 F hF hlo hhi hI hd
        have hp : p = 1 := Nat.le_antisymm hhi hlo
        subst hp
        clear hlo hhi
        have d22 : vals 22 = .bool true := hd ⟨22, .guard⟩ (Array.mem_of_getElem? (i := 3) rfl) rfl (show (1 : Nat) ≤ 1000 by decide)
        obtain ⟨g25, hspec25, hg25, hr25⟩ := hd ⟨25, .data⟩ (Array.mem_of_getElem? (i := 0) rfl) rfl (show (1 : Nat) ≤ 1 by decide)
        have d25 : vals 25 = .slice (some ⟨g25, 0, none⟩) 0 0 := hspec25
        have d26 : vals 26 = .slice A L cap := hd ⟨26, .data⟩ (Array.mem_of_getElem? (i := 1) rfl) rfl (show (1 : Nat) ≤ 1000 by decide)
        have E61 := eval_some (hF.own_ 25 rfl rfl (by kernel_rfl) (by decide)); rw [d25] at E61
        have E62 := eval_some (hF.own_ 26 rfl rfl (by kernel_rfl) (by decide)); rw [d26] at E62
        have G := hF.own_ 22 rfl rfl (by kernel_rfl) (by decide); rw [d22] at G
        rw [hspec25] at hr25
        refine .inr ⟨wanted_yes rfl rfl rfl G, ?_⟩
        obtain ⟨v', w', hr, h2, h3, h4⟩ := append_run W1 22 Wb.heap.size W1.heap.size _ [] bs hr25 A cap (H8.out W1 hI.keeps.bel) (by rw [HL.out]; show 0 + L ≤ _; omega) hI.big
        refine .inr (.inl ⟨v', w', ?_, ⟨fun h => absurd h (by decide), fun h => absurd h (by decide)⟩, hI.grow hk6 hk8 hk9 hgsb h3 (fun k e => by have e2 : some g25 = some k := e; injection e2 with e2; omega), h2⟩)
        rw [HL.out] at hr
        have Ec : ∀ v, F.eval (.const v) = v := fun _ => rfl; have Ef : ∀ f, F.eval (.func f) = .func (.func f) #[] #[] := fun _ => rfl; clear hF hd; generalize F.eval = ρ at E61 E62 Ec Ef ⊢
        unfold execOp
        simp only [resolve, invoke, builtin, Sem.run_bind, Sem.run_pure, Result.andThen_ok, List.map_toArray, List.map_cons, List.map_nil, E61, E62, hr]
      case ob28 => as_aux_lemma =>
        intro p vals W1 F hF hlo hhi hI hd
        have d22 : vals 22 = .bool true := hd ⟨22, .guard⟩ (Array.mem_of_getElem? (i := 0) rfl) rfl (Nat.le_trans hhi (show (2 : Nat) ≤ 1000 by decide))
        have E1 : F.eval (.tmp 1) = .slice C M cc := hF.out_ (by kernel_rfl) rfl
        have G := hF.own_ 22 rfl rfl (by kernel_rfl) (by decide); rw [d22] at G
        refine .inr ⟨wanted_yes rfl rfl rfl G, .inl ⟨.slice C M cc, ?_, hI, TyP.of_is rfl⟩⟩
        simp only [execOp, E1, Sem.run_pure]
      case ob29 => as_aux_lemma =>
        intro p vals W1 F hF hlo hhi hI hd
        have hp : p = 2 := Nat.le_antisymm hhi hlo
        subst hp
        clear hlo hhi
        have d22 : vals 22 = .bool true := hd ⟨22, .guard⟩ (Array.mem_of_getElem? (i := 3) rfl) rfl (show (2 : Nat) ≤ 1000 by decide)
        obtain hr27 := hd ⟨27, .data⟩ (Array.mem_of_getElem? (i := 0) rfl) rfl (show (2 : Nat) ≤ 2 by decide)
        have d27 : vals 27 = vals 27 := rfl
        have d28 : vals 28 = .slice C M cc := hd ⟨28, .data⟩ (Array.mem_of_getElem? (i := 1) rfl) rfl (show (2 : Nat) ≤ 1000 by decide)
        have E63 := eval_some (hF.own_ 27 rfl rfl (by kernel_rfl) (by decide)); rw [d27] at E63
        have E64 := eval_some (hF.own_ 28 rfl rfl (by kernel_rfl) (by decide)); rw [d28] at E64
        have G := hF.own_ 22 rfl rfl (by kernel_rfl) (by decide); rw [d22] at G
        have hr27' : W1.ownsRow Wb.heap.size 5 1 (vals 27) bs.length (Go.Proofs.Ytfpgjabbpcndfaa.Oct.vals bs) := hr27
        refine .inr ⟨wanted_yes rfl rfl rfl G, ?_⟩
        obtain ⟨v', w', hr, h2, h3, h4⟩ := append_run W1 22 Wb.heap.size W1.heap.size _ bs cs hr27' C cc (H9.out W1 hI.keeps.bel) (by rw [HL.out, HM.out]; omega) hI.big
        obtain ⟨X, c, rfl, hX, hXc, _⟩ := own_open h2
        rw [List.length_append, HL.out, HM.out] at hr hXc
        refine .inr (.inl ⟨.slice X (L + M) c, w', ?_, ⟨fun h => absurd h (by decide), fun h => absurd h (by decide)⟩, hI.grow hk6 hk8 hk9 hgsb h3 (fun k e => own_row_ge hr27' k e), X, c, rfl, hX, hXc⟩)
        have Ec : ∀ v, F.eval (.const v) = v := fun _ => rfl; have Ef : ∀ f, F.eval (.func f) = .func (.func f) #[] #[] := fun _ => rfl; clear hF hd; generalize F.eval = ρ at E63 E64 Ec Ef ⊢
        unfold execOp
        simp only [resolve, invoke, builtin, Sem.run_bind, Sem.run_pure, Result.andThen_ok, List.map_toArray, List.map_cons, List.map_nil, E63, E64, hr]
      case ob30 => as_aux_lemma =>
        intro p vals W1 F hF hlo hhi hI hd
        have hp : p = 3 := Nat.le_antisymm hhi hlo
        subst hp
        clear hlo hhi
        have d22 : vals 22 = .bool true := hd ⟨22, .guard⟩ (Array.mem_of_getElem? (i := 2) rfl) rfl (show (3 : Nat) ≤ 1000 by decide)
        obtain ⟨X29, c29, hspec29, hh29, hc29⟩ := hd ⟨29, .data⟩ (Array.mem_of_getElem? (i := 0) rfl) rfl (show (3 : Nat) ≤ 1000 by decide)
        have d29 : vals 29 = .slice X29 (L + M) c29 := hspec29
        have E65 := eval_some (hF.own_ 29 rfl rfl (by kernel_rfl) (by decide)); rw [d29] at E65
        have G := hF.own_ 22 rfl rfl (by kernel_rfl) (by decide); rw [d22] at G
        refine .inr ⟨wanted_yes rfl rfl rfl G, ?_⟩
        refine .inr (.inr (.inl ⟨8, #[.slice X29 (L + M) c29], ?_, (of_any' W1 X29 (L + M) c29 (bs ++ cs) (by rw [List.length_append, HL.out, HM.out]) hh29 hc29 (by omega)).mono ?_⟩))
        · have Ec : ∀ v, F.eval (.const v) = v := fun _ => rfl; have Ef : ∀ f, F.eval (.func f) = .func (.func f) #[] #[] := fun _ => rfl; clear hF hd; generalize F.eval = ρ at E65 Ec Ef ⊢
          simp [execOp, go_sem, Ec, Ef, E65]
        rintro e W2 ⟨rfl, hb⟩
        exact ⟨_, rfl, ⟨fun _ => hb, fun _ => hb⟩, hI.call hb, TyP.of_is rfl⟩
      case ob31 => as_aux_lemma =>
        intro p vals W1 F hF hlo hhi hI hd
        have hp : p = 3 := Nat.le_antisymm hhi hlo
        subst hp
        clear hlo hhi
        have d22 : vals 22 = .bool true := hd ⟨22, .guard⟩ (Array.mem_of_getElem? (i := 2) rfl) rfl (show (3 : Nat) ≤ 1000 by decide)
        have d24 : vals 24 = .agg (arr8 (sha (bs ++ cs))) := hd ⟨24, .data⟩ (Array.mem_of_getElem? (i := 0) rfl) rfl (show (3 : Nat) ≤ 1000 by decide)
        have d30 : vals 30 = .agg (arr8 (sha (bs ++ cs))) := hd ⟨30, .data⟩ (Array.mem_of_getElem? (i := 1) rfl) rfl (show (3 : Nat) ≤ 1000 by decide)
        have E60 := eval_some (hF.own_ 24 rfl rfl (by kernel_rfl) (by decide)); rw [d24] at E60
        have E66 := eval_some (hF.own_ 30 rfl rfl (by kernel_rfl) (by decide)); rw [d30] at E66
        have G := hF.own_ 22 rfl rfl (by kernel_rfl) (by decide); rw [d22] at G
        refine .inr ⟨wanted_yes rfl rfl rfl G, .inl ⟨.bool true, ?_, hI, TyP.of_is rfl⟩⟩
        have Ec : ∀ v, F.eval (.const v) = v := fun _ => rfl; have Ef : ∀ f, F.eval (.func f) = .func (.func f) #[] #[] := fun _ => rfl; clear hF hd; generalize F.eval = ρ at E60 E66 Ec Ef ⊢
        simp [execOp, go_sem, Ec, E60, E66, eq32 (sha (bs ++ cs)) (sha_length _)]
      case ob32 => as_aux_lemma =>
        intro p vals W1 F hF hlo hhi hI hd
        have hp : p = 3 := Nat.le_antisymm hhi hlo
        subst hp
        clear hlo hhi
        have d22 : vals 22 = .bool true := hd ⟨22, .data⟩ (Array.mem_of_getElem? (i := 0) rfl) rfl (show (3 : Nat) ≤ 1000 by decide)
        have d31 : vals 31 = .bool true := hd ⟨31, .data⟩ (Array.mem_of_getElem? (i := 1) rfl) rfl (show (3 : Nat) ≤ 1000 by decide)
        have E58 := eval_some (hF.own_ 22 rfl rfl (by kernel_rfl) (by decide)); rw [d22] at E58
        have E67 := eval_some (hF.own_ 31 rfl rfl (by kernel_rfl) (by decide)); rw [d31] at E67
        refine .inr ⟨wanted_none rfl, .inl ⟨.bool true, ?_, hI, TyP.of_is rfl⟩⟩
        have Ec : ∀ v, F.eval (.const v) = v := fun _ => rfl; have Ef : ∀ f, F.eval (.func f) = .func (.func f) #[] #[] := fun _ => rfl; clear hF hd; generalize F.eval = ρ at E58 E67 Ec Ef ⊢
        simp [execOp, go_sem, Ec, E58, E67]
      case ob33 => as_aux_lemma =>
        intro p vals W1 F hF hlo hhi hI hd
        have hp : p = 3 := Nat.le_antisymm hhi hlo
        subst hp
        clear hlo hhi
        have d32 : vals 32 = .bool true := hd ⟨32, .data⟩ (Array.mem_of_getElem? (i := 0) rfl) rfl (show (3 : Nat) ≤ 1000 by decide)
        have E68 := eval_some (hF.own_ 32 rfl rfl (by kernel_rfl) (by decide)); rw [d32] at E68
        refine .inr ⟨wanted_none rfl, .inl ⟨.bool true, ?_, hI, TyP.of_is rfl⟩⟩
        simp only [execOp, E68, Sem.run_pure]
      case ob34 => as_aux_lemma =>
        intro p vals W1 F hF hlo hhi hI hd
        have hp : p = 3 := Nat.le_antisymm hhi hlo
        subst hp
        clear hlo hhi
        have d33 : vals 33 = .bool true := hd ⟨33, .guard⟩ (Array.mem_of_getElem? (i := 0) rfl) rfl (show (3 : Nat) ≤ 1000 by decide)
        have E7 : F.eval (.tmp 7) = .pointer (some ⟨gs, 0, none⟩) := hF.out_ (by kernel_rfl) rfl
        have G := hF.own_ 33 rfl rfl (by kernel_rfl) (by decide); rw [d33] at G
        refine .inr ⟨wanted_yes rfl rfl rfl G, .inl ⟨.pointer (some ⟨gs, 0, none⟩), ?_, hI, TyP.of_is rfl⟩⟩
        simp only [execOp, E7, Sem.run_pure]
      case ob35 => as_aux_lemma =>
        intro p vals W1 F hF hlo hhi hI hd
        have hp : p = 3 := Nat.le_antisymm hhi hlo
        subst hp
        clear hlo hhi
        have d33 : vals 33 = .bool true := hd ⟨33, .chain⟩ (Array.mem_of_getElem? (i := 1) rfl) rfl (show (3 : Nat) ≤ 1000 by decide)
        have d34 : vals 34 = .pointer (some ⟨gs, 0, none⟩) := hd ⟨34, .data⟩ (Array.mem_of_getElem? (i := 0) rfl) rfl (show (3 : Nat) ≤ 1000 by decide)
        have E70 := eval_some (hF.own_ 34 rfl rfl (by kernel_rfl) (by decide)); rw [d34] at E70
        have G := hF.own_ 33 rfl rfl (by kernel_rfl) (by decide); rw [d33] at G
        refine .inr ⟨wanted_yes rfl rfl rfl G, ?_⟩
        refine .inr (.inr (.inl ⟨17, #[.pointer (some ⟨gs, 0, none⟩)], ?_, (len_any W1 gs (bs ++ cs) (L + M) hI.sum).mono ?_⟩))
        · have Ec : ∀ v, F.eval (.const v) = v := fun _ => rfl; have Ef : ∀ f, F.eval (.func f) = .func (.func f) #[] #[] := fun _ => rfl; clear hF hd; generalize F.eval = ρ at E70 Ec Ef ⊢
          simp [execOp, go_sem, Ec, Ef, E70]
        rintro e W2 ⟨rfl, rfl⟩
        exact ⟨_, rfl, ⟨fun _ => Below.refl _ _, fun _ => Below.refl _ _⟩, hI, TyP.of_is rfl⟩
      case ob36 => as_aux_lemma =>
        intro p vals W1 F hF hlo hhi hI hd
        have hp : p = 3 := Nat.le_antisymm hhi hlo
        subst hp
        clear hlo hhi
        have d33 : vals 33 = .bool true := hd ⟨33, .guard⟩ (Array.mem_of_getElem? (i := 0) rfl) rfl (show (3 : Nat) ≤ 1000 by decide)
        have E0 : F.eval (.tmp 0) = .slice A L cap := hF.out_ (by kernel_rfl) rfl
        have G := hF.own_ 33 rfl rfl (by kernel_rfl) (by decide); rw [d33] at G
        refine .inr ⟨wanted_yes rfl rfl rfl G, .inl ⟨.slice A L cap, ?_, hI, TyP.of_is rfl⟩⟩
        simp only [execOp, E0, Sem.run_pure]
      case ob37 => as_aux_lemma =>
        intro p vals W1 F hF hlo hhi hI hd
        have hp : p = 3 := Nat.le_antisymm hhi hlo
        subst hp
        clear hlo hhi
        have d33 : vals 33 = .bool true := hd ⟨33, .guard⟩ (Array.mem_of_getElem? (i := 1) rfl) rfl (show (3 : Nat) ≤ 1000 by decide)
        have d36 : vals 36 = .slice A L cap := hd ⟨36, .data⟩ (Array.mem_of_getElem? (i := 0) rfl) rfl (show (3 : Nat) ≤ 1000 by decide)
        have E72 := eval_some (hF.own_ 36 rfl rfl (by kernel_rfl) (by decide)); rw [d36] at E72
        have G := hF.own_ 33 rfl rfl (by kernel_rfl) (by decide); rw [d33] at G
        refine .inr ⟨wanted_yes rfl rfl rfl G, .inl ⟨.int .i64 (L : Int), ?_, hI, TyP.of_is rfl⟩⟩
        have Ec : ∀ v, F.eval (.const v) = v := fun _ => rfl; have Ef : ∀ f, F.eval (.func f) = .func (.func f) #[] #[] := fun _ => rfl; clear hF hd; generalize F.eval = ρ at E72 Ec Ef ⊢
        simp [execOp, go_sem, Ec, E72]
      case ob38 => as_aux_lemma =>
        intro p vals W1 F hF hlo hhi hI hd
        have hp : p = 3 := Nat.le_antisymm hhi hlo
        subst hp
        clear hlo hhi
        have d33 : vals 33 = .bool true := hd ⟨33, .guard⟩ (Array.mem_of_getElem? (i := 0) rfl) rfl (show (3 : Nat) ≤ 1000 by decide)
        have E1 : F.eval (.tmp 1) = .slice C M cc := hF.out_ (by kernel_rfl) rfl
        have G := hF.own_ 33 rfl rfl (by kernel_rfl) (by decide); rw [d33] at G
        refine .inr ⟨wanted_yes rfl rfl rfl G, .inl ⟨.slice C M cc, ?_, hI, TyP.of_is rfl⟩⟩
        simp only [execOp, E1, Sem.run_pure]
      case ob39 => as_aux_lemma =>
        intro p vals W1 F hF hlo hhi hI hd
        have hp : p = 3 := Nat.le_antisymm hhi hlo
        subst hp
        clear hlo hhi
        have d33 : vals 33 = .bool true := hd ⟨33, .guard⟩ (Array.mem_of_getElem? (i := 1) rfl) rfl (show (3 : Nat) ≤ 1000 by decide)
        have d38 : vals 38 = .slice C M cc := hd ⟨38, .data⟩ (Array.mem_of_getElem? (i := 0) rfl) rfl (show (3 : Nat) ≤ 1000 by decide)
        have E74 := eval_some (hF.own_ 38 rfl rfl (by kernel_rfl) (by decide)); rw [d38] at E74
        have G := hF.own_ 33 rfl rfl (by kernel_rfl) (by decide); rw [d33] at G
        refine .inr ⟨wanted_yes rfl rfl rfl G, .inl ⟨.int .i64 (M : Int), ?_, hI, TyP.of_is rfl⟩⟩
        have Ec : ∀ v, F.eval (.const v) = v := fun _ => rfl; have Ef : ∀ f, F.eval (.func f) = .func (.func f) #[] #[] := fun _ => rfl; clear hF hd; generalize F.eval = ρ at E74 Ec Ef ⊢
        simp [execOp, go_sem, Ec, E74]
      case ob40 => as_aux_lemma =>
        intro p vals W1 F hF hlo hhi hI hd
        have hp : p = 3 := Nat.le_antisymm hhi hlo
        subst hp
        clear hlo hhi
        have d33 : vals 33 = .bool true := hd ⟨33, .guard⟩ (Array.mem_of_getElem? (i := 2) rfl) rfl (show (3 : Nat) ≤ 1000 by decide)
        have d37 : vals 37 = .int .i64 (L : Int) := hd ⟨37, .data⟩ (Array.mem_of_getElem? (i := 0) rfl) rfl (show (3 : Nat) ≤ 1000 by decide)
        have d39 : vals 39 = .int .i64 (M : Int) := hd ⟨39, .data⟩ (Array.mem_of_getElem? (i := 1) rfl) rfl (show (3 : Nat) ≤ 1000 by decide)
        have E73 := eval_some (hF.own_ 37 rfl rfl (by kernel_rfl) (by decide)); rw [d37] at E73
        have E75 := eval_some (hF.own_ 39 rfl rfl (by kernel_rfl) (by decide)); rw [d39] at E75
        have G := hF.own_ 33 rfl rfl (by kernel_rfl) (by decide); rw [d33] at G
        refine .inr ⟨wanted_yes rfl rfl rfl G, .inl ⟨.int .i64 ((L + M : Nat) : Int), ?_, hI, TyP.of_is rfl⟩⟩
        have Ec : ∀ v, F.eval (.const v) = v := fun _ => rfl; have Ef : ∀ f, F.eval (.func f) = .func (.func f) #[] #[] := fun _ => rfl; clear hF hd; generalize F.eval = ρ at E73 E75 Ec Ef ⊢
        simp [execOp, go_sem, Ec, E73, E75, hLM]
      case ob41 => as_aux_lemma =>
        intro p vals W1 F hF hlo hhi hI hd
        have hp : p = 3 := Nat.le_antisymm hhi hlo
        subst hp
        clear hlo hhi
        have d33 : vals 33 = .bool true := hd ⟨33, .guard⟩ (Array.mem_of_getElem? (i := 1) rfl) rfl (show (3 : Nat) ≤ 1000 by decide)
        have d40 : vals 40 = .int .i64 ((L + M : Nat) : Int) := hd ⟨40, .data⟩ (Array.mem_of_getElem? (i := 0) rfl) rfl (show (3 : Nat) ≤ 1000 by decide)
        have E76 := eval_some (hF.own_ 40 rfl rfl (by kernel_rfl) (by decide)); rw [d40] at E76
        have G := hF.own_ 33 rfl rfl (by kernel_rfl) (by decide); rw [d33] at G
        refine .inr ⟨wanted_yes rfl rfl rfl G, .inl ⟨.int .u64 ((L + M : Nat) : Int), ?_, hI, TyP.of_is rfl⟩⟩
        have Ec : ∀ v, F.eval (.const v) = v := fun _ => rfl; have Ef : ∀ f, F.eval (.func f) = .func (.func f) #[] #[] := fun _ => rfl; clear hF hd; generalize F.eval = ρ at E76 Ec Ef ⊢
        simp [execOp, go_sem, Ec, E76, hLM2, hLM3]
      case ob42 => as_aux_lemma =>
        intro p vals W1 F hF hlo hhi hI hd
        have hp : p = 3 := Nat.le_antisymm hhi hlo
        subst hp
        clear hlo hhi
        have d33 : vals 33 = .bool true := hd ⟨33, .guard⟩ (Array.mem_of_getElem? (i := 2) rfl) rfl (show (3 : Nat) ≤ 1000 by decide)
        have d35 : vals 35 = .int .u64 ((L + M : Nat) : Int) := hd ⟨35, .data⟩ (Array.mem_of_getElem? (i := 0) rfl) rfl (show (3 : Nat) ≤ 1000 by decide)
        have d41 : vals 41 = .int .u64 ((L + M : Nat) : Int) := hd ⟨41, .data⟩ (Array.mem_of_getElem? (i := 1) rfl) rfl (show (3 : Nat) ≤ 1000 by decide)
        have E71 := eval_some (hF.own_ 35 rfl rfl (by kernel_rfl) (by decide)); rw [d35] at E71
        have E77 := eval_some (hF.own_ 41 rfl rfl (by kernel_rfl) (by decide)); rw [d41] at E77
        have G := hF.own_ 33 rfl rfl (by kernel_rfl) (by decide); rw [d33] at G
        refine .inr ⟨wanted_yes rfl rfl rfl G, .inl ⟨.bool true, ?_, hI, TyP.of_is rfl⟩⟩
        have Ec : ∀ v, F.eval (.const v) = v := fun _ => rfl; have Ef : ∀ f, F.eval (.func f) = .func (.func f) #[] #[] := fun _ => rfl; clear hF hd; generalize F.eval = ρ at E71 E77 Ec Ef ⊢
        simp [execOp, go_sem, Ec, E71, E77]
      case ob43 => as_aux_lemma =>
        intro p vals W1 F hF hlo hhi hI hd
        have hp : p = 3 := Nat.le_antisymm hhi hlo
        subst hp
        clear hlo hhi
        have d33 : vals 33 = .bool true := hd ⟨33, .data⟩ (Array.mem_of_getElem? (i := 0) rfl) rfl (show (3 : Nat) ≤ 1000 by decide)
        have d42 : vals 42 = .bool true := hd ⟨42, .data⟩ (Array.mem_of_getElem? (i := 1) rfl) rfl (show (3 : Nat) ≤ 1000 by decide)
        have E69 := eval_some (hF.own_ 33 rfl rfl (by kernel_rfl) (by decide)); rw [d33] at E69
        have E78 := eval_some (hF.own_ 42 rfl rfl (by kernel_rfl) (by decide)); rw [d42] at E78
        refine .inr ⟨wanted_none rfl, .inl ⟨.bool true, ?_, hI, TyP.of_is rfl⟩⟩
        have Ec : ∀ v, F.eval (.const v) = v := fun _ => rfl; have Ef : ∀ f, F.eval (.func f) = .func (.func f) #[] #[] := fun _ => rfl; clear hF hd; generalize F.eval = ρ at E69 E78 Ec Ef ⊢
        simp [execOp, go_sem, Ec, E69, E78]
      case ob44 => as_aux_lemma =>
        intro p vals W1 F hF hlo hhi hI hd
        have hp : p = 3 := Nat.le_antisymm hhi hlo
        subst hp
        clear hlo hhi
        have d43 : vals 43 = .bool true := hd ⟨43, .data⟩ (Array.mem_of_getElem? (i := 0) rfl) rfl (show (3 : Nat) ≤ 1000 by decide)
        have E79 := eval_some (hF.own_ 43 rfl rfl (by kernel_rfl) (by decide)); rw [d43] at E79
        refine .inr ⟨wanted_none rfl, .inl ⟨.bool true, ?_, hI, TyP.of_is rfl⟩⟩
        simp only [execOp, E79, Sem.run_pure]
      case obend =>
        intro vals W1 F hF hdef hI hT
        have hv : vals 44 = .bool true := hT 44 (by decide) (show (3 : Nat) ≤ 1000 by decide)
        rename_i K hK9
        refine hK9 _ _ ?_
        rw [hF.act]
        simp only [fin, Act.put, List.setIfInBounds_toArray, List.set_cons_succ, List.set_cons_zero]
        rw [hv]
        clear hF hT hv
        go_wp2
        go_ret
        exact ⟨rfl, hI.keeps.bel⟩
set_option maxRecDepth 100000 in
theorem long_lifted (os : Os) (started : os.Started) (H : Type) (enc : TypeId × Value → H) :
    ReturnsInHanded {} Try.checked os 6 .any (Rows.shaLongSpec.pre6 enc Try.prog Try.f6 Rows.shaLongRow.domain false) (Rows.shaLongSpec.post enc Try.prog Try.f6 false true false false) := by
  refine returnsInHanded_of_change (C := Try.checked) own started (by kernel_rfl) Try.func6
    (ChangeSpec.witness6 (enc := enc) (C := Try.checked) false ⟨#[], #[.slice none 0 0, .slice none 0 0], []⟩ 8 (by kernel_rfl) (by kernel_rfl) (by kernel_rfl) (by kernel_rfl)) ?_
  intro W base args ds gs before hval0 hW hcnd _
  have hval : ∀ (j : Nat) t v, Try.f6.params[j]? = some t → args[j]? = some v → Value.okWide Try.prog W .any base t v := hval0
  have hW' := hW
  obtain ⟨p, q, hA0, hV, rfl, hfz, hnd⟩ := hW
  have hA : DataW.TrodAll enc Try.prog W 0 (fun _ => true) true Try.f6.params.toList args.toList ds p := hA0
  rw [Try.params6] at hA hval
  obtain ⟨v0, vs0, d0, ds0, p0, q0, hargs, rfl, rfl, h0, r0⟩ := trodAll_cons hA
  obtain ⟨v1, vs1, d1, ds1, p1, q1, rfl, rfl, rfl, h1, r1⟩ := trodAll_cons r0
  obtain ⟨rfl, rfl, rfl⟩ := trodAll_nil r1
  obtain rfl : args = #[v0, v1] := by cases args; simp_all
  obtain ⟨rfl, rfl⟩ := trodVars_none hV
  have k0 := h0
  have lt0 : ∀ x ∈ p0, x.block < W.heap.size := by obtain ⟨m, hm⟩ := k0; exact DataW.trod_lt m _ _ _ hm
  have k1 := h1
  have lt1 : ∀ x ∈ p1, x.block < W.heap.size := by obtain ⟨m, hm⟩ := k1; exact DataW.trod_lt m _ _ _ hm
  obtain ⟨A0, bs0, cap0, rfl, hh0, hlen0, hcap0⟩ := open8 (hval 0 22 v0 rfl rfl) k0
  obtain ⟨A1, bs1, cap1, rfl, hh1, hlen1, hcap1⟩ := open8 (hval 1 22 v1 rfl rfl) k1
  clear hA0 hval0
  refine (long_walk bs0 bs1 A0 A1 cap0 cap1 hlen0 hlen1 W hh0 hh1).mono fun e W' ⟨he, bel⟩ => ?_
  subst he
  exact ⟨_, rfl, _, _, _, [], _, [], hW', trodAll_mk1 (shut_bool Try.underlying4 _), (trodAll_cons_mk (Below.trod laidOut (by kernel_rfl) (of_decide_eq_true (by kernel_rfl)) k0 bel lt0) (trodAll_cons_mk (Below.trod laidOut (by kernel_rfl) (of_decide_eq_true (by kernel_rfl)) k1 bel lt1) trodAll_mk0)), rfl, bel.frame _, fun h => by cases h⟩

theorem long_over : Rows.shaLongRow.holds Try.pinned (OpenSpec.ofChange Rows.shaLongSpec) :=
  OpenClaim.holds_of_wide 6 Try.f6 rfl rfl rfl rfl rfl rfl rfl ⟨rfl, rfl, rfl, rfl, rfl⟩ rfl rfl rfl rfl rfl (by kernel_rfl) Try.func6 (by kernel_rfl)
    (of_decide_eq_true (by kernel_rfl)) (by unfold Func.isWrapper; first | (rw [if_pos (by decide +kernel)]; kernel_rfl) | (rw [if_neg (by decide +kernel)]; exact ⟨rfl, rfl⟩))
    (fun os started H enc _ => long_lifted os started H enc)

/-- A double hash is the hash of the hash, in pieces, too; a short one is its beginning; what is written behind a hash is hashed with it: whatever two messages come in. No condition. -/
theorem long_proved : Rows.ShaLongSaid := long_over
#print axioms long_proved
end Go.Proofs.Ytfpgjabbpcndfaa.Oct
