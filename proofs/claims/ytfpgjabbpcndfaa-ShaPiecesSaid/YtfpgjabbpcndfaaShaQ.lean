/- ShaSums is true at every input. No condition. -/
import Derived.Test.YtfpgjabbpcndfaaShaM
import Derived.Test.YtfpgjabbpcndfaaRefSE
import Derived.Test.YtfpgjabbpcndfaaReg3
namespace Go.Proofs.Ytfpgjabbpcndfaa.Oct
set_option linter.unusedVariables false
set_option linter.unusedSimpArgs false
open Go.Proofs.Ytfpgjabbpcndfaa Go.RowKit Go.Lib Go.Shelf Go.ChangeShapes Go.WideShapes Go.ChangeAt

theorem own_row {w : World} {base : Nat} {v : Value} {bs : List UInt8} (h : w.ownsRow base 5 1 v bs.length (vals bs)) (hne : 0 < bs.length) :
    ∃ g c cur, v = .slice (some ⟨g, 0, none⟩) bs.length c ∧ base ≤ g ∧ w.heap[g]? = some (.cells cur 5 (0, 0)) ∧ bs.length ≤ c ∧ ∀ i, i < bs.length → cur[i]? = some (.int .u8 (((bs.getD i 0).toNat : Nat) : Int)) := by
  rcases h.2 with ⟨_, h0⟩ | ⟨g, cap, cur, rfl, hg, hc, hn, _, hs, ht⟩
  · omega
  · refine ⟨g, cap, cur, rfl, hg, hc, hn, fun i hi => ?_⟩
    have h1 := vals_get bs i hi
    rw [← ht, List.getElem?_take_of_lt (by omega), Array.getElem?_toList] at h1
    rw [h1, List.getD, List.getElem?_eq_getElem hi]
    rfl
theorem holds_row {w W : World} {l : List (Nat × Array Value × TypeId)} {k g : Nat} {cur : Array Value} {t : TypeId} {bs : List UInt8} (h : Keeps w l W) (hk : l[k]? = some (g, cur, t)) (hc : ∀ i, i < bs.length → cur[i]? = some (.int .u8 (((bs.getD i 0).toNat : Nat) : Int))) : Holds8 W.heap.size W (some ⟨g, 0, none⟩) bs :=
  .inr ⟨g, 0, rfl, h.lt k hk, fun j hj => by
    rw [h.cell k hk (0 + j), Nat.zero_add, hc j hj]
    simp [List.getD, hj]⟩
theorem own_emptyB (w : World) (base : Nat) (h : base ≤ w.heap.size) : (w.alloc (.cells #[] 5)).ownsRow base 5 1 (.slice (some ⟨w.heap.size, 0, none⟩) 0 0) 0 [] :=
  ⟨rfl, .inr ⟨w.heap.size, 0, #[], rfl, h, heap_alloc_new w _, Nat.le_refl _, by simp, rfl, rfl⟩⟩
theorem str_snoc (bs : List UInt8) (x : UInt8) : ((⟨bs.toArray⟩ : ByteArray) ++ (⟨#[x]⟩ : ByteArray)) = ⟨(bs ++ [x]).toArray⟩ := by
  apply ByteArray.ext
  simp [ByteArray.data_append]
theorem short_row {w W : World} {l : List (Nat × Array Value × TypeId)} (hK : Keeps w l W) {T : List UInt8} {e : Ending} {W' : World} (hT : T.length = 20) (h : OwnBytes W T e W') :
    ∃ g c cur, e = .returned (.slice (some ⟨g, 0, none⟩) 20 c) ∧ Keeps w (l ++ [(g, cur, 5)]) W' ∧ ∀ i, i < T.length → cur[i]? = some (.int .u8 (((T.getD i 0).toNat : Nat) : Int)) := by
  obtain ⟨v, rfl, hown, hb⟩ := h
  obtain ⟨g, c, cur, rfl, hg, hc, hn, hcur⟩ := own_row hown (by omega)
  exact ⟨g, c, cur, by rw [hT], hK.gain hb hg hc, hcur⟩
set_option maxRecDepth 100000 in
set_option maxHeartbeats 8000000 in
theorem sums_walk (bs : List UInt8) (A : Option Addr) (cap : Nat) (hcap : bs.length ≤ cap) (w : World) (hh : Holds8 w.heap.size w A bs) :
    Calls Try.prog 3 #[.slice A bs.length cap] w fun e w' => e = .returned (.bool true) ∧ Below w.heap.size w w' := by
  have HH := Lib.hid hh
  obtain ⟨L, hL⟩ : ∃ L, bs.length = L := ⟨_, rfl⟩
  rw [hL] at hcap ⊢
  have HL := Lib.hid hL
  clear hL hh
  by_cases hbig : 3000 < L
  · go_enter Try.func3, Try.ntmps3
    go_wp2
    go_ret
    exact ⟨rfl, Below.refl _ _⟩
  · have d1 : decide ((3000 : Int) < (L : Int)) = false := by simp; omega
    have hsm : L ≤ 3000 := by omega
    clear hbig
    have H8 : Hid (∀ W, Below w.heap.size w W → Holds8 W.heap.size W A bs) := Lib.hid fun W hb => (HH.out.below hb (Nat.le_refl _)).more hb.size
    obtain ⟨E, hE⟩ : ∃ E, sha bs = E := ⟨_, rfl⟩
    obtain ⟨D, hD⟩ : ∃ D, sha E = D := ⟨_, rfl⟩
    obtain ⟨T, hT⟩ : ∃ T, D.take 20 = T := ⟨_, rfl⟩
    have hEl : E.length = 32 := by rw [← hE]; exact hashOf_length _
    have hDl : D.length = 32 := by rw [← hD]; exact hashOf_length _
    have hTl : T.length = 20 := by rw [← hT, List.length_take, hDl]; rfl
    have CO : Hid (∀ W X c, Holds8 W.heap.size W X bs → L ≤ c → Calls Try.prog 8 #[.slice X L c] W fun e w' => e = .returned (.agg (arr8 E)) ∧ Below W.heap.size W w') :=
      Lib.hid fun W X c h hc => by have h := of_any' W X L c bs HL.out h hc (by omega); rw [hE] at h; exact h
    have CT : Hid (∀ W X c, Holds8 W.heap.size W X bs → L ≤ c → Calls Try.prog 10 #[.slice X L c] W fun e w' => e = .returned (.agg (arr8 D)) ∧ Below W.heap.size W w') :=
      Lib.hid fun W X c h hc => by have h := twice_any' W X L c bs HL.out h hc (by omega); rw [hE, hD] at h; exact h
    have CS : Hid (∀ W X c, Holds8 W.heap.size W X bs → L ≤ c → Calls Try.prog 7 #[.slice X L c] W (OwnBytes W T)) :=
      Lib.hid fun W X c h hc => by have h := short_any W X L c bs HL.out h hc (by omega); rw [hE, hD, hT] at h; exact h
    have RO : Hid (∀ W X c, Holds8 W.heap.size W X bs → Calls Try.prog 9 #[.slice X L c] W fun e w' => e = .returned (.agg (arr8 E)) ∧ Below W.heap.size W w') :=
      Lib.hid fun W X c h => by have h := rof_any W X L c bs HL.out h (by omega); rw [hE] at h; exact h
    have RT : Hid (∀ W X c, Holds8 W.heap.size W X bs → Calls Try.prog 11 #[.slice X L c] W fun e w' => e = .returned (.agg (arr8 D)) ∧ Below W.heap.size W w') :=
      Lib.hid fun W X c h => by have h := rtwice_any W X L c bs HL.out h (by omega); rw [hE, hD] at h; exact h
    have RS : Hid (∀ W X c, Holds8 W.heap.size W X bs → Calls Try.prog 12 #[.slice X L c] W (OwnBytes W T)) :=
      Lib.hid fun W X c h => by have h := rshort_any W X L c bs HL.out h (by omega); rw [hE, hD, hT] at h; exact h
    clear hE hD hT
    have HEl := Lib.hid hEl
    have HDl := Lib.hid hDl
    have HTl := Lib.hid hTl
    have HN1 := Lib.hid (show (bs ++ [7]).length = L + 1 by rw [List.length_append, HL.out]; rfl)
    have HON := Lib.hid (fun W : World => holds_one W 7)
    have HA1 : Hid (Holds8 w.heap.size (w.alloc (.cells #[] 5)) A bs) := Lib.hid (HH.out.below ((Below.refl _ w).alloc (Nat.le_refl _) _) (Nat.le_refl _))
    clear hEl hDl hTl
    go_enter Try.func3, Try.ntmps3
    go_wp2_with (first
      | (at_builtin; refine wpList_append_bytes rfl (.tmp 10) (.tmp 11) rfl w.heap.size _ _ [] bs rfl (own_emptyB w _ (Nat.le_refl _)) A cap (by rw [HL.out]; rfl) HA1.out (by rw [HL.out]; show 0 + L ≤ _; omega) (by simp) ?_; intro v1 w1 hown1 hgr1 hv1; rw [List.nil_append] at hown1; have hb1 := ((Below.refl _ w).alloc (Nat.le_refl _) (.cells #[] 5)).grown hgr1 (by simp) (fun k hk => (by have h2 : some w.heap.size = some k := hk; injection h2 with h2; omega)))
      | (at_builtin; refine wpList_append_bytes rfl (.tmp 12) (.tmp 13) rfl w.heap.size _ _ bs [7] rfl (ownsRow_below hown1 ((Below.refl _ _).alloc (Nat.le_refl _) _)) (some ⟨w1.heap.size, 0, none⟩) 1 rfl (HON.out w1) (by rw [HL.out, List.length_singleton]; omega) (by have := hb1.size; simp; omega) ?_; intro v2 w2 hown2 hgr2 hv2; have hb2 := (hb1.alloc hb1.size (.cells #[.int .u8 7] 5)).grown hgr2 (by have := hb1.size; simp; omega) (own_row_ge hown1); obtain ⟨g2, c2, cur2, e2, hg2, hc2, hn2, hcur2⟩ := own_row hown2 (by rw [HN1.out]; omega); rw [HN1.out] at e2 hn2; subst e2; have hK2 := (Keeps.nil w).gain hb2 hg2 hc2; rw [List.nil_append] at hK2; have hcurB : ∀ i, i < bs.length → cur2[i]? = some (.int .u8 (((bs.getD i 0).toNat : Nat) : Int)) := (fun i hi => (by rw [hcur2 i (by rw [HN1.out]; have := HL.out; omega)]; simp [List.getD, List.getElem?_append_left hi])); have HC2 := Lib.hid hcur2; have HCB := Lib.hid hcurB; clear hown1 hgr1 hv1 hb1 hown2 hgr2 hv2 hb2 hg2 hc2 hcur2 hcurB)
      | (go_at_call 7; (with_reducible refine (CS.out _ _ _ (holds_row (k := 0) hK2 rfl HCB.out) (by omega)).mono ?_); rintro e W3 hO; obtain ⟨g4, c4, cur4, rfl, hI0, hc4⟩ := short_row hK2 HTl.out hO; have HC4 := Lib.hid hc4; clear hO hc4 hK2))
    refine wp_region_phased 76 rfl (fun _ _ W W' => Below W.heap.size W W') (fun p W1 => Keeps w [(g2, cur2, 5), (g4, cur4, 5)] W1) [.is (.slice (some ⟨g2, 0, none⟩) (L + 1) c2), .is (.slice A L cap), .is (.int .i64 (L : Int)), .is (.slice (some ⟨g2, 0, none⟩) L c2), .is (.agg (arr8 E)), .is (.slice A L cap), .is (.agg (arr8 E)), .is (.bool true), .is (.bool true), .is (.slice (some ⟨g2, 0, none⟩) (L + 1) c2), .is (.slice A L cap), .is (.int .i64 (L : Int)), .is (.slice (some ⟨g2, 0, none⟩) L c2), .is (.agg (arr8 D)), .is (.slice A L cap), .is (.agg (arr8 D)), .is (.bool true), .is (.bool true), .is (.bool true), .is (.slice (some ⟨g4, 0, none⟩) 20 c4), .is (.string ⟨T.toArray⟩), .is (.slice A L cap), ⟨0, 1000, fun v W => ∃ X c, v = .slice X 20 c ∧ Holds8 W.heap.size W X T, fun k d v W W' hk hd h hr => by obtain ⟨X, c, e, h2⟩ := h; exact ⟨X, c, e, h2.later hr⟩⟩, .is (.string ⟨T.toArray⟩), .is (.bool true), .is (.bool true), .is (.bool true)] [] [0, 0, 0, 0, 0, 0, 0, 0, 0, 0, 0, 0, 0, 0, 0, 0, 0, 0, 0, 0, 0, 0, 0, 0, 0, 0, 0] [0, 0, 0, 0, 0, 0, 0, 0, 0, 0, 0, 0, 0, 0, 0, 0, 0, 0, 0, 0, 0, 0, 0, 0, 0, 0, 0] (by kernel_rfl) (by kernel_rfl) (by kernel_rfl) (fun _ _ W => Below.refl _ W) (hI0.drew) ⟨?ob0, ?ob1, ?ob2, ?ob3, ?ob4, ?ob5, ?ob6, ?ob7, ?ob8, ?ob9, ?ob10, ?ob11, ?ob12, ?ob13, ?ob14, ?ob15, ?ob16, ?ob17, ?ob18, ?ob19, ?ob20, ?ob21, ?ob22, ?ob23, ?ob24, ?ob25, ?ob26, trivial⟩ ?obend
    case ob0 => as_aux_lemma =>
      intro p vals W1 F hF hlo hhi hI hd
      have hp : p = 0 := Nat.le_antisymm hhi hlo
      subst hp
      clear hlo hhi
      have E3 : F.eval (.tmp 3) = .slice (some ⟨g2, 0, none⟩) (L + 1) c2 := hF.out_ (by kernel_rfl) rfl
      refine .inr ⟨wanted_none rfl, .inl ⟨.slice (some ⟨g2, 0, none⟩) (L + 1) c2, ?_, hI, TyP.of_is rfl⟩⟩
      simp only [execOp, E3, Sem.run_pure]
    case ob1 => as_aux_lemma =>
      intro p vals W1 F hF hlo hhi hI hd
      have hp : p = 0 := Nat.le_antisymm hhi hlo
      subst hp
      clear hlo hhi
      have E0 : F.eval (.tmp 0) = .slice A L cap := hF.out_ (by kernel_rfl) rfl
      refine .inr ⟨wanted_none rfl, .inl ⟨.slice A L cap, ?_, hI, TyP.of_is rfl⟩⟩
      simp only [execOp, E0, Sem.run_pure]
    case ob2 => as_aux_lemma =>
      intro p vals W1 F hF hlo hhi hI hd
      have hp : p = 0 := Nat.le_antisymm hhi hlo
      subst hp
      clear hlo hhi
      have d1 : vals 1 = .slice A L cap := hd ⟨1, .data⟩ (Array.mem_of_getElem? (i := 0) rfl) rfl (show (0 : Nat) ≤ 1000 by decide)
      have E21 := eval_some (hF.own_ 1 rfl rfl (by kernel_rfl) (by decide)); rw [d1] at E21
      refine .inr ⟨wanted_none rfl, .inl ⟨.int .i64 (L : Int), ?_, hI, TyP.of_is rfl⟩⟩
      have Ec : ∀ v, F.eval (.const v) = v := fun _ => rfl; have Ef : ∀ f, F.eval (.func f) = .func (.func f) #[] #[] := fun _ => rfl; clear hF hd; generalize F.eval = ρ at E21 Ec Ef ⊢
      simp [execOp, go_sem, Ec, E21]
    case ob3 => as_aux_lemma =>
      intro p vals W1 F hF hlo hhi hI hd
      have hp : p = 0 := Nat.le_antisymm hhi hlo
      subst hp
      clear hlo hhi
      have d0 : vals 0 = .slice (some ⟨g2, 0, none⟩) (L + 1) c2 := hd ⟨0, .data⟩ (Array.mem_of_getElem? (i := 0) rfl) rfl (show (0 : Nat) ≤ 1000 by decide)
      have d2 : vals 2 = .int .i64 (L : Int) := hd ⟨2, .data⟩ (Array.mem_of_getElem? (i := 1) rfl) rfl (show (0 : Nat) ≤ 1000 by decide)
      have E20 := eval_some (hF.own_ 0 rfl rfl (by kernel_rfl) (by decide)); rw [d0] at E20
      have E22 := eval_some (hF.own_ 2 rfl rfl (by kernel_rfl) (by decide)); rw [d2] at E22
      refine .inr ⟨wanted_none rfl, ?_⟩
      refine .inl ⟨.slice (some ⟨g2, 0, none⟩) L c2, ?_, hI, TyP.of_is rfl⟩
      have Ec : ∀ v, F.eval (.const v) = v := fun _ => rfl; have Ef : ∀ f, F.eval (.func f) = .func (.func f) #[] #[] := fun _ => rfl; clear hF hd; generalize F.eval = ρ at E20 E22 Ec Ef ⊢
      exact slice_toS (some ⟨g2, 0, none⟩) (L + 1) c2 L (.inr ⟨g2, 0, rfl⟩) E20 E22 (Nat.le_succ L) hn2 W1
    case ob4 => as_aux_lemma =>
      intro p vals W1 F hF hlo hhi hI hd
      have hp : p = 0 := Nat.le_antisymm hhi hlo
      subst hp
      clear hlo hhi
      have d3 : vals 3 = .slice (some ⟨g2, 0, none⟩) L c2 := hd ⟨3, .data⟩ (Array.mem_of_getElem? (i := 0) rfl) rfl (show (0 : Nat) ≤ 1000 by decide)
      have E23 := eval_some (hF.own_ 3 rfl rfl (by kernel_rfl) (by decide)); rw [d3] at E23
      refine .inr ⟨wanted_none rfl, ?_⟩
      refine .inr (.inr (.inl ⟨8, #[.slice (some ⟨g2, 0, none⟩) L c2], ?_, (CO.out W1 _ _ (holds_row (k := 0) hI rfl HCB.out) (by omega)).mono ?_⟩))
      · have Ec : ∀ v, F.eval (.const v) = v := fun _ => rfl; have Ef : ∀ f, F.eval (.func f) = .func (.func f) #[] #[] := fun _ => rfl; clear hF hd; generalize F.eval = ρ at E23 Ec Ef ⊢
        simp [execOp, go_sem, Ec, Ef, E23]
      rintro e W2 ⟨rfl, hb⟩
      exact ⟨_, rfl, hb, hI.call hb, TyP.of_is rfl⟩
    case ob5 => as_aux_lemma =>
      intro p vals W1 F hF hlo hhi hI hd
      have hp : p = 0 := Nat.le_antisymm hhi hlo
      subst hp
      clear hlo hhi
      have E0 : F.eval (.tmp 0) = .slice A L cap := hF.out_ (by kernel_rfl) rfl
      refine .inr ⟨wanted_none rfl, .inl ⟨.slice A L cap, ?_, hI, TyP.of_is rfl⟩⟩
      simp only [execOp, E0, Sem.run_pure]
    case ob6 => as_aux_lemma =>
      intro p vals W1 F hF hlo hhi hI hd
      have hp : p = 0 := Nat.le_antisymm hhi hlo
      subst hp
      clear hlo hhi
      have d5 : vals 5 = .slice A L cap := hd ⟨5, .data⟩ (Array.mem_of_getElem? (i := 0) rfl) rfl (show (0 : Nat) ≤ 1000 by decide)
      have E25 := eval_some (hF.own_ 5 rfl rfl (by kernel_rfl) (by decide)); rw [d5] at E25
      refine .inr ⟨wanted_none rfl, ?_⟩
      refine .inr (.inr (.inl ⟨9, #[.slice A L cap], ?_, (RO.out W1 _ _ (H8.out W1 hI.bel)).mono ?_⟩))
      · have Ec : ∀ v, F.eval (.const v) = v := fun _ => rfl; have Ef : ∀ f, F.eval (.func f) = .func (.func f) #[] #[] := fun _ => rfl; clear hF hd; generalize F.eval = ρ at E25 Ec Ef ⊢
        simp [execOp, go_sem, Ec, Ef, E25]
      rintro e W2 ⟨rfl, hb⟩
      exact ⟨_, rfl, hb, hI.call hb, TyP.of_is rfl⟩
    case ob7 => as_aux_lemma =>
      intro p vals W1 F hF hlo hhi hI hd
      have hp : p = 0 := Nat.le_antisymm hhi hlo
      subst hp
      clear hlo hhi
      have d4 : vals 4 = .agg (arr8 E) := hd ⟨4, .data⟩ (Array.mem_of_getElem? (i := 0) rfl) rfl (show (0 : Nat) ≤ 1000 by decide)
      have d6 : vals 6 = .agg (arr8 E) := hd ⟨6, .data⟩ (Array.mem_of_getElem? (i := 1) rfl) rfl (show (0 : Nat) ≤ 1000 by decide)
      have E24 := eval_some (hF.own_ 4 rfl rfl (by kernel_rfl) (by decide)); rw [d4] at E24
      have E26 := eval_some (hF.own_ 6 rfl rfl (by kernel_rfl) (by decide)); rw [d6] at E26
      refine .inr ⟨wanted_none rfl, .inl ⟨.bool true, ?_, hI, TyP.of_is rfl⟩⟩
      have Ec : ∀ v, F.eval (.const v) = v := fun _ => rfl; have Ef : ∀ f, F.eval (.func f) = .func (.func f) #[] #[] := fun _ => rfl; clear hF hd; generalize F.eval = ρ at E24 E26 Ec Ef ⊢
      simp [execOp, go_sem, Ec, E24, E26, eq32 E HEl.out]
    case ob8 => as_aux_lemma =>
      intro p vals W1 F hF hlo hhi hI hd
      have hp : p = 0 := Nat.le_antisymm hhi hlo
      subst hp
      clear hlo hhi
      have d7 : vals 7 = .bool true := hd ⟨7, .data⟩ (Array.mem_of_getElem? (i := 0) rfl) rfl (show (0 : Nat) ≤ 1000 by decide)
      have E27 := eval_some (hF.own_ 7 rfl rfl (by kernel_rfl) (by decide)); rw [d7] at E27
      refine .inr ⟨wanted_none rfl, .inl ⟨.bool true, ?_, hI, TyP.of_is rfl⟩⟩
      simp only [execOp, E27, Sem.run_pure]
    case ob9 => as_aux_lemma =>
      intro p vals W1 F hF hlo hhi hI hd
      have hp : p = 0 := Nat.le_antisymm hhi hlo
      subst hp
      clear hlo hhi
      have d8 : vals 8 = .bool true := hd ⟨8, .guard⟩ (Array.mem_of_getElem? (i := 0) rfl) rfl (show (0 : Nat) ≤ 1000 by decide)
      have E3 : F.eval (.tmp 3) = .slice (some ⟨g2, 0, none⟩) (L + 1) c2 := hF.out_ (by kernel_rfl) rfl
      have G := hF.own_ 8 rfl rfl (by kernel_rfl) (by decide); rw [d8] at G
      refine .inr ⟨wanted_yes rfl rfl rfl G, .inl ⟨.slice (some ⟨g2, 0, none⟩) (L + 1) c2, ?_, hI, TyP.of_is rfl⟩⟩
      simp only [execOp, E3, Sem.run_pure]
    case ob10 => as_aux_lemma =>
      intro p vals W1 F hF hlo hhi hI hd
      have hp : p = 0 := Nat.le_antisymm hhi hlo
      subst hp
      clear hlo hhi
      have d8 : vals 8 = .bool true := hd ⟨8, .guard⟩ (Array.mem_of_getElem? (i := 0) rfl) rfl (show (0 : Nat) ≤ 1000 by decide)
      have E0 : F.eval (.tmp 0) = .slice A L cap := hF.out_ (by kernel_rfl) rfl
      have G := hF.own_ 8 rfl rfl (by kernel_rfl) (by decide); rw [d8] at G
      refine .inr ⟨wanted_yes rfl rfl rfl G, .inl ⟨.slice A L cap, ?_, hI, TyP.of_is rfl⟩⟩
      simp only [execOp, E0, Sem.run_pure]
    case ob11 => as_aux_lemma =>
      intro p vals W1 F hF hlo hhi hI hd
      have hp : p = 0 := Nat.le_antisymm hhi hlo
      subst hp
      clear hlo hhi
      have d8 : vals 8 = .bool true := hd ⟨8, .guard⟩ (Array.mem_of_getElem? (i := 1) rfl) rfl (show (0 : Nat) ≤ 1000 by decide)
      have d10 : vals 10 = .slice A L cap := hd ⟨10, .data⟩ (Array.mem_of_getElem? (i := 0) rfl) rfl (show (0 : Nat) ≤ 1000 by decide)
      have E30 := eval_some (hF.own_ 10 rfl rfl (by kernel_rfl) (by decide)); rw [d10] at E30
      have G := hF.own_ 8 rfl rfl (by kernel_rfl) (by decide); rw [d8] at G
      refine .inr ⟨wanted_yes rfl rfl rfl G, .inl ⟨.int .i64 (L : Int), ?_, hI, TyP.of_is rfl⟩⟩
      have Ec : ∀ v, F.eval (.const v) = v := fun _ => rfl; have Ef : ∀ f, F.eval (.func f) = .func (.func f) #[] #[] := fun _ => rfl; clear hF hd; generalize F.eval = ρ at E30 Ec Ef ⊢
      simp [execOp, go_sem, Ec, E30]
    case ob12 => as_aux_lemma =>
      intro p vals W1 F hF hlo hhi hI hd
      have hp : p = 0 := Nat.le_antisymm hhi hlo
      subst hp
      clear hlo hhi
      have d8 : vals 8 = .bool true := hd ⟨8, .guard⟩ (Array.mem_of_getElem? (i := 2) rfl) rfl (show (0 : Nat) ≤ 1000 by decide)
      have d9 : vals 9 = .slice (some ⟨g2, 0, none⟩) (L + 1) c2 := hd ⟨9, .data⟩ (Array.mem_of_getElem? (i := 0) rfl) rfl (show (0 : Nat) ≤ 1000 by decide)
      have d11 : vals 11 = .int .i64 (L : Int) := hd ⟨11, .data⟩ (Array.mem_of_getElem? (i := 1) rfl) rfl (show (0 : Nat) ≤ 1000 by decide)
      have E29 := eval_some (hF.own_ 9 rfl rfl (by kernel_rfl) (by decide)); rw [d9] at E29
      have E31 := eval_some (hF.own_ 11 rfl rfl (by kernel_rfl) (by decide)); rw [d11] at E31
      have G := hF.own_ 8 rfl rfl (by kernel_rfl) (by decide); rw [d8] at G
      refine .inr ⟨wanted_yes rfl rfl rfl G, ?_⟩
      refine .inl ⟨.slice (some ⟨g2, 0, none⟩) L c2, ?_, hI, TyP.of_is rfl⟩
      have Ec : ∀ v, F.eval (.const v) = v := fun _ => rfl; have Ef : ∀ f, F.eval (.func f) = .func (.func f) #[] #[] := fun _ => rfl; clear hF hd; generalize F.eval = ρ at E29 E31 Ec Ef ⊢
      exact slice_toS (some ⟨g2, 0, none⟩) (L + 1) c2 L (.inr ⟨g2, 0, rfl⟩) E29 E31 (Nat.le_succ L) hn2 W1
    case ob13 => as_aux_lemma =>
      intro p vals W1 F hF hlo hhi hI hd
      have hp : p = 0 := Nat.le_antisymm hhi hlo
      subst hp
      clear hlo hhi
      have d8 : vals 8 = .bool true := hd ⟨8, .chain⟩ (Array.mem_of_getElem? (i := 1) rfl) rfl (show (0 : Nat) ≤ 1000 by decide)
      have d12 : vals 12 = .slice (some ⟨g2, 0, none⟩) L c2 := hd ⟨12, .data⟩ (Array.mem_of_getElem? (i := 0) rfl) rfl (show (0 : Nat) ≤ 1000 by decide)
      have E32 := eval_some (hF.own_ 12 rfl rfl (by kernel_rfl) (by decide)); rw [d12] at E32
      have G := hF.own_ 8 rfl rfl (by kernel_rfl) (by decide); rw [d8] at G
      refine .inr ⟨wanted_yes rfl rfl rfl G, ?_⟩
      refine .inr (.inr (.inl ⟨10, #[.slice (some ⟨g2, 0, none⟩) L c2], ?_, (CT.out W1 _ _ (holds_row (k := 0) hI rfl HCB.out) (by omega)).mono ?_⟩))
      · have Ec : ∀ v, F.eval (.const v) = v := fun _ => rfl; have Ef : ∀ f, F.eval (.func f) = .func (.func f) #[] #[] := fun _ => rfl; clear hF hd; generalize F.eval = ρ at E32 Ec Ef ⊢
        simp [execOp, go_sem, Ec, Ef, E32]
      rintro e W2 ⟨rfl, hb⟩
      exact ⟨_, rfl, hb, hI.call hb, TyP.of_is rfl⟩
    case ob14 => as_aux_lemma =>
      intro p vals W1 F hF hlo hhi hI hd
      have hp : p = 0 := Nat.le_antisymm hhi hlo
      subst hp
      clear hlo hhi
      have d8 : vals 8 = .bool true := hd ⟨8, .guard⟩ (Array.mem_of_getElem? (i := 0) rfl) rfl (show (0 : Nat) ≤ 1000 by decide)
      have E0 : F.eval (.tmp 0) = .slice A L cap := hF.out_ (by kernel_rfl) rfl
      have G := hF.own_ 8 rfl rfl (by kernel_rfl) (by decide); rw [d8] at G
      refine .inr ⟨wanted_yes rfl rfl rfl G, .inl ⟨.slice A L cap, ?_, hI, TyP.of_is rfl⟩⟩
      simp only [execOp, E0, Sem.run_pure]
    case ob15 => as_aux_lemma =>
      intro p vals W1 F hF hlo hhi hI hd
      have hp : p = 0 := Nat.le_antisymm hhi hlo
      subst hp
      clear hlo hhi
      have d8 : vals 8 = .bool true := hd ⟨8, .guard⟩ (Array.mem_of_getElem? (i := 2) rfl) rfl (show (0 : Nat) ≤ 1000 by decide)
      have d14 : vals 14 = .slice A L cap := hd ⟨14, .data⟩ (Array.mem_of_getElem? (i := 0) rfl) rfl (show (0 : Nat) ≤ 1000 by decide)
      have E34 := eval_some (hF.own_ 14 rfl rfl (by kernel_rfl) (by decide)); rw [d14] at E34
      have G := hF.own_ 8 rfl rfl (by kernel_rfl) (by decide); rw [d8] at G
      refine .inr ⟨wanted_yes rfl rfl rfl G, ?_⟩
      refine .inr (.inr (.inl ⟨11, #[.slice A L cap], ?_, (RT.out W1 _ _ (H8.out W1 hI.bel)).mono ?_⟩))
      · have Ec : ∀ v, F.eval (.const v) = v := fun _ => rfl; have Ef : ∀ f, F.eval (.func f) = .func (.func f) #[] #[] := fun _ => rfl; clear hF hd; generalize F.eval = ρ at E34 Ec Ef ⊢
        simp [execOp, go_sem, Ec, Ef, E34]
      rintro e W2 ⟨rfl, hb⟩
      exact ⟨_, rfl, hb, hI.call hb, TyP.of_is rfl⟩
    case ob16 => as_aux_lemma =>
      intro p vals W1 F hF hlo hhi hI hd
      have hp : p = 0 := Nat.le_antisymm hhi hlo
      subst hp
      clear hlo hhi
      have d8 : vals 8 = .bool true := hd ⟨8, .guard⟩ (Array.mem_of_getElem? (i := 2) rfl) rfl (show (0 : Nat) ≤ 1000 by decide)
      have d13 : vals 13 = .agg (arr8 D) := hd ⟨13, .data⟩ (Array.mem_of_getElem? (i := 0) rfl) rfl (show (0 : Nat) ≤ 1000 by decide)
      have d15 : vals 15 = .agg (arr8 D) := hd ⟨15, .data⟩ (Array.mem_of_getElem? (i := 1) rfl) rfl (show (0 : Nat) ≤ 1000 by decide)
      have E33 := eval_some (hF.own_ 13 rfl rfl (by kernel_rfl) (by decide)); rw [d13] at E33
      have E35 := eval_some (hF.own_ 15 rfl rfl (by kernel_rfl) (by decide)); rw [d15] at E35
      have G := hF.own_ 8 rfl rfl (by kernel_rfl) (by decide); rw [d8] at G
      refine .inr ⟨wanted_yes rfl rfl rfl G, .inl ⟨.bool true, ?_, hI, TyP.of_is rfl⟩⟩
      have Ec : ∀ v, F.eval (.const v) = v := fun _ => rfl; have Ef : ∀ f, F.eval (.func f) = .func (.func f) #[] #[] := fun _ => rfl; clear hF hd; generalize F.eval = ρ at E33 E35 Ec Ef ⊢
      simp [execOp, go_sem, Ec, E33, E35, eq32 D HDl.out]
    case ob17 => as_aux_lemma =>
      intro p vals W1 F hF hlo hhi hI hd
      have hp : p = 0 := Nat.le_antisymm hhi hlo
      subst hp
      clear hlo hhi
      have d8 : vals 8 = .bool true := hd ⟨8, .data⟩ (Array.mem_of_getElem? (i := 0) rfl) rfl (show (0 : Nat) ≤ 1000 by decide)
      have d16 : vals 16 = .bool true := hd ⟨16, .data⟩ (Array.mem_of_getElem? (i := 1) rfl) rfl (show (0 : Nat) ≤ 1000 by decide)
      have E28 := eval_some (hF.own_ 8 rfl rfl (by kernel_rfl) (by decide)); rw [d8] at E28
      have E36 := eval_some (hF.own_ 16 rfl rfl (by kernel_rfl) (by decide)); rw [d16] at E36
      refine .inr ⟨wanted_none rfl, .inl ⟨.bool true, ?_, hI, TyP.of_is rfl⟩⟩
      have Ec : ∀ v, F.eval (.const v) = v := fun _ => rfl; have Ef : ∀ f, F.eval (.func f) = .func (.func f) #[] #[] := fun _ => rfl; clear hF hd; generalize F.eval = ρ at E28 E36 Ec Ef ⊢
      simp [execOp, go_sem, Ec, E28, E36]
    case ob18 => as_aux_lemma =>
      intro p vals W1 F hF hlo hhi hI hd
      have hp : p = 0 := Nat.le_antisymm hhi hlo
      subst hp
      clear hlo hhi
      have d17 : vals 17 = .bool true := hd ⟨17, .data⟩ (Array.mem_of_getElem? (i := 0) rfl) rfl (show (0 : Nat) ≤ 1000 by decide)
      have E37 := eval_some (hF.own_ 17 rfl rfl (by kernel_rfl) (by decide)); rw [d17] at E37
      refine .inr ⟨wanted_none rfl, .inl ⟨.bool true, ?_, hI, TyP.of_is rfl⟩⟩
      simp only [execOp, E37, Sem.run_pure]
    case ob19 => as_aux_lemma =>
      intro p vals W1 F hF hlo hhi hI hd
      have hp : p = 0 := Nat.le_antisymm hhi hlo
      subst hp
      clear hlo hhi
      have d18 : vals 18 = .bool true := hd ⟨18, .guard⟩ (Array.mem_of_getElem? (i := 0) rfl) rfl (show (0 : Nat) ≤ 1000 by decide)
      have E4 : F.eval (.tmp 4) = .slice (some ⟨g4, 0, none⟩) 20 c4 := hF.out_ (by kernel_rfl) rfl
      have G := hF.own_ 18 rfl rfl (by kernel_rfl) (by decide); rw [d18] at G
      refine .inr ⟨wanted_yes rfl rfl rfl G, .inl ⟨.slice (some ⟨g4, 0, none⟩) 20 c4, ?_, hI, TyP.of_is rfl⟩⟩
      simp only [execOp, E4, Sem.run_pure]
    case ob20 => as_aux_lemma =>
      intro p vals W1 F hF hlo hhi hI hd
      have hp : p = 0 := Nat.le_antisymm hhi hlo
      subst hp
      clear hlo hhi
      have d18 : vals 18 = .bool true := hd ⟨18, .guard⟩ (Array.mem_of_getElem? (i := 1) rfl) rfl (show (0 : Nat) ≤ 1000 by decide)
      have d19 : vals 19 = .slice (some ⟨g4, 0, none⟩) 20 c4 := hd ⟨19, .data⟩ (Array.mem_of_getElem? (i := 0) rfl) rfl (show (0 : Nat) ≤ 1000 by decide)
      have E39 := eval_some (hF.own_ 19 rfl rfl (by kernel_rfl) (by decide)); rw [d19] at E39
      have G := hF.own_ 18 rfl rfl (by kernel_rfl) (by decide); rw [d18] at G
      refine .inr ⟨wanted_yes rfl rfl rfl G, ?_⟩
      have hst := str_of (holds_row (k := 1) hI rfl HC4.out) c4
      refine .inl ⟨.string ⟨T.toArray⟩, ?_, hI, TyP.of_is rfl⟩
      have Ec : ∀ v, F.eval (.const v) = v := fun _ => rfl; have Ef : ∀ f, F.eval (.func f) = .func (.func f) #[] #[] := fun _ => rfl; clear hF hd; generalize F.eval = ρ at E39 Ec Ef ⊢
      simp only [execOp, E39]
      rw [HTl.out] at hst
      rw [Sem.run_bind, hst]
      rfl
    case ob21 => as_aux_lemma =>
      intro p vals W1 F hF hlo hhi hI hd
      have hp : p = 0 := Nat.le_antisymm hhi hlo
      subst hp
      clear hlo hhi
      have d18 : vals 18 = .bool true := hd ⟨18, .guard⟩ (Array.mem_of_getElem? (i := 0) rfl) rfl (show (0 : Nat) ≤ 1000 by decide)
      have E0 : F.eval (.tmp 0) = .slice A L cap := hF.out_ (by kernel_rfl) rfl
      have G := hF.own_ 18 rfl rfl (by kernel_rfl) (by decide); rw [d18] at G
      refine .inr ⟨wanted_yes rfl rfl rfl G, .inl ⟨.slice A L cap, ?_, hI, TyP.of_is rfl⟩⟩
      simp only [execOp, E0, Sem.run_pure]
    case ob22 => as_aux_lemma =>
      intro p vals W1 F hF hlo hhi hI hd
      have hp : p = 0 := Nat.le_antisymm hhi hlo
      subst hp
      clear hlo hhi
      have d18 : vals 18 = .bool true := hd ⟨18, .chain⟩ (Array.mem_of_getElem? (i := 1) rfl) rfl (show (0 : Nat) ≤ 1000 by decide)
      have d21 : vals 21 = .slice A L cap := hd ⟨21, .data⟩ (Array.mem_of_getElem? (i := 0) rfl) rfl (show (0 : Nat) ≤ 1000 by decide)
      have E41 := eval_some (hF.own_ 21 rfl rfl (by kernel_rfl) (by decide)); rw [d21] at E41
      have G := hF.own_ 18 rfl rfl (by kernel_rfl) (by decide); rw [d18] at G
      refine .inr ⟨wanted_yes rfl rfl rfl G, ?_⟩
      refine .inr (.inr (.inl ⟨12, #[.slice A L cap], ?_, (RS.out W1 _ _ (H8.out W1 hI.bel)).mono ?_⟩))
      · have Ec : ∀ v, F.eval (.const v) = v := fun _ => rfl; have Ef : ∀ f, F.eval (.func f) = .func (.func f) #[] #[] := fun _ => rfl; clear hF hd; generalize F.eval = ρ at E41 Ec Ef ⊢
        simp [execOp, go_sem, Ec, Ef, E41]
      rintro e W2 ⟨v, rfl, hown, hb⟩
      obtain ⟨X, c, hv, hX, _⟩ := own_open hown
      rw [HTl.out] at hv
      exact ⟨_, rfl, hb, hI.call hb, X, c, hv, hX⟩
    case ob23 => as_aux_lemma =>
      intro p vals W1 F hF hlo hhi hI hd
      have hp : p = 0 := Nat.le_antisymm hhi hlo
      subst hp
      clear hlo hhi
      have d18 : vals 18 = .bool true := hd ⟨18, .guard⟩ (Array.mem_of_getElem? (i := 1) rfl) rfl (show (0 : Nat) ≤ 1000 by decide)
      obtain ⟨X22, c22, hspec22, hh22⟩ := hd ⟨22, .data⟩ (Array.mem_of_getElem? (i := 0) rfl) rfl (show (0 : Nat) ≤ 1000 by decide)
      have d22 : vals 22 = .slice X22 20 c22 := hspec22
      have E42 := eval_some (hF.own_ 22 rfl rfl (by kernel_rfl) (by decide)); rw [d22] at E42
      have G := hF.own_ 18 rfl rfl (by kernel_rfl) (by decide); rw [d18] at G
      refine .inr ⟨wanted_yes rfl rfl rfl G, ?_⟩
      have hst := str_of (hh22) c22
      refine .inl ⟨.string ⟨T.toArray⟩, ?_, hI, TyP.of_is rfl⟩
      have Ec : ∀ v, F.eval (.const v) = v := fun _ => rfl; have Ef : ∀ f, F.eval (.func f) = .func (.func f) #[] #[] := fun _ => rfl; clear hF hd; generalize F.eval = ρ at E42 Ec Ef ⊢
      simp only [execOp, E42]
      rw [HTl.out] at hst
      rw [Sem.run_bind, hst]
      rfl
    case ob24 => as_aux_lemma =>
      intro p vals W1 F hF hlo hhi hI hd
      have hp : p = 0 := Nat.le_antisymm hhi hlo
      subst hp
      clear hlo hhi
      have d18 : vals 18 = .bool true := hd ⟨18, .guard⟩ (Array.mem_of_getElem? (i := 2) rfl) rfl (show (0 : Nat) ≤ 1000 by decide)
      have d20 : vals 20 = .string ⟨T.toArray⟩ := hd ⟨20, .data⟩ (Array.mem_of_getElem? (i := 0) rfl) rfl (show (0 : Nat) ≤ 1000 by decide)
      have d23 : vals 23 = .string ⟨T.toArray⟩ := hd ⟨23, .data⟩ (Array.mem_of_getElem? (i := 1) rfl) rfl (show (0 : Nat) ≤ 1000 by decide)
      have E40 := eval_some (hF.own_ 20 rfl rfl (by kernel_rfl) (by decide)); rw [d20] at E40
      have E43 := eval_some (hF.own_ 23 rfl rfl (by kernel_rfl) (by decide)); rw [d23] at E43
      have G := hF.own_ 18 rfl rfl (by kernel_rfl) (by decide); rw [d18] at G
      refine .inr ⟨wanted_yes rfl rfl rfl G, .inl ⟨.bool true, ?_, hI, TyP.of_is rfl⟩⟩
      have Ec : ∀ v, F.eval (.const v) = v := fun _ => rfl; have Ef : ∀ f, F.eval (.func f) = .func (.func f) #[] #[] := fun _ => rfl; clear hF hd; generalize F.eval = ρ at E40 E43 Ec Ef ⊢
      simp [execOp, go_sem, Ec, E40, E43]
    case ob25 => as_aux_lemma =>
      intro p vals W1 F hF hlo hhi hI hd
      have hp : p = 0 := Nat.le_antisymm hhi hlo
      subst hp
      clear hlo hhi
      have d18 : vals 18 = .bool true := hd ⟨18, .data⟩ (Array.mem_of_getElem? (i := 0) rfl) rfl (show (0 : Nat) ≤ 1000 by decide)
      have d24 : vals 24 = .bool true := hd ⟨24, .data⟩ (Array.mem_of_getElem? (i := 1) rfl) rfl (show (0 : Nat) ≤ 1000 by decide)
      have E38 := eval_some (hF.own_ 18 rfl rfl (by kernel_rfl) (by decide)); rw [d18] at E38
      have E44 := eval_some (hF.own_ 24 rfl rfl (by kernel_rfl) (by decide)); rw [d24] at E44
      refine .inr ⟨wanted_none rfl, .inl ⟨.bool true, ?_, hI, TyP.of_is rfl⟩⟩
      have Ec : ∀ v, F.eval (.const v) = v := fun _ => rfl; have Ef : ∀ f, F.eval (.func f) = .func (.func f) #[] #[] := fun _ => rfl; clear hF hd; generalize F.eval = ρ at E38 E44 Ec Ef ⊢
      simp [execOp, go_sem, Ec, E38, E44]
    case ob26 => as_aux_lemma =>
      intro p vals W1 F hF hlo hhi hI hd
      have hp : p = 0 := Nat.le_antisymm hhi hlo
      subst hp
      clear hlo hhi
      have d25 : vals 25 = .bool true := hd ⟨25, .data⟩ (Array.mem_of_getElem? (i := 0) rfl) rfl (show (0 : Nat) ≤ 1000 by decide)
      have E45 := eval_some (hF.own_ 25 rfl rfl (by kernel_rfl) (by decide)); rw [d25] at E45
      refine .inr ⟨wanted_none rfl, .inl ⟨.bool true, ?_, hI, TyP.of_is rfl⟩⟩
      simp only [execOp, E45, Sem.run_pure]
    case obend =>
      intro vals W1 F hF hdef hI hT
      have hv : vals 26 = .bool true := hT 26 (by decide) (show (0 : Nat) ≤ 1000 by decide)
      rename_i K hK9
      refine hK9 _ _ ?_
      rw [hF.act]
      simp only [fin, Act.put, List.setIfInBounds_toArray, List.set_cons_succ, List.set_cons_zero]
      rw [hv]
      clear hF hT hv
      have hK5 := Lib.hid hI
      clear hI hI0
      go_wp2
      go_loopw [48] (fun i wr => ∃ k : Nat, k ≤ 20 ∧ i = .int .i64 (k : Int) ∧ ∃ cur : Array Value, (∀ j, j < 20 → ∃ z : Int, cur[j]? = some (.int .u8 z)) ∧ Keeps w [(g2, cur2, 5), (g4, cur, 5)] wr) (fun i _ => 20 - (RowKit.intOf i).toNat)
      case atStart => exact ⟨0, Nat.zero_le _, rfl, cur4, fun j hj => ⟨_, HC4.out j (by rw [HTl.out]; exact hj)⟩, hK5.out⟩
      case round =>
        clear hK5
        obtain ⟨k, hk, rfl, cur, hcur, hK⟩ := hrel
        have HCUR := Lib.hid hcur
        by_cases hlt : k < 20
        · obtain ⟨z, hz⟩ := hcur k hlt
          have hsz : k < cur.size := (Array.getElem?_eq_some_iff.1 hz).1
          have hc := hK.cell 1 rfl k
          have hf := hK.frozen 1 rfl k
          rw [hz] at hc
          clear hcur
          have k20 : (k : Int) < 20 := by omega
          go_wp2
          go_roundw
          case rel =>
            refine ⟨k + 1, by omega, by go_num, cur.setIfInBounds k (.int .u8 (IntKind.u8.wrap (z + 1))), fun j hj => ?_, ?_⟩
            · obtain ⟨y, hy⟩ := HCUR.out j hj
              rw [Array.getElem?_setIfInBounds]
              split
              · exact ⟨_, rfl⟩
              · exact ⟨y, hy⟩
            · have h := hK.setc 1 rfl k (.int .u8 (IntKind.u8.wrap (z + 1)))
              exact h
          case measure => simp [RowKit.intOf]; omega
        · have HK11 := Lib.hid hK
          clear hK hcur HCUR
          go_wp2
          clear hlt hk
          obtain ⟨SB, hSB⟩ : ∃ SB : ByteArray, SB = ⟨(bs ++ [7]).toArray⟩ := ⟨_, rfl⟩
          have HSN := Lib.hid (str_snoc bs 7)
          rw [← hSB] at HSN
          have HSB := Lib.hid hSB
          clear hSB
          refine wp_region_phased 76 rfl (fun _ _ W W' => Below W.heap.size W W') (fun p W1 => Keeps w [(g2, cur2, 5), (g4, cur, 5)] W1) [.is (.bool true), .is (.bool true), .is (.slice (some ⟨g2, 0, none⟩) (L + 1) c2), .is (.string SB), .is (.slice A L cap), .is (.string ⟨bs.toArray⟩), .is (.string SB), .is (.bool true), .is (.bool true), .is (.bool true), .is (.slice A L cap), ⟨0, 1000, fun v W => ∃ X c, v = .slice X 20 c ∧ Holds8 W.heap.size W X T, fun k d v W W' hk hd h hr => by obtain ⟨X, c, e, h2⟩ := h; exact ⟨X, c, e, h2.later hr⟩⟩, .is (.string ⟨T.toArray⟩), .is (.slice A L cap), ⟨0, 1000, fun v W => ∃ X c, v = .slice X 20 c ∧ Holds8 W.heap.size W X T, fun k d v W W' hk hd h hr => by obtain ⟨X, c, e, h2⟩ := h; exact ⟨X, c, e, h2.later hr⟩⟩, .is (.string ⟨T.toArray⟩), .is (.bool true), .is (.bool true), .is (.bool true)] [] [0, 0, 0, 0, 0, 0, 0, 0, 0, 0, 0, 0, 0, 0, 0, 0, 0, 0, 0] [0, 0, 0, 0, 0, 0, 0, 0, 0, 0, 0, 0, 0, 0, 0, 0, 0, 0, 0] (by kernel_rfl) (by kernel_rfl) (by kernel_rfl) (fun _ _ W => Below.refl _ W) (HK11.out.drew) ⟨?oc0, ?oc1, ?oc2, ?oc3, ?oc4, ?oc5, ?oc6, ?oc7, ?oc8, ?oc9, ?oc10, ?oc11, ?oc12, ?oc13, ?oc14, ?oc15, ?oc16, ?oc17, ?oc18, trivial⟩ ?ocend
          case oc0 => as_aux_lemma =>
            intro p vals2 W1 F hF hlo hhi hI hd
            have hp : p = 0 := Nat.le_antisymm hhi hlo
            subst hp
            clear hlo hhi
            have E5 : F.eval (.tmp 5) = .bool true := hF.out_ (by kernel_rfl) rfl
            refine .inr ⟨wanted_none rfl, .inl ⟨.bool true, ?_, hI, TyP.of_is rfl⟩⟩
            simp only [execOp, E5, Sem.run_pure]
          case oc1 => as_aux_lemma =>
            intro p vals2 W1 F hF hlo hhi hI hd
            have hp : p = 0 := Nat.le_antisymm hhi hlo
            subst hp
            clear hlo hhi
            have d0 : vals2 0 = .bool true := hd ⟨0, .data⟩ (Array.mem_of_getElem? (i := 0) rfl) rfl (show (0 : Nat) ≤ 1000 by decide)
            have E58 := eval_some (hF.own_ 0 rfl rfl (by kernel_rfl) (by decide)); rw [d0] at E58
            refine .inr ⟨wanted_none rfl, .inl ⟨.bool true, ?_, hI, TyP.of_is rfl⟩⟩
            simp only [execOp, E58, Sem.run_pure]
          case oc2 => as_aux_lemma =>
            intro p vals2 W1 F hF hlo hhi hI hd
            have hp : p = 0 := Nat.le_antisymm hhi hlo
            subst hp
            clear hlo hhi
            have d1 : vals2 1 = .bool true := hd ⟨1, .guard⟩ (Array.mem_of_getElem? (i := 0) rfl) rfl (show (0 : Nat) ≤ 1000 by decide)
            have E3 : F.eval (.tmp 3) = .slice (some ⟨g2, 0, none⟩) (L + 1) c2 := hF.out_ (by kernel_rfl) rfl
            have G := hF.own_ 1 rfl rfl (by kernel_rfl) (by decide); rw [d1] at G
            refine .inr ⟨wanted_yes rfl rfl rfl G, .inl ⟨.slice (some ⟨g2, 0, none⟩) (L + 1) c2, ?_, hI, TyP.of_is rfl⟩⟩
            simp only [execOp, E3, Sem.run_pure]
          case oc3 => as_aux_lemma =>
            intro p vals2 W1 F hF hlo hhi hI hd
            have hp : p = 0 := Nat.le_antisymm hhi hlo
            subst hp
            clear hlo hhi
            have d1 : vals2 1 = .bool true := hd ⟨1, .guard⟩ (Array.mem_of_getElem? (i := 1) rfl) rfl (show (0 : Nat) ≤ 1000 by decide)
            have d2 : vals2 2 = .slice (some ⟨g2, 0, none⟩) (L + 1) c2 := hd ⟨2, .data⟩ (Array.mem_of_getElem? (i := 0) rfl) rfl (show (0 : Nat) ≤ 1000 by decide)
            have E60 := eval_some (hF.own_ 2 rfl rfl (by kernel_rfl) (by decide)); rw [d2] at E60
            have G := hF.own_ 1 rfl rfl (by kernel_rfl) (by decide); rw [d1] at G
            refine .inr ⟨wanted_yes rfl rfl rfl G, ?_⟩
            have hst := str_of (holds_row (k := 0) hI rfl HC2.out) c2
            refine .inl ⟨.string SB, ?_, hI, TyP.of_is rfl⟩
            have Ec : ∀ v, F.eval (.const v) = v := fun _ => rfl; have Ef : ∀ f, F.eval (.func f) = .func (.func f) #[] #[] := fun _ => rfl; clear hF hd; generalize F.eval = ρ at E60 Ec Ef ⊢
            simp only [execOp, E60]
            rw [HN1.out] at hst
            rw [Sem.run_bind, hst, ← HSB.out]
            rfl
          case oc4 => as_aux_lemma =>
            intro p vals2 W1 F hF hlo hhi hI hd
            have hp : p = 0 := Nat.le_antisymm hhi hlo
            subst hp
            clear hlo hhi
            have d1 : vals2 1 = .bool true := hd ⟨1, .guard⟩ (Array.mem_of_getElem? (i := 0) rfl) rfl (show (0 : Nat) ≤ 1000 by decide)
            have E0 : F.eval (.tmp 0) = .slice A L cap := hF.out_ (by kernel_rfl) rfl
            have G := hF.own_ 1 rfl rfl (by kernel_rfl) (by decide); rw [d1] at G
            refine .inr ⟨wanted_yes rfl rfl rfl G, .inl ⟨.slice A L cap, ?_, hI, TyP.of_is rfl⟩⟩
            simp only [execOp, E0, Sem.run_pure]
          case oc5 => as_aux_lemma =>
            intro p vals2 W1 F hF hlo hhi hI hd
            have hp : p = 0 := Nat.le_antisymm hhi hlo
            subst hp
            clear hlo hhi
            have d1 : vals2 1 = .bool true := hd ⟨1, .guard⟩ (Array.mem_of_getElem? (i := 1) rfl) rfl (show (0 : Nat) ≤ 1000 by decide)
            have d4 : vals2 4 = .slice A L cap := hd ⟨4, .data⟩ (Array.mem_of_getElem? (i := 0) rfl) rfl (show (0 : Nat) ≤ 1000 by decide)
            have E62 := eval_some (hF.own_ 4 rfl rfl (by kernel_rfl) (by decide)); rw [d4] at E62
            have G := hF.own_ 1 rfl rfl (by kernel_rfl) (by decide); rw [d1] at G
            refine .inr ⟨wanted_yes rfl rfl rfl G, ?_⟩
            have hst := str_of (H8.out W1 hI.bel) cap
            refine .inl ⟨.string ⟨bs.toArray⟩, ?_, hI, TyP.of_is rfl⟩
            have Ec : ∀ v, F.eval (.const v) = v := fun _ => rfl; have Ef : ∀ f, F.eval (.func f) = .func (.func f) #[] #[] := fun _ => rfl; clear hF hd; generalize F.eval = ρ at E62 Ec Ef ⊢
            simp only [execOp, E62]
            rw [HL.out] at hst
            rw [Sem.run_bind, hst]
            rfl
          case oc6 => as_aux_lemma =>
            intro p vals2 W1 F hF hlo hhi hI hd
            have hp : p = 0 := Nat.le_antisymm hhi hlo
            subst hp
            clear hlo hhi
            have d1 : vals2 1 = .bool true := hd ⟨1, .guard⟩ (Array.mem_of_getElem? (i := 1) rfl) rfl (show (0 : Nat) ≤ 1000 by decide)
            have d5 : vals2 5 = .string ⟨bs.toArray⟩ := hd ⟨5, .data⟩ (Array.mem_of_getElem? (i := 0) rfl) rfl (show (0 : Nat) ≤ 1000 by decide)
            have E63 := eval_some (hF.own_ 5 rfl rfl (by kernel_rfl) (by decide)); rw [d5] at E63
            have G := hF.own_ 1 rfl rfl (by kernel_rfl) (by decide); rw [d1] at G
            have hbl : bs.length ≤ 9223372036854775806 := by rw [HL.out]; omega
            refine .inr ⟨wanted_yes rfl rfl rfl G, .inl ⟨.string SB, ?_, hI, TyP.of_is rfl⟩⟩
            have Ec : ∀ v, F.eval (.const v) = v := fun _ => rfl; have Ef : ∀ f, F.eval (.func f) = .func (.func f) #[] #[] := fun _ => rfl; clear hF hd; generalize F.eval = ρ at E63 Ec Ef ⊢
            simp [execOp, go_sem, Ec, E63, HSN.out, hbl]
          case oc7 => as_aux_lemma =>
            intro p vals2 W1 F hF hlo hhi hI hd
            have hp : p = 0 := Nat.le_antisymm hhi hlo
            subst hp
            clear hlo hhi
            have d1 : vals2 1 = .bool true := hd ⟨1, .guard⟩ (Array.mem_of_getElem? (i := 2) rfl) rfl (show (0 : Nat) ≤ 1000 by decide)
            have d3 : vals2 3 = .string SB := hd ⟨3, .data⟩ (Array.mem_of_getElem? (i := 0) rfl) rfl (show (0 : Nat) ≤ 1000 by decide)
            have d6 : vals2 6 = .string SB := hd ⟨6, .data⟩ (Array.mem_of_getElem? (i := 1) rfl) rfl (show (0 : Nat) ≤ 1000 by decide)
            have E61 := eval_some (hF.own_ 3 rfl rfl (by kernel_rfl) (by decide)); rw [d3] at E61
            have E64 := eval_some (hF.own_ 6 rfl rfl (by kernel_rfl) (by decide)); rw [d6] at E64
            have G := hF.own_ 1 rfl rfl (by kernel_rfl) (by decide); rw [d1] at G
            refine .inr ⟨wanted_yes rfl rfl rfl G, .inl ⟨.bool true, ?_, hI, TyP.of_is rfl⟩⟩
            have Ec : ∀ v, F.eval (.const v) = v := fun _ => rfl; have Ef : ∀ f, F.eval (.func f) = .func (.func f) #[] #[] := fun _ => rfl; clear hF hd; generalize F.eval = ρ at E61 E64 Ec Ef ⊢
            simp [execOp, go_sem, Ec, E61, E64]
          case oc8 => as_aux_lemma =>
            intro p vals2 W1 F hF hlo hhi hI hd
            have hp : p = 0 := Nat.le_antisymm hhi hlo
            subst hp
            clear hlo hhi
            have d1 : vals2 1 = .bool true := hd ⟨1, .data⟩ (Array.mem_of_getElem? (i := 0) rfl) rfl (show (0 : Nat) ≤ 1000 by decide)
            have d7 : vals2 7 = .bool true := hd ⟨7, .data⟩ (Array.mem_of_getElem? (i := 1) rfl) rfl (show (0 : Nat) ≤ 1000 by decide)
            have E59 := eval_some (hF.own_ 1 rfl rfl (by kernel_rfl) (by decide)); rw [d1] at E59
            have E65 := eval_some (hF.own_ 7 rfl rfl (by kernel_rfl) (by decide)); rw [d7] at E65
            refine .inr ⟨wanted_none rfl, .inl ⟨.bool true, ?_, hI, TyP.of_is rfl⟩⟩
            have Ec : ∀ v, F.eval (.const v) = v := fun _ => rfl; have Ef : ∀ f, F.eval (.func f) = .func (.func f) #[] #[] := fun _ => rfl; clear hF hd; generalize F.eval = ρ at E59 E65 Ec Ef ⊢
            simp [execOp, go_sem, Ec, E59, E65]
          case oc9 => as_aux_lemma =>
            intro p vals2 W1 F hF hlo hhi hI hd
            have hp : p = 0 := Nat.le_antisymm hhi hlo
            subst hp
            clear hlo hhi
            have d8 : vals2 8 = .bool true := hd ⟨8, .data⟩ (Array.mem_of_getElem? (i := 0) rfl) rfl (show (0 : Nat) ≤ 1000 by decide)
            have E66 := eval_some (hF.own_ 8 rfl rfl (by kernel_rfl) (by decide)); rw [d8] at E66
            refine .inr ⟨wanted_none rfl, .inl ⟨.bool true, ?_, hI, TyP.of_is rfl⟩⟩
            simp only [execOp, E66, Sem.run_pure]
          case oc10 => as_aux_lemma =>
            intro p vals2 W1 F hF hlo hhi hI hd
            have hp : p = 0 := Nat.le_antisymm hhi hlo
            subst hp
            clear hlo hhi
            have d9 : vals2 9 = .bool true := hd ⟨9, .guard⟩ (Array.mem_of_getElem? (i := 0) rfl) rfl (show (0 : Nat) ≤ 1000 by decide)
            have E0 : F.eval (.tmp 0) = .slice A L cap := hF.out_ (by kernel_rfl) rfl
            have G := hF.own_ 9 rfl rfl (by kernel_rfl) (by decide); rw [d9] at G
            refine .inr ⟨wanted_yes rfl rfl rfl G, .inl ⟨.slice A L cap, ?_, hI, TyP.of_is rfl⟩⟩
            simp only [execOp, E0, Sem.run_pure]
          case oc11 => as_aux_lemma =>
            intro p vals2 W1 F hF hlo hhi hI hd
            have hp : p = 0 := Nat.le_antisymm hhi hlo
            subst hp
            clear hlo hhi
            have d9 : vals2 9 = .bool true := hd ⟨9, .chain⟩ (Array.mem_of_getElem? (i := 1) rfl) rfl (show (0 : Nat) ≤ 1000 by decide)
            have d10 : vals2 10 = .slice A L cap := hd ⟨10, .data⟩ (Array.mem_of_getElem? (i := 0) rfl) rfl (show (0 : Nat) ≤ 1000 by decide)
            have E68 := eval_some (hF.own_ 10 rfl rfl (by kernel_rfl) (by decide)); rw [d10] at E68
            have G := hF.own_ 9 rfl rfl (by kernel_rfl) (by decide); rw [d9] at G
            refine .inr ⟨wanted_yes rfl rfl rfl G, ?_⟩
            refine .inr (.inr (.inl ⟨7, #[.slice A L cap], ?_, (CS.out W1 _ _ (H8.out W1 hI.bel) hcap).mono ?_⟩))
            · have Ec : ∀ v, F.eval (.const v) = v := fun _ => rfl; have Ef : ∀ f, F.eval (.func f) = .func (.func f) #[] #[] := fun _ => rfl; clear hF hd; generalize F.eval = ρ at E68 Ec Ef ⊢
              simp [execOp, go_sem, Ec, Ef, E68]
            rintro e W2 ⟨v, rfl, hown, hb⟩
            obtain ⟨X, c, hv, hX, _⟩ := own_open hown
            rw [HTl.out] at hv
            exact ⟨_, rfl, hb, hI.call hb, X, c, hv, hX⟩
          case oc12 => as_aux_lemma =>
            intro p vals2 W1 F hF hlo hhi hI hd
            have hp : p = 0 := Nat.le_antisymm hhi hlo
            subst hp
            clear hlo hhi
            have d9 : vals2 9 = .bool true := hd ⟨9, .guard⟩ (Array.mem_of_getElem? (i := 1) rfl) rfl (show (0 : Nat) ≤ 1000 by decide)
            obtain ⟨X11, c11, hspec11, hh11⟩ := hd ⟨11, .data⟩ (Array.mem_of_getElem? (i := 0) rfl) rfl (show (0 : Nat) ≤ 1000 by decide)
            have d11 : vals2 11 = .slice X11 20 c11 := hspec11
            have E69 := eval_some (hF.own_ 11 rfl rfl (by kernel_rfl) (by decide)); rw [d11] at E69
            have G := hF.own_ 9 rfl rfl (by kernel_rfl) (by decide); rw [d9] at G
            refine .inr ⟨wanted_yes rfl rfl rfl G, ?_⟩
            have hst := str_of (hh11) c11
            refine .inl ⟨.string ⟨T.toArray⟩, ?_, hI, TyP.of_is rfl⟩
            have Ec : ∀ v, F.eval (.const v) = v := fun _ => rfl; have Ef : ∀ f, F.eval (.func f) = .func (.func f) #[] #[] := fun _ => rfl; clear hF hd; generalize F.eval = ρ at E69 Ec Ef ⊢
            simp only [execOp, E69]
            rw [HTl.out] at hst
            rw [Sem.run_bind, hst]
            rfl
          case oc13 => as_aux_lemma =>
            intro p vals2 W1 F hF hlo hhi hI hd
            have hp : p = 0 := Nat.le_antisymm hhi hlo
            subst hp
            clear hlo hhi
            have d9 : vals2 9 = .bool true := hd ⟨9, .guard⟩ (Array.mem_of_getElem? (i := 0) rfl) rfl (show (0 : Nat) ≤ 1000 by decide)
            have E0 : F.eval (.tmp 0) = .slice A L cap := hF.out_ (by kernel_rfl) rfl
            have G := hF.own_ 9 rfl rfl (by kernel_rfl) (by decide); rw [d9] at G
            refine .inr ⟨wanted_yes rfl rfl rfl G, .inl ⟨.slice A L cap, ?_, hI, TyP.of_is rfl⟩⟩
            simp only [execOp, E0, Sem.run_pure]
          case oc14 => as_aux_lemma =>
            intro p vals2 W1 F hF hlo hhi hI hd
            have hp : p = 0 := Nat.le_antisymm hhi hlo
            subst hp
            clear hlo hhi
            have d9 : vals2 9 = .bool true := hd ⟨9, .guard⟩ (Array.mem_of_getElem? (i := 2) rfl) rfl (show (0 : Nat) ≤ 1000 by decide)
            have d13 : vals2 13 = .slice A L cap := hd ⟨13, .data⟩ (Array.mem_of_getElem? (i := 0) rfl) rfl (show (0 : Nat) ≤ 1000 by decide)
            have E71 := eval_some (hF.own_ 13 rfl rfl (by kernel_rfl) (by decide)); rw [d13] at E71
            have G := hF.own_ 9 rfl rfl (by kernel_rfl) (by decide); rw [d9] at G
            refine .inr ⟨wanted_yes rfl rfl rfl G, ?_⟩
            refine .inr (.inr (.inl ⟨12, #[.slice A L cap], ?_, (RS.out W1 _ _ (H8.out W1 hI.bel)).mono ?_⟩))
            · have Ec : ∀ v, F.eval (.const v) = v := fun _ => rfl; have Ef : ∀ f, F.eval (.func f) = .func (.func f) #[] #[] := fun _ => rfl; clear hF hd; generalize F.eval = ρ at E71 Ec Ef ⊢
              simp [execOp, go_sem, Ec, Ef, E71]
            rintro e W2 ⟨v, rfl, hown, hb⟩
            obtain ⟨X, c, hv, hX, _⟩ := own_open hown
            rw [HTl.out] at hv
            exact ⟨_, rfl, hb, hI.call hb, X, c, hv, hX⟩
          case oc15 => as_aux_lemma =>
            intro p vals2 W1 F hF hlo hhi hI hd
            have hp : p = 0 := Nat.le_antisymm hhi hlo
            subst hp
            clear hlo hhi
            have d9 : vals2 9 = .bool true := hd ⟨9, .guard⟩ (Array.mem_of_getElem? (i := 1) rfl) rfl (show (0 : Nat) ≤ 1000 by decide)
            obtain ⟨X14, c14, hspec14, hh14⟩ := hd ⟨14, .data⟩ (Array.mem_of_getElem? (i := 0) rfl) rfl (show (0 : Nat) ≤ 1000 by decide)
            have d14 : vals2 14 = .slice X14 20 c14 := hspec14
            have E72 := eval_some (hF.own_ 14 rfl rfl (by kernel_rfl) (by decide)); rw [d14] at E72
            have G := hF.own_ 9 rfl rfl (by kernel_rfl) (by decide); rw [d9] at G
            refine .inr ⟨wanted_yes rfl rfl rfl G, ?_⟩
            have hst := str_of (hh14) c14
            refine .inl ⟨.string ⟨T.toArray⟩, ?_, hI, TyP.of_is rfl⟩
            have Ec : ∀ v, F.eval (.const v) = v := fun _ => rfl; have Ef : ∀ f, F.eval (.func f) = .func (.func f) #[] #[] := fun _ => rfl; clear hF hd; generalize F.eval = ρ at E72 Ec Ef ⊢
            simp only [execOp, E72]
            rw [HTl.out] at hst
            rw [Sem.run_bind, hst]
            rfl
          case oc16 => as_aux_lemma =>
            intro p vals2 W1 F hF hlo hhi hI hd
            have hp : p = 0 := Nat.le_antisymm hhi hlo
            subst hp
            clear hlo hhi
            have d9 : vals2 9 = .bool true := hd ⟨9, .guard⟩ (Array.mem_of_getElem? (i := 2) rfl) rfl (show (0 : Nat) ≤ 1000 by decide)
            have d12 : vals2 12 = .string ⟨T.toArray⟩ := hd ⟨12, .data⟩ (Array.mem_of_getElem? (i := 0) rfl) rfl (show (0 : Nat) ≤ 1000 by decide)
            have d15 : vals2 15 = .string ⟨T.toArray⟩ := hd ⟨15, .data⟩ (Array.mem_of_getElem? (i := 1) rfl) rfl (show (0 : Nat) ≤ 1000 by decide)
            have E70 := eval_some (hF.own_ 12 rfl rfl (by kernel_rfl) (by decide)); rw [d12] at E70
            have E73 := eval_some (hF.own_ 15 rfl rfl (by kernel_rfl) (by decide)); rw [d15] at E73
            have G := hF.own_ 9 rfl rfl (by kernel_rfl) (by decide); rw [d9] at G
            refine .inr ⟨wanted_yes rfl rfl rfl G, .inl ⟨.bool true, ?_, hI, TyP.of_is rfl⟩⟩
            have Ec : ∀ v, F.eval (.const v) = v := fun _ => rfl; have Ef : ∀ f, F.eval (.func f) = .func (.func f) #[] #[] := fun _ => rfl; clear hF hd; generalize F.eval = ρ at E70 E73 Ec Ef ⊢
            simp [execOp, go_sem, Ec, E70, E73]
          case oc17 => as_aux_lemma =>
            intro p vals2 W1 F hF hlo hhi hI hd
            have hp : p = 0 := Nat.le_antisymm hhi hlo
            subst hp
            clear hlo hhi
            have d9 : vals2 9 = .bool true := hd ⟨9, .data⟩ (Array.mem_of_getElem? (i := 0) rfl) rfl (show (0 : Nat) ≤ 1000 by decide)
            have d16 : vals2 16 = .bool true := hd ⟨16, .data⟩ (Array.mem_of_getElem? (i := 1) rfl) rfl (show (0 : Nat) ≤ 1000 by decide)
            have E67 := eval_some (hF.own_ 9 rfl rfl (by kernel_rfl) (by decide)); rw [d9] at E67
            have E74 := eval_some (hF.own_ 16 rfl rfl (by kernel_rfl) (by decide)); rw [d16] at E74
            refine .inr ⟨wanted_none rfl, .inl ⟨.bool true, ?_, hI, TyP.of_is rfl⟩⟩
            have Ec : ∀ v, F.eval (.const v) = v := fun _ => rfl; have Ef : ∀ f, F.eval (.func f) = .func (.func f) #[] #[] := fun _ => rfl; clear hF hd; generalize F.eval = ρ at E67 E74 Ec Ef ⊢
            simp [execOp, go_sem, Ec, E67, E74]
          case oc18 => as_aux_lemma =>
            intro p vals2 W1 F hF hlo hhi hI hd
            have hp : p = 0 := Nat.le_antisymm hhi hlo
            subst hp
            clear hlo hhi
            have d17 : vals2 17 = .bool true := hd ⟨17, .data⟩ (Array.mem_of_getElem? (i := 0) rfl) rfl (show (0 : Nat) ≤ 1000 by decide)
            have E75 := eval_some (hF.own_ 17 rfl rfl (by kernel_rfl) (by decide)); rw [d17] at E75
            refine .inr ⟨wanted_none rfl, .inl ⟨.bool true, ?_, hI, TyP.of_is rfl⟩⟩
            simp only [execOp, E75, Sem.run_pure]
          case ocend =>
            intro vals2 W1 F hF hdef hI hT
            have hv : vals2 18 = .bool true := hT 18 (by decide) (show (0 : Nat) ≤ 1000 by decide)
            rename_i K hK9
            refine hK9 _ _ ?_
            rw [hF.act]
            simp only [fin, Act.put, List.setIfInBounds_toArray, List.set_cons_succ, List.set_cons_zero]
            rw [hv]
            clear hF hT hv
            go_wp2
            go_ret
            exact ⟨rfl, hI.bel⟩
set_option maxRecDepth 100000 in
theorem sums_lifted (os : Os) (started : os.Started) (H : Type) (enc : TypeId × Value → H) :
    ReturnsInHanded {} Try.checked os 3 .any (Rows.shaSumsSpec.pre6 enc Try.prog Try.f3 Rows.shaSumsRow.domain false) (Rows.shaSumsSpec.post enc Try.prog Try.f3 false true false false) := by
  refine returnsInHanded_of_change (C := Try.checked) own started (by kernel_rfl) Try.func3
    (ChangeSpec.witness6 (enc := enc) (C := Try.checked) false ⟨#[], #[.slice none 0 0], []⟩ 8 (by kernel_rfl) (by kernel_rfl) (by kernel_rfl) (by kernel_rfl)) ?_
  intro W base args ds gs before hval0 hW hcnd _
  have hval : ∀ (j : Nat) t v, Try.f3.params[j]? = some t → args[j]? = some v → Value.okWide Try.prog W .any base t v := hval0
  have hW' := hW
  obtain ⟨p, q, hA0, hV, rfl, hfz, hnd⟩ := hW
  have hA : DataW.TrodAll enc Try.prog W 0 (fun _ => true) true Try.f3.params.toList args.toList ds p := hA0
  rw [Try.params3] at hA hval
  obtain ⟨v0, vs0, d0, ds0, p0, q0, hargs, rfl, rfl, h0, r0⟩ := trodAll_cons hA
  obtain ⟨rfl, rfl, rfl⟩ := trodAll_nil r0
  obtain rfl : args = #[v0] := by cases args; simp_all
  obtain ⟨rfl, rfl⟩ := trodVars_none hV
  have k0 := h0
  have lt0 : ∀ x ∈ p0, x.block < W.heap.size := by obtain ⟨m, hm⟩ := k0; exact DataW.trod_lt m _ _ _ hm
  obtain ⟨A0, bs0, cap0, rfl, hh0, hlen0, hcap0⟩ := open8 (hval 0 22 v0 rfl rfl) k0
  clear hA0 hval0
  refine (sums_walk bs0 A0 cap0 hlen0 W hh0).mono fun e W' ⟨he, bel⟩ => ?_
  subst he
  exact ⟨_, rfl, _, _, _, [], _, [], hW', trodAll_mk1 (shut_bool Try.underlying4 _), (trodAll_cons_mk (Below.trod laidOut (by kernel_rfl) (of_decide_eq_true (by kernel_rfl)) k0 bel lt0) trodAll_mk0), rfl, bel.frame _, fun h => by cases h⟩

theorem sums_over : Rows.shaSumsRow.holds Try.pinned (OpenSpec.ofChange Rows.shaSumsSpec) :=
  OpenClaim.holds_of_wide 3 Try.f3 rfl rfl rfl rfl rfl rfl rfl ⟨rfl, rfl, rfl, rfl, rfl⟩ rfl rfl rfl rfl rfl (by kernel_rfl) Try.func3 (by kernel_rfl)
    (of_decide_eq_true (by kernel_rfl)) (by unfold Func.isWrapper; first | (rw [if_pos (by decide +kernel)]; kernel_rfl) | (rw [if_neg (by decide +kernel)]; exact ⟨rfl, rfl⟩))
    (fun os started H enc _ => sums_lifted os started H enc)

/-- The hash of any message (at most 3,000 bytes), its double one and its short one are the document's; the message stays, and what is answered is new memory. No condition. -/
theorem sums_proved : Rows.ShaSumsSaid := sums_over
#print axioms sums_proved
end Go.Proofs.Ytfpgjabbpcndfaa.Oct
