/- SignJudges is true at every input. No condition. -/
import Derived.Test.YtijobhpmaenjlaaSigF
import Derived.Deep.Cut
namespace Go.Proofs.Ytijobhpmaenjlaa.Oct
set_option linter.unusedVariables false
set_option linter.unusedSimpArgs false
open Go.Proofs.Ytijobhpmaenjlaa Go.RowKit Go.Lib Go.Shelf Go.ChangeShapes Go.WideShapes Go.ChangeAt

theorem own_row {w : World} {base : Nat} {v : Value} {bs : List UInt8} (h : w.ownsRow base 5 1 v bs.length (vals bs)) (hne : 0 < bs.length) :
    ∃ g c cur, v = .slice (some ⟨g, 0, none⟩) bs.length c ∧ base ≤ g ∧ w.heap[g]? = some (.cells cur 5 (0, 0)) ∧ bs.length ≤ c ∧ ∀ i, i < bs.length → cur[i]? = some (.int .u8 (((bs.getD i 0).toNat : Nat) : Int)) := by
  rcases h.2 with ⟨_, h0⟩ | ⟨g, cap, cur, rfl, hg, hc, hn, _, hs, ht⟩
  · omega
  · refine ⟨g, cap, cur, rfl, hg, hc, hn, fun i hi => ?_⟩
    have h1 := vals_get bs i hi
    rw [← ht, List.getElem?_take_of_lt (by omega), Array.getElem?_toList] at h1
    rw [h1, List.getD, List.getElem?_eq_getElem hi]
    rfl
theorem holds_row {w W : World} {l : List (Nat × Array Value × TypeId)} {k g : Nat} {cur : Array Value} {t : TypeId} {bs : List UInt8} (h : Keeps w l W) (hk : l[k]? = some (g, cur, t)) (hc : ∀ i, i < bs.length → cur[i]? = some (.int .u8 (((bs.getD i 0).toNat : Nat) : Int))) : Holds8 W.heap.size W (some ⟨g, 0, none⟩) bs :=
  .inr ⟨g, 0, rfl, h.lt k hk, fun j hj => by
    rw [h.cell k hk (0 + j), Nat.zero_add, hc j hj]
    simp [List.getD, hj]⟩
theorem own_emptyB (w : World) (base : Nat) (h : base ≤ w.heap.size) : (w.alloc (.cells #[] 5)).ownsRow base 5 1 (.slice (some ⟨w.heap.size, 0, none⟩) 0 0) 0 [] :=
  ⟨rfl, .inr ⟨w.heap.size, 0, #[], rfl, h, heap_alloc_new w _, Nat.le_refl _, by simp, rfl, rfl⟩⟩
theorem str_snoc (bs : List UInt8) (x : UInt8) : ((⟨bs.toArray⟩ : ByteArray) ++ (⟨#[x]⟩ : ByteArray)) = ⟨(bs ++ [x]).toArray⟩ := by
  apply ByteArray.ext
  simp [ByteArray.data_append]
/-- A row that was made of nothing, then of one byte more. -/
theorem two_rows {w W w1 w2 : World} {l : List (Nat × Array Value × TypeId)} (hK : Keeps w l W) {v1 v2 : Value} {p : List UInt8} {x : UInt8} {cs : Array Value} (hb1 : Below W.heap.size W w1) (hgr : (w1.alloc (.cells cs 5)).grownBy w2 v1.ownBlock)
    (hown1 : w1.ownsRow W.heap.size 5 1 v1 p.length (vals p)) (hown2 : w2.ownsRow W.heap.size 5 1 v2 (p ++ [x]).length (vals (p ++ [x]))) :
    ∃ g c cur, v2 = .slice (some ⟨g, 0, none⟩) (p ++ [x]).length c ∧ Keeps w (l ++ [(g, cur, 5)]) w2 ∧ (p ++ [x]).length ≤ c ∧ ∀ i, i < (p ++ [x]).length → cur[i]? = some (.int .u8 ((((p ++ [x]).getD i 0).toNat : Nat) : Int)) := by
  obtain ⟨g, c, cur, e, hg, hc, hn, hcur⟩ := own_row hown2 (by simp)
  exact ⟨g, c, cur, e, hK.gain ((hb1.alloc hb1.size _).grown hgr (by rw [World.size_alloc]; have := hb1.size; omega) (own_row_ge hown1)) hg hc, hn, hcur⟩
theorem fst_cells {p : List UInt8} {x : UInt8} {cur : Array Value} (h : ∀ i, i < (p ++ [x]).length → cur[i]? = some (.int .u8 ((((p ++ [x]).getD i 0).toNat : Nat) : Int))) : ∀ i, i < p.length → cur[i]? = some (.int .u8 (((p.getD i 0).toNat : Nat) : Int)) := fun i hi => by
  rw [h i (by rw [List.length_append]; omega)]
  simp [List.getD, List.getElem?_append_left hi]
set_option maxRecDepth 100000 in
set_option maxHeartbeats 8000000 in
theorem sjudges_walk (w : World) (p s d : List UInt8) (P S : Option Addr) (pc sc : Nat) (hd : d.length = 32) (hpc : p.length ≤ pc) (hsc : s.length ≤ sc) (hp8 : Holds8 w.heap.size w P p) (hs8 : Holds8 w.heap.size w S s) :
    Calls Try.prog 4 #[.slice P p.length pc, .slice S s.length sc, .agg (arr8 d)] w fun e w' => e = .returned (.bool true) ∧ Below w.heap.size w w' := by
  have HP := Lib.hid hp8
  have HQ := Lib.hid hs8
  obtain ⟨L, hL⟩ : ∃ L, p.length = L := ⟨_, rfl⟩
  obtain ⟨M, hM⟩ : ∃ M, s.length = M := ⟨_, rfl⟩
  rw [hL] at hpc ⊢
  rw [hM] at hsc ⊢
  have HL := Lib.hid hL
  have HM := Lib.hid hM
  clear hL hM hp8 hs8
  by_cases hbig : 200 < L
  · go_enter Try.func4, Try.ntmps4
    go_wp2
    go_ret
    exact ⟨rfl, (Below.refl _ _).alloc (Nat.le_refl _) _⟩
  · have d1 : decide ((200 : Int) < (L : Int)) = false := by simp; omega
    by_cases hbig2 : 200 < M
    · clear hbig
      go_enter Try.func4, Try.ntmps4
      go_wp2
      go_ret
      exact ⟨rfl, (Below.refl _ _).alloc (Nat.le_refl _) _⟩
    · have d2 : decide ((200 : Int) < (M : Int)) = false := by simp; omega
      have hsm : L ≤ 200 := by omega
      have hsm2 : M ≤ 200 := by omega
      clear hbig hbig2
      have HP8 : Hid (∀ W, Below w.heap.size w W → Holds8 W.heap.size W P p) := Lib.hid fun W hb => (HP.out.below hb (Nat.le_refl _)).more hb.size
      have HS8 : Hid (∀ W, Below w.heap.size w W → Holds8 W.heap.size W S s) := Lib.hid fun W hb => (HQ.out.below hb (Nat.le_refl _)).more hb.size
      have C1 := fun W (X Y : Option Addr) (c e : Nat) (h1 : Holds8 W.heap.size W X p) (h2 : Holds8 W.heap.size W Y s) (k1 : L ≤ c) (k2 : M ≤ e) => is_any W X Y L c M e p s d hd h1 h2 HL.out HM.out k1 k2
      have C2 := fun W (X Y : Option Addr) (c e : Nat) (h1 : Holds8 W.heap.size W X p) (h2 : Holds8 W.heap.size W Y s) => ris_any W X Y L c M e p s d hd h1 h2 HL.out HM.out
      have C3 := fun W => public_any W d hd
      have C4 := fun W => rpublic_any W d hd
      have hKl : (sha d).length = 32 := hashOf_length _
      generalize isB p s d = IB at *
      generalize sha d = KH at *
      have CI := Lib.hid C1
      have RI := Lib.hid C2
      have CP := Lib.hid C3
      have RP := Lib.hid C4
      have HD := Lib.hid hd
      have HKl := Lib.hid hKl
      have HN1 := Lib.hid (show (p ++ [7]).length = L + 1 by rw [List.length_append, HL.out]; rfl)
      have HN2 := Lib.hid (show (s ++ [7]).length = M + 1 by rw [List.length_append, HM.out]; rfl)
      have HON := Lib.hid (fun W : World => holds_one W 7)
      have hK0 := (Keeps.nil w).new (arr8 d) 23
      rw [List.nil_append] at hK0
      clear C1 C2 C3 C4 hd hKl
      go_enter Try.func4, Try.ntmps4
      go_upto_region 3 with fail
      obtain ⟨W0, hW0⟩ : ∃ W0, w.alloc (.cells (arr8 d) 23) = W0 := ⟨_, rfl⟩
      rw [hW0] at hK0 ⊢
      have HB0 := Lib.hid (hK0.bel.alloc hK0.bel.size (.cells #[] 5))
      clear hW0
      go_wp2_with (first
        | (at_builtin; refine wpList_append_bytes rfl (.tmp 18) (.tmp 19) rfl W0.heap.size _ (.slice (some ⟨W0.heap.size, 0, none⟩) 0 0) [] p rfl (own_emptyB W0 _ (Nat.le_refl _)) P pc (by rw [HL.out]; rfl) (HP8.out _ HB0.out) (by rw [HL.out]; show 0 + L ≤ _; omega) (by rw [World.size_alloc]; omega) ?_; intro v1 w1 hown1 hgr1 hv1; rw [List.nil_append] at hown1; have hb1 := ((Below.refl W0.heap.size W0).alloc (Nat.le_refl _) (.cells #[] 5)).grown hgr1 (by rw [World.size_alloc]; omega) (fun k hk => (by have h2 : some W0.heap.size = some k := hk; injection h2 with h2; omega)))
        | (at_builtin; refine wpList_append_bytes rfl (.tmp 20) (.tmp 21) rfl W0.heap.size _ _ p [7] rfl (ownsRow_below hown1 ((Below.refl _ _).alloc (Nat.le_refl _) _)) (some ⟨w1.heap.size, 0, none⟩) 1 rfl (HON.out w1) (by rw [HL.out, List.length_singleton]; omega) (by have := hb1.size; rw [World.size_alloc]; omega) ?_; intro v2 w2 hown2 hgr2 hv2; obtain ⟨g2, c2, cur2, rfl, hK2, hn2, hcur2⟩ := two_rows hK0 hb1 hgr2 hown1 hown2; rw [HN1.out]; have HC2 := Lib.hid hcur2; rw [HN1.out] at hn2; have HB2 := Lib.hid (hK2.bel.alloc hK2.bel.size (.cells #[] 5)); clear hown1 hgr1 hv1 hb1 hown2 hgr2 hv2 hcur2 hK0)
        | (at_builtin; refine wpList_append_bytes rfl (.tmp 23) (.tmp 24) rfl w2.heap.size _ (.slice (some ⟨w2.heap.size, 0, none⟩) 0 0) [] s rfl (own_emptyB w2 _ (Nat.le_refl _)) S sc (by rw [HM.out]; rfl) (HS8.out _ HB2.out) (by rw [HM.out]; show 0 + M ≤ _; omega) (by rw [World.size_alloc]; omega) ?_; intro v3 w3 hown3 hgr3 hv3; rw [List.nil_append] at hown3; have hb3 := ((Below.refl w2.heap.size w2).alloc (Nat.le_refl _) (.cells #[] 5)).grown hgr3 (by rw [World.size_alloc]; omega) (fun k hk => (by have h2 : some w2.heap.size = some k := hk; injection h2 with h2; omega)))
        | (at_builtin; refine wpList_append_bytes rfl (.tmp 25) (.tmp 26) rfl w2.heap.size _ _ s [7] rfl (ownsRow_below hown3 ((Below.refl _ _).alloc (Nat.le_refl _) _)) (some ⟨w3.heap.size, 0, none⟩) 1 rfl (HON.out w3) (by rw [HM.out, List.length_singleton]; omega) (by have := hb3.size; rw [World.size_alloc]; omega) ?_; intro v4 w4 hown4 hgr4 hv4; obtain ⟨g4, c4, cur4, rfl, hI0, hn4, hcur4⟩ := two_rows hK2 hb3 hgr4 hown3 hown4; rw [HN2.out]; have HC4 := Lib.hid hcur4; rw [HN2.out] at hn4; simp only [List.cons_append, List.nil_append] at hI0; clear hown3 hgr3 hv3 hb3 hown4 hgr4 hv4 hcur4 hK2))
      have HCP := Lib.hid (fst_cells HC2.out)
      have HCS := Lib.hid (fst_cells HC4.out)
      refine wp_region_phased 67 rfl (fun _ _ W W' => Below W.heap.size W W') (fun p W1 => Keeps w [(w.heap.size, arr8 d, 23), (g2, cur2, 5), (g4, cur4, 5)] W1) [.is (.slice (some ⟨g2, 0, none⟩) (L + 1) c2), .is (.slice P L pc), .is (.int .i64 (L : Int)), .is (.slice (some ⟨g2, 0, none⟩) L c2), .is (.slice (some ⟨g4, 0, none⟩) (M + 1) c4), .is (.slice S M sc), .is (.int .i64 (M : Int)), .is (.slice (some ⟨g4, 0, none⟩) M c4), .is (.agg (arr8 d)), .is (.bool IB), .is (.bool IB)] [] [0, 0, 0, 0, 0, 0, 0, 0, 0, 0, 0] [0, 0, 0, 0, 0, 0, 0, 0, 0, 0, 0] (by kernel_rfl) (by kernel_rfl) (by kernel_rfl) (fun _ _ W => Below.refl _ W) (hI0.drew) ⟨?ob0, ?ob1, ?ob2, ?ob3, ?ob4, ?ob5, ?ob6, ?ob7, ?ob8, ?ob9, ?ob10, trivial⟩ ?obend
      case ob0 => as_aux_lemma =>
        intro p vals W1 F hF hlo hhi hI hd
        have hp : p = 0 := Nat.le_antisymm hhi hlo
        subst hp
        clear hlo hhi
        have E7 : F.eval (.tmp 7) = .slice (some ⟨g2, 0, none⟩) (L + 1) c2 := hF.out_ (by kernel_rfl) rfl
        refine .inr ⟨wanted_none rfl, .inl ⟨.slice (some ⟨g2, 0, none⟩) (L + 1) c2, ?_, hI, TyP.of_is rfl⟩⟩
        simp only [execOp, E7, Sem.run_pure]
      case ob1 => as_aux_lemma =>
        intro p vals W1 F hF hlo hhi hI hd
        have hp : p = 0 := Nat.le_antisymm hhi hlo
        subst hp
        clear hlo hhi
        have E0 : F.eval (.tmp 0) = .slice P L pc := hF.out_ (by kernel_rfl) rfl
        refine .inr ⟨wanted_none rfl, .inl ⟨.slice P L pc, ?_, hI, TyP.of_is rfl⟩⟩
        simp only [execOp, E0, Sem.run_pure]
      case ob2 => as_aux_lemma =>
        intro p vals W1 F hF hlo hhi hI hd
        have hp : p = 0 := Nat.le_antisymm hhi hlo
        subst hp
        clear hlo hhi
        have d1 : vals 1 = .slice P L pc := hd ⟨1, .data⟩ (Array.mem_of_getElem? (i := 0) rfl) rfl (show (0 : Nat) ≤ 1000 by decide)
        have E29 := eval_some (hF.own_ 1 rfl rfl (by kernel_rfl) (by decide)); rw [d1] at E29
        refine .inr ⟨wanted_none rfl, .inl ⟨.int .i64 (L : Int), ?_, hI, TyP.of_is rfl⟩⟩
        have Ec : ∀ v, F.eval (.const v) = v := fun _ => rfl; have Ef : ∀ f, F.eval (.func f) = .func (.func f) #[] #[] := fun _ => rfl; clear hF hd; generalize F.eval = ρ at E29 Ec Ef ⊢
        simp [execOp, go_sem, Ec, E29]
      case ob3 => as_aux_lemma =>
        intro p vals W1 F hF hlo hhi hI hd
        have hp : p = 0 := Nat.le_antisymm hhi hlo
        subst hp
        clear hlo hhi
        have d0 : vals 0 = .slice (some ⟨g2, 0, none⟩) (L + 1) c2 := hd ⟨0, .data⟩ (Array.mem_of_getElem? (i := 0) rfl) rfl (show (0 : Nat) ≤ 1000 by decide)
        have d2 : vals 2 = .int .i64 (L : Int) := hd ⟨2, .data⟩ (Array.mem_of_getElem? (i := 1) rfl) rfl (show (0 : Nat) ≤ 1000 by decide)
        have E28 := eval_some (hF.own_ 0 rfl rfl (by kernel_rfl) (by decide)); rw [d0] at E28
        have E30 := eval_some (hF.own_ 2 rfl rfl (by kernel_rfl) (by decide)); rw [d2] at E30
        refine .inr ⟨wanted_none rfl, ?_⟩
        refine .inl ⟨.slice (some ⟨g2, 0, none⟩) L c2, ?_, hI, TyP.of_is rfl⟩
        have Ec : ∀ v, F.eval (.const v) = v := fun _ => rfl; have Ef : ∀ f, F.eval (.func f) = .func (.func f) #[] #[] := fun _ => rfl; clear hF hd; generalize F.eval = ρ at E28 E30 Ec Ef ⊢
        exact slice_toS (some ⟨g2, 0, none⟩) (L + 1) c2 L (.inr ⟨g2, 0, rfl⟩) E28 E30 (Nat.le_succ L) hn2 W1
      case ob4 => as_aux_lemma =>
        intro p vals W1 F hF hlo hhi hI hd
        have hp : p = 0 := Nat.le_antisymm hhi hlo
        subst hp
        clear hlo hhi
        have E8 : F.eval (.tmp 8) = .slice (some ⟨g4, 0, none⟩) (M + 1) c4 := hF.out_ (by kernel_rfl) rfl
        refine .inr ⟨wanted_none rfl, .inl ⟨.slice (some ⟨g4, 0, none⟩) (M + 1) c4, ?_, hI, TyP.of_is rfl⟩⟩
        simp only [execOp, E8, Sem.run_pure]
      case ob5 => as_aux_lemma =>
        intro p vals W1 F hF hlo hhi hI hd
        have hp : p = 0 := Nat.le_antisymm hhi hlo
        subst hp
        clear hlo hhi
        have E1 : F.eval (.tmp 1) = .slice S M sc := hF.out_ (by kernel_rfl) rfl
        refine .inr ⟨wanted_none rfl, .inl ⟨.slice S M sc, ?_, hI, TyP.of_is rfl⟩⟩
        simp only [execOp, E1, Sem.run_pure]
      case ob6 => as_aux_lemma =>
        intro p vals W1 F hF hlo hhi hI hd
        have hp : p = 0 := Nat.le_antisymm hhi hlo
        subst hp
        clear hlo hhi
        have d5 : vals 5 = .slice S M sc := hd ⟨5, .data⟩ (Array.mem_of_getElem? (i := 0) rfl) rfl (show (0 : Nat) ≤ 1000 by decide)
        have E33 := eval_some (hF.own_ 5 rfl rfl (by kernel_rfl) (by decide)); rw [d5] at E33
        refine .inr ⟨wanted_none rfl, .inl ⟨.int .i64 (M : Int), ?_, hI, TyP.of_is rfl⟩⟩
        have Ec : ∀ v, F.eval (.const v) = v := fun _ => rfl; have Ef : ∀ f, F.eval (.func f) = .func (.func f) #[] #[] := fun _ => rfl; clear hF hd; generalize F.eval = ρ at E33 Ec Ef ⊢
        simp [execOp, go_sem, Ec, E33]
      case ob7 => as_aux_lemma =>
        intro p vals W1 F hF hlo hhi hI hd
        have hp : p = 0 := Nat.le_antisymm hhi hlo
        subst hp
        clear hlo hhi
        have d4 : vals 4 = .slice (some ⟨g4, 0, none⟩) (M + 1) c4 := hd ⟨4, .data⟩ (Array.mem_of_getElem? (i := 0) rfl) rfl (show (0 : Nat) ≤ 1000 by decide)
        have d6 : vals 6 = .int .i64 (M : Int) := hd ⟨6, .data⟩ (Array.mem_of_getElem? (i := 1) rfl) rfl (show (0 : Nat) ≤ 1000 by decide)
        have E32 := eval_some (hF.own_ 4 rfl rfl (by kernel_rfl) (by decide)); rw [d4] at E32
        have E34 := eval_some (hF.own_ 6 rfl rfl (by kernel_rfl) (by decide)); rw [d6] at E34
        refine .inr ⟨wanted_none rfl, ?_⟩
        refine .inl ⟨.slice (some ⟨g4, 0, none⟩) M c4, ?_, hI, TyP.of_is rfl⟩
        have Ec : ∀ v, F.eval (.const v) = v := fun _ => rfl; have Ef : ∀ f, F.eval (.func f) = .func (.func f) #[] #[] := fun _ => rfl; clear hF hd; generalize F.eval = ρ at E32 E34 Ec Ef ⊢
        exact slice_toS (some ⟨g4, 0, none⟩) (M + 1) c4 M (.inr ⟨g4, 0, rfl⟩) E32 E34 (Nat.le_succ M) hn4 W1
      case ob8 => as_aux_lemma =>
        intro p vals W1 F hF hlo hhi hI hd
        have hp : p = 0 := Nat.le_antisymm hhi hlo
        subst hp
        clear hlo hhi
        have E5 : F.eval (.tmp 5) = .pointer (some ⟨w.heap.size, 0, none⟩) := hF.out_ (by kernel_rfl) rfl
        refine .inr ⟨wanted_none rfl, ?_⟩
        have hl := run_loadVar_row (P := Try.prog) W1 w.heap.size 23 23 (arr8 d) (0, 0) _ (hI.get 0 rfl) Try.underlying23 rfl (infoH _ HD.out)
        refine .inl ⟨.agg (arr8 d), ?_, hI, TyP.of_is rfl⟩
        have Ec : ∀ v, F.eval (.const v) = v := fun _ => rfl; have Ef : ∀ f, F.eval (.func f) = .func (.func f) #[] #[] := fun _ => rfl; clear hF hd; generalize F.eval = ρ at E5 Ec Ef ⊢
        simp only [execOp, E5, Instr.loadAt, Instr.sureAddr, Sem.run_bind, Sem.run_pure, Result.andThen_ok, hl]
      case ob9 => as_aux_lemma =>
        intro p vals W1 F hF hlo hhi hI hd
        have hp : p = 0 := Nat.le_antisymm hhi hlo
        subst hp
        clear hlo hhi
        have d3 : vals 3 = .slice (some ⟨g2, 0, none⟩) L c2 := hd ⟨3, .data⟩ (Array.mem_of_getElem? (i := 0) rfl) rfl (show (0 : Nat) ≤ 1000 by decide)
        have d7 : vals 7 = .slice (some ⟨g4, 0, none⟩) M c4 := hd ⟨7, .data⟩ (Array.mem_of_getElem? (i := 1) rfl) rfl (show (0 : Nat) ≤ 1000 by decide)
        have d8 : vals 8 = .agg (arr8 d) := hd ⟨8, .data⟩ (Array.mem_of_getElem? (i := 2) rfl) rfl (show (0 : Nat) ≤ 1000 by decide)
        have E31 := eval_some (hF.own_ 3 rfl rfl (by kernel_rfl) (by decide)); rw [d3] at E31
        have E35 := eval_some (hF.own_ 7 rfl rfl (by kernel_rfl) (by decide)); rw [d7] at E35
        have E36 := eval_some (hF.own_ 8 rfl rfl (by kernel_rfl) (by decide)); rw [d8] at E36
        refine .inr ⟨wanted_none rfl, ?_⟩
        refine .inr (.inr (.inl ⟨13, #[.slice (some ⟨g2, 0, none⟩) L c2, .slice (some ⟨g4, 0, none⟩) M c4, .agg (arr8 d)], ?_, (CI.out W1 _ _ _ _ (holds_row (k := 1) hI rfl HCP.out) (holds_row (k := 2) hI rfl HCS.out) (by omega) (by omega)).mono ?_⟩))
        · have Ec : ∀ v, F.eval (.const v) = v := fun _ => rfl; have Ef : ∀ f, F.eval (.func f) = .func (.func f) #[] #[] := fun _ => rfl; clear hF hd; generalize F.eval = ρ at E31 E35 E36 Ec Ef ⊢
          simp [execOp, go_sem, Ec, Ef, E31, E35, E36]
        rintro e W2 ⟨rfl, hb⟩
        exact ⟨_, rfl, hb, hI.call hb, TyP.of_is rfl⟩
      case ob10 => as_aux_lemma =>
        intro p vals W1 F hF hlo hhi hI hd
        have hp : p = 0 := Nat.le_antisymm hhi hlo
        subst hp
        clear hlo hhi
        have d9 : vals 9 = .bool IB := hd ⟨9, .data⟩ (Array.mem_of_getElem? (i := 0) rfl) rfl (show (0 : Nat) ≤ 1000 by decide)
        have E37 := eval_some (hF.own_ 9 rfl rfl (by kernel_rfl) (by decide)); rw [d9] at E37
        refine .inr ⟨wanted_none rfl, .inl ⟨.bool IB, ?_, hI, TyP.of_is rfl⟩⟩
        simp only [execOp, E37, Sem.run_pure]
      case obend =>
        intro vals W1 F hF hdef hI hT
        have hv : vals 10 = .bool IB := hT 10 (by decide) (show (0 : Nat) ≤ 1000 by decide)
        rename_i K hK9
        refine hK9 _ _ ?_
        rw [hF.act]
        simp only [fin, Act.put, List.setIfInBounds_toArray, List.set_cons_succ, List.set_cons_zero]
        rw [hv]
        clear hF hT hv
        have hI5 := hI
        clear hI hI0
        obtain ⟨PB, hPB⟩ : ∃ x : ByteArray, x = ⟨(p ++ [7]).toArray⟩ := ⟨_, rfl⟩
        obtain ⟨SB, hSB⟩ : ∃ x : ByteArray, x = ⟨(s ++ [7]).toArray⟩ := ⟨_, rfl⟩
        have HPN := Lib.hid (str_snoc p 7)
        have HSN := Lib.hid (str_snoc s 7)
        rw [← hPB] at HPN
        rw [← hSB] at HSN
        have HPB := Lib.hid hPB
        have HSB := Lib.hid hSB
        clear hPB hSB
        go_wp2
        refine wp_region_phased 67 rfl (fun _ _ W W' => Below W.heap.size W W') (fun p W1 => Keeps w [(w.heap.size, arr8 d, 23), (g2, cur2, 5), (g4, cur4, 5)] W1) [.is (.bool IB), .is (.slice P L pc), .is (.slice S M sc), .is (.agg (arr8 d)), .is (.bool IB), .is (.bool true), .is (.bool true), .is (.slice (some ⟨g2, 0, none⟩) (L + 1) c2), .is (.string PB), .is (.slice P L pc), .is (.string ⟨p.toArray⟩), .is (.string PB), .is (.bool true), .is (.bool true), .is (.bool true), .is (.slice (some ⟨g4, 0, none⟩) (M + 1) c4), .is (.string SB), .is (.slice S M sc), .is (.string ⟨s.toArray⟩), .is (.string SB), .is (.bool true), .is (.bool true), .is (.bool true), .is (.agg (arr8 d)), .is (.agg (arr8 KH)), .is (.agg (arr8 d)), .is (.agg (arr8 KH)), .is (.bool true), .is (.bool true), .is (.bool true)] [] [0, 0, 0, 0, 0, 0, 0, 0, 0, 0, 0, 0, 0, 0, 0, 0, 0, 0, 0, 0, 0, 0, 0, 0, 0, 0, 0, 0, 0, 0] [0, 0, 0, 0, 0, 0, 0, 0, 0, 0, 0, 0, 0, 0, 0, 0, 0, 0, 0, 0, 0, 0, 0, 0, 0, 0, 0, 0, 0, 0] (by kernel_rfl) (by kernel_rfl) (by kernel_rfl) (fun _ _ W => Below.refl _ W) (hI5.drew) ⟨?oc0, ?oc1, ?oc2, ?oc3, ?oc4, ?oc5, ?oc6, ?oc7, ?oc8, ?oc9, ?oc10, ?oc11, ?oc12, ?oc13, ?oc14, ?oc15, ?oc16, ?oc17, ?oc18, ?oc19, ?oc20, ?oc21, ?oc22, ?oc23, ?oc24, ?oc25, ?oc26, ?oc27, ?oc28, ?oc29, trivial⟩ ?ocend
        case oc0 => as_aux_lemma =>
          intro p vals2 W1 F hF hlo hhi hI hd
          have hp : p = 0 := Nat.le_antisymm hhi hlo
          subst hp
          clear hlo hhi
          have E9 : F.eval (.tmp 9) = .bool IB := hF.out_ (by kernel_rfl) rfl
          refine .inr ⟨wanted_none rfl, .inl ⟨.bool IB, ?_, hI, TyP.of_is rfl⟩⟩
          simp only [execOp, E9, Sem.run_pure]
        case oc1 => as_aux_lemma =>
          intro p vals2 W1 F hF hlo hhi hI hd
          have hp : p = 0 := Nat.le_antisymm hhi hlo
          subst hp
          clear hlo hhi
          have E0 : F.eval (.tmp 0) = .slice P L pc := hF.out_ (by kernel_rfl) rfl
          refine .inr ⟨wanted_none rfl, .inl ⟨.slice P L pc, ?_, hI, TyP.of_is rfl⟩⟩
          simp only [execOp, E0, Sem.run_pure]
        case oc2 => as_aux_lemma =>
          intro p vals2 W1 F hF hlo hhi hI hd
          have hp : p = 0 := Nat.le_antisymm hhi hlo
          subst hp
          clear hlo hhi
          have E1 : F.eval (.tmp 1) = .slice S M sc := hF.out_ (by kernel_rfl) rfl
          refine .inr ⟨wanted_none rfl, .inl ⟨.slice S M sc, ?_, hI, TyP.of_is rfl⟩⟩
          simp only [execOp, E1, Sem.run_pure]
        case oc3 => as_aux_lemma =>
          intro p vals2 W1 F hF hlo hhi hI hd
          have hp : p = 0 := Nat.le_antisymm hhi hlo
          subst hp
          clear hlo hhi
          have E5 : F.eval (.tmp 5) = .pointer (some ⟨w.heap.size, 0, none⟩) := hF.out_ (by kernel_rfl) rfl
          refine .inr ⟨wanted_none rfl, ?_⟩
          have hl := run_loadVar_row (P := Try.prog) W1 w.heap.size 23 23 (arr8 d) (0, 0) _ (hI.get 0 rfl) Try.underlying23 rfl (infoH _ HD.out)
          refine .inl ⟨.agg (arr8 d), ?_, hI, TyP.of_is rfl⟩
          have Ec : ∀ v, F.eval (.const v) = v := fun _ => rfl; have Ef : ∀ f, F.eval (.func f) = .func (.func f) #[] #[] := fun _ => rfl; clear hF hd; generalize F.eval = ρ at E5 Ec Ef ⊢
          simp only [execOp, E5, Instr.loadAt, Instr.sureAddr, Sem.run_bind, Sem.run_pure, Result.andThen_ok, hl]
        case oc4 => as_aux_lemma =>
          intro p vals2 W1 F hF hlo hhi hI hd
          have hp : p = 0 := Nat.le_antisymm hhi hlo
          subst hp
          clear hlo hhi
          have d1 : vals2 1 = .slice P L pc := hd ⟨1, .data⟩ (Array.mem_of_getElem? (i := 0) rfl) rfl (show (0 : Nat) ≤ 1000 by decide)
          have d2 : vals2 2 = .slice S M sc := hd ⟨2, .data⟩ (Array.mem_of_getElem? (i := 1) rfl) rfl (show (0 : Nat) ≤ 1000 by decide)
          have d3 : vals2 3 = .agg (arr8 d) := hd ⟨3, .data⟩ (Array.mem_of_getElem? (i := 2) rfl) rfl (show (0 : Nat) ≤ 1000 by decide)
          have E39 := eval_some (hF.own_ 1 rfl rfl (by kernel_rfl) (by decide)); rw [d1] at E39
          have E40 := eval_some (hF.own_ 2 rfl rfl (by kernel_rfl) (by decide)); rw [d2] at E40
          have E41 := eval_some (hF.own_ 3 rfl rfl (by kernel_rfl) (by decide)); rw [d3] at E41
          refine .inr ⟨wanted_none rfl, ?_⟩
          refine .inr (.inr (.inl ⟨14, #[.slice P L pc, .slice S M sc, .agg (arr8 d)], ?_, (RI.out W1 _ _ _ _ (HP8.out W1 hI.bel) (HS8.out W1 hI.bel)).mono ?_⟩))
          · have Ec : ∀ v, F.eval (.const v) = v := fun _ => rfl; have Ef : ∀ f, F.eval (.func f) = .func (.func f) #[] #[] := fun _ => rfl; clear hF hd; generalize F.eval = ρ at E39 E40 E41 Ec Ef ⊢
            simp [execOp, go_sem, Ec, Ef, E39, E40, E41]
          rintro e W2 ⟨rfl, hb⟩
          exact ⟨_, rfl, hb, hI.call hb, TyP.of_is rfl⟩
        case oc5 => as_aux_lemma =>
          intro p vals2 W1 F hF hlo hhi hI hd
          have hp : p = 0 := Nat.le_antisymm hhi hlo
          subst hp
          clear hlo hhi
          have d0 : vals2 0 = .bool IB := hd ⟨0, .data⟩ (Array.mem_of_getElem? (i := 0) rfl) rfl (show (0 : Nat) ≤ 1000 by decide)
          have d4 : vals2 4 = .bool IB := hd ⟨4, .data⟩ (Array.mem_of_getElem? (i := 1) rfl) rfl (show (0 : Nat) ≤ 1000 by decide)
          have E38 := eval_some (hF.own_ 0 rfl rfl (by kernel_rfl) (by decide)); rw [d0] at E38
          have E42 := eval_some (hF.own_ 4 rfl rfl (by kernel_rfl) (by decide)); rw [d4] at E42
          refine .inr ⟨wanted_none rfl, .inl ⟨.bool true, ?_, hI, TyP.of_is rfl⟩⟩
          have Ec : ∀ v, F.eval (.const v) = v := fun _ => rfl; have Ef : ∀ f, F.eval (.func f) = .func (.func f) #[] #[] := fun _ => rfl; clear hF hd; generalize F.eval = ρ at E38 E42 Ec Ef ⊢
          simp [execOp, go_sem, Ec, E38, E42]
        case oc6 => as_aux_lemma =>
          intro p vals2 W1 F hF hlo hhi hI hd
          have hp : p = 0 := Nat.le_antisymm hhi hlo
          subst hp
          clear hlo hhi
          have d5 : vals2 5 = .bool true := hd ⟨5, .data⟩ (Array.mem_of_getElem? (i := 0) rfl) rfl (show (0 : Nat) ≤ 1000 by decide)
          have E43 := eval_some (hF.own_ 5 rfl rfl (by kernel_rfl) (by decide)); rw [d5] at E43
          refine .inr ⟨wanted_none rfl, .inl ⟨.bool true, ?_, hI, TyP.of_is rfl⟩⟩
          simp only [execOp, E43, Sem.run_pure]
        case oc7 => as_aux_lemma =>
          intro p vals2 W1 F hF hlo hhi hI hd
          have hp : p = 0 := Nat.le_antisymm hhi hlo
          subst hp
          clear hlo hhi
          have d6 : vals2 6 = .bool true := hd ⟨6, .guard⟩ (Array.mem_of_getElem? (i := 0) rfl) rfl (show (0 : Nat) ≤ 1000 by decide)
          have E7 : F.eval (.tmp 7) = .slice (some ⟨g2, 0, none⟩) (L + 1) c2 := hF.out_ (by kernel_rfl) rfl
          have G := hF.own_ 6 rfl rfl (by kernel_rfl) (by decide); rw [d6] at G
          refine .inr ⟨wanted_yes rfl rfl rfl G, .inl ⟨.slice (some ⟨g2, 0, none⟩) (L + 1) c2, ?_, hI, TyP.of_is rfl⟩⟩
          simp only [execOp, E7, Sem.run_pure]
        case oc8 => as_aux_lemma =>
          intro p vals2 W1 F hF hlo hhi hI hd
          have hp : p = 0 := Nat.le_antisymm hhi hlo
          subst hp
          clear hlo hhi
          have d6 : vals2 6 = .bool true := hd ⟨6, .guard⟩ (Array.mem_of_getElem? (i := 1) rfl) rfl (show (0 : Nat) ≤ 1000 by decide)
          have d7 : vals2 7 = .slice (some ⟨g2, 0, none⟩) (L + 1) c2 := hd ⟨7, .data⟩ (Array.mem_of_getElem? (i := 0) rfl) rfl (show (0 : Nat) ≤ 1000 by decide)
          have E45 := eval_some (hF.own_ 7 rfl rfl (by kernel_rfl) (by decide)); rw [d7] at E45
          have G := hF.own_ 6 rfl rfl (by kernel_rfl) (by decide); rw [d6] at G
          refine .inr ⟨wanted_yes rfl rfl rfl G, ?_⟩
          have hst := str_of (holds_row (k := 1) hI rfl HC2.out) c2
          refine .inl ⟨.string PB, ?_, hI, TyP.of_is rfl⟩
          have Ec : ∀ v, F.eval (.const v) = v := fun _ => rfl; have Ef : ∀ f, F.eval (.func f) = .func (.func f) #[] #[] := fun _ => rfl; clear hF hd; generalize F.eval = ρ at E45 Ec Ef ⊢
          simp only [execOp, E45]
          rw [HN1.out] at hst
          rw [Sem.run_bind, hst, ← HPB.out]
          rfl
        case oc9 => as_aux_lemma =>
          intro p vals2 W1 F hF hlo hhi hI hd
          have hp : p = 0 := Nat.le_antisymm hhi hlo
          subst hp
          clear hlo hhi
          have d6 : vals2 6 = .bool true := hd ⟨6, .guard⟩ (Array.mem_of_getElem? (i := 0) rfl) rfl (show (0 : Nat) ≤ 1000 by decide)
          have E0 : F.eval (.tmp 0) = .slice P L pc := hF.out_ (by kernel_rfl) rfl
          have G := hF.own_ 6 rfl rfl (by kernel_rfl) (by decide); rw [d6] at G
          refine .inr ⟨wanted_yes rfl rfl rfl G, .inl ⟨.slice P L pc, ?_, hI, TyP.of_is rfl⟩⟩
          simp only [execOp, E0, Sem.run_pure]
        case oc10 => as_aux_lemma =>
          intro p vals2 W1 F hF hlo hhi hI hd
          have hp : p = 0 := Nat.le_antisymm hhi hlo
          subst hp
          clear hlo hhi
          have d6 : vals2 6 = .bool true := hd ⟨6, .guard⟩ (Array.mem_of_getElem? (i := 1) rfl) rfl (show (0 : Nat) ≤ 1000 by decide)
          have d9 : vals2 9 = .slice P L pc := hd ⟨9, .data⟩ (Array.mem_of_getElem? (i := 0) rfl) rfl (show (0 : Nat) ≤ 1000 by decide)
          have E47 := eval_some (hF.own_ 9 rfl rfl (by kernel_rfl) (by decide)); rw [d9] at E47
          have G := hF.own_ 6 rfl rfl (by kernel_rfl) (by decide); rw [d6] at G
          refine .inr ⟨wanted_yes rfl rfl rfl G, ?_⟩
          have hst := str_of (HP8.out W1 hI.bel) pc
          refine .inl ⟨.string ⟨p.toArray⟩, ?_, hI, TyP.of_is rfl⟩
          have Ec : ∀ v, F.eval (.const v) = v := fun _ => rfl; have Ef : ∀ f, F.eval (.func f) = .func (.func f) #[] #[] := fun _ => rfl; clear hF hd; generalize F.eval = ρ at E47 Ec Ef ⊢
          simp only [execOp, E47]
          rw [HL.out] at hst
          rw [Sem.run_bind, hst]
          rfl
        case oc11 => as_aux_lemma =>
          intro p vals2 W1 F hF hlo hhi hI hd
          have hp : p = 0 := Nat.le_antisymm hhi hlo
          subst hp
          clear hlo hhi
          have d6 : vals2 6 = .bool true := hd ⟨6, .guard⟩ (Array.mem_of_getElem? (i := 1) rfl) rfl (show (0 : Nat) ≤ 1000 by decide)
          have d10 : vals2 10 = .string ⟨p.toArray⟩ := hd ⟨10, .data⟩ (Array.mem_of_getElem? (i := 0) rfl) rfl (show (0 : Nat) ≤ 1000 by decide)
          have E48 := eval_some (hF.own_ 10 rfl rfl (by kernel_rfl) (by decide)); rw [d10] at E48
          have G := hF.own_ 6 rfl rfl (by kernel_rfl) (by decide); rw [d6] at G
          have hbl : p.length ≤ 9223372036854775806 := by rw [HL.out]; omega
          refine .inr ⟨wanted_yes rfl rfl rfl G, .inl ⟨.string PB, ?_, hI, TyP.of_is rfl⟩⟩
          have Ec : ∀ v, F.eval (.const v) = v := fun _ => rfl; have Ef : ∀ f, F.eval (.func f) = .func (.func f) #[] #[] := fun _ => rfl; clear hF hd; generalize F.eval = ρ at E48 Ec Ef ⊢
          simp [execOp, go_sem, Ec, E48, HPN.out, hbl]
        case oc12 => as_aux_lemma =>
          intro p vals2 W1 F hF hlo hhi hI hd
          have hp : p = 0 := Nat.le_antisymm hhi hlo
          subst hp
          clear hlo hhi
          have d6 : vals2 6 = .bool true := hd ⟨6, .guard⟩ (Array.mem_of_getElem? (i := 2) rfl) rfl (show (0 : Nat) ≤ 1000 by decide)
          have d8 : vals2 8 = .string PB := hd ⟨8, .data⟩ (Array.mem_of_getElem? (i := 0) rfl) rfl (show (0 : Nat) ≤ 1000 by decide)
          have d11 : vals2 11 = .string PB := hd ⟨11, .data⟩ (Array.mem_of_getElem? (i := 1) rfl) rfl (show (0 : Nat) ≤ 1000 by decide)
          have E46 := eval_some (hF.own_ 8 rfl rfl (by kernel_rfl) (by decide)); rw [d8] at E46
          have E49 := eval_some (hF.own_ 11 rfl rfl (by kernel_rfl) (by decide)); rw [d11] at E49
          have G := hF.own_ 6 rfl rfl (by kernel_rfl) (by decide); rw [d6] at G
          refine .inr ⟨wanted_yes rfl rfl rfl G, .inl ⟨.bool true, ?_, hI, TyP.of_is rfl⟩⟩
          have Ec : ∀ v, F.eval (.const v) = v := fun _ => rfl; have Ef : ∀ f, F.eval (.func f) = .func (.func f) #[] #[] := fun _ => rfl; clear hF hd; generalize F.eval = ρ at E46 E49 Ec Ef ⊢
          simp [execOp, go_sem, Ec, E46, E49]
        case oc13 => as_aux_lemma =>
          intro p vals2 W1 F hF hlo hhi hI hd
          have hp : p = 0 := Nat.le_antisymm hhi hlo
          subst hp
          clear hlo hhi
          have d6 : vals2 6 = .bool true := hd ⟨6, .data⟩ (Array.mem_of_getElem? (i := 0) rfl) rfl (show (0 : Nat) ≤ 1000 by decide)
          have d12 : vals2 12 = .bool true := hd ⟨12, .data⟩ (Array.mem_of_getElem? (i := 1) rfl) rfl (show (0 : Nat) ≤ 1000 by decide)
          have E44 := eval_some (hF.own_ 6 rfl rfl (by kernel_rfl) (by decide)); rw [d6] at E44
          have E50 := eval_some (hF.own_ 12 rfl rfl (by kernel_rfl) (by decide)); rw [d12] at E50
          refine .inr ⟨wanted_none rfl, .inl ⟨.bool true, ?_, hI, TyP.of_is rfl⟩⟩
          have Ec : ∀ v, F.eval (.const v) = v := fun _ => rfl; have Ef : ∀ f, F.eval (.func f) = .func (.func f) #[] #[] := fun _ => rfl; clear hF hd; generalize F.eval = ρ at E44 E50 Ec Ef ⊢
          simp [execOp, go_sem, Ec, E44, E50]
        case oc14 => as_aux_lemma =>
          intro p vals2 W1 F hF hlo hhi hI hd
          have hp : p = 0 := Nat.le_antisymm hhi hlo
          subst hp
          clear hlo hhi
          have d13 : vals2 13 = .bool true := hd ⟨13, .data⟩ (Array.mem_of_getElem? (i := 0) rfl) rfl (show (0 : Nat) ≤ 1000 by decide)
          have E51 := eval_some (hF.own_ 13 rfl rfl (by kernel_rfl) (by decide)); rw [d13] at E51
          refine .inr ⟨wanted_none rfl, .inl ⟨.bool true, ?_, hI, TyP.of_is rfl⟩⟩
          simp only [execOp, E51, Sem.run_pure]
        case oc15 => as_aux_lemma =>
          intro p vals2 W1 F hF hlo hhi hI hd
          have hp : p = 0 := Nat.le_antisymm hhi hlo
          subst hp
          clear hlo hhi
          have d14 : vals2 14 = .bool true := hd ⟨14, .guard⟩ (Array.mem_of_getElem? (i := 0) rfl) rfl (show (0 : Nat) ≤ 1000 by decide)
          have E8 : F.eval (.tmp 8) = .slice (some ⟨g4, 0, none⟩) (M + 1) c4 := hF.out_ (by kernel_rfl) rfl
          have G := hF.own_ 14 rfl rfl (by kernel_rfl) (by decide); rw [d14] at G
          refine .inr ⟨wanted_yes rfl rfl rfl G, .inl ⟨.slice (some ⟨g4, 0, none⟩) (M + 1) c4, ?_, hI, TyP.of_is rfl⟩⟩
          simp only [execOp, E8, Sem.run_pure]
        case oc16 => as_aux_lemma =>
          intro p vals2 W1 F hF hlo hhi hI hd
          have hp : p = 0 := Nat.le_antisymm hhi hlo
          subst hp
          clear hlo hhi
          have d14 : vals2 14 = .bool true := hd ⟨14, .guard⟩ (Array.mem_of_getElem? (i := 1) rfl) rfl (show (0 : Nat) ≤ 1000 by decide)
          have d15 : vals2 15 = .slice (some ⟨g4, 0, none⟩) (M + 1) c4 := hd ⟨15, .data⟩ (Array.mem_of_getElem? (i := 0) rfl) rfl (show (0 : Nat) ≤ 1000 by decide)
          have E53 := eval_some (hF.own_ 15 rfl rfl (by kernel_rfl) (by decide)); rw [d15] at E53
          have G := hF.own_ 14 rfl rfl (by kernel_rfl) (by decide); rw [d14] at G
          refine .inr ⟨wanted_yes rfl rfl rfl G, ?_⟩
          have hst := str_of (holds_row (k := 2) hI rfl HC4.out) c4
          refine .inl ⟨.string SB, ?_, hI, TyP.of_is rfl⟩
          have Ec : ∀ v, F.eval (.const v) = v := fun _ => rfl; have Ef : ∀ f, F.eval (.func f) = .func (.func f) #[] #[] := fun _ => rfl; clear hF hd; generalize F.eval = ρ at E53 Ec Ef ⊢
          simp only [execOp, E53]
          rw [HN2.out] at hst
          rw [Sem.run_bind, hst, ← HSB.out]
          rfl
        case oc17 => as_aux_lemma =>
          intro p vals2 W1 F hF hlo hhi hI hd
          have hp : p = 0 := Nat.le_antisymm hhi hlo
          subst hp
          clear hlo hhi
          have d14 : vals2 14 = .bool true := hd ⟨14, .guard⟩ (Array.mem_of_getElem? (i := 0) rfl) rfl (show (0 : Nat) ≤ 1000 by decide)
          have E1 : F.eval (.tmp 1) = .slice S M sc := hF.out_ (by kernel_rfl) rfl
          have G := hF.own_ 14 rfl rfl (by kernel_rfl) (by decide); rw [d14] at G
          refine .inr ⟨wanted_yes rfl rfl rfl G, .inl ⟨.slice S M sc, ?_, hI, TyP.of_is rfl⟩⟩
          simp only [execOp, E1, Sem.run_pure]
        case oc18 => as_aux_lemma =>
          intro p vals2 W1 F hF hlo hhi hI hd
          have hp : p = 0 := Nat.le_antisymm hhi hlo
          subst hp
          clear hlo hhi
          have d14 : vals2 14 = .bool true := hd ⟨14, .guard⟩ (Array.mem_of_getElem? (i := 1) rfl) rfl (show (0 : Nat) ≤ 1000 by decide)
          have d17 : vals2 17 = .slice S M sc := hd ⟨17, .data⟩ (Array.mem_of_getElem? (i := 0) rfl) rfl (show (0 : Nat) ≤ 1000 by decide)
          have E55 := eval_some (hF.own_ 17 rfl rfl (by kernel_rfl) (by decide)); rw [d17] at E55
          have G := hF.own_ 14 rfl rfl (by kernel_rfl) (by decide); rw [d14] at G
          refine .inr ⟨wanted_yes rfl rfl rfl G, ?_⟩
          have hst := str_of (HS8.out W1 hI.bel) sc
          refine .inl ⟨.string ⟨s.toArray⟩, ?_, hI, TyP.of_is rfl⟩
          have Ec : ∀ v, F.eval (.const v) = v := fun _ => rfl; have Ef : ∀ f, F.eval (.func f) = .func (.func f) #[] #[] := fun _ => rfl; clear hF hd; generalize F.eval = ρ at E55 Ec Ef ⊢
          simp only [execOp, E55]
          rw [HM.out] at hst
          rw [Sem.run_bind, hst]
          rfl
        case oc19 => as_aux_lemma =>
          intro p vals2 W1 F hF hlo hhi hI hd
          have hp : p = 0 := Nat.le_antisymm hhi hlo
          subst hp
          clear hlo hhi
          have d14 : vals2 14 = .bool true := hd ⟨14, .guard⟩ (Array.mem_of_getElem? (i := 1) rfl) rfl (show (0 : Nat) ≤ 1000 by decide)
          have d18 : vals2 18 = .string ⟨s.toArray⟩ := hd ⟨18, .data⟩ (Array.mem_of_getElem? (i := 0) rfl) rfl (show (0 : Nat) ≤ 1000 by decide)
          have E56 := eval_some (hF.own_ 18 rfl rfl (by kernel_rfl) (by decide)); rw [d18] at E56
          have G := hF.own_ 14 rfl rfl (by kernel_rfl) (by decide); rw [d14] at G
          have hbl : s.length ≤ 9223372036854775806 := by rw [HM.out]; omega
          refine .inr ⟨wanted_yes rfl rfl rfl G, .inl ⟨.string SB, ?_, hI, TyP.of_is rfl⟩⟩
          have Ec : ∀ v, F.eval (.const v) = v := fun _ => rfl; have Ef : ∀ f, F.eval (.func f) = .func (.func f) #[] #[] := fun _ => rfl; clear hF hd; generalize F.eval = ρ at E56 Ec Ef ⊢
          simp [execOp, go_sem, Ec, E56, HSN.out, hbl]
        case oc20 => as_aux_lemma =>
          intro p vals2 W1 F hF hlo hhi hI hd
          have hp : p = 0 := Nat.le_antisymm hhi hlo
          subst hp
          clear hlo hhi
          have d14 : vals2 14 = .bool true := hd ⟨14, .guard⟩ (Array.mem_of_getElem? (i := 2) rfl) rfl (show (0 : Nat) ≤ 1000 by decide)
          have d16 : vals2 16 = .string SB := hd ⟨16, .data⟩ (Array.mem_of_getElem? (i := 0) rfl) rfl (show (0 : Nat) ≤ 1000 by decide)
          have d19 : vals2 19 = .string SB := hd ⟨19, .data⟩ (Array.mem_of_getElem? (i := 1) rfl) rfl (show (0 : Nat) ≤ 1000 by decide)
          have E54 := eval_some (hF.own_ 16 rfl rfl (by kernel_rfl) (by decide)); rw [d16] at E54
          have E57 := eval_some (hF.own_ 19 rfl rfl (by kernel_rfl) (by decide)); rw [d19] at E57
          have G := hF.own_ 14 rfl rfl (by kernel_rfl) (by decide); rw [d14] at G
          refine .inr ⟨wanted_yes rfl rfl rfl G, .inl ⟨.bool true, ?_, hI, TyP.of_is rfl⟩⟩
          have Ec : ∀ v, F.eval (.const v) = v := fun _ => rfl; have Ef : ∀ f, F.eval (.func f) = .func (.func f) #[] #[] := fun _ => rfl; clear hF hd; generalize F.eval = ρ at E54 E57 Ec Ef ⊢
          simp [execOp, go_sem, Ec, E54, E57]
        case oc21 => as_aux_lemma =>
          intro p vals2 W1 F hF hlo hhi hI hd
          have hp : p = 0 := Nat.le_antisymm hhi hlo
          subst hp
          clear hlo hhi
          have d14 : vals2 14 = .bool true := hd ⟨14, .data⟩ (Array.mem_of_getElem? (i := 0) rfl) rfl (show (0 : Nat) ≤ 1000 by decide)
          have d20 : vals2 20 = .bool true := hd ⟨20, .data⟩ (Array.mem_of_getElem? (i := 1) rfl) rfl (show (0 : Nat) ≤ 1000 by decide)
          have E52 := eval_some (hF.own_ 14 rfl rfl (by kernel_rfl) (by decide)); rw [d14] at E52
          have E58 := eval_some (hF.own_ 20 rfl rfl (by kernel_rfl) (by decide)); rw [d20] at E58
          refine .inr ⟨wanted_none rfl, .inl ⟨.bool true, ?_, hI, TyP.of_is rfl⟩⟩
          have Ec : ∀ v, F.eval (.const v) = v := fun _ => rfl; have Ef : ∀ f, F.eval (.func f) = .func (.func f) #[] #[] := fun _ => rfl; clear hF hd; generalize F.eval = ρ at E52 E58 Ec Ef ⊢
          simp [execOp, go_sem, Ec, E52, E58]
        case oc22 => as_aux_lemma =>
          intro p vals2 W1 F hF hlo hhi hI hd
          have hp : p = 0 := Nat.le_antisymm hhi hlo
          subst hp
          clear hlo hhi
          have d21 : vals2 21 = .bool true := hd ⟨21, .data⟩ (Array.mem_of_getElem? (i := 0) rfl) rfl (show (0 : Nat) ≤ 1000 by decide)
          have E59 := eval_some (hF.own_ 21 rfl rfl (by kernel_rfl) (by decide)); rw [d21] at E59
          refine .inr ⟨wanted_none rfl, .inl ⟨.bool true, ?_, hI, TyP.of_is rfl⟩⟩
          simp only [execOp, E59, Sem.run_pure]
        case oc23 => as_aux_lemma =>
          intro p vals2 W1 F hF hlo hhi hI hd
          have hp : p = 0 := Nat.le_antisymm hhi hlo
          subst hp
          clear hlo hhi
          have d22 : vals2 22 = .bool true := hd ⟨22, .guard⟩ (Array.mem_of_getElem? (i := 0) rfl) rfl (show (0 : Nat) ≤ 1000 by decide)
          have E5 : F.eval (.tmp 5) = .pointer (some ⟨w.heap.size, 0, none⟩) := hF.out_ (by kernel_rfl) rfl
          have G := hF.own_ 22 rfl rfl (by kernel_rfl) (by decide); rw [d22] at G
          refine .inr ⟨wanted_yes rfl rfl rfl G, ?_⟩
          have hl := run_loadVar_row (P := Try.prog) W1 w.heap.size 23 23 (arr8 d) (0, 0) _ (hI.get 0 rfl) Try.underlying23 rfl (infoH _ HD.out)
          refine .inl ⟨.agg (arr8 d), ?_, hI, TyP.of_is rfl⟩
          have Ec : ∀ v, F.eval (.const v) = v := fun _ => rfl; have Ef : ∀ f, F.eval (.func f) = .func (.func f) #[] #[] := fun _ => rfl; clear hF hd; generalize F.eval = ρ at E5 Ec Ef ⊢
          simp only [execOp, E5, Instr.loadAt, Instr.sureAddr, Sem.run_bind, Sem.run_pure, Result.andThen_ok, hl]
        case oc24 => as_aux_lemma =>
          intro p vals2 W1 F hF hlo hhi hI hd
          have hp : p = 0 := Nat.le_antisymm hhi hlo
          subst hp
          clear hlo hhi
          have d22 : vals2 22 = .bool true := hd ⟨22, .chain⟩ (Array.mem_of_getElem? (i := 1) rfl) rfl (show (0 : Nat) ≤ 1000 by decide)
          have d23 : vals2 23 = .agg (arr8 d) := hd ⟨23, .data⟩ (Array.mem_of_getElem? (i := 0) rfl) rfl (show (0 : Nat) ≤ 1000 by decide)
          have E61 := eval_some (hF.own_ 23 rfl rfl (by kernel_rfl) (by decide)); rw [d23] at E61
          have G := hF.own_ 22 rfl rfl (by kernel_rfl) (by decide); rw [d22] at G
          refine .inr ⟨wanted_yes rfl rfl rfl G, ?_⟩
          refine .inr (.inr (.inl ⟨10, #[.agg (arr8 d)], ?_, (CP.out W1).mono ?_⟩))
          · have Ec : ∀ v, F.eval (.const v) = v := fun _ => rfl; have Ef : ∀ f, F.eval (.func f) = .func (.func f) #[] #[] := fun _ => rfl; clear hF hd; generalize F.eval = ρ at E61 Ec Ef ⊢
            simp [execOp, go_sem, Ec, Ef, E61]
          rintro e W2 ⟨rfl, hb⟩
          exact ⟨_, rfl, hb, hI.call hb, TyP.of_is rfl⟩
        case oc25 => as_aux_lemma =>
          intro p vals2 W1 F hF hlo hhi hI hd
          have hp : p = 0 := Nat.le_antisymm hhi hlo
          subst hp
          clear hlo hhi
          have d22 : vals2 22 = .bool true := hd ⟨22, .guard⟩ (Array.mem_of_getElem? (i := 0) rfl) rfl (show (0 : Nat) ≤ 1000 by decide)
          have E5 : F.eval (.tmp 5) = .pointer (some ⟨w.heap.size, 0, none⟩) := hF.out_ (by kernel_rfl) rfl
          have G := hF.own_ 22 rfl rfl (by kernel_rfl) (by decide); rw [d22] at G
          refine .inr ⟨wanted_yes rfl rfl rfl G, ?_⟩
          have hl := run_loadVar_row (P := Try.prog) W1 w.heap.size 23 23 (arr8 d) (0, 0) _ (hI.get 0 rfl) Try.underlying23 rfl (infoH _ HD.out)
          refine .inl ⟨.agg (arr8 d), ?_, hI, TyP.of_is rfl⟩
          have Ec : ∀ v, F.eval (.const v) = v := fun _ => rfl; have Ef : ∀ f, F.eval (.func f) = .func (.func f) #[] #[] := fun _ => rfl; clear hF hd; generalize F.eval = ρ at E5 Ec Ef ⊢
          simp only [execOp, E5, Instr.loadAt, Instr.sureAddr, Sem.run_bind, Sem.run_pure, Result.andThen_ok, hl]
        case oc26 => as_aux_lemma =>
          intro p vals2 W1 F hF hlo hhi hI hd
          have hp : p = 0 := Nat.le_antisymm hhi hlo
          subst hp
          clear hlo hhi
          have d22 : vals2 22 = .bool true := hd ⟨22, .guard⟩ (Array.mem_of_getElem? (i := 2) rfl) rfl (show (0 : Nat) ≤ 1000 by decide)
          have d25 : vals2 25 = .agg (arr8 d) := hd ⟨25, .data⟩ (Array.mem_of_getElem? (i := 0) rfl) rfl (show (0 : Nat) ≤ 1000 by decide)
          have E63 := eval_some (hF.own_ 25 rfl rfl (by kernel_rfl) (by decide)); rw [d25] at E63
          have G := hF.own_ 22 rfl rfl (by kernel_rfl) (by decide); rw [d22] at G
          refine .inr ⟨wanted_yes rfl rfl rfl G, ?_⟩
          refine .inr (.inr (.inl ⟨11, #[.agg (arr8 d)], ?_, (RP.out W1).mono ?_⟩))
          · have Ec : ∀ v, F.eval (.const v) = v := fun _ => rfl; have Ef : ∀ f, F.eval (.func f) = .func (.func f) #[] #[] := fun _ => rfl; clear hF hd; generalize F.eval = ρ at E63 Ec Ef ⊢
            simp [execOp, go_sem, Ec, Ef, E63]
          rintro e W2 ⟨rfl, hb⟩
          exact ⟨_, rfl, hb, hI.call hb, TyP.of_is rfl⟩
        case oc27 => as_aux_lemma =>
          intro p vals2 W1 F hF hlo hhi hI hd
          have hp : p = 0 := Nat.le_antisymm hhi hlo
          subst hp
          clear hlo hhi
          have d22 : vals2 22 = .bool true := hd ⟨22, .guard⟩ (Array.mem_of_getElem? (i := 2) rfl) rfl (show (0 : Nat) ≤ 1000 by decide)
          have d24 : vals2 24 = .agg (arr8 KH) := hd ⟨24, .data⟩ (Array.mem_of_getElem? (i := 0) rfl) rfl (show (0 : Nat) ≤ 1000 by decide)
          have d26 : vals2 26 = .agg (arr8 KH) := hd ⟨26, .data⟩ (Array.mem_of_getElem? (i := 1) rfl) rfl (show (0 : Nat) ≤ 1000 by decide)
          have E62 := eval_some (hF.own_ 24 rfl rfl (by kernel_rfl) (by decide)); rw [d24] at E62
          have E64 := eval_some (hF.own_ 26 rfl rfl (by kernel_rfl) (by decide)); rw [d26] at E64
          have G := hF.own_ 22 rfl rfl (by kernel_rfl) (by decide); rw [d22] at G
          refine .inr ⟨wanted_yes rfl rfl rfl G, .inl ⟨.bool true, ?_, hI, TyP.of_is rfl⟩⟩
          have Ec : ∀ v, F.eval (.const v) = v := fun _ => rfl; have Ef : ∀ f, F.eval (.func f) = .func (.func f) #[] #[] := fun _ => rfl; clear hF hd; generalize F.eval = ρ at E62 E64 Ec Ef ⊢
          simp [execOp, go_sem, Ec, E62, E64, eq_hash KH KH HKl.out HKl.out]
        case oc28 => as_aux_lemma =>
          intro p vals2 W1 F hF hlo hhi hI hd
          have hp : p = 0 := Nat.le_antisymm hhi hlo
          subst hp
          clear hlo hhi
          have d22 : vals2 22 = .bool true := hd ⟨22, .data⟩ (Array.mem_of_getElem? (i := 0) rfl) rfl (show (0 : Nat) ≤ 1000 by decide)
          have d27 : vals2 27 = .bool true := hd ⟨27, .data⟩ (Array.mem_of_getElem? (i := 1) rfl) rfl (show (0 : Nat) ≤ 1000 by decide)
          have E60 := eval_some (hF.own_ 22 rfl rfl (by kernel_rfl) (by decide)); rw [d22] at E60
          have E65 := eval_some (hF.own_ 27 rfl rfl (by kernel_rfl) (by decide)); rw [d27] at E65
          refine .inr ⟨wanted_none rfl, .inl ⟨.bool true, ?_, hI, TyP.of_is rfl⟩⟩
          have Ec : ∀ v, F.eval (.const v) = v := fun _ => rfl; have Ef : ∀ f, F.eval (.func f) = .func (.func f) #[] #[] := fun _ => rfl; clear hF hd; generalize F.eval = ρ at E60 E65 Ec Ef ⊢
          simp [execOp, go_sem, Ec, E60, E65]
        case oc29 => as_aux_lemma =>
          intro p vals2 W1 F hF hlo hhi hI hd
          have hp : p = 0 := Nat.le_antisymm hhi hlo
          subst hp
          clear hlo hhi
          have d28 : vals2 28 = .bool true := hd ⟨28, .data⟩ (Array.mem_of_getElem? (i := 0) rfl) rfl (show (0 : Nat) ≤ 1000 by decide)
          have E66 := eval_some (hF.own_ 28 rfl rfl (by kernel_rfl) (by decide)); rw [d28] at E66
          refine .inr ⟨wanted_none rfl, .inl ⟨.bool true, ?_, hI, TyP.of_is rfl⟩⟩
          simp only [execOp, E66, Sem.run_pure]
        case ocend =>
          intro vals2 W1 F hF hdef hI hT
          have hv : vals2 29 = .bool true := hT 29 (by decide) (show (0 : Nat) ≤ 1000 by decide)
          rename_i K hK9
          refine hK9 _ _ ?_
          rw [hF.act]
          simp only [fin, Act.put, List.setIfInBounds_toArray, List.set_cons_succ, List.set_cons_zero]
          rw [hv]
          clear hF hT hv
          go_wp2
          go_ret
          exact ⟨rfl, hI.bel⟩
set_option maxRecDepth 100000 in
theorem sjudges_lifted (os : Os) (started : os.Started) (H : Type) (enc : TypeId × Value → H) :
    ReturnsInHanded {} Try.checked os 4 .any (Rows.signJudgesSpec.pre6 enc Try.prog Try.f4 Rows.signJudgesRow.domain false) (Rows.signJudgesSpec.post enc Try.prog Try.f4 false true false false) := by
  refine returnsInHanded_of_change (C := Try.checked) own started (by kernel_rfl) Try.func4
    (ChangeSpec.witness6 (enc := enc) (C := Try.checked) false ⟨#[], #[.slice none 0 0, .slice none 0 0, .agg (vals (List.replicate 32 0)).toArray], []⟩ 8 (by kernel_rfl) (by kernel_rfl) (by kernel_rfl) (by kernel_rfl)) ?_
  intro W base args ds gs before hval0 hW hcnd _
  have hval : ∀ (j : Nat) t v, Try.f4.params[j]? = some t → args[j]? = some v → Value.okWide Try.prog W .any base t v := hval0
  have hW' := hW
  obtain ⟨p, q, hA0, hV, rfl, hfz, hnd⟩ := hW
  have hA : DataW.TrodAll enc Try.prog W 0 (fun _ => true) true Try.f4.params.toList args.toList ds p := hA0
  rw [Try.params4] at hA hval
  obtain ⟨v0, vs0, d0, ds0, p0, q0, hargs, rfl, rfl, h0, r0⟩ := trodAll_cons hA
  obtain ⟨v1, vs1, d1, ds1, p1, q1, rfl, rfl, rfl, h1, r1⟩ := trodAll_cons r0
  obtain ⟨v2, vs2, d2, ds2, p2, q2, rfl, rfl, rfl, h2, r2⟩ := trodAll_cons r1
  obtain ⟨rfl, rfl, rfl⟩ := trodAll_nil r2
  obtain rfl : args = #[v0, v1, v2] := by cases args; simp_all
  obtain ⟨rfl, rfl⟩ := trodVars_none hV
  have k0 := h0
  have lt0 : ∀ x ∈ p0, x.block < W.heap.size := by obtain ⟨m, hm⟩ := k0; exact DataW.trod_lt m _ _ _ hm
  have k1 := h1
  have lt1 : ∀ x ∈ p1, x.block < W.heap.size := by obtain ⟨m, hm⟩ := k1; exact DataW.trod_lt m _ _ _ hm
  have k2 := h2
  have lt2 : ∀ x ∈ p2, x.block < W.heap.size := by obtain ⟨m, hm⟩ := k2; exact DataW.trod_lt m _ _ _ hm
  obtain ⟨A0, bs0, cap0, rfl, hh0, hlen0, hcap0⟩ := open8 (hval 0 24 v0 rfl rfl) k0
  obtain ⟨A1, bs1, cap1, rfl, hh1, hlen1, hcap1⟩ := open8 (hval 1 24 v1 rfl rfl) k1
  obtain ⟨cs2, rfl⟩ := okWide_arrayH Try.underlying23 (hval 2 23 v2 rfl rfl)
  obtain ⟨bs2, hz2, rfl⟩ := isHash_of k2
  clear hA0 hval0
  refine (sjudges_walk W bs0 bs1 bs2 A0 A1 cap0 cap1 hz2 hlen0 hlen1 hh0 hh1).mono fun e W' ⟨he, bel⟩ => ?_
  subst he
  exact ⟨_, rfl, _, _, _, [], _, [], hW', trodAll_mk1 (shut_bool Try.underlying4 _), (trodAll_cons_mk (Below.trod laidOut (by kernel_rfl) (of_decide_eq_true (by kernel_rfl)) k0 bel lt0) (trodAll_cons_mk (Below.trod laidOut (by kernel_rfl) (of_decide_eq_true (by kernel_rfl)) k1 bel lt1) (trodAll_cons_mk (Below.trod laidOut (by kernel_rfl) (of_decide_eq_true (by kernel_rfl)) k2 bel lt2) trodAll_mk0))), rfl, bel.frame _, fun h => by cases h⟩

theorem sjudges_over : Rows.signJudgesRow.holds Try.pinned (OpenSpec.ofChange Rows.signJudgesSpec) :=
  OpenClaim.holds_of_wide 4 Try.f4 rfl rfl rfl rfl rfl rfl rfl ⟨rfl, rfl, rfl, rfl, rfl⟩ rfl rfl rfl rfl rfl (by kernel_rfl) Try.func4 (by kernel_rfl)
    (of_decide_eq_true (by kernel_rfl)) (by unfold Func.isWrapper; first | (rw [if_pos (by decide +kernel)]; kernel_rfl) | (rw [if_neg (by decide +kernel)]; exact ⟨rfl, rfl⟩))
    (fun os started H enc _ => sjudges_lifted os started H enc)

/-- Whether any bytes (at most 200 each) are a key's signature of a digest is the document's; they stay. No condition. -/
theorem sjudges_proved : Rows.SignJudgesSaid := sjudges_over
#print axioms sjudges_proved
end Go.Proofs.Ytijobhpmaenjlaa.Oct
