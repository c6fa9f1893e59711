/- SignForms is true at every input. No condition. -/
import Derived.Test.YtijobhpmaenjlaaRefST
namespace Go.Proofs.Ytijobhpmaenjlaa.Oct
set_option linter.unusedVariables false
set_option linter.unusedSimpArgs false
open Go.Proofs.Ytijobhpmaenjlaa Go.RowKit Go.Lib Go.Shelf Go.ChangeShapes Go.WideShapes Go.ChangeAt

theorem okWide_arrayH {P : Program} {w : World} {r : Reach} {base : Nat} {t e : TypeId} {n : Nat} {v : Value} (ht : P.underlying t = some (.array n e)) (h : Value.okWide P w r base t v) : ∃ cs, v = .agg cs := by
  unfold Value.okWide at h
  rw [ht] at h
  obtain ⟨cs, hv, _⟩ := h
  exact ⟨cs, hv⟩
/-- A hash, read: its cells are its bytes. -/
theorem isHash_of {H : Type} {enc : TypeId × Value → H} {w : World} {base : Nat} {spare : Nat → Bool} {held : Bool} {cs : Array Value} {d : DataW H} {ps : List MemPlace}
    (h : DataW.Trod enc Try.prog w base spare held 23 (.agg cs) d ps) : ∃ bs : List UInt8, bs.length = 32 ∧ cs = arr8 bs := by
  obtain ⟨fuel, hf⟩ := h
  have hc1 : Try.prog.cellsOf 5 = 1 := by kernel_rfl
  have hc2 : Try.prog.cellsOf 23 = 32 := by kernel_rfl
  have e1 : (Value.agg cs).cells.toList = cs.toList := rfl
  rw [e1] at hf
  obtain ⟨hl, hb⟩ := trod_ints Try.underlying23 Try.underlying5 hc1 hf
  rw [hc2] at hl
  have hw : ∀ i, i < 32 → ∃ x : UInt8, cs.toList[i]? = some (.int .u8 (x.toNat : Int)) := by
    intro i hi
    obtain ⟨z, hz, hwf⟩ := hb i hi
    have hbd := bounds_u8 hwf
    refine ⟨UInt8.ofNat z.toNat, ?_⟩
    rw [hz, UInt8.toNat_ofNat']
    congr 2
    omega
  obtain ⟨f, hf⟩ : ∃ f : Nat → UInt8, ∀ i, i < 32 → cs.toList[i]? = some (.int .u8 ((f i).toNat : Int)) :=
    ⟨fun i => if h : i < 32 then Classical.choose (hw i h) else 0, fun i hi => by dsimp only; rw [dif_pos hi]; exact Classical.choose_spec (hw i hi)⟩
  refine ⟨(List.range 32).map f, by simp, ?_⟩
  apply Array.ext'
  apply List.ext_getElem?
  intro i
  by_cases hi : i < 32
  · rw [hf i hi]
    simp [arr8, vals, hi]
  · rw [List.getElem?_eq_none (by omega), List.getElem?_eq_none (by simp [arr8, vals]; omega)]

set_option maxRecDepth 100000 in
set_option maxHeartbeats 4000000 in
theorem sforms_walk (w : World) (s d : List UInt8) (hs : s.length = 32) (hd : d.length = 32) :
    Calls Try.prog 3 #[.agg (arr8 s), .agg (arr8 d)] w fun e w' => e = .returned (.bool true) ∧ Below w.heap.size w w' := by
  have hK := ((Keeps.nil w).new (arr8 s) 23).new (arr8 d) 23
  simp only [World.size_alloc, List.nil_append, List.cons_append] at hK
  have C1 := fun W => public_any W s hs
  have C2 := fun W => rpublic_any W s hs
  have C3 := fun W => sign_any W s d hs hd
  have C4 := fun W => rsign_any W s d hs hd
  have hKl : (sha s).length = 32 := hashOf_length _
  have hDl : (sha (s ++ d)).length = 32 := hashOf_length _
  generalize sha s = KH at *
  generalize sha (s ++ d) = D at *
  have CP := Lib.hid C1
  have RP := Lib.hid C2
  have CS := Lib.hid C3
  have RS := Lib.hid C4
  have HS := Lib.hid hs
  have HD := Lib.hid hd
  have HKl := Lib.hid hKl
  have HDl := Lib.hid hDl
  have HSD := Lib.hid (show (s ++ D).length = 64 by rw [List.length_append, hs, hDl])
  clear C1 C2 C3 C4 hs hd hKl hDl
  go_enter Try.func3, Try.ntmps3
  go_wp2_with (first | (refine wpList_box hK 0 rfl 23 (.tmp 2) rfl rfl rfl _ Try.underlying23 rfl (infoH _ HS.out) ?_) | (refine wpList_box hK 1 rfl 23 (.tmp 3) rfl rfl rfl _ Try.underlying23 rfl (infoH _ HD.out) ?_) | (go_at_call 9; (with_reducible refine (CS.out _).mono ?_); rintro e W1 ⟨g, rfl, hk⟩; have hI0 := hK.gain hk.bel (hk.base 0 _ rfl) (hk.get 0 rfl); simp only [List.cons_append, List.nil_append] at hI0; clear hK hk))
  obtain ⟨SS, hSS⟩ : ∃ x : ByteArray, x = ⟨(s ++ D).toArray⟩ := ⟨_, rfl⟩
  have HSS := Lib.hid hSS
  clear hSS
  refine wp_region_phased 49 rfl (fun _ _ W W' => Below W.heap.size W W') (fun p W1 => Keeps w [(w.heap.size, arr8 s, 23), (w.heap.size + 1, arr8 d, 23), (g, arr8 (s ++ D), 5)] W1) [.is (.agg (arr8 s)), .is (.agg (arr8 KH)), .is (.agg (arr8 s)), .is (.agg (arr8 KH)), .is (.bool true), .is (.bool true), .is (.slice (some ⟨g, 0, none⟩) 64 64), .is (.string SS), .is (.agg (arr8 s)), .is (.agg (arr8 d)), ⟨0, 1000, fun v W => ∃ X c, v = .slice X 64 c ∧ Holds8 W.heap.size W X (s ++ D), fun k d v W W' hk hd h hr => by obtain ⟨X, c, e, h2⟩ := h; exact ⟨X, c, e, h2.later hr⟩⟩, .is (.string SS), .is (.bool true), .is (.bool true), .is (.bool true)] [] [0, 0, 0, 0, 0, 0, 0, 0, 0, 0, 0, 0, 0, 0, 0] [0, 0, 0, 0, 0, 0, 0, 0, 0, 0, 0, 0, 0, 0, 0] (by kernel_rfl) (by kernel_rfl) (by kernel_rfl) (fun _ _ W => Below.refl _ W) (hI0.drew) ⟨?ob0, ?ob1, ?ob2, ?ob3, ?ob4, ?ob5, ?ob6, ?ob7, ?ob8, ?ob9, ?ob10, ?ob11, ?ob12, ?ob13, ?ob14, trivial⟩ ?obend
  case ob0 => as_aux_lemma =>
    intro p vals W1 F hF hlo hhi hI hd
    have hp : p = 0 := Nat.le_antisymm hhi hlo
    subst hp
    clear hlo hhi
    have E2 : F.eval (.tmp 2) = .pointer (some ⟨w.heap.size, 0, none⟩) := hF.out_ (by kernel_rfl) rfl
    refine .inr ⟨wanted_none rfl, ?_⟩
    have hl := run_loadVar_row (P := Try.prog) W1 w.heap.size 23 23 (arr8 s) (0, 0) _ (hI.get 0 rfl) Try.underlying23 rfl (infoH _ HS.out)
    refine .inl ⟨.agg (arr8 s), ?_, hI, TyP.of_is rfl⟩
    have Ec : ∀ v, F.eval (.const v) = v := fun _ => rfl; have Ef : ∀ f, F.eval (.func f) = .func (.func f) #[] #[] := fun _ => rfl; clear hF hd; generalize F.eval = ρ at E2 Ec Ef ⊢
    simp only [execOp, E2, Instr.loadAt, Instr.sureAddr, Sem.run_bind, Sem.run_pure, Result.andThen_ok, hl]
  case ob1 => as_aux_lemma =>
    intro p vals W1 F hF hlo hhi hI hd
    have hp : p = 0 := Nat.le_antisymm hhi hlo
    subst hp
    clear hlo hhi
    have d0 : vals 0 = .agg (arr8 s) := hd ⟨0, .data⟩ (Array.mem_of_getElem? (i := 0) rfl) rfl (show (0 : Nat) ≤ 1000 by decide)
    have E11 := eval_some (hF.own_ 0 rfl rfl (by kernel_rfl) (by decide)); rw [d0] at E11
    refine .inr ⟨wanted_none rfl, ?_⟩
    refine .inr (.inr (.inl ⟨10, #[.agg (arr8 s)], ?_, (CP.out W1).mono ?_⟩))
    · have Ec : ∀ v, F.eval (.const v) = v := fun _ => rfl; have Ef : ∀ f, F.eval (.func f) = .func (.func f) #[] #[] := fun _ => rfl; clear hF hd; generalize F.eval = ρ at E11 Ec Ef ⊢
      simp [execOp, go_sem, Ec, Ef, E11]
    rintro e W2 ⟨rfl, hb⟩
    exact ⟨_, rfl, hb, hI.call hb, TyP.of_is rfl⟩
  case ob2 => as_aux_lemma =>
    intro p vals W1 F hF hlo hhi hI hd
    have hp : p = 0 := Nat.le_antisymm hhi hlo
    subst hp
    clear hlo hhi
    have E2 : F.eval (.tmp 2) = .pointer (some ⟨w.heap.size, 0, none⟩) := hF.out_ (by kernel_rfl) rfl
    refine .inr ⟨wanted_none rfl, ?_⟩
    have hl := run_loadVar_row (P := Try.prog) W1 w.heap.size 23 23 (arr8 s) (0, 0) _ (hI.get 0 rfl) Try.underlying23 rfl (infoH _ HS.out)
    refine .inl ⟨.agg (arr8 s), ?_, hI, TyP.of_is rfl⟩
    have Ec : ∀ v, F.eval (.const v) = v := fun _ => rfl; have Ef : ∀ f, F.eval (.func f) = .func (.func f) #[] #[] := fun _ => rfl; clear hF hd; generalize F.eval = ρ at E2 Ec Ef ⊢
    simp only [execOp, E2, Instr.loadAt, Instr.sureAddr, Sem.run_bind, Sem.run_pure, Result.andThen_ok, hl]
  case ob3 => as_aux_lemma =>
    intro p vals W1 F hF hlo hhi hI hd
    have hp : p = 0 := Nat.le_antisymm hhi hlo
    subst hp
    clear hlo hhi
    have d2 : vals 2 = .agg (arr8 s) := hd ⟨2, .data⟩ (Array.mem_of_getElem? (i := 0) rfl) rfl (show (0 : Nat) ≤ 1000 by decide)
    have E13 := eval_some (hF.own_ 2 rfl rfl (by kernel_rfl) (by decide)); rw [d2] at E13
    refine .inr ⟨wanted_none rfl, ?_⟩
    refine .inr (.inr (.inl ⟨11, #[.agg (arr8 s)], ?_, (RP.out W1).mono ?_⟩))
    · have Ec : ∀ v, F.eval (.const v) = v := fun _ => rfl; have Ef : ∀ f, F.eval (.func f) = .func (.func f) #[] #[] := fun _ => rfl; clear hF hd; generalize F.eval = ρ at E13 Ec Ef ⊢
      simp [execOp, go_sem, Ec, Ef, E13]
    rintro e W2 ⟨rfl, hb⟩
    exact ⟨_, rfl, hb, hI.call hb, TyP.of_is rfl⟩
  case ob4 => as_aux_lemma =>
    intro p vals W1 F hF hlo hhi hI hd
    have hp : p = 0 := Nat.le_antisymm hhi hlo
    subst hp
    clear hlo hhi
    have d1 : vals 1 = .agg (arr8 KH) := hd ⟨1, .data⟩ (Array.mem_of_getElem? (i := 0) rfl) rfl (show (0 : Nat) ≤ 1000 by decide)
    have d3 : vals 3 = .agg (arr8 KH) := hd ⟨3, .data⟩ (Array.mem_of_getElem? (i := 1) rfl) rfl (show (0 : Nat) ≤ 1000 by decide)
    have E12 := eval_some (hF.own_ 1 rfl rfl (by kernel_rfl) (by decide)); rw [d1] at E12
    have E14 := eval_some (hF.own_ 3 rfl rfl (by kernel_rfl) (by decide)); rw [d3] at E14
    refine .inr ⟨wanted_none rfl, .inl ⟨.bool true, ?_, hI, TyP.of_is rfl⟩⟩
    have Ec : ∀ v, F.eval (.const v) = v := fun _ => rfl; have Ef : ∀ f, F.eval (.func f) = .func (.func f) #[] #[] := fun _ => rfl; clear hF hd; generalize F.eval = ρ at E12 E14 Ec Ef ⊢
    simp [execOp, go_sem, Ec, E12, E14, eq_hash KH KH HKl.out HKl.out]
  case ob5 => as_aux_lemma =>
    intro p vals W1 F hF hlo hhi hI hd
    have hp : p = 0 := Nat.le_antisymm hhi hlo
    subst hp
    clear hlo hhi
    have d4 : vals 4 = .bool true := hd ⟨4, .data⟩ (Array.mem_of_getElem? (i := 0) rfl) rfl (show (0 : Nat) ≤ 1000 by decide)
    have E15 := eval_some (hF.own_ 4 rfl rfl (by kernel_rfl) (by decide)); rw [d4] at E15
    refine .inr ⟨wanted_none rfl, .inl ⟨.bool true, ?_, hI, TyP.of_is rfl⟩⟩
    simp only [execOp, E15, Sem.run_pure]
  case ob6 => as_aux_lemma =>
    intro p vals W1 F hF hlo hhi hI hd
    have hp : p = 0 := Nat.le_antisymm hhi hlo
    subst hp
    clear hlo hhi
    have d5 : vals 5 = .bool true := hd ⟨5, .guard⟩ (Array.mem_of_getElem? (i := 0) rfl) rfl (show (0 : Nat) ≤ 1000 by decide)
    have E5 : F.eval (.tmp 5) = .slice (some ⟨g, 0, none⟩) 64 64 := hF.out_ (by kernel_rfl) rfl
    have G := hF.own_ 5 rfl rfl (by kernel_rfl) (by decide); rw [d5] at G
    refine .inr ⟨wanted_yes rfl rfl rfl G, .inl ⟨.slice (some ⟨g, 0, none⟩) 64 64, ?_, hI, TyP.of_is rfl⟩⟩
    simp only [execOp, E5, Sem.run_pure]
  case ob7 => as_aux_lemma =>
    intro p vals W1 F hF hlo hhi hI hd
    have hp : p = 0 := Nat.le_antisymm hhi hlo
    subst hp
    clear hlo hhi
    have d5 : vals 5 = .bool true := hd ⟨5, .guard⟩ (Array.mem_of_getElem? (i := 1) rfl) rfl (show (0 : Nat) ≤ 1000 by decide)
    have d6 : vals 6 = .slice (some ⟨g, 0, none⟩) 64 64 := hd ⟨6, .data⟩ (Array.mem_of_getElem? (i := 0) rfl) rfl (show (0 : Nat) ≤ 1000 by decide)
    have E17 := eval_some (hF.own_ 6 rfl rfl (by kernel_rfl) (by decide)); rw [d6] at E17
    have G := hF.own_ 5 rfl rfl (by kernel_rfl) (by decide); rw [d5] at G
    refine .inr ⟨wanted_yes rfl rfl rfl G, ?_⟩
    have hst := str_of (holdsK (k := 2) hI rfl) 64
    refine .inl ⟨.string SS, ?_, hI, TyP.of_is rfl⟩
    have Ec : ∀ v, F.eval (.const v) = v := fun _ => rfl; have Ef : ∀ f, F.eval (.func f) = .func (.func f) #[] #[] := fun _ => rfl; clear hF hd; generalize F.eval = ρ at E17 Ec Ef ⊢
    simp only [execOp, E17]
    rw [HSD.out] at hst
    rw [Sem.run_bind, hst, ← HSS.out]
    rfl
  case ob8 => as_aux_lemma =>
    intro p vals W1 F hF hlo hhi hI hd
    have hp : p = 0 := Nat.le_antisymm hhi hlo
    subst hp
    clear hlo hhi
    have d5 : vals 5 = .bool true := hd ⟨5, .guard⟩ (Array.mem_of_getElem? (i := 0) rfl) rfl (show (0 : Nat) ≤ 1000 by decide)
    have E2 : F.eval (.tmp 2) = .pointer (some ⟨w.heap.size, 0, none⟩) := hF.out_ (by kernel_rfl) rfl
    have G := hF.own_ 5 rfl rfl (by kernel_rfl) (by decide); rw [d5] at G
    refine .inr ⟨wanted_yes rfl rfl rfl G, ?_⟩
    have hl := run_loadVar_row (P := Try.prog) W1 w.heap.size 23 23 (arr8 s) (0, 0) _ (hI.get 0 rfl) Try.underlying23 rfl (infoH _ HS.out)
    refine .inl ⟨.agg (arr8 s), ?_, hI, TyP.of_is rfl⟩
    have Ec : ∀ v, F.eval (.const v) = v := fun _ => rfl; have Ef : ∀ f, F.eval (.func f) = .func (.func f) #[] #[] := fun _ => rfl; clear hF hd; generalize F.eval = ρ at E2 Ec Ef ⊢
    simp only [execOp, E2, Instr.loadAt, Instr.sureAddr, Sem.run_bind, Sem.run_pure, Result.andThen_ok, hl]
  case ob9 => as_aux_lemma =>
    intro p vals W1 F hF hlo hhi hI hd
    have hp : p = 0 := Nat.le_antisymm hhi hlo
    subst hp
    clear hlo hhi
    have d5 : vals 5 = .bool true := hd ⟨5, .guard⟩ (Array.mem_of_getElem? (i := 0) rfl) rfl (show (0 : Nat) ≤ 1000 by decide)
    have E3 : F.eval (.tmp 3) = .pointer (some ⟨w.heap.size + 1, 0, none⟩) := hF.out_ (by kernel_rfl) rfl
    have G := hF.own_ 5 rfl rfl (by kernel_rfl) (by decide); rw [d5] at G
    refine .inr ⟨wanted_yes rfl rfl rfl G, ?_⟩
    have hl := run_loadVar_row (P := Try.prog) W1 (w.heap.size + 1) 23 23 (arr8 d) (0, 0) _ (hI.get 1 rfl) Try.underlying23 rfl (infoH _ HD.out)
    refine .inl ⟨.agg (arr8 d), ?_, hI, TyP.of_is rfl⟩
    have Ec : ∀ v, F.eval (.const v) = v := fun _ => rfl; have Ef : ∀ f, F.eval (.func f) = .func (.func f) #[] #[] := fun _ => rfl; clear hF hd; generalize F.eval = ρ at E3 Ec Ef ⊢
    simp only [execOp, E3, Instr.loadAt, Instr.sureAddr, Sem.run_bind, Sem.run_pure, Result.andThen_ok, hl]
  case ob10 => as_aux_lemma =>
    intro p vals W1 F hF hlo hhi hI hd
    have hp : p = 0 := Nat.le_antisymm hhi hlo
    subst hp
    clear hlo hhi
    have d5 : vals 5 = .bool true := hd ⟨5, .chain⟩ (Array.mem_of_getElem? (i := 2) rfl) rfl (show (0 : Nat) ≤ 1000 by decide)
    have d8 : vals 8 = .agg (arr8 s) := hd ⟨8, .data⟩ (Array.mem_of_getElem? (i := 0) rfl) rfl (show (0 : Nat) ≤ 1000 by decide)
    have d9 : vals 9 = .agg (arr8 d) := hd ⟨9, .data⟩ (Array.mem_of_getElem? (i := 1) rfl) rfl (show (0 : Nat) ≤ 1000 by decide)
    have E19 := eval_some (hF.own_ 8 rfl rfl (by kernel_rfl) (by decide)); rw [d8] at E19
    have E20 := eval_some (hF.own_ 9 rfl rfl (by kernel_rfl) (by decide)); rw [d9] at E20
    have G := hF.own_ 5 rfl rfl (by kernel_rfl) (by decide); rw [d5] at G
    refine .inr ⟨wanted_yes rfl rfl rfl G, ?_⟩
    refine .inr (.inr (.inl ⟨12, #[.agg (arr8 s), .agg (arr8 d)], ?_, (RS.out W1).mono ?_⟩))
    · have Ec : ∀ v, F.eval (.const v) = v := fun _ => rfl; have Ef : ∀ f, F.eval (.func f) = .func (.func f) #[] #[] := fun _ => rfl; clear hF hd; generalize F.eval = ρ at E19 E20 Ec Ef ⊢
      simp [execOp, go_sem, Ec, Ef, E19, E20]
    rintro e W2 ⟨v, rfl, hown, hb⟩
    obtain ⟨X, c, hv, hX, _⟩ := own_open hown
    rw [HSD.out] at hv
    exact ⟨_, rfl, hb, hI.call hb, X, c, hv, hX⟩
  case ob11 => as_aux_lemma =>
    intro p vals W1 F hF hlo hhi hI hd
    have hp : p = 0 := Nat.le_antisymm hhi hlo
    subst hp
    clear hlo hhi
    have d5 : vals 5 = .bool true := hd ⟨5, .guard⟩ (Array.mem_of_getElem? (i := 1) rfl) rfl (show (0 : Nat) ≤ 1000 by decide)
    obtain ⟨X10, c10, hspec10, hh10⟩ := hd ⟨10, .data⟩ (Array.mem_of_getElem? (i := 0) rfl) rfl (show (0 : Nat) ≤ 1000 by decide)
    have d10 : vals 10 = .slice X10 64 c10 := hspec10
    have E21 := eval_some (hF.own_ 10 rfl rfl (by kernel_rfl) (by decide)); rw [d10] at E21
    have G := hF.own_ 5 rfl rfl (by kernel_rfl) (by decide); rw [d5] at G
    refine .inr ⟨wanted_yes rfl rfl rfl G, ?_⟩
    have hst := str_of (hh10) c10
    refine .inl ⟨.string SS, ?_, hI, TyP.of_is rfl⟩
    have Ec : ∀ v, F.eval (.const v) = v := fun _ => rfl; have Ef : ∀ f, F.eval (.func f) = .func (.func f) #[] #[] := fun _ => rfl; clear hF hd; generalize F.eval = ρ at E21 Ec Ef ⊢
    simp only [execOp, E21]
    rw [HSD.out] at hst
    rw [Sem.run_bind, hst, ← HSS.out]
    rfl
  case ob12 => as_aux_lemma =>
    intro p vals W1 F hF hlo hhi hI hd
    have hp : p = 0 := Nat.le_antisymm hhi hlo
    subst hp
    clear hlo hhi
    have d5 : vals 5 = .bool true := hd ⟨5, .guard⟩ (Array.mem_of_getElem? (i := 2) rfl) rfl (show (0 : Nat) ≤ 1000 by decide)
    have d7 : vals 7 = .string SS := hd ⟨7, .data⟩ (Array.mem_of_getElem? (i := 0) rfl) rfl (show (0 : Nat) ≤ 1000 by decide)
    have d11 : vals 11 = .string SS := hd ⟨11, .data⟩ (Array.mem_of_getElem? (i := 1) rfl) rfl (show (0 : Nat) ≤ 1000 by decide)
    have E18 := eval_some (hF.own_ 7 rfl rfl (by kernel_rfl) (by decide)); rw [d7] at E18
    have E22 := eval_some (hF.own_ 11 rfl rfl (by kernel_rfl) (by decide)); rw [d11] at E22
    have G := hF.own_ 5 rfl rfl (by kernel_rfl) (by decide); rw [d5] at G
    refine .inr ⟨wanted_yes rfl rfl rfl G, .inl ⟨.bool true, ?_, hI, TyP.of_is rfl⟩⟩
    have Ec : ∀ v, F.eval (.const v) = v := fun _ => rfl; have Ef : ∀ f, F.eval (.func f) = .func (.func f) #[] #[] := fun _ => rfl; clear hF hd; generalize F.eval = ρ at E18 E22 Ec Ef ⊢
    simp [execOp, go_sem, Ec, E18, E22]
  case ob13 => as_aux_lemma =>
    intro p vals W1 F hF hlo hhi hI hd
    have hp : p = 0 := Nat.le_antisymm hhi hlo
    subst hp
    clear hlo hhi
    have d5 : vals 5 = .bool true := hd ⟨5, .data⟩ (Array.mem_of_getElem? (i := 0) rfl) rfl (show (0 : Nat) ≤ 1000 by decide)
    have d12 : vals 12 = .bool true := hd ⟨12, .data⟩ (Array.mem_of_getElem? (i := 1) rfl) rfl (show (0 : Nat) ≤ 1000 by decide)
    have E16 := eval_some (hF.own_ 5 rfl rfl (by kernel_rfl) (by decide)); rw [d5] at E16
    have E23 := eval_some (hF.own_ 12 rfl rfl (by kernel_rfl) (by decide)); rw [d12] at E23
    refine .inr ⟨wanted_none rfl, .inl ⟨.bool true, ?_, hI, TyP.of_is rfl⟩⟩
    have Ec : ∀ v, F.eval (.const v) = v := fun _ => rfl; have Ef : ∀ f, F.eval (.func f) = .func (.func f) #[] #[] := fun _ => rfl; clear hF hd; generalize F.eval = ρ at E16 E23 Ec Ef ⊢
    simp [execOp, go_sem, Ec, E16, E23]
  case ob14 => as_aux_lemma =>
    intro p vals W1 F hF hlo hhi hI hd
    have hp : p = 0 := Nat.le_antisymm hhi hlo
    subst hp
    clear hlo hhi
    have d13 : vals 13 = .bool true := hd ⟨13, .data⟩ (Array.mem_of_getElem? (i := 0) rfl) rfl (show (0 : Nat) ≤ 1000 by decide)
    have E24 := eval_some (hF.own_ 13 rfl rfl (by kernel_rfl) (by decide)); rw [d13] at E24
    refine .inr ⟨wanted_none rfl, .inl ⟨.bool true, ?_, hI, TyP.of_is rfl⟩⟩
    simp only [execOp, E24, Sem.run_pure]
  case obend =>
    intro vals W1 F hF hdef hI hT
    have hv : vals 14 = .bool true := hT 14 (by decide) (show (0 : Nat) ≤ 1000 by decide)
    rename_i K hK9
    refine hK9 _ _ ?_
    rw [hF.act]
    simp only [fin, Act.put, List.setIfInBounds_toArray, List.set_cons_succ, List.set_cons_zero]
    rw [hv]
    clear hF hT hv
    have hK5 := Lib.hid hI
    clear hI hI0
    go_wp2
    go_loopw [27] (fun i wr => ∃ k : Nat, k ≤ 64 ∧ i = .int .i64 (k : Int) ∧ ∃ cur : Array Value, (∀ j, j < 64 → ∃ z : Int, cur[j]? = some (.int .u8 z)) ∧ Keeps w [(w.heap.size, arr8 s, 23), (w.heap.size + 1, arr8 d, 23), (g, cur, 5)] wr) (fun i _ => 64 - (RowKit.intOf i).toNat)
    case atStart => exact ⟨0, Nat.zero_le _, rfl, arr8 (s ++ D), fun j hj => ⟨_, arr8_get _ j (by rw [HSD.out]; exact hj)⟩, hK5.out⟩
    case round =>
      clear hK5
      obtain ⟨k, hk, rfl, cur, hcur, hK⟩ := hrel
      have HCUR := Lib.hid hcur
      by_cases hlt : k < 64
      · obtain ⟨z, hz⟩ := hcur k hlt
        have hsz : k < cur.size := (Array.getElem?_eq_some_iff.1 hz).1
        have hc := hK.cell 2 rfl k
        have hf := hK.frozen 2 rfl k
        rw [hz] at hc
        clear hcur
        have k20 : (k : Int) < 64 := by omega
        go_wp2
        go_roundw
        case rel =>
          refine ⟨k + 1, by omega, by go_num, cur.setIfInBounds k (.int .u8 (IntKind.u8.wrap (z + 1))), fun j hj => ?_, ?_⟩
          · obtain ⟨y, hy⟩ := HCUR.out j hj
            rw [Array.getElem?_setIfInBounds]
            split
            · exact ⟨_, rfl⟩
            · exact ⟨y, hy⟩
          · have h := hK.setc 2 rfl k (.int .u8 (IntKind.u8.wrap (z + 1)))
            exact h
        case measure => simp [RowKit.intOf]; omega
      · have HK8 := Lib.hid hK
        clear hK hcur HCUR
        go_wp2
        clear hlt hk
        refine wp_region_phased 49 rfl (fun _ _ W W' => Below W.heap.size W W') (fun p W1 => Keeps w [(w.heap.size, arr8 s, 23), (w.heap.size + 1, arr8 d, 23), (g, cur, 5)] W1) [.is (.bool true), .is (.bool true), .is (.agg (arr8 s)), .is (.agg (arr8 d)), ⟨0, 1000, fun v W => ∃ X c, v = .slice X 64 c ∧ Holds8 W.heap.size W X (s ++ D), fun k d v W W' hk hd h hr => by obtain ⟨X, c, e, h2⟩ := h; exact ⟨X, c, e, h2.later hr⟩⟩, .is (.string SS), .is (.agg (arr8 s)), .is (.agg (arr8 d)), ⟨0, 1000, fun v W => ∃ X c, v = .slice X 64 c ∧ Holds8 W.heap.size W X (s ++ D), fun k d v W W' hk hd h hr => by obtain ⟨X, c, e, h2⟩ := h; exact ⟨X, c, e, h2.later hr⟩⟩, .is (.string SS), .is (.bool true), .is (.bool true), .is (.bool true)] [] [0, 0, 0, 0, 0, 0, 0, 0, 0, 0, 0, 0, 0] [0, 0, 0, 0, 0, 0, 0, 0, 0, 0, 0, 0, 0] (by kernel_rfl) (by kernel_rfl) (by kernel_rfl) (fun _ _ W => Below.refl _ W) (HK8.out.drew) ⟨?oc0, ?oc1, ?oc2, ?oc3, ?oc4, ?oc5, ?oc6, ?oc7, ?oc8, ?oc9, ?oc10, ?oc11, ?oc12, trivial⟩ ?ocend
        case oc0 => as_aux_lemma =>
          intro p vals2 W1 F hF hlo hhi hI hd
          have hp : p = 0 := Nat.le_antisymm hhi hlo
          subst hp
          clear hlo hhi
          have E6 : F.eval (.tmp 6) = .bool true := hF.out_ (by kernel_rfl) rfl
          refine .inr ⟨wanted_none rfl, .inl ⟨.bool true, ?_, hI, TyP.of_is rfl⟩⟩
          simp only [execOp, E6, Sem.run_pure]
        case oc1 => as_aux_lemma =>
          intro p vals2 W1 F hF hlo hhi hI hd
          have hp : p = 0 := Nat.le_antisymm hhi hlo
          subst hp
          clear hlo hhi
          have d0 : vals2 0 = .bool true := hd ⟨0, .data⟩ (Array.mem_of_getElem? (i := 0) rfl) rfl (show (0 : Nat) ≤ 1000 by decide)
          have E37 := eval_some (hF.own_ 0 rfl rfl (by kernel_rfl) (by decide)); rw [d0] at E37
          refine .inr ⟨wanted_none rfl, .inl ⟨.bool true, ?_, hI, TyP.of_is rfl⟩⟩
          simp only [execOp, E37, Sem.run_pure]
        case oc2 => as_aux_lemma =>
          intro p vals2 W1 F hF hlo hhi hI hd
          have hp : p = 0 := Nat.le_antisymm hhi hlo
          subst hp
          clear hlo hhi
          have d1 : vals2 1 = .bool true := hd ⟨1, .guard⟩ (Array.mem_of_getElem? (i := 0) rfl) rfl (show (0 : Nat) ≤ 1000 by decide)
          have E2 : F.eval (.tmp 2) = .pointer (some ⟨w.heap.size, 0, none⟩) := hF.out_ (by kernel_rfl) rfl
          have G := hF.own_ 1 rfl rfl (by kernel_rfl) (by decide); rw [d1] at G
          refine .inr ⟨wanted_yes rfl rfl rfl G, ?_⟩
          have hl := run_loadVar_row (P := Try.prog) W1 w.heap.size 23 23 (arr8 s) (0, 0) _ (hI.get 0 rfl) Try.underlying23 rfl (infoH _ HS.out)
          refine .inl ⟨.agg (arr8 s), ?_, hI, TyP.of_is rfl⟩
          have Ec : ∀ v, F.eval (.const v) = v := fun _ => rfl; have Ef : ∀ f, F.eval (.func f) = .func (.func f) #[] #[] := fun _ => rfl; clear hF hd; generalize F.eval = ρ at E2 Ec Ef ⊢
          simp only [execOp, E2, Instr.loadAt, Instr.sureAddr, Sem.run_bind, Sem.run_pure, Result.andThen_ok, hl]
        case oc3 => as_aux_lemma =>
          intro p vals2 W1 F hF hlo hhi hI hd
          have hp : p = 0 := Nat.le_antisymm hhi hlo
          subst hp
          clear hlo hhi
          have d1 : vals2 1 = .bool true := hd ⟨1, .guard⟩ (Array.mem_of_getElem? (i := 0) rfl) rfl (show (0 : Nat) ≤ 1000 by decide)
          have E3 : F.eval (.tmp 3) = .pointer (some ⟨w.heap.size + 1, 0, none⟩) := hF.out_ (by kernel_rfl) rfl
          have G := hF.own_ 1 rfl rfl (by kernel_rfl) (by decide); rw [d1] at G
          refine .inr ⟨wanted_yes rfl rfl rfl G, ?_⟩
          have hl := run_loadVar_row (P := Try.prog) W1 (w.heap.size + 1) 23 23 (arr8 d) (0, 0) _ (hI.get 1 rfl) Try.underlying23 rfl (infoH _ HD.out)
          refine .inl ⟨.agg (arr8 d), ?_, hI, TyP.of_is rfl⟩
          have Ec : ∀ v, F.eval (.const v) = v := fun _ => rfl; have Ef : ∀ f, F.eval (.func f) = .func (.func f) #[] #[] := fun _ => rfl; clear hF hd; generalize F.eval = ρ at E3 Ec Ef ⊢
          simp only [execOp, E3, Instr.loadAt, Instr.sureAddr, Sem.run_bind, Sem.run_pure, Result.andThen_ok, hl]
        case oc4 => as_aux_lemma =>
          intro p vals2 W1 F hF hlo hhi hI hd
          have hp : p = 0 := Nat.le_antisymm hhi hlo
          subst hp
          clear hlo hhi
          have d1 : vals2 1 = .bool true := hd ⟨1, .chain⟩ (Array.mem_of_getElem? (i := 2) rfl) rfl (show (0 : Nat) ≤ 1000 by decide)
          have d2 : vals2 2 = .agg (arr8 s) := hd ⟨2, .data⟩ (Array.mem_of_getElem? (i := 0) rfl) rfl (show (0 : Nat) ≤ 1000 by decide)
          have d3 : vals2 3 = .agg (arr8 d) := hd ⟨3, .data⟩ (Array.mem_of_getElem? (i := 1) rfl) rfl (show (0 : Nat) ≤ 1000 by decide)
          have E39 := eval_some (hF.own_ 2 rfl rfl (by kernel_rfl) (by decide)); rw [d2] at E39
          have E40 := eval_some (hF.own_ 3 rfl rfl (by kernel_rfl) (by decide)); rw [d3] at E40
          have G := hF.own_ 1 rfl rfl (by kernel_rfl) (by decide); rw [d1] at G
          refine .inr ⟨wanted_yes rfl rfl rfl G, ?_⟩
          refine .inr (.inr (.inl ⟨9, #[.agg (arr8 s), .agg (arr8 d)], ?_, (CS.out W1).mono ?_⟩))
          · have Ec : ∀ v, F.eval (.const v) = v := fun _ => rfl; have Ef : ∀ f, F.eval (.func f) = .func (.func f) #[] #[] := fun _ => rfl; clear hF hd; generalize F.eval = ρ at E39 E40 Ec Ef ⊢
            simp [execOp, go_sem, Ec, Ef, E39, E40]
          rintro e W2 ⟨g9, rfl, hk9⟩
          have hb := hk9.bel
          exact ⟨_, rfl, hb, hI.call hb, _, _, rfl, holdsK (k := 0) hk9 rfl⟩
        case oc5 => as_aux_lemma =>
          intro p vals2 W1 F hF hlo hhi hI hd
          have hp : p = 0 := Nat.le_antisymm hhi hlo
          subst hp
          clear hlo hhi
          have d1 : vals2 1 = .bool true := hd ⟨1, .guard⟩ (Array.mem_of_getElem? (i := 1) rfl) rfl (show (0 : Nat) ≤ 1000 by decide)
          obtain ⟨X4, c4, hspec4, hh4⟩ := hd ⟨4, .data⟩ (Array.mem_of_getElem? (i := 0) rfl) rfl (show (0 : Nat) ≤ 1000 by decide)
          have d4 : vals2 4 = .slice X4 64 c4 := hspec4
          have E41 := eval_some (hF.own_ 4 rfl rfl (by kernel_rfl) (by decide)); rw [d4] at E41
          have G := hF.own_ 1 rfl rfl (by kernel_rfl) (by decide); rw [d1] at G
          refine .inr ⟨wanted_yes rfl rfl rfl G, ?_⟩
          have hst := str_of (hh4) c4
          refine .inl ⟨.string SS, ?_, hI, TyP.of_is rfl⟩
          have Ec : ∀ v, F.eval (.const v) = v := fun _ => rfl; have Ef : ∀ f, F.eval (.func f) = .func (.func f) #[] #[] := fun _ => rfl; clear hF hd; generalize F.eval = ρ at E41 Ec Ef ⊢
          simp only [execOp, E41]
          rw [HSD.out] at hst
          rw [Sem.run_bind, hst, ← HSS.out]
          rfl
        case oc6 => as_aux_lemma =>
          intro p vals2 W1 F hF hlo hhi hI hd
          have hp : p = 0 := Nat.le_antisymm hhi hlo
          subst hp
          clear hlo hhi
          have d1 : vals2 1 = .bool true := hd ⟨1, .guard⟩ (Array.mem_of_getElem? (i := 0) rfl) rfl (show (0 : Nat) ≤ 1000 by decide)
          have E2 : F.eval (.tmp 2) = .pointer (some ⟨w.heap.size, 0, none⟩) := hF.out_ (by kernel_rfl) rfl
          have G := hF.own_ 1 rfl rfl (by kernel_rfl) (by decide); rw [d1] at G
          refine .inr ⟨wanted_yes rfl rfl rfl G, ?_⟩
          have hl := run_loadVar_row (P := Try.prog) W1 w.heap.size 23 23 (arr8 s) (0, 0) _ (hI.get 0 rfl) Try.underlying23 rfl (infoH _ HS.out)
          refine .inl ⟨.agg (arr8 s), ?_, hI, TyP.of_is rfl⟩
          have Ec : ∀ v, F.eval (.const v) = v := fun _ => rfl; have Ef : ∀ f, F.eval (.func f) = .func (.func f) #[] #[] := fun _ => rfl; clear hF hd; generalize F.eval = ρ at E2 Ec Ef ⊢
          simp only [execOp, E2, Instr.loadAt, Instr.sureAddr, Sem.run_bind, Sem.run_pure, Result.andThen_ok, hl]
        case oc7 => as_aux_lemma =>
          intro p vals2 W1 F hF hlo hhi hI hd
          have hp : p = 0 := Nat.le_antisymm hhi hlo
          subst hp
          clear hlo hhi
          have d1 : vals2 1 = .bool true := hd ⟨1, .guard⟩ (Array.mem_of_getElem? (i := 0) rfl) rfl (show (0 : Nat) ≤ 1000 by decide)
          have E3 : F.eval (.tmp 3) = .pointer (some ⟨w.heap.size + 1, 0, none⟩) := hF.out_ (by kernel_rfl) rfl
          have G := hF.own_ 1 rfl rfl (by kernel_rfl) (by decide); rw [d1] at G
          refine .inr ⟨wanted_yes rfl rfl rfl G, ?_⟩
          have hl := run_loadVar_row (P := Try.prog) W1 (w.heap.size + 1) 23 23 (arr8 d) (0, 0) _ (hI.get 1 rfl) Try.underlying23 rfl (infoH _ HD.out)
          refine .inl ⟨.agg (arr8 d), ?_, hI, TyP.of_is rfl⟩
          have Ec : ∀ v, F.eval (.const v) = v := fun _ => rfl; have Ef : ∀ f, F.eval (.func f) = .func (.func f) #[] #[] := fun _ => rfl; clear hF hd; generalize F.eval = ρ at E3 Ec Ef ⊢
          simp only [execOp, E3, Instr.loadAt, Instr.sureAddr, Sem.run_bind, Sem.run_pure, Result.andThen_ok, hl]
        case oc8 => as_aux_lemma =>
          intro p vals2 W1 F hF hlo hhi hI hd
          have hp : p = 0 := Nat.le_antisymm hhi hlo
          subst hp
          clear hlo hhi
          have d1 : vals2 1 = .bool true := hd ⟨1, .guard⟩ (Array.mem_of_getElem? (i := 3) rfl) rfl (show (0 : Nat) ≤ 1000 by decide)
          have d6 : vals2 6 = .agg (arr8 s) := hd ⟨6, .data⟩ (Array.mem_of_getElem? (i := 0) rfl) rfl (show (0 : Nat) ≤ 1000 by decide)
          have d7 : vals2 7 = .agg (arr8 d) := hd ⟨7, .data⟩ (Array.mem_of_getElem? (i := 1) rfl) rfl (show (0 : Nat) ≤ 1000 by decide)
          have E43 := eval_some (hF.own_ 6 rfl rfl (by kernel_rfl) (by decide)); rw [d6] at E43
          have E44 := eval_some (hF.own_ 7 rfl rfl (by kernel_rfl) (by decide)); rw [d7] at E44
          have G := hF.own_ 1 rfl rfl (by kernel_rfl) (by decide); rw [d1] at G
          refine .inr ⟨wanted_yes rfl rfl rfl G, ?_⟩
          refine .inr (.inr (.inl ⟨12, #[.agg (arr8 s), .agg (arr8 d)], ?_, (RS.out W1).mono ?_⟩))
          · have Ec : ∀ v, F.eval (.const v) = v := fun _ => rfl; have Ef : ∀ f, F.eval (.func f) = .func (.func f) #[] #[] := fun _ => rfl; clear hF hd; generalize F.eval = ρ at E43 E44 Ec Ef ⊢
            simp [execOp, go_sem, Ec, Ef, E43, E44]
          rintro e W2 ⟨v, rfl, hown, hb⟩
          obtain ⟨X, c, hv, hX, _⟩ := own_open hown
          rw [HSD.out] at hv
          exact ⟨_, rfl, hb, hI.call hb, X, c, hv, hX⟩
        case oc9 => as_aux_lemma =>
          intro p vals2 W1 F hF hlo hhi hI hd
          have hp : p = 0 := Nat.le_antisymm hhi hlo
          subst hp
          clear hlo hhi
          have d1 : vals2 1 = .bool true := hd ⟨1, .guard⟩ (Array.mem_of_getElem? (i := 1) rfl) rfl (show (0 : Nat) ≤ 1000 by decide)
          obtain ⟨X8, c8, hspec8, hh8⟩ := hd ⟨8, .data⟩ (Array.mem_of_getElem? (i := 0) rfl) rfl (show (0 : Nat) ≤ 1000 by decide)
          have d8 : vals2 8 = .slice X8 64 c8 := hspec8
          have E45 := eval_some (hF.own_ 8 rfl rfl (by kernel_rfl) (by decide)); rw [d8] at E45
          have G := hF.own_ 1 rfl rfl (by kernel_rfl) (by decide); rw [d1] at G
          refine .inr ⟨wanted_yes rfl rfl rfl G, ?_⟩
          have hst := str_of (hh8) c8
          refine .inl ⟨.string SS, ?_, hI, TyP.of_is rfl⟩
          have Ec : ∀ v, F.eval (.const v) = v := fun _ => rfl; have Ef : ∀ f, F.eval (.func f) = .func (.func f) #[] #[] := fun _ => rfl; clear hF hd; generalize F.eval = ρ at E45 Ec Ef ⊢
          simp only [execOp, E45]
          rw [HSD.out] at hst
          rw [Sem.run_bind, hst, ← HSS.out]
          rfl
        case oc10 => as_aux_lemma =>
          intro p vals2 W1 F hF hlo hhi hI hd
          have hp : p = 0 := Nat.le_antisymm hhi hlo
          subst hp
          clear hlo hhi
          have d1 : vals2 1 = .bool true := hd ⟨1, .guard⟩ (Array.mem_of_getElem? (i := 2) rfl) rfl (show (0 : Nat) ≤ 1000 by decide)
          have d5 : vals2 5 = .string SS := hd ⟨5, .data⟩ (Array.mem_of_getElem? (i := 0) rfl) rfl (show (0 : Nat) ≤ 1000 by decide)
          have d9 : vals2 9 = .string SS := hd ⟨9, .data⟩ (Array.mem_of_getElem? (i := 1) rfl) rfl (show (0 : Nat) ≤ 1000 by decide)
          have E42 := eval_some (hF.own_ 5 rfl rfl (by kernel_rfl) (by decide)); rw [d5] at E42
          have E46 := eval_some (hF.own_ 9 rfl rfl (by kernel_rfl) (by decide)); rw [d9] at E46
          have G := hF.own_ 1 rfl rfl (by kernel_rfl) (by decide); rw [d1] at G
          refine .inr ⟨wanted_yes rfl rfl rfl G, .inl ⟨.bool true, ?_, hI, TyP.of_is rfl⟩⟩
          have Ec : ∀ v, F.eval (.const v) = v := fun _ => rfl; have Ef : ∀ f, F.eval (.func f) = .func (.func f) #[] #[] := fun _ => rfl; clear hF hd; generalize F.eval = ρ at E42 E46 Ec Ef ⊢
          simp [execOp, go_sem, Ec, E42, E46]
        case oc11 => as_aux_lemma =>
          intro p vals2 W1 F hF hlo hhi hI hd
          have hp : p = 0 := Nat.le_antisymm hhi hlo
          subst hp
          clear hlo hhi
          have d1 : vals2 1 = .bool true := hd ⟨1, .data⟩ (Array.mem_of_getElem? (i := 0) rfl) rfl (show (0 : Nat) ≤ 1000 by decide)
          have d10 : vals2 10 = .bool true := hd ⟨10, .data⟩ (Array.mem_of_getElem? (i := 1) rfl) rfl (show (0 : Nat) ≤ 1000 by decide)
          have E38 := eval_some (hF.own_ 1 rfl rfl (by kernel_rfl) (by decide)); rw [d1] at E38
          have E47 := eval_some (hF.own_ 10 rfl rfl (by kernel_rfl) (by decide)); rw [d10] at E47
          refine .inr ⟨wanted_none rfl, .inl ⟨.bool true, ?_, hI, TyP.of_is rfl⟩⟩
          have Ec : ∀ v, F.eval (.const v) = v := fun _ => rfl; have Ef : ∀ f, F.eval (.func f) = .func (.func f) #[] #[] := fun _ => rfl; clear hF hd; generalize F.eval = ρ at E38 E47 Ec Ef ⊢
          simp [execOp, go_sem, Ec, E38, E47]
        case oc12 => as_aux_lemma =>
          intro p vals2 W1 F hF hlo hhi hI hd
          have hp : p = 0 := Nat.le_antisymm hhi hlo
          subst hp
          clear hlo hhi
          have d11 : vals2 11 = .bool true := hd ⟨11, .data⟩ (Array.mem_of_getElem? (i := 0) rfl) rfl (show (0 : Nat) ≤ 1000 by decide)
          have E48 := eval_some (hF.own_ 11 rfl rfl (by kernel_rfl) (by decide)); rw [d11] at E48
          refine .inr ⟨wanted_none rfl, .inl ⟨.bool true, ?_, hI, TyP.of_is rfl⟩⟩
          simp only [execOp, E48, Sem.run_pure]
        case ocend =>
          intro vals2 W1 F hF hdef hI hT
          have hv : vals2 12 = .bool true := hT 12 (by decide) (show (0 : Nat) ≤ 1000 by decide)
          rename_i K hK9
          refine hK9 _ _ ?_
          rw [hF.act]
          simp only [fin, Act.put, List.setIfInBounds_toArray, List.set_cons_succ, List.set_cons_zero]
          rw [hv]
          clear hF hT hv
          go_wp2
          go_ret
          exact ⟨rfl, hI.bel⟩
set_option maxRecDepth 100000 in
theorem sforms_lifted (os : Os) (started : os.Started) (H : Type) (enc : TypeId × Value → H) :
    ReturnsInHanded {} Try.checked os 3 .any (Rows.signFormsSpec.pre6 enc Try.prog Try.f3 Rows.signFormsRow.domain false) (Rows.signFormsSpec.post enc Try.prog Try.f3 false true false false) := by
  refine returnsInHanded_of_change (C := Try.checked) own started (by kernel_rfl) Try.func3
    (ChangeSpec.witness6 (enc := enc) (C := Try.checked) false ⟨#[], #[.agg (vals (List.replicate 32 0)).toArray, .agg (vals (List.replicate 32 0)).toArray], []⟩ 8 (by kernel_rfl) (by kernel_rfl) (by kernel_rfl) (by kernel_rfl)) ?_
  intro W base args ds gs before hval0 hW hcnd _
  have hval : ∀ (j : Nat) t v, Try.f3.params[j]? = some t → args[j]? = some v → Value.okWide Try.prog W .any base t v := hval0
  have hW' := hW
  obtain ⟨p, q, hA0, hV, rfl, hfz, hnd⟩ := hW
  have hA : DataW.TrodAll enc Try.prog W 0 (fun _ => true) true Try.f3.params.toList args.toList ds p := hA0
  rw [Try.params3] at hA hval
  obtain ⟨v0, vs0, d0, ds0, p0, q0, hargs, rfl, rfl, h0, r0⟩ := trodAll_cons hA
  obtain ⟨v1, vs1, d1, ds1, p1, q1, rfl, rfl, rfl, h1, r1⟩ := trodAll_cons r0
  obtain ⟨rfl, rfl, rfl⟩ := trodAll_nil r1
  obtain rfl : args = #[v0, v1] := by cases args; simp_all
  obtain ⟨rfl, rfl⟩ := trodVars_none hV
  have k0 := h0
  have lt0 : ∀ x ∈ p0, x.block < W.heap.size := by obtain ⟨m, hm⟩ := k0; exact DataW.trod_lt m _ _ _ hm
  have k1 := h1
  have lt1 : ∀ x ∈ p1, x.block < W.heap.size := by obtain ⟨m, hm⟩ := k1; exact DataW.trod_lt m _ _ _ hm
  obtain ⟨cs0, rfl⟩ := okWide_arrayH Try.underlying23 (hval 0 23 v0 rfl rfl)
  obtain ⟨bs0, hz0, rfl⟩ := isHash_of k0
  obtain ⟨cs1, rfl⟩ := okWide_arrayH Try.underlying23 (hval 1 23 v1 rfl rfl)
  obtain ⟨bs1, hz1, rfl⟩ := isHash_of k1
  clear hA0 hval0
  refine (sforms_walk W bs0 bs1 hz0 hz1).mono fun e W' ⟨he, bel⟩ => ?_
  subst he
  exact ⟨_, rfl, _, _, _, [], _, [], hW', trodAll_mk1 (shut_bool Try.underlying4 _), (trodAll_cons_mk (Below.trod laidOut (by kernel_rfl) (of_decide_eq_true (by kernel_rfl)) k0 bel lt0) (trodAll_cons_mk (Below.trod laidOut (by kernel_rfl) (of_decide_eq_true (by kernel_rfl)) k1 bel lt1) trodAll_mk0)), rfl, bel.frame _, fun h => by cases h⟩

theorem sforms_over : Rows.signFormsRow.holds Try.pinned (OpenSpec.ofChange Rows.signFormsSpec) :=
  OpenClaim.holds_of_wide 3 Try.f3 rfl rfl rfl rfl rfl rfl rfl ⟨rfl, rfl, rfl, rfl, rfl⟩ rfl rfl rfl rfl rfl (by kernel_rfl) Try.func3 (by kernel_rfl)
    (of_decide_eq_true (by kernel_rfl)) (by unfold Func.isWrapper; first | (rw [if_pos (by decide +kernel)]; kernel_rfl) | (rw [if_neg (by decide +kernel)]; exact ⟨rfl, rfl⟩))
    (fun os started H enc _ => sforms_lifted os started H enc)

/-- The public key of any secret, and its signature of any digest, are the document's; what is answered is new memory. No condition. -/
theorem sforms_proved : Rows.SignFormsSaid := sforms_over
#print axioms sforms_proved
end Go.Proofs.Ytijobhpmaenjlaa.Oct
