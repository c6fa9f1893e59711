/- SignTurned is true at every input. No condition. -/
import Derived.Test.YtijobhpmaenjlaaSigI
namespace Go.Proofs.Ytijobhpmaenjlaa.Oct
set_option linter.unusedVariables false
set_option linter.unusedSimpArgs false
open Go.Proofs.Ytijobhpmaenjlaa Go.RowKit Go.Lib Go.Shelf Go.ChangeShapes Go.WideShapes Go.ChangeAt

theorem xor_ne (v y : UInt8) (hy : y ≠ 0) : v ^^^ y ≠ v := fun h => hy (by
  have h2 : v ^^^ (v ^^^ y) = v ^^^ v := by rw [h]
  rw [← UInt8.xor_assoc, UInt8.xor_self, UInt8.zero_xor] at h2
  exact h2)
theorem set_ne {l : List UInt8} {n : Nat} (hn : n < l.length) {z : UInt8} (hz : z ≠ l.getD n 0) : l.set n z ≠ l := fun h => hz (by
  have h2 : (l.set n z).getD n 0 = l.getD n 0 := by rw [h]
  simpa [List.getD, hn] using h2)
theorem row_list (a : List UInt8) {j : Nat} (x : UInt8) : (arr8 a).setIfInBounds j (.int .u8 ((x.toNat : Nat) : Int)) = arr8 (a.set j x) := arr8_set a j x
theorem meet_two (W : World) (a b : List UInt8) (A B : Option Addr) (c e : Nat) (ha : a.length = 32) (hb : b.length = 32) (h1 : Holds8 W.heap.size W A a) (h2 : Holds8 W.heap.size W B b) (hc : 32 ≤ c) (he : 32 ≤ e) : MeetAt (W.alloc (.cells #[.slice A 32 c, .slice B 32 e] 24)) W.heap.size [⟨A, a, c⟩, ⟨B, b, e⟩] := by
  have hbel : Below W.heap.size W (W.alloc (.cells #[.slice A 32 c, .slice B 32 e] 24)) := (Below.refl _ _).alloc (Nat.le_refl _) _
  refine ⟨by rw [World.size_alloc]; omega, fun k p hk => ?_, fun k p hk => ?_⟩
  · rw [cell_of_row _ _ _ _ _ _ (heap_alloc_new W _)]
    match k, hk with
    | 0, hk => cases hk; dsimp only; rw [ha]; rfl
    | 1, hk => cases hk; dsimp only; rw [hb]; rfl
  · match k, hk with
    | 0, hk => cases hk; dsimp only; exact ⟨h1.later hbel, by omega, by omega⟩
    | 1, hk => cases hk; dsimp only; exact ⟨h2.later hbel, by omega, by omega⟩
/-- What a signature's one turned byte makes of it. -/
theorem isB_turned (s d T : List UInt8) (hs : s.length = 32) (hT : T ≠ s ++ sha (s ++ d)) (hno : ¬ (s ≠ T.take 32 ∧ sha s = sha (T.take 32))) : isB (sha s) T d = false := by
  cases h : isB (sha s) T d with
  | false => rfl
  | true =>
    unfold isB at h
    simp only [Bool.and_eq_true, decide_eq_true_eq] at h
    obtain ⟨⟨⟨_, h1⟩, h2⟩, h3⟩ := h
    have h4 : s = T.take 32 := Classical.byContradiction fun e => hno ⟨e, h2.symm⟩
    rw [← h4] at h3
    exact absurd (by rw [h3, h4, List.take_append_drop]) hT
theorem isB_key (s d K : List UInt8) (sg : List UInt8) (hsg : sg.take 32 = s) (hK : K ≠ sha s) : isB K sg d = false := by
  cases h : isB K sg d with
  | false => rfl
  | true =>
    unfold isB at h
    simp only [Bool.and_eq_true, decide_eq_true_eq] at h
    obtain ⟨⟨_, h2⟩, _⟩ := h
    rw [hsg] at h2
    exact absurd h2.symm hK

set_option maxRecDepth 100000 in
set_option maxHeartbeats 8000000 in
theorem turned_walk (w : World) (s d : List UInt8) (at_ by_ : Int) (hs : s.length = 32) (hd : d.length = 32) (ha : 0 ≤ at_ ∧ at_ < 256) (hb : 0 ≤ by_ ∧ by_ < 256) :
    Calls Try.prog 7 #[.agg (arr8 s), .agg (arr8 d), .int .u8 at_, .int .u8 by_] w fun e w' => e = .returned (.bool true) ∧ Below w.heap.size w w' := by
  obtain ⟨Y, hY⟩ : ∃ Y : UInt8, by_ = (Y.toNat : Int) := ⟨UInt8.ofNat by_.toNat, by rw [UInt8.toNat_ofNat']; omega⟩
  obtain ⟨n, hn⟩ : ∃ n : Nat, at_ % 96 = (n : Int) := ⟨(at_ % 96).toNat, by omega⟩
  subst hY
  have hn96 : n < 96 := by omega
  have hK := ((Keeps.nil w).new (arr8 s) 23).new (arr8 d) 23
  simp only [World.size_alloc, List.nil_append, List.cons_append] at hK
  have C0 := fun W => alive_any W
  have C1 := fun W => public_any W s hs
  have C2 := fun W => sign_any W s d hs hd
  have C4 := fun W (X Y : Option Addr) (c e : Nat) (k : List UInt8) (sg : List UInt8) (h1 : Holds8 W.heap.size W X k) (h2 : Holds8 W.heap.size W Y sg) (k1 : k.length = 32) (k2 : sg.length = 64) (k3 : 32 ≤ c) (k4 : 64 ≤ e) => is_any W X Y 32 c 64 e k sg d hd h1 h2 k1 k2 k3 k4
  have hKl : (sha s).length = 32 := hashOf_length _
  have hDl : (sha (s ++ d)).length = 32 := hashOf_length _
  obtain ⟨KH, hKH⟩ : ∃ KH, sha s = KH := ⟨_, rfl⟩
  obtain ⟨D, hDD⟩ : ∃ D, sha (s ++ d) = D := ⟨_, rfl⟩
  rw [hKH] at C1 hKl
  rw [hDD] at C2 hDl
  have CA := Lib.hid C0
  have CP := Lib.hid C1
  have CS := Lib.hid C2
  have CI := Lib.hid C4
  have HKH := Lib.hid hKH
  have HDD := Lib.hid hDD
  have HS := Lib.hid hs
  have HD := Lib.hid hd
  have HKl := Lib.hid hKl
  have HSD := Lib.hid (show (s ++ D).length = 64 by rw [List.length_append, hs, hDl])
  have HTK := Lib.hid (show (s ++ D).take 32 = s by rw [List.take_append_of_le_length (by omega), List.take_of_length_le (by omega)])
  clear C0 C1 C2 C4 hs hd hKl hDl hKH hDD
  go_enter Try.func7, Try.ntmps7
  go_wp2_with (first | (go_at_call 16; (with_reducible refine (CA.out _).mono ?_); rintro e W1 ⟨rfl, hb1⟩; replace hK := hK.call hb1; clear hb1))
  generalize hb0 : W1.heap.size = b0 at *
  have hl0 : w.heap.size < b0 := by rw [← hb0]; exact hK.lt 0 rfl
  have hl1 : w.heap.size + 1 < b0 := by rw [← hb0]; exact hK.lt 1 rfl
  have hI0 : KeyI w w.heap.size b0 [(w.heap.size, arr8 s, 23), (w.heap.size + 1, arr8 d, 23)] KH 0 undef W1 := ⟨hK, by rw [hb0]; exact Nat.le_refl _, fun h => absurd h (by decide)⟩
  have hne : ∀ g, b0 ≤ g → ∀ (i : Nat) (p : Nat × Array Value × TypeId), [(w.heap.size, arr8 s, 23), (w.heap.size + 1, arr8 d, 23)][i]? = some p → p.1 ≠ g := fun g hg i p hi => by
    match i, hi with
    | 0, hi => cases hi; dsimp only; omega
    | 1, hi => cases hi; dsimp only; omega
  have HNE := Lib.hid hne
  have HL0 := Lib.hid hl0
  clear hne hl0 hl1 hK hb0
  refine wp_region_phasedV 69 rfl (fun k d W W' => (d = 0 → Below W.heap.size W W') ∧ (∀ (g : Nat) (cs : Array Value) (fr : Nat × Nat), W.heap[g]? = some (.cells cs 5 fr) → W'.heap[g]? = some (.cells cs 5 fr))) (fun p vals W1 => KeyI w w.heap.size b0 [(w.heap.size, arr8 s, 23), (w.heap.size + 1, arr8 d, 23)] KH p (vals 5) W1) [.is (.agg (arr8 s)), .is (.agg (arr8 KH)), .is (.agg (arr8 s)), .is (.agg (arr8 d)), ⟨0, 1000, fun v W => ∃ g, v = .slice (some ⟨g, 0, none⟩) 64 64 ∧ b0 ≤ g ∧ W.heap[g]? = some (.cells (arr8 (s ++ D)) 5 (0, 0)), fun k d v W W' hk hd h hr => by obtain ⟨g, e, h1, h2⟩ := h; exact ⟨g, e, h1, hr.2 _ _ _ h2⟩⟩, ⟨0, 0, fun v W => ∃ g, v = .pointer (some ⟨g, 0, none⟩) ∧ b0 ≤ g ∧ W.heap[g]? = some (.cells (arr8 zero32) 23 (0, 0)), fun k d v W W' hk hd h hr => by obtain ⟨g, e, h1, h2⟩ := h; exact ⟨g, e, h1, by rw [(hr.1 (by omega)).block g (Array.getElem?_eq_some_iff.1 h2).1]; exact h2⟩⟩, .is undef, ⟨0, 1000, fun v W => ∃ g, v = .slice (some ⟨g, 0, none⟩) 64 64 ∧ b0 ≤ g ∧ W.heap[g]? = some (.cells (arr8 (s ++ D)) 5 (0, 0)), fun k d v W W' hk hd h hr => by obtain ⟨g, e, h1, h2⟩ := h; exact ⟨g, e, h1, hr.2 _ _ _ h2⟩⟩] [6] [0, 0, 0, 0, 0, 0, 0, 1] [0, 0, 0, 0, 0, 0, 0, 1] (by kernel_rfl) (by kernel_rfl) (by kernel_rfl) (fun _ _ W => ⟨fun _ => Below.refl _ W, fun _ _ _ h => h⟩) (⟨hI0.keeps.drew, hI0.big, fun h => absurd h (by decide)⟩) ⟨?ob0, ?ob1, ?ob2, ?ob3, ?ob4, ?ob5, ?ob6, ?ob7, trivial⟩ ?obend
  case ob0 => as_aux_lemma =>
    intro p vals W1 F hF hlo hhi hI hd
    have hp : p = 0 := Nat.le_antisymm hhi hlo
    subst hp
    clear hlo hhi
    have E4 : F.eval (.tmp 4) = .pointer (some ⟨w.heap.size, 0, none⟩) := hF.out_ (by kernel_rfl) rfl
    refine .inr ⟨wanted_none rfl, ?_⟩
    have hl := run_loadVar_row (P := Try.prog) W1 w.heap.size 23 23 (arr8 s) (0, 0) _ (hI.keeps.get 0 rfl) Try.underlying23 rfl (infoH _ HS.out)
    refine .inl ⟨.agg (arr8 s), ?_, hI, TyP.of_is rfl⟩
    have Ec : ∀ v, F.eval (.const v) = v := fun _ => rfl; have Ef : ∀ f, F.eval (.func f) = .func (.func f) #[] #[] := fun _ => rfl; clear hF hd; generalize F.eval = ρ at E4 Ec Ef ⊢
    simp only [execOp, E4, Instr.loadAt, Instr.sureAddr, Sem.run_bind, Sem.run_pure, Result.andThen_ok, hl]
  case ob1 => as_aux_lemma =>
    intro p vals W1 F hF hlo hhi hI hd
    have hp : p = 0 := Nat.le_antisymm hhi hlo
    subst hp
    clear hlo hhi
    have d0 : vals 0 = .agg (arr8 s) := hd ⟨0, .data⟩ (Array.mem_of_getElem? (i := 0) rfl) rfl (show (0 : Nat) ≤ 1000 by decide)
    have E14 := eval_some (hF.own_ 0 rfl rfl (by kernel_rfl) (by decide)); rw [d0] at E14
    refine .inr ⟨wanted_none rfl, ?_⟩
    refine .inr (.inr (.inl ⟨10, #[.agg (arr8 s)], ?_, (CP.out W1).mono ?_⟩))
    · have Ec : ∀ v, F.eval (.const v) = v := fun _ => rfl; have Ef : ∀ f, F.eval (.func f) = .func (.func f) #[] #[] := fun _ => rfl; clear hF hd; generalize F.eval = ρ at E14 Ec Ef ⊢
      simp [execOp, go_sem, Ec, Ef, E14]
    rintro e W2 ⟨rfl, hb⟩
    exact ⟨_, rfl, ⟨fun _ => hb, stays hb⟩, hI.call hb, TyP.of_is rfl⟩
  case ob2 => as_aux_lemma =>
    intro p vals W1 F hF hlo hhi hI hd
    have hp : p = 0 := Nat.le_antisymm hhi hlo
    subst hp
    clear hlo hhi
    have E4 : F.eval (.tmp 4) = .pointer (some ⟨w.heap.size, 0, none⟩) := hF.out_ (by kernel_rfl) rfl
    refine .inr ⟨wanted_none rfl, ?_⟩
    have hl := run_loadVar_row (P := Try.prog) W1 w.heap.size 23 23 (arr8 s) (0, 0) _ (hI.keeps.get 0 rfl) Try.underlying23 rfl (infoH _ HS.out)
    refine .inl ⟨.agg (arr8 s), ?_, hI, TyP.of_is rfl⟩
    have Ec : ∀ v, F.eval (.const v) = v := fun _ => rfl; have Ef : ∀ f, F.eval (.func f) = .func (.func f) #[] #[] := fun _ => rfl; clear hF hd; generalize F.eval = ρ at E4 Ec Ef ⊢
    simp only [execOp, E4, Instr.loadAt, Instr.sureAddr, Sem.run_bind, Sem.run_pure, Result.andThen_ok, hl]
  case ob3 => as_aux_lemma =>
    intro p vals W1 F hF hlo hhi hI hd
    have hp : p = 0 := Nat.le_antisymm hhi hlo
    subst hp
    clear hlo hhi
    have E5 : F.eval (.tmp 5) = .pointer (some ⟨w.heap.size + 1, 0, none⟩) := hF.out_ (by kernel_rfl) rfl
    refine .inr ⟨wanted_none rfl, ?_⟩
    have hl := run_loadVar_row (P := Try.prog) W1 (w.heap.size + 1) 23 23 (arr8 d) (0, 0) _ (hI.keeps.get 1 rfl) Try.underlying23 rfl (infoH _ HD.out)
    refine .inl ⟨.agg (arr8 d), ?_, hI, TyP.of_is rfl⟩
    have Ec : ∀ v, F.eval (.const v) = v := fun _ => rfl; have Ef : ∀ f, F.eval (.func f) = .func (.func f) #[] #[] := fun _ => rfl; clear hF hd; generalize F.eval = ρ at E5 Ec Ef ⊢
    simp only [execOp, E5, Instr.loadAt, Instr.sureAddr, Sem.run_bind, Sem.run_pure, Result.andThen_ok, hl]
  case ob4 => as_aux_lemma =>
    intro p vals W1 F hF hlo hhi hI hd
    have hp : p = 0 := Nat.le_antisymm hhi hlo
    subst hp
    clear hlo hhi
    have d2 : vals 2 = .agg (arr8 s) := hd ⟨2, .data⟩ (Array.mem_of_getElem? (i := 0) rfl) rfl (show (0 : Nat) ≤ 1000 by decide)
    have d3 : vals 3 = .agg (arr8 d) := hd ⟨3, .data⟩ (Array.mem_of_getElem? (i := 1) rfl) rfl (show (0 : Nat) ≤ 1000 by decide)
    have E16 := eval_some (hF.own_ 2 rfl rfl (by kernel_rfl) (by decide)); rw [d2] at E16
    have E17 := eval_some (hF.own_ 3 rfl rfl (by kernel_rfl) (by decide)); rw [d3] at E17
    refine .inr ⟨wanted_none rfl, ?_⟩
    refine .inr (.inr (.inl ⟨9, #[.agg (arr8 s), .agg (arr8 d)], ?_, (CS.out W1).mono ?_⟩))
    · have Ec : ∀ v, F.eval (.const v) = v := fun _ => rfl; have Ef : ∀ f, F.eval (.func f) = .func (.func f) #[] #[] := fun _ => rfl; clear hF hd; generalize F.eval = ρ at E16 E17 Ec Ef ⊢
      simp [execOp, go_sem, Ec, Ef, E16, E17]
    rintro e W2 ⟨g9, rfl, hk9⟩
    have hb := hk9.bel
    exact ⟨_, rfl, ⟨fun _ => hb, stays hb⟩, hI.call hb, g9, rfl, Nat.le_trans hI.big (hk9.base 0 _ rfl), hk9.get 0 rfl⟩
  case ob5 => as_aux_lemma =>
    intro p vals W1 F hF hlo hhi hI hd
    have hp : p = 0 := Nat.le_antisymm hhi hlo
    subst hp
    clear hlo hhi
    refine .inr ⟨wanted_none rfl, ?_⟩
    have hb : Below W1.heap.size W1 (W1.alloc (.cells (arr8 zero32) 23)) := (Below.refl W1.heap.size W1).alloc (Nat.le_refl _) _
    refine .inr (.inl ⟨.pointer (some ⟨W1.heap.size, 0, none⟩), W1.alloc (.cells (arr8 zero32) 23), by kernel_rfl, ⟨fun _ => hb, stays hb⟩, hI.call hb, W1.heap.size, rfl, hI.big, heap_alloc_new W1 _⟩)
  case ob6 => as_aux_lemma =>
    intro p vals W1 F hF hlo hhi hI hd
    have hp : p = 0 := Nat.le_antisymm hhi hlo
    subst hp
    clear hlo hhi
    have d1 : vals 1 = .agg (arr8 KH) := hd ⟨1, .data⟩ (Array.mem_of_getElem? (i := 1) rfl) rfl (show (0 : Nat) ≤ 1000 by decide)
    obtain ⟨g5, hspec5, hg5, hm5⟩ := hd ⟨5, .data⟩ (Array.mem_of_getElem? (i := 0) rfl) rfl (show (0 : Nat) ≤ 0 by decide)
    have d5 : vals 5 = .pointer (some ⟨g5, 0, none⟩) := hspec5
    have E10 := eval_some (hF.own_ 5 rfl rfl (by kernel_rfl) (by decide)); rw [d5] at E10
    have E15 := eval_some (hF.own_ 1 rfl rfl (by kernel_rfl) (by decide)); rw [d1] at E15
    refine .inr ⟨wanted_none rfl, ?_⟩
    have hst := run_store_hash W1 g5 zero32 KH hm5 rfl HKl.out
    refine .inr (.inr (.inr ⟨W1.setRow g5 (arr8 KH), ?_, ⟨fun h => absurd h (by decide), fun g cs fr h => (setRow_other _ _ _ _ (fun e => by subst e; exact box_row hm5 h)).trans h⟩, ⟨Keeps.besides hI.keeps _ (Nat.le_of_lt (Nat.lt_of_lt_of_le HL0.out hg5)) (HNE.out g5 hg5), by rw [setRow_size]; exact hI.big, fun _ => ⟨g5, hspec5, hg5, setRow_heap _ _ _ _ _ _ hm5⟩⟩, TyP.of_is rfl⟩))
    have Ec : ∀ v, F.eval (.const v) = v := fun _ => rfl; have Ef : ∀ f, F.eval (.func f) = .func (.func f) #[] #[] := fun _ => rfl; clear hF hd; generalize F.eval = ρ at E10 E15 Ec Ef ⊢
    simp only [execOp, E10, E15, Instr.storeAt, Instr.sureAddr, Sem.run_bind, Sem.run_pure, Result.andThen_ok, hst]
  case ob7 => as_aux_lemma =>
    intro p vals W1 F hF hlo hhi hI hd
    have hp : p = 1 := Nat.le_antisymm hhi hlo
    subst hp
    clear hlo hhi
    obtain ⟨g4, hspec4, hg4, hm4⟩ := hd ⟨4, .data⟩ (Array.mem_of_getElem? (i := 0) rfl) rfl (show (1 : Nat) ≤ 1000 by decide)
    have d4 : vals 4 = .slice (some ⟨g4, 0, none⟩) 64 64 := hspec4
    have E18 := eval_some (hF.own_ 4 rfl rfl (by kernel_rfl) (by decide)); rw [d4] at E18
    refine .inr ⟨wanted_none rfl, ?_⟩
    refine .inl ⟨.slice (some ⟨g4, 0, none⟩) 64 64, ?_, hI, g4, rfl, hg4, hm4⟩
    simp only [execOp, E18, Sem.run_pure]
  case obend =>
    intro vals W1 F hF hdef hI hT
    obtain ⟨gk, hvk, hgk, hmk⟩ := hI.key (Nat.le_refl _)
    obtain ⟨gs, hvs, hgs, hms⟩ := hT 7 (by decide) (show (1 : Nat) ≤ 1000 by decide)
    rename_i K hK9
    refine hK9 _ _ ?_
    rw [hF.act]
    simp only [fin, Act.put, List.setIfInBounds_toArray, List.set_cons_succ, List.set_cons_zero]
    rw [hvk, hvs]
    have hK4 := Keeps.add hI.keeps (Nat.le_of_lt (Nat.lt_of_lt_of_le HL0.out hgk)) hmk (HNE.out gk hgk)
    have hK5 := Keeps.add hK4 (Nat.le_of_lt (Nat.lt_of_lt_of_le HL0.out hgs)) hms (fun i p hi => by
      match i, hi with
      | 0, hi => exact HNE.out gs hgs 0 p hi
      | 1, hi => exact HNE.out gs hgs 1 p hi
      | 2, hi => cases hi; exact fun e => by subst e; exact box_row hmk hms)
    simp only [List.cons_append, List.nil_append] at hK5
    clear hF hT hvk hvs hI hI0 hK4 hmk hms hgk hgs
    obtain ⟨W2, hW2⟩ : ∃ W2, W1 = W2 := ⟨_, rfl⟩
    rw [hW2] at hK5 ⊢
    clear hW2
    by_cases hY0 : Y = 0
    · subst hY0
      have HK5 := Lib.hid hK5
      clear hK5
      have y0 : (((0 : UInt8).toNat : Nat) : Int) = 0 := rfl
      go_wp2
      go_ret
      exact ⟨rfl, HK5.out.bel⟩
    · have hyz : ((Y.toNat : Int) == 0) = false := by
        have h := UInt8.toNat_inj (a := Y) (b := 0)
        have h2 : ¬ Y.toNat = 0 := fun e => hY0 (h.1 e)
        simp
        omega
      have HY0 := Lib.hid hY0
      clear hY0
      have hY8 := UInt8.toNat_lt Y
      by_cases hlt : n < 64
      · have hn64 : decide ((n : Int) < 64) = true := by simp; omega
        have hns : n < (s ++ D).length := by rw [HSD.out]; exact hlt
        have hc := hK5.cell 3 rfl n
        have hf := hK5.frozen 3 rfl n
        rw [arr8_get _ _ hns] at hc
        have hx8 := UInt8.toNat_lt ((s ++ D).getD n 0)
        have hxor := u8_xor_nat ((s ++ D).getD n 0).toNat Y.toNat hx8 hY8
        have hTne := set_ne hns (xor_ne ((s ++ D).getD n 0) Y HY0.out)
        have hTl : ((s ++ D).set n ((s ++ D).getD n 0 ^^^ Y)).length = 64 := by rw [List.length_set, HSD.out]
        have hK6 := hK5.setc 3 rfl n (.int .u8 ((((s ++ D).getD n 0 ^^^ Y).toNat : Nat) : Int))
        rw [row_list] at hK6
        have hxn : (((s ++ D).getD n 0 ^^^ Y).toNat : Nat) = ((s ++ D).getD n 0).toNat ^^^ Y.toNat := UInt8.toNat_xor _ _
        rw [hxn] at hK6
        generalize (s ++ D).set n ((s ++ D).getD n 0 ^^^ Y) = TX at *
        generalize ((s ++ D).getD n 0).toNat = xv at *
        generalize xv ^^^ Y.toNat = xz at *
        have HTX := Lib.hid hTne
        have HTL := Lib.hid hTl
        have HK6 := Lib.hid hK6
        clear hTne hTl hK6 hK5 hxn hns
        have n64 : (n : Int) < 64 := by omega
        go_wp2
        refine wp_region_phased 69 rfl (fun _ _ W W' => Below W.heap.size W W') (fun p W1 => Keeps w [(w.heap.size, arr8 s, 23), (w.heap.size + 1, arr8 d, 23), (gk, arr8 KH, 23), (gs, arr8 TX, 5)] W1) [.is (.slice (some ⟨w.heap.size, 0, none⟩) 32 32), .is (.slice (some ⟨gs, 0, none⟩) 64 64), .is (.slice (some ⟨gs, 0, none⟩) 32 64), ⟨0, 1000, fun v W => ∃ g, v = .slice (some ⟨g, 0, none⟩) 2 2 ∧ MeetAt W g [⟨some ⟨w.heap.size, 0, none⟩, s, 32⟩, ⟨some ⟨gs, 0, none⟩, TX.take 32, 64⟩], fun k d v W W' hk hd h hr => by obtain ⟨g, e, h2⟩ := h; exact ⟨g, e, h2.later hr⟩⟩, ⟨0, 1000, fun v W => ∃ b : Bool, v = .bool b ∧ (b = true ↔ Meets [⟨some ⟨w.heap.size, 0, none⟩, s, 32⟩, ⟨some ⟨gs, 0, none⟩, TX.take 32, 64⟩]), fun k d v W W' hk hd h hr => h⟩] [] [0, 0, 0, 0, 0] [0, 0, 0, 0, 0] (by kernel_rfl) (by kernel_rfl) (by kernel_rfl) (fun _ _ W => Below.refl _ W) (HK6.out.drew) ⟨?oc0, ?oc1, ?oc2, ?oc3, ?oc4, trivial⟩ ?ocend
        case oc0 => as_aux_lemma =>
          intro p vals2 W1 F hF hlo hhi hI hd
          have hp : p = 0 := Nat.le_antisymm hhi hlo
          subst hp
          clear hlo hhi
          have E4 : F.eval (.tmp 4) = .pointer (some ⟨w.heap.size, 0, none⟩) := hF.out_ (by kernel_rfl) rfl
          refine .inr ⟨wanted_none rfl, .inl ⟨.slice (some ⟨w.heap.size, 0, none⟩) 32 32, ?_, hI, TyP.of_is rfl⟩⟩
          have Ec : ∀ v, F.eval (.const v) = v := fun _ => rfl; have Ef : ∀ f, F.eval (.func f) = .func (.func f) #[] #[] := fun _ => rfl; clear hF hd; generalize F.eval = ρ at E4 Ec Ef ⊢
          simp [execOp, go_sem, Ec, E4]
        case oc1 => as_aux_lemma =>
          intro p vals2 W1 F hF hlo hhi hI hd
          have hp : p = 0 := Nat.le_antisymm hhi hlo
          subst hp
          clear hlo hhi
          have E11 : F.eval (.tmp 11) = .slice (some ⟨gs, 0, none⟩) 64 64 := hF.out_ (by kernel_rfl) rfl
          refine .inr ⟨wanted_none rfl, .inl ⟨.slice (some ⟨gs, 0, none⟩) 64 64, ?_, hI, TyP.of_is rfl⟩⟩
          simp only [execOp, E11, Sem.run_pure]
        case oc2 => as_aux_lemma =>
          intro p vals2 W1 F hF hlo hhi hI hd
          have hp : p = 0 := Nat.le_antisymm hhi hlo
          subst hp
          clear hlo hhi
          have d1 : vals2 1 = .slice (some ⟨gs, 0, none⟩) 64 64 := hd ⟨1, .data⟩ (Array.mem_of_getElem? (i := 0) rfl) rfl (show (0 : Nat) ≤ 1000 by decide)
          have E47 := eval_some (hF.own_ 1 rfl rfl (by kernel_rfl) (by decide)); rw [d1] at E47
          refine .inr ⟨wanted_none rfl, .inl ⟨.slice (some ⟨gs, 0, none⟩) 32 64, ?_, hI, TyP.of_is rfl⟩⟩
          have Ec : ∀ v, F.eval (.const v) = v := fun _ => rfl; have Ef : ∀ f, F.eval (.func f) = .func (.func f) #[] #[] := fun _ => rfl; clear hF hd; generalize F.eval = ρ at E47 Ec Ef ⊢
          simp [execOp, go_sem, Ec, E47]
        case oc3 => as_aux_lemma =>
          intro p vals2 W1 F hF hlo hhi hI hd
          have hp : p = 0 := Nat.le_antisymm hhi hlo
          subst hp
          clear hlo hhi
          have d0 : vals2 0 = .slice (some ⟨w.heap.size, 0, none⟩) 32 32 := hd ⟨0, .data⟩ (Array.mem_of_getElem? (i := 0) rfl) rfl (show (0 : Nat) ≤ 1000 by decide)
          have d2 : vals2 2 = .slice (some ⟨gs, 0, none⟩) 32 64 := hd ⟨2, .data⟩ (Array.mem_of_getElem? (i := 1) rfl) rfl (show (0 : Nat) ≤ 1000 by decide)
          have E46 := eval_some (hF.own_ 0 rfl rfl (by kernel_rfl) (by decide)); rw [d0] at E46
          have E48 := eval_some (hF.own_ 2 rfl rfl (by kernel_rfl) (by decide)); rw [d2] at E48
          refine .inr ⟨wanted_none rfl, ?_⟩
          have hb : Below W1.heap.size W1 (W1.alloc (.cells #[.slice (some ⟨w.heap.size, 0, none⟩) 32 32, .slice (some ⟨gs, 0, none⟩) 32 64] 24)) := (Below.refl W1.heap.size W1).alloc (Nat.le_refl _) _
          refine .inr (.inl ⟨.slice (some ⟨W1.heap.size, 0, none⟩) 2 2, W1.alloc (.cells #[.slice (some ⟨w.heap.size, 0, none⟩) 32 32, .slice (some ⟨gs, 0, none⟩) 32 64] 24), ?_, hb, hI.call hb, W1.heap.size, rfl, meet_two W1 s (TX.take 32) _ _ 32 64 HS.out (by rw [List.length_take, HTL.out]; rfl) (holdsK (k := 0) hI rfl) ((holdsK (k := 3) hI rfl).takeS 32) (by decide) (by decide)⟩)
          have Ec : ∀ v, F.eval (.const v) = v := fun _ => rfl; have Ef : ∀ f, F.eval (.func f) = .func (.func f) #[] #[] := fun _ => rfl; clear hF hd; generalize F.eval = ρ at E46 E48 Ec Ef ⊢
          simp [execOp, go_sem, Ec, E46, E48]
        case oc4 => as_aux_lemma =>
          intro p vals2 W1 F hF hlo hhi hI hd
          have hp : p = 0 := Nat.le_antisymm hhi hlo
          subst hp
          clear hlo hhi
          obtain ⟨g3, hspec3, hm3⟩ := hd ⟨3, .data⟩ (Array.mem_of_getElem? (i := 0) rfl) rfl (show (0 : Nat) ≤ 1000 by decide)
          have d3 : vals2 3 = .slice (some ⟨g3, 0, none⟩) 2 2 := hspec3
          have E49 := eval_some (hF.own_ 3 rfl rfl (by kernel_rfl) (by decide)); rw [d3] at E49
          refine .inr ⟨wanted_none rfl, ?_⟩
          refine .inr (.inr (.inl ⟨17, #[.slice (some ⟨g3, 0, none⟩) 2 2], ?_, (meet_any [⟨some ⟨w.heap.size, 0, none⟩, s, 32⟩, ⟨some ⟨gs, 0, none⟩, TX.take 32, 64⟩] W1 g3 2 2 rfl (by decide) hm3).mono ?_⟩))
          · have Ec : ∀ v, F.eval (.const v) = v := fun _ => rfl; have Ef : ∀ f, F.eval (.func f) = .func (.func f) #[] #[] := fun _ => rfl; clear hF hd; generalize F.eval = ρ at E49 Ec Ef ⊢
            simp [execOp, go_sem, Ec, Ef, E49]
          rintro e W2 ⟨b, rfl, hiff, hb⟩
          exact ⟨_, rfl, hb, hI.call hb, b, rfl, hiff⟩
        case ocend =>
          intro vals2 W1 F hF hdef hI hT
          obtain ⟨mb, hv, hmb⟩ := hT 4 (by decide) (show (0 : Nat) ≤ 1000 by decide)
          rename_i K hK9
          refine hK9 _ _ ?_
          rw [hF.act]
          simp only [fin, Act.put, List.setIfInBounds_toArray, List.set_cons_succ, List.set_cons_zero]
          rw [hv]
          clear hF hT hv
          have HI8 := Lib.hid hI
          clear hI
          cases mb with
          | true =>
            clear hmb
            go_wp2
            go_ret
            exact ⟨rfl, HI8.out.bel⟩
          | false =>
            have hib : isB KH TX d = false := by
              rw [← HKH.out]
              refine isB_turned s d TX HS.out (by rw [HDD.out]; exact HTX.out) fun hp => ?_
              have h2 := hmb.2 ⟨1, 0, _, _, by decide, rfl, rfl, hp.1.symm, hp.2.symm⟩
              cases h2
            have HIB := Lib.hid hib
            clear hib hmb
            go_wp2
            have CIF : Hid (∀ W (X Z : Option Addr) (c e : Nat) (h1 : Holds8 W.heap.size W X KH) (h2 : Holds8 W.heap.size W Z TX) (k3 : 32 ≤ c) (k4 : 64 ≤ e), Calls Try.prog 13 #[.slice X 32 c, .slice Z 64 e, .agg (arr8 d)] W fun e w' => e = .returned (.bool false) ∧ Below W.heap.size W w') := Lib.hid fun W X Z c e h1 h2 k3 k4 => by have h := CI.out W X Z c e KH TX h1 h2 HKl.out HTL.out k3 k4; rw [HIB.out] at h; exact h
            refine wp_region_phased 69 rfl (fun _ _ W W' => Below W.heap.size W W') (fun p W1 => Keeps w [(w.heap.size, arr8 s, 23), (w.heap.size + 1, arr8 d, 23), (gk, arr8 KH, 23), (gs, arr8 TX, 5)] W1) [.is (.bool true), .is (.bool true), .is (.slice (some ⟨gk, 0, none⟩) 32 32), .is (.slice (some ⟨gs, 0, none⟩) 64 64), .is (.agg (arr8 d)), .is (.bool false), .is (.bool true), .is (.bool true), .is (.bool true)] [] [0, 0, 0, 0, 0, 0, 0, 0, 0] [0, 0, 0, 0, 0, 0, 0, 0, 0] (by kernel_rfl) (by kernel_rfl) (by kernel_rfl) (fun _ _ W => Below.refl _ W) (HI8.out.drew) ⟨?od0, ?od1, ?od2, ?od3, ?od4, ?od5, ?od6, ?od7, ?od8, trivial⟩ ?odend
            case od0 => as_aux_lemma =>
              intro p vals3 W1 F hF hlo hhi hI hd
              have hp : p = 0 := Nat.le_antisymm hhi hlo
              subst hp
              clear hlo hhi
              have E9 : F.eval (.tmp 9) = .bool true := hF.out_ (by kernel_rfl) rfl
              refine .inr ⟨wanted_none rfl, .inl ⟨.bool true, ?_, hI, TyP.of_is rfl⟩⟩
              simp only [execOp, E9, Sem.run_pure]
            case od1 => as_aux_lemma =>
              intro p vals3 W1 F hF hlo hhi hI hd
              have hp : p = 0 := Nat.le_antisymm hhi hlo
              subst hp
              clear hlo hhi
              have d0 : vals3 0 = .bool true := hd ⟨0, .data⟩ (Array.mem_of_getElem? (i := 0) rfl) rfl (show (0 : Nat) ≤ 1000 by decide)
              have E61 := eval_some (hF.own_ 0 rfl rfl (by kernel_rfl) (by decide)); rw [d0] at E61
              refine .inr ⟨wanted_none rfl, .inl ⟨.bool true, ?_, hI, TyP.of_is rfl⟩⟩
              simp only [execOp, E61, Sem.run_pure]
            case od2 => as_aux_lemma =>
              intro p vals3 W1 F hF hlo hhi hI hd
              have hp : p = 0 := Nat.le_antisymm hhi hlo
              subst hp
              clear hlo hhi
              have d1 : vals3 1 = .bool true := hd ⟨1, .guard⟩ (Array.mem_of_getElem? (i := 0) rfl) rfl (show (0 : Nat) ≤ 1000 by decide)
              have E10 : F.eval (.tmp 10) = .pointer (some ⟨gk, 0, none⟩) := hF.out_ (by kernel_rfl) rfl
              have G := hF.own_ 1 rfl rfl (by kernel_rfl) (by decide); rw [d1] at G
              refine .inr ⟨wanted_yes rfl rfl rfl G, .inl ⟨.slice (some ⟨gk, 0, none⟩) 32 32, ?_, hI, TyP.of_is rfl⟩⟩
              have Ec : ∀ v, F.eval (.const v) = v := fun _ => rfl; have Ef : ∀ f, F.eval (.func f) = .func (.func f) #[] #[] := fun _ => rfl; clear hF hd; generalize F.eval = ρ at E10 Ec Ef ⊢
              simp [execOp, go_sem, Ec, E10]
            case od3 => as_aux_lemma =>
              intro p vals3 W1 F hF hlo hhi hI hd
              have hp : p = 0 := Nat.le_antisymm hhi hlo
              subst hp
              clear hlo hhi
              have d1 : vals3 1 = .bool true := hd ⟨1, .guard⟩ (Array.mem_of_getElem? (i := 0) rfl) rfl (show (0 : Nat) ≤ 1000 by decide)
              have E11 : F.eval (.tmp 11) = .slice (some ⟨gs, 0, none⟩) 64 64 := hF.out_ (by kernel_rfl) rfl
              have G := hF.own_ 1 rfl rfl (by kernel_rfl) (by decide); rw [d1] at G
              refine .inr ⟨wanted_yes rfl rfl rfl G, .inl ⟨.slice (some ⟨gs, 0, none⟩) 64 64, ?_, hI, TyP.of_is rfl⟩⟩
              simp only [execOp, E11, Sem.run_pure]
            case od4 => as_aux_lemma =>
              intro p vals3 W1 F hF hlo hhi hI hd
              have hp : p = 0 := Nat.le_antisymm hhi hlo
              subst hp
              clear hlo hhi
              have d1 : vals3 1 = .bool true := hd ⟨1, .guard⟩ (Array.mem_of_getElem? (i := 0) rfl) rfl (show (0 : Nat) ≤ 1000 by decide)
              have E5 : F.eval (.tmp 5) = .pointer (some ⟨w.heap.size + 1, 0, none⟩) := hF.out_ (by kernel_rfl) rfl
              have G := hF.own_ 1 rfl rfl (by kernel_rfl) (by decide); rw [d1] at G
              refine .inr ⟨wanted_yes rfl rfl rfl G, ?_⟩
              have hl := run_loadVar_row (P := Try.prog) W1 (w.heap.size + 1) 23 23 (arr8 d) (0, 0) _ (hI.get 1 rfl) Try.underlying23 rfl (infoH _ HD.out)
              refine .inl ⟨.agg (arr8 d), ?_, hI, TyP.of_is rfl⟩
              have Ec : ∀ v, F.eval (.const v) = v := fun _ => rfl; have Ef : ∀ f, F.eval (.func f) = .func (.func f) #[] #[] := fun _ => rfl; clear hF hd; generalize F.eval = ρ at E5 Ec Ef ⊢
              simp only [execOp, E5, Instr.loadAt, Instr.sureAddr, Sem.run_bind, Sem.run_pure, Result.andThen_ok, hl]
            case od5 => as_aux_lemma =>
              intro p vals3 W1 F hF hlo hhi hI hd
              have hp : p = 0 := Nat.le_antisymm hhi hlo
              subst hp
              clear hlo hhi
              have d1 : vals3 1 = .bool true := hd ⟨1, .chain⟩ (Array.mem_of_getElem? (i := 3) rfl) rfl (show (0 : Nat) ≤ 1000 by decide)
              have d2 : vals3 2 = .slice (some ⟨gk, 0, none⟩) 32 32 := hd ⟨2, .data⟩ (Array.mem_of_getElem? (i := 0) rfl) rfl (show (0 : Nat) ≤ 1000 by decide)
              have d3 : vals3 3 = .slice (some ⟨gs, 0, none⟩) 64 64 := hd ⟨3, .data⟩ (Array.mem_of_getElem? (i := 1) rfl) rfl (show (0 : Nat) ≤ 1000 by decide)
              have d4 : vals3 4 = .agg (arr8 d) := hd ⟨4, .data⟩ (Array.mem_of_getElem? (i := 2) rfl) rfl (show (0 : Nat) ≤ 1000 by decide)
              have E63 := eval_some (hF.own_ 2 rfl rfl (by kernel_rfl) (by decide)); rw [d2] at E63
              have E64 := eval_some (hF.own_ 3 rfl rfl (by kernel_rfl) (by decide)); rw [d3] at E64
              have E65 := eval_some (hF.own_ 4 rfl rfl (by kernel_rfl) (by decide)); rw [d4] at E65
              have G := hF.own_ 1 rfl rfl (by kernel_rfl) (by decide); rw [d1] at G
              refine .inr ⟨wanted_yes rfl rfl rfl G, ?_⟩
              refine .inr (.inr (.inl ⟨13, #[.slice (some ⟨gk, 0, none⟩) 32 32, .slice (some ⟨gs, 0, none⟩) 64 64, .agg (arr8 d)], ?_, (CIF.out W1 _ _ _ _ (holdsK (k := 2) hI rfl) (holdsK (k := 3) hI rfl) (by decide) (by decide)).mono ?_⟩))
              · have Ec : ∀ v, F.eval (.const v) = v := fun _ => rfl; have Ef : ∀ f, F.eval (.func f) = .func (.func f) #[] #[] := fun _ => rfl; clear hF hd; generalize F.eval = ρ at E63 E64 E65 Ec Ef ⊢
                simp [execOp, go_sem, Ec, Ef, E63, E64, E65]
              rintro e W2 ⟨rfl, hb⟩
              exact ⟨_, rfl, hb, hI.call hb, TyP.of_is rfl⟩
            case od6 => as_aux_lemma =>
              intro p vals3 W1 F hF hlo hhi hI hd
              have hp : p = 0 := Nat.le_antisymm hhi hlo
              subst hp
              clear hlo hhi
              have d1 : vals3 1 = .bool true := hd ⟨1, .guard⟩ (Array.mem_of_getElem? (i := 1) rfl) rfl (show (0 : Nat) ≤ 1000 by decide)
              have d5 : vals3 5 = .bool false := hd ⟨5, .data⟩ (Array.mem_of_getElem? (i := 0) rfl) rfl (show (0 : Nat) ≤ 1000 by decide)
              have E66 := eval_some (hF.own_ 5 rfl rfl (by kernel_rfl) (by decide)); rw [d5] at E66
              have G := hF.own_ 1 rfl rfl (by kernel_rfl) (by decide); rw [d1] at G
              refine .inr ⟨wanted_yes rfl rfl rfl G, .inl ⟨.bool true, ?_, hI, TyP.of_is rfl⟩⟩
              have Ec : ∀ v, F.eval (.const v) = v := fun _ => rfl; have Ef : ∀ f, F.eval (.func f) = .func (.func f) #[] #[] := fun _ => rfl; clear hF hd; generalize F.eval = ρ at E66 Ec Ef ⊢
              simp [execOp, go_sem, Ec, E66]
            case od7 => as_aux_lemma =>
              intro p vals3 W1 F hF hlo hhi hI hd
              have hp : p = 0 := Nat.le_antisymm hhi hlo
              subst hp
              clear hlo hhi
              have d1 : vals3 1 = .bool true := hd ⟨1, .data⟩ (Array.mem_of_getElem? (i := 0) rfl) rfl (show (0 : Nat) ≤ 1000 by decide)
              have d6 : vals3 6 = .bool true := hd ⟨6, .data⟩ (Array.mem_of_getElem? (i := 1) rfl) rfl (show (0 : Nat) ≤ 1000 by decide)
              have E62 := eval_some (hF.own_ 1 rfl rfl (by kernel_rfl) (by decide)); rw [d1] at E62
              have E67 := eval_some (hF.own_ 6 rfl rfl (by kernel_rfl) (by decide)); rw [d6] at E67
              refine .inr ⟨wanted_none rfl, .inl ⟨.bool true, ?_, hI, TyP.of_is rfl⟩⟩
              have Ec : ∀ v, F.eval (.const v) = v := fun _ => rfl; have Ef : ∀ f, F.eval (.func f) = .func (.func f) #[] #[] := fun _ => rfl; clear hF hd; generalize F.eval = ρ at E62 E67 Ec Ef ⊢
              simp [execOp, go_sem, Ec, E62, E67]
            case od8 => as_aux_lemma =>
              intro p vals3 W1 F hF hlo hhi hI hd
              have hp : p = 0 := Nat.le_antisymm hhi hlo
              subst hp
              clear hlo hhi
              have d7 : vals3 7 = .bool true := hd ⟨7, .data⟩ (Array.mem_of_getElem? (i := 0) rfl) rfl (show (0 : Nat) ≤ 1000 by decide)
              have E68 := eval_some (hF.own_ 7 rfl rfl (by kernel_rfl) (by decide)); rw [d7] at E68
              refine .inr ⟨wanted_none rfl, .inl ⟨.bool true, ?_, hI, TyP.of_is rfl⟩⟩
              simp only [execOp, E68, Sem.run_pure]
            case odend =>
              intro vals3 W1 F hF hdef hI hT
              have hv : vals3 8 = .bool true := hT 8 (by decide) (show (0 : Nat) ≤ 1000 by decide)
              rename_i K hK9
              refine hK9 _ _ ?_
              rw [hF.act]
              simp only [fin, Act.put, List.setIfInBounds_toArray, List.set_cons_succ, List.set_cons_zero]
              rw [hv]
              clear hF hT hv
              go_wp2
              go_ret
              exact ⟨rfl, hI.bel⟩
      · have hn64 : decide ((n : Int) < 64) = false := by simp; omega
        have hnk : n - 64 < KH.length := by rw [HKl.out]; omega
        have hc := hK5.cell 2 rfl (n - 64)
        have hf := hK5.frozen 2 rfl (n - 64)
        rw [arr8_get _ _ hnk] at hc
        have hx8 := UInt8.toNat_lt (KH.getD (n - 64) 0)
        have hxor := u8_xor_nat (KH.getD (n - 64) 0).toNat Y.toNat hx8 hY8
        have hKne := set_ne hnk (xor_ne (KH.getD (n - 64) 0) Y HY0.out)
        have hKXl : (KH.set (n - 64) (KH.getD (n - 64) 0 ^^^ Y)).length = 32 := by rw [List.length_set, HKl.out]
        have hK6 := hK5.setc 2 rfl (n - 64) (.int .u8 (((KH.getD (n - 64) 0 ^^^ Y).toNat : Nat) : Int))
        rw [row_list] at hK6
        have hxn : ((KH.getD (n - 64) 0 ^^^ Y).toNat : Nat) = (KH.getD (n - 64) 0).toNat ^^^ Y.toNat := UInt8.toNat_xor _ _
        rw [hxn] at hK6
        generalize KH.set (n - 64) (KH.getD (n - 64) 0 ^^^ Y) = KX at *
        generalize (KH.getD (n - 64) 0).toNat = xv at *
        generalize xv ^^^ Y.toNat = xz at *
        obtain ⟨q, hq⟩ : ∃ q, n - 64 = q := ⟨_, rfl⟩
        rw [hq] at hc hf hK6
        have z1 : IntKind.i64.wrap ((n : Int) - 64) = (q : Int) := by rw [IntKind.wrap_i64]; omega
        have q32 : (q : Int) < 32 := by omega
        have hib := isB_key s d KX (s ++ D) HTK.out (by rw [HKH.out]; exact hKne)
        have HIB := Lib.hid hib
        have HKX := Lib.hid hKXl
        have HK6 := Lib.hid hK6
        clear hKne hKXl hK6 hK5 hxn hnk hib hq
        go_wp2
        have CIF : Hid (∀ W (X Z : Option Addr) (c e : Nat) (h1 : Holds8 W.heap.size W X KX) (h2 : Holds8 W.heap.size W Z (s ++ D)) (k3 : 32 ≤ c) (k4 : 64 ≤ e), Calls Try.prog 13 #[.slice X 32 c, .slice Z 64 e, .agg (arr8 d)] W fun e w' => e = .returned (.bool false) ∧ Below W.heap.size W w') := Lib.hid fun W X Z c e h1 h2 k3 k4 => by have h := CI.out W X Z c e KX (s ++ D) h1 h2 HKX.out HSD.out k3 k4; rw [HIB.out] at h; exact h
        refine wp_region_phased 69 rfl (fun _ _ W W' => Below W.heap.size W W') (fun p W1 => Keeps w [(w.heap.size, arr8 s, 23), (w.heap.size + 1, arr8 d, 23), (gk, arr8 KX, 23), (gs, arr8 (s ++ D), 5)] W1) [.is (.bool true), .is (.bool true), .is (.slice (some ⟨gk, 0, none⟩) 32 32), .is (.slice (some ⟨gs, 0, none⟩) 64 64), .is (.agg (arr8 d)), .is (.bool false), .is (.bool true), .is (.bool true), .is (.bool true)] [] [0, 0, 0, 0, 0, 0, 0, 0, 0] [0, 0, 0, 0, 0, 0, 0, 0, 0] (by kernel_rfl) (by kernel_rfl) (by kernel_rfl) (fun _ _ W => Below.refl _ W) (HK6.out.drew) ⟨?oe0, ?oe1, ?oe2, ?oe3, ?oe4, ?oe5, ?oe6, ?oe7, ?oe8, trivial⟩ ?oeend
        case oe0 => as_aux_lemma =>
          intro p vals4 W1 F hF hlo hhi hI hd
          have hp : p = 0 := Nat.le_antisymm hhi hlo
          subst hp
          clear hlo hhi
          have E9 : F.eval (.tmp 9) = .bool true := hF.out_ (by kernel_rfl) rfl
          refine .inr ⟨wanted_none rfl, .inl ⟨.bool true, ?_, hI, TyP.of_is rfl⟩⟩
          simp only [execOp, E9, Sem.run_pure]
        case oe1 => as_aux_lemma =>
          intro p vals4 W1 F hF hlo hhi hI hd
          have hp : p = 0 := Nat.le_antisymm hhi hlo
          subst hp
          clear hlo hhi
          have d0 : vals4 0 = .bool true := hd ⟨0, .data⟩ (Array.mem_of_getElem? (i := 0) rfl) rfl (show (0 : Nat) ≤ 1000 by decide)
          have E61 := eval_some (hF.own_ 0 rfl rfl (by kernel_rfl) (by decide)); rw [d0] at E61
          refine .inr ⟨wanted_none rfl, .inl ⟨.bool true, ?_, hI, TyP.of_is rfl⟩⟩
          simp only [execOp, E61, Sem.run_pure]
        case oe2 => as_aux_lemma =>
          intro p vals4 W1 F hF hlo hhi hI hd
          have hp : p = 0 := Nat.le_antisymm hhi hlo
          subst hp
          clear hlo hhi
          have d1 : vals4 1 = .bool true := hd ⟨1, .guard⟩ (Array.mem_of_getElem? (i := 0) rfl) rfl (show (0 : Nat) ≤ 1000 by decide)
          have E10 : F.eval (.tmp 10) = .pointer (some ⟨gk, 0, none⟩) := hF.out_ (by kernel_rfl) rfl
          have G := hF.own_ 1 rfl rfl (by kernel_rfl) (by decide); rw [d1] at G
          refine .inr ⟨wanted_yes rfl rfl rfl G, .inl ⟨.slice (some ⟨gk, 0, none⟩) 32 32, ?_, hI, TyP.of_is rfl⟩⟩
          have Ec : ∀ v, F.eval (.const v) = v := fun _ => rfl; have Ef : ∀ f, F.eval (.func f) = .func (.func f) #[] #[] := fun _ => rfl; clear hF hd; generalize F.eval = ρ at E10 Ec Ef ⊢
          simp [execOp, go_sem, Ec, E10]
        case oe3 => as_aux_lemma =>
          intro p vals4 W1 F hF hlo hhi hI hd
          have hp : p = 0 := Nat.le_antisymm hhi hlo
          subst hp
          clear hlo hhi
          have d1 : vals4 1 = .bool true := hd ⟨1, .guard⟩ (Array.mem_of_getElem? (i := 0) rfl) rfl (show (0 : Nat) ≤ 1000 by decide)
          have E11 : F.eval (.tmp 11) = .slice (some ⟨gs, 0, none⟩) 64 64 := hF.out_ (by kernel_rfl) rfl
          have G := hF.own_ 1 rfl rfl (by kernel_rfl) (by decide); rw [d1] at G
          refine .inr ⟨wanted_yes rfl rfl rfl G, .inl ⟨.slice (some ⟨gs, 0, none⟩) 64 64, ?_, hI, TyP.of_is rfl⟩⟩
          simp only [execOp, E11, Sem.run_pure]
        case oe4 => as_aux_lemma =>
          intro p vals4 W1 F hF hlo hhi hI hd
          have hp : p = 0 := Nat.le_antisymm hhi hlo
          subst hp
          clear hlo hhi
          have d1 : vals4 1 = .bool true := hd ⟨1, .guard⟩ (Array.mem_of_getElem? (i := 0) rfl) rfl (show (0 : Nat) ≤ 1000 by decide)
          have E5 : F.eval (.tmp 5) = .pointer (some ⟨w.heap.size + 1, 0, none⟩) := hF.out_ (by kernel_rfl) rfl
          have G := hF.own_ 1 rfl rfl (by kernel_rfl) (by decide); rw [d1] at G
          refine .inr ⟨wanted_yes rfl rfl rfl G, ?_⟩
          have hl := run_loadVar_row (P := Try.prog) W1 (w.heap.size + 1) 23 23 (arr8 d) (0, 0) _ (hI.get 1 rfl) Try.underlying23 rfl (infoH _ HD.out)
          refine .inl ⟨.agg (arr8 d), ?_, hI, TyP.of_is rfl⟩
          have Ec : ∀ v, F.eval (.const v) = v := fun _ => rfl; have Ef : ∀ f, F.eval (.func f) = .func (.func f) #[] #[] := fun _ => rfl; clear hF hd; generalize F.eval = ρ at E5 Ec Ef ⊢
          simp only [execOp, E5, Instr.loadAt, Instr.sureAddr, Sem.run_bind, Sem.run_pure, Result.andThen_ok, hl]
        case oe5 => as_aux_lemma =>
          intro p vals4 W1 F hF hlo hhi hI hd
          have hp : p = 0 := Nat.le_antisymm hhi hlo
          subst hp
          clear hlo hhi
          have d1 : vals4 1 = .bool true := hd ⟨1, .chain⟩ (Array.mem_of_getElem? (i := 3) rfl) rfl (show (0 : Nat) ≤ 1000 by decide)
          have d2 : vals4 2 = .slice (some ⟨gk, 0, none⟩) 32 32 := hd ⟨2, .data⟩ (Array.mem_of_getElem? (i := 0) rfl) rfl (show (0 : Nat) ≤ 1000 by decide)
          have d3 : vals4 3 = .slice (some ⟨gs, 0, none⟩) 64 64 := hd ⟨3, .data⟩ (Array.mem_of_getElem? (i := 1) rfl) rfl (show (0 : Nat) ≤ 1000 by decide)
          have d4 : vals4 4 = .agg (arr8 d) := hd ⟨4, .data⟩ (Array.mem_of_getElem? (i := 2) rfl) rfl (show (0 : Nat) ≤ 1000 by decide)
          have E63 := eval_some (hF.own_ 2 rfl rfl (by kernel_rfl) (by decide)); rw [d2] at E63
          have E64 := eval_some (hF.own_ 3 rfl rfl (by kernel_rfl) (by decide)); rw [d3] at E64
          have E65 := eval_some (hF.own_ 4 rfl rfl (by kernel_rfl) (by decide)); rw [d4] at E65
          have G := hF.own_ 1 rfl rfl (by kernel_rfl) (by decide); rw [d1] at G
          refine .inr ⟨wanted_yes rfl rfl rfl G, ?_⟩
          refine .inr (.inr (.inl ⟨13, #[.slice (some ⟨gk, 0, none⟩) 32 32, .slice (some ⟨gs, 0, none⟩) 64 64, .agg (arr8 d)], ?_, (CIF.out W1 _ _ _ _ (holdsK (k := 2) hI rfl) (holdsK (k := 3) hI rfl) (by decide) (by decide)).mono ?_⟩))
          · have Ec : ∀ v, F.eval (.const v) = v := fun _ => rfl; have Ef : ∀ f, F.eval (.func f) = .func (.func f) #[] #[] := fun _ => rfl; clear hF hd; generalize F.eval = ρ at E63 E64 E65 Ec Ef ⊢
            simp [execOp, go_sem, Ec, Ef, E63, E64, E65]
          rintro e W2 ⟨rfl, hb⟩
          exact ⟨_, rfl, hb, hI.call hb, TyP.of_is rfl⟩
        case oe6 => as_aux_lemma =>
          intro p vals4 W1 F hF hlo hhi hI hd
          have hp : p = 0 := Nat.le_antisymm hhi hlo
          subst hp
          clear hlo hhi
          have d1 : vals4 1 = .bool true := hd ⟨1, .guard⟩ (Array.mem_of_getElem? (i := 1) rfl) rfl (show (0 : Nat) ≤ 1000 by decide)
          have d5 : vals4 5 = .bool false := hd ⟨5, .data⟩ (Array.mem_of_getElem? (i := 0) rfl) rfl (show (0 : Nat) ≤ 1000 by decide)
          have E66 := eval_some (hF.own_ 5 rfl rfl (by kernel_rfl) (by decide)); rw [d5] at E66
          have G := hF.own_ 1 rfl rfl (by kernel_rfl) (by decide); rw [d1] at G
          refine .inr ⟨wanted_yes rfl rfl rfl G, .inl ⟨.bool true, ?_, hI, TyP.of_is rfl⟩⟩
          have Ec : ∀ v, F.eval (.const v) = v := fun _ => rfl; have Ef : ∀ f, F.eval (.func f) = .func (.func f) #[] #[] := fun _ => rfl; clear hF hd; generalize F.eval = ρ at E66 Ec Ef ⊢
          simp [execOp, go_sem, Ec, E66]
        case oe7 => as_aux_lemma =>
          intro p vals4 W1 F hF hlo hhi hI hd
          have hp : p = 0 := Nat.le_antisymm hhi hlo
          subst hp
          clear hlo hhi
          have d1 : vals4 1 = .bool true := hd ⟨1, .data⟩ (Array.mem_of_getElem? (i := 0) rfl) rfl (show (0 : Nat) ≤ 1000 by decide)
          have d6 : vals4 6 = .bool true := hd ⟨6, .data⟩ (Array.mem_of_getElem? (i := 1) rfl) rfl (show (0 : Nat) ≤ 1000 by decide)
          have E62 := eval_some (hF.own_ 1 rfl rfl (by kernel_rfl) (by decide)); rw [d1] at E62
          have E67 := eval_some (hF.own_ 6 rfl rfl (by kernel_rfl) (by decide)); rw [d6] at E67
          refine .inr ⟨wanted_none rfl, .inl ⟨.bool true, ?_, hI, TyP.of_is rfl⟩⟩
          have Ec : ∀ v, F.eval (.const v) = v := fun _ => rfl; have Ef : ∀ f, F.eval (.func f) = .func (.func f) #[] #[] := fun _ => rfl; clear hF hd; generalize F.eval = ρ at E62 E67 Ec Ef ⊢
          simp [execOp, go_sem, Ec, E62, E67]
        case oe8 => as_aux_lemma =>
          intro p vals4 W1 F hF hlo hhi hI hd
          have hp : p = 0 := Nat.le_antisymm hhi hlo
          subst hp
          clear hlo hhi
          have d7 : vals4 7 = .bool true := hd ⟨7, .data⟩ (Array.mem_of_getElem? (i := 0) rfl) rfl (show (0 : Nat) ≤ 1000 by decide)
          have E68 := eval_some (hF.own_ 7 rfl rfl (by kernel_rfl) (by decide)); rw [d7] at E68
          refine .inr ⟨wanted_none rfl, .inl ⟨.bool true, ?_, hI, TyP.of_is rfl⟩⟩
          simp only [execOp, E68, Sem.run_pure]
        case oeend =>
          intro vals4 W1 F hF hdef hI hT
          have hv : vals4 8 = .bool true := hT 8 (by decide) (show (0 : Nat) ≤ 1000 by decide)
          rename_i K hK9
          refine hK9 _ _ ?_
          rw [hF.act]
          simp only [fin, Act.put, List.setIfInBounds_toArray, List.set_cons_succ, List.set_cons_zero]
          rw [hv]
          clear hF hT hv
          go_wp2
          go_ret
          exact ⟨rfl, hI.bel⟩
set_option maxRecDepth 100000 in
theorem turned_lifted (os : Os) (started : os.Started) (H : Type) (enc : TypeId × Value → H) :
    ReturnsInHanded {} Try.checked os 7 .any (Rows.signTurnedSpec.pre6 enc Try.prog Try.f7 Rows.signTurnedRow.domain false) (Rows.signTurnedSpec.post enc Try.prog Try.f7 false true false false) := by
  refine returnsInHanded_of_change (C := Try.checked) own started (by kernel_rfl) Try.func7
    (ChangeSpec.witness6 (enc := enc) (C := Try.checked) false ⟨#[], #[.agg (vals (List.replicate 32 0)).toArray, .agg (vals (List.replicate 32 0)).toArray, .int .u8 0, .int .u8 0], []⟩ 8 (by kernel_rfl) (by kernel_rfl) (by kernel_rfl) (by kernel_rfl)) ?_
  intro W base args ds gs before hval0 hW hcnd _
  have hval : ∀ (j : Nat) t v, Try.f7.params[j]? = some t → args[j]? = some v → Value.okWide Try.prog W .any base t v := hval0
  have hW' := hW
  obtain ⟨p, q, hA0, hV, rfl, hfz, hnd⟩ := hW
  have hA : DataW.TrodAll enc Try.prog W 0 (fun _ => true) true Try.f7.params.toList args.toList ds p := hA0
  rw [Try.params7] at hA hval
  obtain ⟨v0, vs0, d0, ds0, p0, q0, hargs, rfl, rfl, h0, r0⟩ := trodAll_cons hA
  obtain ⟨v1, vs1, d1, ds1, p1, q1, rfl, rfl, rfl, h1, r1⟩ := trodAll_cons r0
  obtain ⟨v2, vs2, d2, ds2, p2, q2, rfl, rfl, rfl, h2, r2⟩ := trodAll_cons r1
  obtain ⟨v3, vs3, d3, ds3, p3, q3, rfl, rfl, rfl, h3, r3⟩ := trodAll_cons r2
  obtain ⟨rfl, rfl, rfl⟩ := trodAll_nil r3
  obtain rfl : args = #[v0, v1, v2, v3] := by cases args; simp_all
  obtain ⟨rfl, rfl⟩ := trodVars_none hV
  have k0 := h0
  have lt0 : ∀ x ∈ p0, x.block < W.heap.size := by obtain ⟨m, hm⟩ := k0; exact DataW.trod_lt m _ _ _ hm
  have k1 := h1
  have lt1 : ∀ x ∈ p1, x.block < W.heap.size := by obtain ⟨m, hm⟩ := k1; exact DataW.trod_lt m _ _ _ hm
  have k2 := h2
  have lt2 : ∀ x ∈ p2, x.block < W.heap.size := by obtain ⟨m, hm⟩ := k2; exact DataW.trod_lt m _ _ _ hm
  have k3 := h3
  have lt3 : ∀ x ∈ p3, x.block < W.heap.size := by obtain ⟨m, hm⟩ := k3; exact DataW.trod_lt m _ _ _ hm
  obtain ⟨cs0, rfl⟩ := okWide_arrayH Try.underlying23 (hval 0 23 v0 rfl rfl)
  obtain ⟨bs0, hz0, rfl⟩ := isHash_of k0
  obtain ⟨cs1, rfl⟩ := okWide_arrayH Try.underlying23 (hval 1 23 v1 rfl rfl)
  obtain ⟨bs1, hz1, rfl⟩ := isHash_of k1
  obtain ⟨z2, rfl, rfl, rfl, wz2⟩ := open_int Try.underlying5 (hval 2 5 v2 rfl rfl) h2
  have hz2 := bounds_u8 wz2
  obtain ⟨z3, rfl, rfl, rfl, wz3⟩ := open_int Try.underlying5 (hval 3 5 v3 rfl rfl) h3
  have hz3 := bounds_u8 wz3
  clear hA0 hval0
  refine (turned_walk W bs0 bs1 z2 z3 hz0 hz1 (by omega) (by omega)).mono fun e W' ⟨he, bel⟩ => ?_
  subst he
  exact ⟨_, rfl, _, _, _, [], _, [], hW', trodAll_mk1 (shut_bool Try.underlying4 _), (trodAll_cons_mk (Below.trod laidOut (by kernel_rfl) (of_decide_eq_true (by kernel_rfl)) k0 bel lt0) (trodAll_cons_mk (Below.trod laidOut (by kernel_rfl) (of_decide_eq_true (by kernel_rfl)) k1 bel lt1) (trodAll_cons_mk (Below.trod laidOut (by kernel_rfl) (of_decide_eq_true (by kernel_rfl)) k2 bel lt2) (trodAll_cons_mk (Below.trod laidOut (by kernel_rfl) (of_decide_eq_true (by kernel_rfl)) k3 bel lt3) trodAll_mk0)))), rfl, bel.frame _, fun h => by cases h⟩

theorem turned_over : Rows.signTurnedRow.holds Try.pinned (OpenSpec.ofChange Rows.signTurnedSpec) :=
  OpenClaim.holds_of_wide 7 Try.f7 rfl rfl rfl rfl rfl rfl rfl ⟨rfl, rfl, rfl, rfl, rfl⟩ rfl rfl rfl rfl rfl (by kernel_rfl) Try.func7 (by kernel_rfl)
    (of_decide_eq_true (by kernel_rfl)) (by unfold Func.isWrapper; first | (rw [if_pos (by decide +kernel)]; kernel_rfl) | (rw [if_neg (by decide +kernel)]; exact ⟨rfl, rfl⟩))
    (fun os started H enc _ => turned_lifted os started H enc)

/-- With any byte of it, or of the key, turned, a signature is none, unless two unlike secrets have one hash; any secret and digest, which byte, and by what. No condition. -/
theorem turned_proved : Rows.SignTurnedSaid := turned_over
#print axioms turned_proved
end Go.Proofs.Ytijobhpmaenjlaa.Oct
