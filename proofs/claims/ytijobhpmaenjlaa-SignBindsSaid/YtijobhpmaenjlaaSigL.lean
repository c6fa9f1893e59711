/- SignBinds is true at every input. No condition. -/
import Derived.Test.YtijobhpmaenjlaaSigK
namespace Go.Proofs.Ytijobhpmaenjlaa.Oct
set_option linter.unusedVariables false
set_option linter.unusedSimpArgs false
open Go.Proofs.Ytijobhpmaenjlaa Go.RowKit Go.Lib Go.Shelf Go.ChangeShapes Go.WideShapes Go.ChangeAt

/-- What stands in memory while two keys are laid into their boxes. -/
structure KI2 (w : World) (b0 : Nat) (l : List (Nat × Array Value × TypeId)) (K1 K2 : List UInt8) (p : Nat) (v4 v5 : Value) (W : World) : Prop where
  keeps : Keeps w l W
  big : b0 ≤ W.heap.size
  one : ∀ g, v4 = .pointer (some ⟨g, 0, none⟩) → b0 ≤ g ∧ W.heap[g]? = some (.cells (arr8 (if p = 0 then zero32 else K1)) 23 (0, 0))
  two : ∀ g, v5 = .pointer (some ⟨g, 0, none⟩) → b0 ≤ g ∧ W.heap[g]? = some (.cells (arr8 (if p ≤ 1 then zero32 else K2)) 23 (0, 0))
  apart : ∀ g, v4 = .pointer (some ⟨g, 0, none⟩) → v5 = .pointer (some ⟨g, 0, none⟩) → False
section
variable {w : World} {b0 : Nat} {l : List (Nat × Array Value × TypeId)} {K1 K2 : List UInt8} {p : Nat} {v4 v5 : Value} {W W' : World}
theorem KI2.call (h : KI2 w b0 l K1 K2 p v4 v5 W) (hb : Below W.heap.size W W') : KI2 w b0 l K1 K2 p v4 v5 W' :=
  ⟨h.keeps.call hb, Nat.le_trans h.big hb.size, fun g e => ⟨(h.one g e).1, (hb.block g (Array.getElem?_eq_some_iff.1 (h.one g e).2).1).trans (h.one g e).2⟩, fun g e => ⟨(h.two g e).1, (hb.block g (Array.getElem?_eq_some_iff.1 (h.two g e).2).1).trans (h.two g e).2⟩, h.apart⟩
theorem KI2.new4 (h : KI2 w b0 l K1 K2 0 v4 v5 W) : KI2 w b0 l K1 K2 0 (.pointer (some ⟨W.heap.size, 0, none⟩)) v5 (W.alloc (.cells (arr8 zero32) 23)) := by
  have h2 := h.call ((Below.refl W.heap.size W).alloc (Nat.le_refl _) (.cells (arr8 zero32) 23))
  refine ⟨h2.keeps, h2.big, fun g e => ?_, h2.two, fun g e e2 => ?_⟩
  · have e3 : W.heap.size = g := by injection e with e; injection e with e; injection e
    subst e3
    exact ⟨h.big, heap_alloc_new W _⟩
  · have e3 : W.heap.size = g := by injection e with e; injection e with e; injection e
    subst e3
    exact Nat.lt_irrefl _ (Array.getElem?_eq_some_iff.1 (h.two _ e2).2).1
theorem KI2.new5 (h : KI2 w b0 l K1 K2 0 v4 v5 W) : KI2 w b0 l K1 K2 0 v4 (.pointer (some ⟨W.heap.size, 0, none⟩)) (W.alloc (.cells (arr8 zero32) 23)) := by
  have h2 := h.call ((Below.refl W.heap.size W).alloc (Nat.le_refl _) (.cells (arr8 zero32) 23))
  refine ⟨h2.keeps, h2.big, h2.one, fun g e => ?_, fun g e2 e => ?_⟩
  · have e3 : W.heap.size = g := by injection e with e; injection e with e; injection e
    subst e3
    exact ⟨h.big, heap_alloc_new W _⟩
  · have e3 : W.heap.size = g := by injection e with e; injection e with e; injection e
    subst e3
    exact Nat.lt_irrefl _ (Array.getElem?_eq_some_iff.1 (h.one _ e2).2).1
theorem KI2.put4 (h : KI2 w b0 l K1 K2 0 v4 v5 W) {g : Nat} (hv : v4 = .pointer (some ⟨g, 0, none⟩)) (hw : w.heap.size ≤ b0) (hne : ∀ (i : Nat) p, l[i]? = some p → p.1 ≠ g) : KI2 w b0 l K1 K2 1 v4 v5 (W.setRow g (arr8 K1)) := by
  have hg := h.one g hv
  refine ⟨Keeps.besides h.keeps _ (Nat.le_trans hw hg.1) hne, by rw [setRow_size]; exact h.big, fun g' e => ?_, fun g' e => ⟨(h.two g' e).1, ?_⟩, h.apart⟩
  · rw [hv] at e
    have e3 : g = g' := by injection e with e; injection e with e; injection e
    subst e3
    exact ⟨hg.1, setRow_heap _ _ _ _ _ _ hg.2⟩
  · rw [setRow_other _ _ _ _ (fun e2 => by subst e2; exact h.apart _ hv e)]
    exact (h.two g' e).2
theorem KI2.put5 (h : KI2 w b0 l K1 K2 1 v4 v5 W) {g : Nat} (hv : v5 = .pointer (some ⟨g, 0, none⟩)) (hw : w.heap.size ≤ b0) (hne : ∀ (i : Nat) p, l[i]? = some p → p.1 ≠ g) : KI2 w b0 l K1 K2 2 v4 v5 (W.setRow g (arr8 K2)) := by
  have hg := h.two g hv
  refine ⟨Keeps.besides h.keeps _ (Nat.le_trans hw hg.1) hne, by rw [setRow_size]; exact h.big, fun g' e => ⟨(h.one g' e).1, ?_⟩, fun g' e => ?_, h.apart⟩
  · rw [setRow_other _ _ _ _ (fun e2 => by subst e2; exact h.apart _ e hv)]
    exact (h.one g' e).2
  · rw [hv] at e
    have e3 : g = g' := by injection e with e; injection e with e; injection e
    subst e3
    exact ⟨hg.1, setRow_heap _ _ _ _ _ _ hg.2⟩
end
theorem hashOf_len (x : List UInt8) : (sha x).length = 32 := hashOf_length _
theorem meet_five (W : World) (a b x y z : List UInt8) (A B X Y Z : Option Addr) (c1 c2 c3 c4 c5 : Nat) (ha : a.length = 32) (hb : b.length = 32) (hx : x.length = 64) (hy : y.length = 64) (hz : z.length = 64)
    (h1 : Holds8 W.heap.size W A a) (h2 : Holds8 W.heap.size W B b) (h3 : Holds8 W.heap.size W X x) (h4 : Holds8 W.heap.size W Y y) (h5 : Holds8 W.heap.size W Z z) (k1 : 32 ≤ c1) (k2 : 32 ≤ c2) (k3 : 64 ≤ c3) (k4 : 64 ≤ c4) (k5 : 64 ≤ c5) :
    MeetAt (W.alloc (.cells #[.slice A 32 c1, .slice B 32 c2, .slice X 64 c3, .slice Y 64 c4, .slice Z 64 c5] 24)) W.heap.size [⟨A, a, c1⟩, ⟨B, b, c2⟩, ⟨X, x, c3⟩, ⟨Y, y, c4⟩, ⟨Z, z, c5⟩] := by
  have hbel : Below W.heap.size W (W.alloc (.cells #[.slice A 32 c1, .slice B 32 c2, .slice X 64 c3, .slice Y 64 c4, .slice Z 64 c5] 24)) := (Below.refl _ _).alloc (Nat.le_refl _) _
  refine ⟨by rw [World.size_alloc]; omega, fun k p hk => ?_, fun k p hk => ?_⟩
  · rw [cell_of_row _ _ _ _ _ _ (heap_alloc_new W _)]
    match k, hk with
    | 0, hk => cases hk; dsimp only; rw [ha]; rfl
    | 1, hk => cases hk; dsimp only; rw [hb]; rfl
    | 2, hk => cases hk; dsimp only; rw [hx]; rfl
    | 3, hk => cases hk; dsimp only; rw [hy]; rfl
    | 4, hk => cases hk; dsimp only; rw [hz]; rfl
  · match k, hk with
    | 0, hk => cases hk; dsimp only; exact ⟨h1.later hbel, by omega, by omega⟩
    | 1, hk => cases hk; dsimp only; exact ⟨h2.later hbel, by omega, by omega⟩
    | 2, hk => cases hk; dsimp only; exact ⟨h3.later hbel, by omega, by omega⟩
    | 3, hk => cases hk; dsimp only; exact ⟨h4.later hbel, by omega, by omega⟩
    | 4, hk => cases hk; dsimp only; exact ⟨h5.later hbel, by omega, by omega⟩

set_option maxRecDepth 100000 in
set_option maxHeartbeats 8000000 in
theorem binds_walk (w : World) (s o d m : List UInt8) (hs : s.length = 32) (ho : o.length = 32) (hd : d.length = 32) (hm : m.length = 32) :
    Calls Try.prog 6 #[.agg (arr8 s), .agg (arr8 o), .agg (arr8 d), .agg (arr8 m)] w fun e w' => e = .returned (.bool true) ∧ Below w.heap.size w w' := by
  have hK := ((((Keeps.nil w).new (arr8 s) 23).new (arr8 o) 23).new (arr8 d) 23).new (arr8 m) 23
  simp only [World.size_alloc, List.nil_append, List.cons_append] at hK
  have C0 := fun W => alive_any W
  have C1 := fun W => public_any W s hs
  have C2 := fun W => public_any W o ho
  have C3 := fun W => sign_any W s d hs hd
  have C4 := fun W => sign_any W o d ho hd
  have hi1 := isB_sign s d hs
  have hi2 := isB_sign o d ho
  have hfacts := binds_facts s o d m hs ho
  have hk1 : (sha s).length = 32 := hashOf_length _
  have hk2 : (sha o).length = 32 := hashOf_length _
  have hl1 : (s ++ sha (s ++ d)).length = 64 := by rw [List.length_append, hs, hashOf_len]
  have hl2 : (o ++ sha (o ++ d)).length = 64 := by rw [List.length_append, ho, hashOf_len]
  generalize sha (s ++ d) = A1 at *
  generalize sha (o ++ d) = A2 at *
  generalize sha s = K1 at *
  generalize sha o = K2 at *
  have C5 : ∀ (W : World) (X Y : Option Addr) (z k sg : List UInt8) (r : Bool), isB k sg z = r → z.length = 32 → k.length = 32 → sg.length = 64 → Holds8 W.heap.size W X k → Holds8 W.heap.size W Y sg → Calls Try.prog 13 #[.slice X 32 32, .slice Y 64 64, .agg (arr8 z)] W fun e w' => e = .returned (.bool r) ∧ Below W.heap.size W w' := fun W X Y z k sg r hr hz hk hsg h1 h2 => by
    have h := is_any W X Y 32 32 64 64 k sg z hz h1 h2 hk hsg (Nat.le_refl _) (Nat.le_refl _)
    rw [hr] at h
    exact h
  have CA := Lib.hid C0
  have P1 := Lib.hid C1
  have P2 := Lib.hid C2
  have S1 := Lib.hid C3
  have S2 := Lib.hid C4
  have CI := Lib.hid C5
  have HI1 := Lib.hid hi1
  have HI2 := Lib.hid hi2
  have HF := Lib.hid hfacts
  have HK1 := Lib.hid hk1
  have HK2 := Lib.hid hk2
  have HL1 := Lib.hid hl1
  have HL2 := Lib.hid hl2
  have CB1 := Lib.hid (fun W => behind_any W s d hs hd)
  have CB2 := Lib.hid (fun W => behind_any W s m hs hm)
  have CB3 := Lib.hid (fun W => behind_any W o d ho hd)
  have HS := Lib.hid hs
  have HO := Lib.hid ho
  have HD := Lib.hid hd
  have HM := Lib.hid hm
  have HSD := Lib.hid (show (s ++ d).length = 64 by rw [List.length_append, hs, hd])
  have HSM := Lib.hid (show (s ++ m).length = 64 by rw [List.length_append, hs, hm])
  have HOD := Lib.hid (show (o ++ d).length = 64 by rw [List.length_append, ho, hd])
  clear C0 C1 C2 C3 C4 C5 hi1 hi2 hfacts hk1 hk2 hl1 hl2 hs ho hd hm
  go_enter Try.func6, Try.ntmps6
  go_wp2_with (first | (go_at_call 16; (with_reducible refine (CA.out _).mono ?_); rintro e W1 ⟨rfl, hb1⟩; replace hK := hK.call hb1; clear hb1))
  generalize hb0 : W1.heap.size = b0 at *
  have hl0 : w.heap.size < b0 := by rw [← hb0]; exact hK.lt 0 rfl
  have hl1 : w.heap.size + 1 < b0 := by rw [← hb0]; exact hK.lt 1 rfl
  have hl2 : w.heap.size + 1 + 1 < b0 := by rw [← hb0]; exact hK.lt 2 rfl
  have hl3 : w.heap.size + 1 + 1 + 1 < b0 := by rw [← hb0]; exact hK.lt 3 rfl
  have hI0 : KI2 w b0 [(w.heap.size, arr8 s, 23), (w.heap.size + 1, arr8 o, 23), (w.heap.size + 1 + 1, arr8 d, 23), (w.heap.size + 1 + 1 + 1, arr8 m, 23)] K1 K2 0 undef undef W1 := ⟨hK, by rw [hb0]; exact Nat.le_refl _, (fun g e => by cases e), (fun g e => by cases e), fun g e => by cases e⟩
  have hne : ∀ g, b0 ≤ g → ∀ (i : Nat) (p : Nat × Array Value × TypeId), [(w.heap.size, arr8 s, 23), (w.heap.size + 1, arr8 o, 23), (w.heap.size + 1 + 1, arr8 d, 23), (w.heap.size + 1 + 1 + 1, arr8 m, 23)][i]? = some p → p.1 ≠ g := fun g hg i p hi => by
    match i, hi with
    | 0, hi => cases hi; dsimp only; omega
    | 1, hi => cases hi; dsimp only; omega
    | 2, hi => cases hi; dsimp only; omega
    | 3, hi => cases hi; dsimp only; omega
  have HNE := Lib.hid hne
  have HL0 := Lib.hid (Nat.le_of_lt hl0)
  clear hne hl0 hl1 hl2 hl3 hK hb0
  refine wp_region_phasedV 91 rfl (fun _ _ _ _ => True) (fun p vals W1 => KI2 w b0 [(w.heap.size, arr8 s, 23), (w.heap.size + 1, arr8 o, 23), (w.heap.size + 1 + 1, arr8 d, 23), (w.heap.size + 1 + 1 + 1, arr8 m, 23)] K1 K2 p (vals 4) (vals 5) W1) [.is (.agg (arr8 s)), .is (.agg (arr8 K1)), .is (.agg (arr8 o)), .is (.agg (arr8 K2)), ⟨0, 1000, fun v W => ∃ g, v = .pointer (some ⟨g, 0, none⟩), fun k d v W W' hk hd h hr => h⟩, ⟨0, 1000, fun v W => ∃ g, v = .pointer (some ⟨g, 0, none⟩), fun k d v W W' hk hd h hr => h⟩, .is undef, .is undef] [6, 7] [0, 0, 0, 0, 0, 0, 0, 1] [0, 0, 0, 0, 0, 0, 0, 1] (by kernel_rfl) (by kernel_rfl) (by kernel_rfl) (fun _ _ _ => trivial) (⟨hI0.keeps.drew, hI0.big, hI0.one, hI0.two, hI0.apart⟩) ⟨?ob0, ?ob1, ?ob2, ?ob3, ?ob4, ?ob5, ?ob6, ?ob7, trivial⟩ ?obend
  case ob0 => as_aux_lemma =>
    intro p vals W1 F hF hlo hhi hI hd
    have hp : p = 0 := Nat.le_antisymm hhi hlo
    subst hp
    clear hlo hhi
    have E4 : F.eval (.tmp 4) = .pointer (some ⟨w.heap.size, 0, none⟩) := hF.out_ (by kernel_rfl) rfl
    refine .inr ⟨wanted_none rfl, ?_⟩
    have hl := run_loadVar_row (P := Try.prog) W1 w.heap.size 23 23 (arr8 s) (0, 0) _ (hI.keeps.get 0 rfl) Try.underlying23 rfl (infoH _ HS.out)
    refine .inl ⟨.agg (arr8 s), ?_, hI, TyP.of_is rfl⟩
    have Ec : ∀ v, F.eval (.const v) = v := fun _ => rfl; have Ef : ∀ f, F.eval (.func f) = .func (.func f) #[] #[] := fun _ => rfl; clear hF hd; generalize F.eval = ρ at E4 Ec Ef ⊢
    simp only [execOp, E4, Instr.loadAt, Instr.sureAddr, Sem.run_bind, Sem.run_pure, Result.andThen_ok, hl]
  case ob1 => as_aux_lemma =>
    intro p vals W1 F hF hlo hhi hI hd
    have hp : p = 0 := Nat.le_antisymm hhi hlo
    subst hp
    clear hlo hhi
    have d0 : vals 0 = .agg (arr8 s) := hd ⟨0, .data⟩ (Array.mem_of_getElem? (i := 0) rfl) rfl (show (0 : Nat) ≤ 1000 by decide)
    have E15 := eval_some (hF.own_ 0 rfl rfl (by kernel_rfl) (by decide)); rw [d0] at E15
    refine .inr ⟨wanted_none rfl, ?_⟩
    refine .inr (.inr (.inl ⟨10, #[.agg (arr8 s)], ?_, (P1.out W1).mono ?_⟩))
    · have Ec : ∀ v, F.eval (.const v) = v := fun _ => rfl; have Ef : ∀ f, F.eval (.func f) = .func (.func f) #[] #[] := fun _ => rfl; clear hF hd; generalize F.eval = ρ at E15 Ec Ef ⊢
      simp [execOp, go_sem, Ec, Ef, E15]
    rintro e W2 ⟨rfl, hb⟩
    exact ⟨_, rfl, trivial, hI.call hb, TyP.of_is rfl⟩
  case ob2 => as_aux_lemma =>
    intro p vals W1 F hF hlo hhi hI hd
    have hp : p = 0 := Nat.le_antisymm hhi hlo
    subst hp
    clear hlo hhi
    have E5 : F.eval (.tmp 5) = .pointer (some ⟨w.heap.size + 1, 0, none⟩) := hF.out_ (by kernel_rfl) rfl
    refine .inr ⟨wanted_none rfl, ?_⟩
    have hl := run_loadVar_row (P := Try.prog) W1 (w.heap.size + 1) 23 23 (arr8 o) (0, 0) _ (hI.keeps.get 1 rfl) Try.underlying23 rfl (infoH _ HO.out)
    refine .inl ⟨.agg (arr8 o), ?_, hI, TyP.of_is rfl⟩
    have Ec : ∀ v, F.eval (.const v) = v := fun _ => rfl; have Ef : ∀ f, F.eval (.func f) = .func (.func f) #[] #[] := fun _ => rfl; clear hF hd; generalize F.eval = ρ at E5 Ec Ef ⊢
    simp only [execOp, E5, Instr.loadAt, Instr.sureAddr, Sem.run_bind, Sem.run_pure, Result.andThen_ok, hl]
  case ob3 => as_aux_lemma =>
    intro p vals W1 F hF hlo hhi hI hd
    have hp : p = 0 := Nat.le_antisymm hhi hlo
    subst hp
    clear hlo hhi
    have d2 : vals 2 = .agg (arr8 o) := hd ⟨2, .data⟩ (Array.mem_of_getElem? (i := 0) rfl) rfl (show (0 : Nat) ≤ 1000 by decide)
    have E17 := eval_some (hF.own_ 2 rfl rfl (by kernel_rfl) (by decide)); rw [d2] at E17
    refine .inr ⟨wanted_none rfl, ?_⟩
    refine .inr (.inr (.inl ⟨10, #[.agg (arr8 o)], ?_, (P2.out W1).mono ?_⟩))
    · have Ec : ∀ v, F.eval (.const v) = v := fun _ => rfl; have Ef : ∀ f, F.eval (.func f) = .func (.func f) #[] #[] := fun _ => rfl; clear hF hd; generalize F.eval = ρ at E17 Ec Ef ⊢
      simp [execOp, go_sem, Ec, Ef, E17]
    rintro e W2 ⟨rfl, hb⟩
    exact ⟨_, rfl, trivial, hI.call hb, TyP.of_is rfl⟩
  case ob4 => as_aux_lemma =>
    intro p vals W1 F hF hlo hhi hI hd
    have hp : p = 0 := Nat.le_antisymm hhi hlo
    subst hp
    clear hlo hhi
    refine .inr ⟨wanted_none rfl, ?_⟩
    refine .inr (.inl ⟨.pointer (some ⟨W1.heap.size, 0, none⟩), W1.alloc (.cells (arr8 zero32) 23), by kernel_rfl, trivial, hI.new4, W1.heap.size, rfl⟩)
  case ob5 => as_aux_lemma =>
    intro p vals W1 F hF hlo hhi hI hd
    have hp : p = 0 := Nat.le_antisymm hhi hlo
    subst hp
    clear hlo hhi
    refine .inr ⟨wanted_none rfl, ?_⟩
    refine .inr (.inl ⟨.pointer (some ⟨W1.heap.size, 0, none⟩), W1.alloc (.cells (arr8 zero32) 23), by kernel_rfl, trivial, hI.new5, W1.heap.size, rfl⟩)
  case ob6 => as_aux_lemma =>
    intro p vals W1 F hF hlo hhi hI hd
    have hp : p = 0 := Nat.le_antisymm hhi hlo
    subst hp
    clear hlo hhi
    have d1 : vals 1 = .agg (arr8 K1) := hd ⟨1, .data⟩ (Array.mem_of_getElem? (i := 1) rfl) rfl (show (0 : Nat) ≤ 1000 by decide)
    obtain ⟨g4, hspec4⟩ := hd ⟨4, .data⟩ (Array.mem_of_getElem? (i := 0) rfl) rfl (show (0 : Nat) ≤ 1000 by decide)
    have d4 : vals 4 = .pointer (some ⟨g4, 0, none⟩) := hspec4
    have E10 := eval_some (hF.own_ 4 rfl rfl (by kernel_rfl) (by decide)); rw [d4] at E10
    have E16 := eval_some (hF.own_ 1 rfl rfl (by kernel_rfl) (by decide)); rw [d1] at E16
    refine .inr ⟨wanted_none rfl, ?_⟩
    have hm9 := hI.one g4 hspec4
    have hst := run_store_hash W1 g4 zero32 K1 hm9.2 rfl HK1.out
    refine .inr (.inr (.inr ⟨W1.setRow g4 (arr8 K1), ?_, trivial, hI.put4 hspec4 HL0.out (HNE.out g4 hm9.1), TyP.of_is rfl⟩))
    have Ec : ∀ v, F.eval (.const v) = v := fun _ => rfl; have Ef : ∀ f, F.eval (.func f) = .func (.func f) #[] #[] := fun _ => rfl; clear hF hd; generalize F.eval = ρ at E10 E16 Ec Ef ⊢
    simp only [execOp, E10, E16, Instr.storeAt, Instr.sureAddr, Sem.run_bind, Sem.run_pure, Result.andThen_ok, hst]
  case ob7 => as_aux_lemma =>
    intro p vals W1 F hF hlo hhi hI hd
    have hp : p = 1 := Nat.le_antisymm hhi hlo
    subst hp
    clear hlo hhi
    have d3 : vals 3 = .agg (arr8 K2) := hd ⟨3, .data⟩ (Array.mem_of_getElem? (i := 1) rfl) rfl (show (1 : Nat) ≤ 1000 by decide)
    obtain ⟨g5, hspec5⟩ := hd ⟨5, .data⟩ (Array.mem_of_getElem? (i := 0) rfl) rfl (show (1 : Nat) ≤ 1000 by decide)
    have d5 : vals 5 = .pointer (some ⟨g5, 0, none⟩) := hspec5
    have E11 := eval_some (hF.own_ 5 rfl rfl (by kernel_rfl) (by decide)); rw [d5] at E11
    have E18 := eval_some (hF.own_ 3 rfl rfl (by kernel_rfl) (by decide)); rw [d3] at E18
    refine .inr ⟨wanted_none rfl, ?_⟩
    have hm9 := hI.two g5 hspec5
    have hst := run_store_hash W1 g5 zero32 K2 hm9.2 rfl HK2.out
    refine .inr (.inr (.inr ⟨W1.setRow g5 (arr8 K2), ?_, trivial, hI.put5 hspec5 HL0.out (HNE.out g5 hm9.1), TyP.of_is rfl⟩))
    have Ec : ∀ v, F.eval (.const v) = v := fun _ => rfl; have Ef : ∀ f, F.eval (.func f) = .func (.func f) #[] #[] := fun _ => rfl; clear hF hd; generalize F.eval = ρ at E11 E18 Ec Ef ⊢
    simp only [execOp, E11, E18, Instr.storeAt, Instr.sureAddr, Sem.run_bind, Sem.run_pure, Result.andThen_ok, hst]
  case obend =>
    intro vals W1 F hF hdef hI hT
    obtain ⟨ga, hva⟩ := hT 4 (by decide) (show (2 : Nat) ≤ 1000 by decide)
    obtain ⟨gb, hvb⟩ := hT 5 (by decide) (show (2 : Nat) ≤ 1000 by decide)
    have hma := hI.one ga hva
    have hmb := hI.two gb hvb
    rw [if_neg (by decide)] at hma hmb
    have hab : ga ≠ gb := fun e => hI.apart ga hva (by rw [e]; exact hvb)
    rename_i K hK9
    refine hK9 _ _ ?_
    rw [hF.act]
    simp only [fin, Act.put, List.setIfInBounds_toArray, List.set_cons_succ, List.set_cons_zero]
    rw [hva, hvb]
    have hK4 := Keeps.add hI.keeps (Nat.le_trans HL0.out hma.1) hma.2 (HNE.out ga hma.1)
    have hK5 := Keeps.add hK4 (Nat.le_trans HL0.out hmb.1) hmb.2 (fun i p hi => by
      match i, hi with
      | 0, hi => exact HNE.out gb hmb.1 0 p hi
      | 1, hi => exact HNE.out gb hmb.1 1 p hi
      | 2, hi => exact HNE.out gb hmb.1 2 p hi
      | 3, hi => exact HNE.out gb hmb.1 3 p hi
      | 4, hi => cases hi; exact hab)
    simp only [List.cons_append, List.nil_append] at hK5
    clear hF hT hva hvb hI hI0 hK4 hma hmb hab
    obtain ⟨W2, hW2⟩ : ∃ W2, W1 = W2 := ⟨_, rfl⟩
    rw [hW2] at hK5 ⊢
    clear hW2
    have HK5 := Lib.hid hK5
    clear hK5
    go_wp2
    refine wp_region_phased 91 rfl (fun _ _ W W' => Below W.heap.size W W') (fun p W1 => Keeps w [(w.heap.size, arr8 s, 23), (w.heap.size + 1, arr8 o, 23), (w.heap.size + 1 + 1, arr8 d, 23), (w.heap.size + 1 + 1 + 1, arr8 m, 23), (ga, arr8 K1, 23), (gb, arr8 K2, 23)] W1) [.is (.agg (arr8 s)), .is (.agg (arr8 d)), ⟨0, 1000, fun v W => ∃ g, v = .slice (some ⟨g, 0, none⟩) 64 64 ∧ Holds8 W.heap.size W (some ⟨g, 0, none⟩) (s ++ A1), fun k d v W W' hk hd h hr => by obtain ⟨g, e, h2⟩ := h; exact ⟨g, e, h2.later hr⟩⟩, .is (.agg (arr8 o)), .is (.agg (arr8 d)), ⟨0, 1000, fun v W => ∃ g, v = .slice (some ⟨g, 0, none⟩) 64 64 ∧ Holds8 W.heap.size W (some ⟨g, 0, none⟩) (o ++ A2), fun k d v W W' hk hd h hr => by obtain ⟨g, e, h2⟩ := h; exact ⟨g, e, h2.later hr⟩⟩, ⟨0, 1000, fun v W => ∃ g, v = .slice (some ⟨g, 0, none⟩) 64 64 ∧ Holds8 W.heap.size W (some ⟨g, 0, none⟩) (s ++ A1), fun k d v W W' hk hd h hr => by obtain ⟨g, e, h2⟩ := h; exact ⟨g, e, h2.later hr⟩⟩, ⟨0, 1000, fun v W => ∃ g, v = .slice (some ⟨g, 0, none⟩) 64 64 ∧ Holds8 W.heap.size W (some ⟨g, 0, none⟩) (o ++ A2), fun k d v W W' hk hd h hr => by obtain ⟨g, e, h2⟩ := h; exact ⟨g, e, h2.later hr⟩⟩] [] [0, 0, 0, 0, 0, 0, 0, 0] [0, 0, 0, 0, 0, 0, 0, 0] (by kernel_rfl) (by kernel_rfl) (by kernel_rfl) (fun _ _ W => Below.refl _ W) (HK5.out.drew) ⟨?oc0, ?oc1, ?oc2, ?oc3, ?oc4, ?oc5, ?oc6, ?oc7, trivial⟩ ?ocend
    case oc0 => as_aux_lemma =>
      intro p vals2 W1 F hF hlo hhi hI hd
      have hp : p = 0 := Nat.le_antisymm hhi hlo
      subst hp
      clear hlo hhi
      have E4 : F.eval (.tmp 4) = .pointer (some ⟨w.heap.size, 0, none⟩) := hF.out_ (by kernel_rfl) rfl
      refine .inr ⟨wanted_none rfl, ?_⟩
      have hl := run_loadVar_row (P := Try.prog) W1 w.heap.size 23 23 (arr8 s) (0, 0) _ (hI.get 0 rfl) Try.underlying23 rfl (infoH _ HS.out)
      refine .inl ⟨.agg (arr8 s), ?_, hI, TyP.of_is rfl⟩
      have Ec : ∀ v, F.eval (.const v) = v := fun _ => rfl; have Ef : ∀ f, F.eval (.func f) = .func (.func f) #[] #[] := fun _ => rfl; clear hF hd; generalize F.eval = ρ at E4 Ec Ef ⊢
      simp only [execOp, E4, Instr.loadAt, Instr.sureAddr, Sem.run_bind, Sem.run_pure, Result.andThen_ok, hl]
    case oc1 => as_aux_lemma =>
      intro p vals2 W1 F hF hlo hhi hI hd
      have hp : p = 0 := Nat.le_antisymm hhi hlo
      subst hp
      clear hlo hhi
      have E6 : F.eval (.tmp 6) = .pointer (some ⟨w.heap.size + 1 + 1, 0, none⟩) := hF.out_ (by kernel_rfl) rfl
      refine .inr ⟨wanted_none rfl, ?_⟩
      have hl := run_loadVar_row (P := Try.prog) W1 (w.heap.size + 1 + 1) 23 23 (arr8 d) (0, 0) _ (hI.get 2 rfl) Try.underlying23 rfl (infoH _ HD.out)
      refine .inl ⟨.agg (arr8 d), ?_, hI, TyP.of_is rfl⟩
      have Ec : ∀ v, F.eval (.const v) = v := fun _ => rfl; have Ef : ∀ f, F.eval (.func f) = .func (.func f) #[] #[] := fun _ => rfl; clear hF hd; generalize F.eval = ρ at E6 Ec Ef ⊢
      simp only [execOp, E6, Instr.loadAt, Instr.sureAddr, Sem.run_bind, Sem.run_pure, Result.andThen_ok, hl]
    case oc2 => as_aux_lemma =>
      intro p vals2 W1 F hF hlo hhi hI hd
      have hp : p = 0 := Nat.le_antisymm hhi hlo
      subst hp
      clear hlo hhi
      have d0 : vals2 0 = .agg (arr8 s) := hd ⟨0, .data⟩ (Array.mem_of_getElem? (i := 0) rfl) rfl (show (0 : Nat) ≤ 1000 by decide)
      have d1 : vals2 1 = .agg (arr8 d) := hd ⟨1, .data⟩ (Array.mem_of_getElem? (i := 1) rfl) rfl (show (0 : Nat) ≤ 1000 by decide)
      have E19 := eval_some (hF.own_ 0 rfl rfl (by kernel_rfl) (by decide)); rw [d0] at E19
      have E20 := eval_some (hF.own_ 1 rfl rfl (by kernel_rfl) (by decide)); rw [d1] at E20
      refine .inr ⟨wanted_none rfl, ?_⟩
      refine .inr (.inr (.inl ⟨9, #[.agg (arr8 s), .agg (arr8 d)], ?_, (S1.out W1).mono ?_⟩))
      · have Ec : ∀ v, F.eval (.const v) = v := fun _ => rfl; have Ef : ∀ f, F.eval (.func f) = .func (.func f) #[] #[] := fun _ => rfl; clear hF hd; generalize F.eval = ρ at E19 E20 Ec Ef ⊢
        simp [execOp, go_sem, Ec, Ef, E19, E20]
      rintro e W2 ⟨g9, rfl, hk9⟩
      have hb := hk9.bel
      exact ⟨_, rfl, hb, hI.call hb, g9, rfl, holdsK (k := 0) hk9 rfl⟩
    case oc3 => as_aux_lemma =>
      intro p vals2 W1 F hF hlo hhi hI hd
      have hp : p = 0 := Nat.le_antisymm hhi hlo
      subst hp
      clear hlo hhi
      have E5 : F.eval (.tmp 5) = .pointer (some ⟨w.heap.size + 1, 0, none⟩) := hF.out_ (by kernel_rfl) rfl
      refine .inr ⟨wanted_none rfl, ?_⟩
      have hl := run_loadVar_row (P := Try.prog) W1 (w.heap.size + 1) 23 23 (arr8 o) (0, 0) _ (hI.get 1 rfl) Try.underlying23 rfl (infoH _ HO.out)
      refine .inl ⟨.agg (arr8 o), ?_, hI, TyP.of_is rfl⟩
      have Ec : ∀ v, F.eval (.const v) = v := fun _ => rfl; have Ef : ∀ f, F.eval (.func f) = .func (.func f) #[] #[] := fun _ => rfl; clear hF hd; generalize F.eval = ρ at E5 Ec Ef ⊢
      simp only [execOp, E5, Instr.loadAt, Instr.sureAddr, Sem.run_bind, Sem.run_pure, Result.andThen_ok, hl]
    case oc4 => as_aux_lemma =>
      intro p vals2 W1 F hF hlo hhi hI hd
      have hp : p = 0 := Nat.le_antisymm hhi hlo
      subst hp
      clear hlo hhi
      have E6 : F.eval (.tmp 6) = .pointer (some ⟨w.heap.size + 1 + 1, 0, none⟩) := hF.out_ (by kernel_rfl) rfl
      refine .inr ⟨wanted_none rfl, ?_⟩
      have hl := run_loadVar_row (P := Try.prog) W1 (w.heap.size + 1 + 1) 23 23 (arr8 d) (0, 0) _ (hI.get 2 rfl) Try.underlying23 rfl (infoH _ HD.out)
      refine .inl ⟨.agg (arr8 d), ?_, hI, TyP.of_is rfl⟩
      have Ec : ∀ v, F.eval (.const v) = v := fun _ => rfl; have Ef : ∀ f, F.eval (.func f) = .func (.func f) #[] #[] := fun _ => rfl; clear hF hd; generalize F.eval = ρ at E6 Ec Ef ⊢
      simp only [execOp, E6, Instr.loadAt, Instr.sureAddr, Sem.run_bind, Sem.run_pure, Result.andThen_ok, hl]
    case oc5 => as_aux_lemma =>
      intro p vals2 W1 F hF hlo hhi hI hd
      have hp : p = 0 := Nat.le_antisymm hhi hlo
      subst hp
      clear hlo hhi
      have d3 : vals2 3 = .agg (arr8 o) := hd ⟨3, .data⟩ (Array.mem_of_getElem? (i := 0) rfl) rfl (show (0 : Nat) ≤ 1000 by decide)
      have d4 : vals2 4 = .agg (arr8 d) := hd ⟨4, .data⟩ (Array.mem_of_getElem? (i := 1) rfl) rfl (show (0 : Nat) ≤ 1000 by decide)
      have E22 := eval_some (hF.own_ 3 rfl rfl (by kernel_rfl) (by decide)); rw [d3] at E22
      have E23 := eval_some (hF.own_ 4 rfl rfl (by kernel_rfl) (by decide)); rw [d4] at E23
      refine .inr ⟨wanted_none rfl, ?_⟩
      refine .inr (.inr (.inl ⟨9, #[.agg (arr8 o), .agg (arr8 d)], ?_, (S2.out W1).mono ?_⟩))
      · have Ec : ∀ v, F.eval (.const v) = v := fun _ => rfl; have Ef : ∀ f, F.eval (.func f) = .func (.func f) #[] #[] := fun _ => rfl; clear hF hd; generalize F.eval = ρ at E22 E23 Ec Ef ⊢
        simp [execOp, go_sem, Ec, Ef, E22, E23]
      rintro e W2 ⟨g9, rfl, hk9⟩
      have hb := hk9.bel
      exact ⟨_, rfl, hb, hI.call hb, g9, rfl, holdsK (k := 0) hk9 rfl⟩
    case oc6 => as_aux_lemma =>
      intro p vals2 W1 F hF hlo hhi hI hd
      have hp : p = 0 := Nat.le_antisymm hhi hlo
      subst hp
      clear hlo hhi
      obtain ⟨g2, hspec2, hh2⟩ := hd ⟨2, .data⟩ (Array.mem_of_getElem? (i := 0) rfl) rfl (show (0 : Nat) ≤ 1000 by decide)
      have d2 : vals2 2 = .slice (some ⟨g2, 0, none⟩) 64 64 := hspec2
      have E21 := eval_some (hF.own_ 2 rfl rfl (by kernel_rfl) (by decide)); rw [d2] at E21
      refine .inr ⟨wanted_none rfl, ?_⟩
      refine .inl ⟨.slice (some ⟨g2, 0, none⟩) 64 64, ?_, hI, g2, rfl, hh2⟩
      simp only [execOp, E21, Sem.run_pure]
    case oc7 => as_aux_lemma =>
      intro p vals2 W1 F hF hlo hhi hI hd
      have hp : p = 0 := Nat.le_antisymm hhi hlo
      subst hp
      clear hlo hhi
      obtain ⟨g5, hspec5, hh5⟩ := hd ⟨5, .data⟩ (Array.mem_of_getElem? (i := 0) rfl) rfl (show (0 : Nat) ≤ 1000 by decide)
      have d5 : vals2 5 = .slice (some ⟨g5, 0, none⟩) 64 64 := hspec5
      have E24 := eval_some (hF.own_ 5 rfl rfl (by kernel_rfl) (by decide)); rw [d5] at E24
      refine .inr ⟨wanted_none rfl, ?_⟩
      refine .inl ⟨.slice (some ⟨g5, 0, none⟩) 64 64, ?_, hI, g5, rfl, hh5⟩
      simp only [execOp, E24, Sem.run_pure]
    case ocend =>
      intro vals2 W1 F hF hdef hI hT
      obtain ⟨gx, hvx, hhx⟩ := hT 6 (by decide) (show (0 : Nat) ≤ 1000 by decide)
      obtain ⟨gy, hvy, hhy⟩ := hT 7 (by decide) (show (0 : Nat) ≤ 1000 by decide)
      rename_i K hK9
      refine hK9 _ _ ?_
      rw [hF.act]
      simp only [fin, Act.put, List.setIfInBounds_toArray, List.set_cons_succ, List.set_cons_zero]
      rw [hvx, hvy]
      clear hF hT hvx hvy
      obtain ⟨W3, hW3⟩ : ∃ W3, W1 = W3 := ⟨_, rfl⟩
      rw [hW3] at hI hhx hhy ⊢
      clear hW3
      have HI3 := Lib.hid (show Keeps w [(w.heap.size, arr8 s, 23), (w.heap.size + 1, arr8 o, 23), (w.heap.size + 1 + 1, arr8 d, 23), (w.heap.size + 1 + 1 + 1, arr8 m, 23), (ga, arr8 K1, 23), (gb, arr8 K2, 23)] W3 ∧ Holds8 W3.heap.size W3 (some ⟨gx, 0, none⟩) (s ++ A1) ∧ Holds8 W3.heap.size W3 (some ⟨gy, 0, none⟩) (o ++ A2) from ⟨hI, hhx, hhy⟩)
      clear hI hhx hhy HK5
      go_wp2
      refine wp_region_phased 91 rfl (fun _ _ W W' => Below W.heap.size W W') (fun p W1 => Keeps w [(w.heap.size, arr8 s, 23), (w.heap.size + 1, arr8 o, 23), (w.heap.size + 1 + 1, arr8 d, 23), (w.heap.size + 1 + 1 + 1, arr8 m, 23), (ga, arr8 K1, 23), (gb, arr8 K2, 23)] W1 ∧ Holds8 W1.heap.size W1 (some ⟨gx, 0, none⟩) (s ++ A1) ∧ Holds8 W1.heap.size W1 (some ⟨gy, 0, none⟩) (o ++ A2)) [.is (.slice (some ⟨ga, 0, none⟩) 32 32), .is (.slice (some ⟨gx, 0, none⟩) 64 64), .is (.agg (arr8 d)), .is (.bool true), .is (.bool false), .is (.bool false), .is (.slice (some ⟨gb, 0, none⟩) 32 32), .is (.slice (some ⟨gy, 0, none⟩) 64 64), .is (.agg (arr8 d)), .is (.bool true), .is (.bool false), .is (.bool false)] [] [0, 0, 0, 0, 0, 0, 0, 0, 0, 0, 0, 0] [0, 0, 0, 0, 0, 0, 0, 0, 0, 0, 0, 0] (by kernel_rfl) (by kernel_rfl) (by kernel_rfl) (fun _ _ W => Below.refl _ W) (⟨HI3.out.1.drew, HI3.out.2⟩) ⟨?od0, ?od1, ?od2, ?od3, ?od4, ?od5, ?od6, ?od7, ?od8, ?od9, ?od10, ?od11, trivial⟩ ?odend
      case od0 => as_aux_lemma =>
        intro p vals3 W1 F hF hlo hhi hI hd
        have hp : p = 0 := Nat.le_antisymm hhi hlo
        subst hp
        clear hlo hhi
        have E10 : F.eval (.tmp 10) = .pointer (some ⟨ga, 0, none⟩) := hF.out_ (by kernel_rfl) rfl
        refine .inr ⟨wanted_none rfl, .inl ⟨.slice (some ⟨ga, 0, none⟩) 32 32, ?_, hI, TyP.of_is rfl⟩⟩
        have Ec : ∀ v, F.eval (.const v) = v := fun _ => rfl; have Ef : ∀ f, F.eval (.func f) = .func (.func f) #[] #[] := fun _ => rfl; clear hF hd; generalize F.eval = ρ at E10 Ec Ef ⊢
        simp [execOp, go_sem, Ec, E10]
      case od1 => as_aux_lemma =>
        intro p vals3 W1 F hF hlo hhi hI hd
        have hp : p = 0 := Nat.le_antisymm hhi hlo
        subst hp
        clear hlo hhi
        have E12 : F.eval (.tmp 12) = .slice (some ⟨gx, 0, none⟩) 64 64 := hF.out_ (by kernel_rfl) rfl
        refine .inr ⟨wanted_none rfl, .inl ⟨.slice (some ⟨gx, 0, none⟩) 64 64, ?_, hI, TyP.of_is rfl⟩⟩
        simp only [execOp, E12, Sem.run_pure]
      case od2 => as_aux_lemma =>
        intro p vals3 W1 F hF hlo hhi hI hd
        have hp : p = 0 := Nat.le_antisymm hhi hlo
        subst hp
        clear hlo hhi
        have E6 : F.eval (.tmp 6) = .pointer (some ⟨w.heap.size + 1 + 1, 0, none⟩) := hF.out_ (by kernel_rfl) rfl
        refine .inr ⟨wanted_none rfl, ?_⟩
        have hl := run_loadVar_row (P := Try.prog) W1 (w.heap.size + 1 + 1) 23 23 (arr8 d) (0, 0) _ (hI.1.get 2 rfl) Try.underlying23 rfl (infoH _ HD.out)
        refine .inl ⟨.agg (arr8 d), ?_, hI, TyP.of_is rfl⟩
        have Ec : ∀ v, F.eval (.const v) = v := fun _ => rfl; have Ef : ∀ f, F.eval (.func f) = .func (.func f) #[] #[] := fun _ => rfl; clear hF hd; generalize F.eval = ρ at E6 Ec Ef ⊢
        simp only [execOp, E6, Instr.loadAt, Instr.sureAddr, Sem.run_bind, Sem.run_pure, Result.andThen_ok, hl]
      case od3 => as_aux_lemma =>
        intro p vals3 W1 F hF hlo hhi hI hd
        have hp : p = 0 := Nat.le_antisymm hhi hlo
        subst hp
        clear hlo hhi
        have d0 : vals3 0 = .slice (some ⟨ga, 0, none⟩) 32 32 := hd ⟨0, .data⟩ (Array.mem_of_getElem? (i := 0) rfl) rfl (show (0 : Nat) ≤ 1000 by decide)
        have d1 : vals3 1 = .slice (some ⟨gx, 0, none⟩) 64 64 := hd ⟨1, .data⟩ (Array.mem_of_getElem? (i := 1) rfl) rfl (show (0 : Nat) ≤ 1000 by decide)
        have d2 : vals3 2 = .agg (arr8 d) := hd ⟨2, .data⟩ (Array.mem_of_getElem? (i := 2) rfl) rfl (show (0 : Nat) ≤ 1000 by decide)
        have E25 := eval_some (hF.own_ 0 rfl rfl (by kernel_rfl) (by decide)); rw [d0] at E25
        have E26 := eval_some (hF.own_ 1 rfl rfl (by kernel_rfl) (by decide)); rw [d1] at E26
        have E27 := eval_some (hF.own_ 2 rfl rfl (by kernel_rfl) (by decide)); rw [d2] at E27
        refine .inr ⟨wanted_none rfl, ?_⟩
        refine .inr (.inr (.inl ⟨13, #[.slice (some ⟨ga, 0, none⟩) 32 32, .slice (some ⟨gx, 0, none⟩) 64 64, .agg (arr8 d)], ?_, (CI.out W1 _ _ _ _ _ _ HI1.out HD.out HK1.out HL1.out (holdsK (k := 4) hI.1 rfl) hI.2.1).mono ?_⟩))
        · have Ec : ∀ v, F.eval (.const v) = v := fun _ => rfl; have Ef : ∀ f, F.eval (.func f) = .func (.func f) #[] #[] := fun _ => rfl; clear hF hd; generalize F.eval = ρ at E25 E26 E27 Ec Ef ⊢
          simp [execOp, go_sem, Ec, Ef, E25, E26, E27]
        rintro e W2 ⟨rfl, hb⟩
        exact ⟨_, rfl, hb, ⟨hI.1.call hb, hI.2.1.later hb, hI.2.2.later hb⟩, TyP.of_is rfl⟩
      case od4 => as_aux_lemma =>
        intro p vals3 W1 F hF hlo hhi hI hd
        have hp : p = 0 := Nat.le_antisymm hhi hlo
        subst hp
        clear hlo hhi
        have d3 : vals3 3 = .bool true := hd ⟨3, .data⟩ (Array.mem_of_getElem? (i := 0) rfl) rfl (show (0 : Nat) ≤ 1000 by decide)
        have E28 := eval_some (hF.own_ 3 rfl rfl (by kernel_rfl) (by decide)); rw [d3] at E28
        refine .inr ⟨wanted_none rfl, .inl ⟨.bool false, ?_, hI, TyP.of_is rfl⟩⟩
        have Ec : ∀ v, F.eval (.const v) = v := fun _ => rfl; have Ef : ∀ f, F.eval (.func f) = .func (.func f) #[] #[] := fun _ => rfl; clear hF hd; generalize F.eval = ρ at E28 Ec Ef ⊢
        simp [execOp, go_sem, Ec, E28]
      case od5 => as_aux_lemma =>
        intro p vals3 W1 F hF hlo hhi hI hd
        have hp : p = 0 := Nat.le_antisymm hhi hlo
        subst hp
        clear hlo hhi
        have d4 : vals3 4 = .bool false := hd ⟨4, .data⟩ (Array.mem_of_getElem? (i := 0) rfl) rfl (show (0 : Nat) ≤ 1000 by decide)
        have E29 := eval_some (hF.own_ 4 rfl rfl (by kernel_rfl) (by decide)); rw [d4] at E29
        refine .inr ⟨wanted_none rfl, .inl ⟨.bool false, ?_, hI, TyP.of_is rfl⟩⟩
        simp only [execOp, E29, Sem.run_pure]
      case od6 => as_aux_lemma =>
        intro p vals3 W1 F hF hlo hhi hI hd
        have hp : p = 0 := Nat.le_antisymm hhi hlo
        subst hp
        clear hlo hhi
        have d5 : vals3 5 = .bool false := hd ⟨5, .guard⟩ (Array.mem_of_getElem? (i := 0) rfl) rfl (show (0 : Nat) ≤ 1000 by decide)
        have E11 : F.eval (.tmp 11) = .pointer (some ⟨gb, 0, none⟩) := hF.out_ (by kernel_rfl) rfl
        have G := hF.own_ 5 rfl rfl (by kernel_rfl) (by decide); rw [d5] at G
        refine .inr ⟨wanted_yes rfl rfl rfl G, .inl ⟨.slice (some ⟨gb, 0, none⟩) 32 32, ?_, hI, TyP.of_is rfl⟩⟩
        have Ec : ∀ v, F.eval (.const v) = v := fun _ => rfl; have Ef : ∀ f, F.eval (.func f) = .func (.func f) #[] #[] := fun _ => rfl; clear hF hd; generalize F.eval = ρ at E11 Ec Ef ⊢
        simp [execOp, go_sem, Ec, E11]
      case od7 => as_aux_lemma =>
        intro p vals3 W1 F hF hlo hhi hI hd
        have hp : p = 0 := Nat.le_antisymm hhi hlo
        subst hp
        clear hlo hhi
        have d5 : vals3 5 = .bool false := hd ⟨5, .guard⟩ (Array.mem_of_getElem? (i := 0) rfl) rfl (show (0 : Nat) ≤ 1000 by decide)
        have E13 : F.eval (.tmp 13) = .slice (some ⟨gy, 0, none⟩) 64 64 := hF.out_ (by kernel_rfl) rfl
        have G := hF.own_ 5 rfl rfl (by kernel_rfl) (by decide); rw [d5] at G
        refine .inr ⟨wanted_yes rfl rfl rfl G, .inl ⟨.slice (some ⟨gy, 0, none⟩) 64 64, ?_, hI, TyP.of_is rfl⟩⟩
        simp only [execOp, E13, Sem.run_pure]
      case od8 => as_aux_lemma =>
        intro p vals3 W1 F hF hlo hhi hI hd
        have hp : p = 0 := Nat.le_antisymm hhi hlo
        subst hp
        clear hlo hhi
        have d5 : vals3 5 = .bool false := hd ⟨5, .guard⟩ (Array.mem_of_getElem? (i := 0) rfl) rfl (show (0 : Nat) ≤ 1000 by decide)
        have E6 : F.eval (.tmp 6) = .pointer (some ⟨w.heap.size + 1 + 1, 0, none⟩) := hF.out_ (by kernel_rfl) rfl
        have G := hF.own_ 5 rfl rfl (by kernel_rfl) (by decide); rw [d5] at G
        refine .inr ⟨wanted_yes rfl rfl rfl G, ?_⟩
        have hl := run_loadVar_row (P := Try.prog) W1 (w.heap.size + 1 + 1) 23 23 (arr8 d) (0, 0) _ (hI.1.get 2 rfl) Try.underlying23 rfl (infoH _ HD.out)
        refine .inl ⟨.agg (arr8 d), ?_, hI, TyP.of_is rfl⟩
        have Ec : ∀ v, F.eval (.const v) = v := fun _ => rfl; have Ef : ∀ f, F.eval (.func f) = .func (.func f) #[] #[] := fun _ => rfl; clear hF hd; generalize F.eval = ρ at E6 Ec Ef ⊢
        simp only [execOp, E6, Instr.loadAt, Instr.sureAddr, Sem.run_bind, Sem.run_pure, Result.andThen_ok, hl]
      case od9 => as_aux_lemma =>
        intro p vals3 W1 F hF hlo hhi hI hd
        have hp : p = 0 := Nat.le_antisymm hhi hlo
        subst hp
        clear hlo hhi
        have d5 : vals3 5 = .bool false := hd ⟨5, .chain⟩ (Array.mem_of_getElem? (i := 3) rfl) rfl (show (0 : Nat) ≤ 1000 by decide)
        have d6 : vals3 6 = .slice (some ⟨gb, 0, none⟩) 32 32 := hd ⟨6, .data⟩ (Array.mem_of_getElem? (i := 0) rfl) rfl (show (0 : Nat) ≤ 1000 by decide)
        have d7 : vals3 7 = .slice (some ⟨gy, 0, none⟩) 64 64 := hd ⟨7, .data⟩ (Array.mem_of_getElem? (i := 1) rfl) rfl (show (0 : Nat) ≤ 1000 by decide)
        have d8 : vals3 8 = .agg (arr8 d) := hd ⟨8, .data⟩ (Array.mem_of_getElem? (i := 2) rfl) rfl (show (0 : Nat) ≤ 1000 by decide)
        have E31 := eval_some (hF.own_ 6 rfl rfl (by kernel_rfl) (by decide)); rw [d6] at E31
        have E32 := eval_some (hF.own_ 7 rfl rfl (by kernel_rfl) (by decide)); rw [d7] at E32
        have E33 := eval_some (hF.own_ 8 rfl rfl (by kernel_rfl) (by decide)); rw [d8] at E33
        have G := hF.own_ 5 rfl rfl (by kernel_rfl) (by decide); rw [d5] at G
        refine .inr ⟨wanted_yes rfl rfl rfl G, ?_⟩
        refine .inr (.inr (.inl ⟨13, #[.slice (some ⟨gb, 0, none⟩) 32 32, .slice (some ⟨gy, 0, none⟩) 64 64, .agg (arr8 d)], ?_, (CI.out W1 _ _ _ _ _ _ HI2.out HD.out HK2.out HL2.out (holdsK (k := 5) hI.1 rfl) hI.2.2).mono ?_⟩))
        · have Ec : ∀ v, F.eval (.const v) = v := fun _ => rfl; have Ef : ∀ f, F.eval (.func f) = .func (.func f) #[] #[] := fun _ => rfl; clear hF hd; generalize F.eval = ρ at E31 E32 E33 Ec Ef ⊢
          simp [execOp, go_sem, Ec, Ef, E31, E32, E33]
        rintro e W2 ⟨rfl, hb⟩
        exact ⟨_, rfl, hb, ⟨hI.1.call hb, hI.2.1.later hb, hI.2.2.later hb⟩, TyP.of_is rfl⟩
      case od10 => as_aux_lemma =>
        intro p vals3 W1 F hF hlo hhi hI hd
        have hp : p = 0 := Nat.le_antisymm hhi hlo
        subst hp
        clear hlo hhi
        have d5 : vals3 5 = .bool false := hd ⟨5, .guard⟩ (Array.mem_of_getElem? (i := 1) rfl) rfl (show (0 : Nat) ≤ 1000 by decide)
        have d9 : vals3 9 = .bool true := hd ⟨9, .data⟩ (Array.mem_of_getElem? (i := 0) rfl) rfl (show (0 : Nat) ≤ 1000 by decide)
        have E34 := eval_some (hF.own_ 9 rfl rfl (by kernel_rfl) (by decide)); rw [d9] at E34
        have G := hF.own_ 5 rfl rfl (by kernel_rfl) (by decide); rw [d5] at G
        refine .inr ⟨wanted_yes rfl rfl rfl G, .inl ⟨.bool false, ?_, hI, TyP.of_is rfl⟩⟩
        have Ec : ∀ v, F.eval (.const v) = v := fun _ => rfl; have Ef : ∀ f, F.eval (.func f) = .func (.func f) #[] #[] := fun _ => rfl; clear hF hd; generalize F.eval = ρ at E34 Ec Ef ⊢
        simp [execOp, go_sem, Ec, E34]
      case od11 => as_aux_lemma =>
        intro p vals3 W1 F hF hlo hhi hI hd
        have hp : p = 0 := Nat.le_antisymm hhi hlo
        subst hp
        clear hlo hhi
        have d5 : vals3 5 = .bool false := hd ⟨5, .data⟩ (Array.mem_of_getElem? (i := 0) rfl) rfl (show (0 : Nat) ≤ 1000 by decide)
        have d10 : vals3 10 = .bool false := hd ⟨10, .data⟩ (Array.mem_of_getElem? (i := 1) rfl) rfl (show (0 : Nat) ≤ 1000 by decide)
        have E30 := eval_some (hF.own_ 5 rfl rfl (by kernel_rfl) (by decide)); rw [d5] at E30
        have E35 := eval_some (hF.own_ 10 rfl rfl (by kernel_rfl) (by decide)); rw [d10] at E35
        refine .inr ⟨wanted_none rfl, .inl ⟨.bool false, ?_, hI, TyP.of_is rfl⟩⟩
        have Ec : ∀ v, F.eval (.const v) = v := fun _ => rfl; have Ef : ∀ f, F.eval (.func f) = .func (.func f) #[] #[] := fun _ => rfl; clear hF hd; generalize F.eval = ρ at E30 E35 Ec Ef ⊢
        simp [execOp, go_sem, Ec, E30, E35]
      case odend =>
        intro vals3 W1 F hF hdef hI hT
        have hv : vals3 11 = .bool false := hT 11 (by decide) (show (0 : Nat) ≤ 1000 by decide)
        rename_i K hK9
        refine hK9 _ _ ?_
        rw [hF.act]
        simp only [fin, Act.put, List.setIfInBounds_toArray, List.set_cons_succ, List.set_cons_zero]
        rw [hv]
        clear hF hT hv HI3
        obtain ⟨W4, hW4⟩ : ∃ W4, W1 = W4 := ⟨_, rfl⟩
        rw [hW4] at hI ⊢
        clear hW4
        have HI4 := Lib.hid hI
        clear hI
        go_wp2
        refine wp_region_phased 91 rfl (fun _ _ W W' => Below W.heap.size W W') (fun p W1 => Keeps w [(w.heap.size, arr8 s, 23), (w.heap.size + 1, arr8 o, 23), (w.heap.size + 1 + 1, arr8 d, 23), (w.heap.size + 1 + 1 + 1, arr8 m, 23), (ga, arr8 K1, 23), (gb, arr8 K2, 23)] W1 ∧ Holds8 W1.heap.size W1 (some ⟨gx, 0, none⟩) (s ++ A1) ∧ Holds8 W1.heap.size W1 (some ⟨gy, 0, none⟩) (o ++ A2)) [.is (.slice (some ⟨w.heap.size, 0, none⟩) 32 32), .is (.slice (some ⟨(w.heap.size + 1), 0, none⟩) 32 32), .is (.agg (arr8 s)), .is (.agg (arr8 d)), ⟨0, 1000, fun v W => ∃ X c, v = .slice X 64 c ∧ Holds8 W.heap.size W X (s ++ d) ∧ 64 ≤ c, fun k d v W W' hk hd h hr => by obtain ⟨X, c, e, h2, h3⟩ := h; exact ⟨X, c, e, h2.later hr, h3⟩⟩, .is (.agg (arr8 s)), .is (.agg (arr8 m)), ⟨0, 1000, fun v W => ∃ X c, v = .slice X 64 c ∧ Holds8 W.heap.size W X (s ++ m) ∧ 64 ≤ c, fun k d v W W' hk hd h hr => by obtain ⟨X, c, e, h2, h3⟩ := h; exact ⟨X, c, e, h2.later hr, h3⟩⟩, .is (.agg (arr8 o)), .is (.agg (arr8 d)), ⟨0, 1000, fun v W => ∃ X c, v = .slice X 64 c ∧ Holds8 W.heap.size W X (o ++ d) ∧ 64 ≤ c, fun k d v W W' hk hd h hr => by obtain ⟨X, c, e, h2, h3⟩ := h; exact ⟨X, c, e, h2.later hr, h3⟩⟩, ⟨0, 1000, fun v W => ∃ g l, v = .slice (some ⟨g, 0, none⟩) 5 5 ∧ MeetAt W g l ∧ l.length = 5 ∧ l.map MV.b = [s, o, s ++ d, s ++ m, o ++ d], fun k d v W W' hk hd h hr => by obtain ⟨g, l, e, h2, h3⟩ := h; exact ⟨g, l, e, h2.later hr, h3⟩⟩, ⟨0, 1000, fun v W => ∃ b : Bool, v = .bool b ∧ (b = true ↔ MeetsL [s, o, s ++ d, s ++ m, o ++ d]), fun k d v W W' hk hd h hr => h⟩] [] [0, 0, 0, 0, 0, 0, 0, 0, 0, 0, 0, 0, 0] [0, 0, 0, 0, 0, 0, 0, 0, 0, 0, 0, 0, 0] (by kernel_rfl) (by kernel_rfl) (by kernel_rfl) (fun _ _ W => Below.refl _ W) (⟨HI4.out.1.drew, HI4.out.2⟩) ⟨?oe0, ?oe1, ?oe2, ?oe3, ?oe4, ?oe5, ?oe6, ?oe7, ?oe8, ?oe9, ?oe10, ?oe11, ?oe12, trivial⟩ ?oeend
        case oe0 => as_aux_lemma =>
          intro p vals4 W1 F hF hlo hhi hI hd
          have hp : p = 0 := Nat.le_antisymm hhi hlo
          subst hp
          clear hlo hhi
          have E4 : F.eval (.tmp 4) = .pointer (some ⟨w.heap.size, 0, none⟩) := hF.out_ (by kernel_rfl) rfl
          refine .inr ⟨wanted_none rfl, .inl ⟨.slice (some ⟨w.heap.size, 0, none⟩) 32 32, ?_, hI, TyP.of_is rfl⟩⟩
          have Ec : ∀ v, F.eval (.const v) = v := fun _ => rfl; have Ef : ∀ f, F.eval (.func f) = .func (.func f) #[] #[] := fun _ => rfl; clear hF hd; generalize F.eval = ρ at E4 Ec Ef ⊢
          simp [execOp, go_sem, Ec, E4]
        case oe1 => as_aux_lemma =>
          intro p vals4 W1 F hF hlo hhi hI hd
          have hp : p = 0 := Nat.le_antisymm hhi hlo
          subst hp
          clear hlo hhi
          have E5 : F.eval (.tmp 5) = .pointer (some ⟨w.heap.size + 1, 0, none⟩) := hF.out_ (by kernel_rfl) rfl
          refine .inr ⟨wanted_none rfl, .inl ⟨.slice (some ⟨(w.heap.size + 1), 0, none⟩) 32 32, ?_, hI, TyP.of_is rfl⟩⟩
          have Ec : ∀ v, F.eval (.const v) = v := fun _ => rfl; have Ef : ∀ f, F.eval (.func f) = .func (.func f) #[] #[] := fun _ => rfl; clear hF hd; generalize F.eval = ρ at E5 Ec Ef ⊢
          simp [execOp, go_sem, Ec, E5]
        case oe2 => as_aux_lemma =>
          intro p vals4 W1 F hF hlo hhi hI hd
          have hp : p = 0 := Nat.le_antisymm hhi hlo
          subst hp
          clear hlo hhi
          have E4 : F.eval (.tmp 4) = .pointer (some ⟨w.heap.size, 0, none⟩) := hF.out_ (by kernel_rfl) rfl
          refine .inr ⟨wanted_none rfl, ?_⟩
          have hl := run_loadVar_row (P := Try.prog) W1 w.heap.size 23 23 (arr8 s) (0, 0) _ (hI.1.get 0 rfl) Try.underlying23 rfl (infoH _ HS.out)
          refine .inl ⟨.agg (arr8 s), ?_, hI, TyP.of_is rfl⟩
          have Ec : ∀ v, F.eval (.const v) = v := fun _ => rfl; have Ef : ∀ f, F.eval (.func f) = .func (.func f) #[] #[] := fun _ => rfl; clear hF hd; generalize F.eval = ρ at E4 Ec Ef ⊢
          simp only [execOp, E4, Instr.loadAt, Instr.sureAddr, Sem.run_bind, Sem.run_pure, Result.andThen_ok, hl]
        case oe3 => as_aux_lemma =>
          intro p vals4 W1 F hF hlo hhi hI hd
          have hp : p = 0 := Nat.le_antisymm hhi hlo
          subst hp
          clear hlo hhi
          have E6 : F.eval (.tmp 6) = .pointer (some ⟨w.heap.size + 1 + 1, 0, none⟩) := hF.out_ (by kernel_rfl) rfl
          refine .inr ⟨wanted_none rfl, ?_⟩
          have hl := run_loadVar_row (P := Try.prog) W1 (w.heap.size + 1 + 1) 23 23 (arr8 d) (0, 0) _ (hI.1.get 2 rfl) Try.underlying23 rfl (infoH _ HD.out)
          refine .inl ⟨.agg (arr8 d), ?_, hI, TyP.of_is rfl⟩
          have Ec : ∀ v, F.eval (.const v) = v := fun _ => rfl; have Ef : ∀ f, F.eval (.func f) = .func (.func f) #[] #[] := fun _ => rfl; clear hF hd; generalize F.eval = ρ at E6 Ec Ef ⊢
          simp only [execOp, E6, Instr.loadAt, Instr.sureAddr, Sem.run_bind, Sem.run_pure, Result.andThen_ok, hl]
        case oe4 => as_aux_lemma =>
          intro p vals4 W1 F hF hlo hhi hI hd
          have hp : p = 0 := Nat.le_antisymm hhi hlo
          subst hp
          clear hlo hhi
          have d2 : vals4 2 = .agg (arr8 s) := hd ⟨2, .data⟩ (Array.mem_of_getElem? (i := 0) rfl) rfl (show (0 : Nat) ≤ 1000 by decide)
          have d3 : vals4 3 = .agg (arr8 d) := hd ⟨3, .data⟩ (Array.mem_of_getElem? (i := 1) rfl) rfl (show (0 : Nat) ≤ 1000 by decide)
          have E39 := eval_some (hF.own_ 2 rfl rfl (by kernel_rfl) (by decide)); rw [d2] at E39
          have E40 := eval_some (hF.own_ 3 rfl rfl (by kernel_rfl) (by decide)); rw [d3] at E40
          refine .inr ⟨wanted_none rfl, ?_⟩
          refine .inr (.inr (.inl ⟨18, #[.agg (arr8 s), .agg (arr8 d)], ?_, (CB1.out W1).mono ?_⟩))
          · have Ec : ∀ v, F.eval (.const v) = v := fun _ => rfl; have Ef : ∀ f, F.eval (.func f) = .func (.func f) #[] #[] := fun _ => rfl; clear hF hd; generalize F.eval = ρ at E39 E40 Ec Ef ⊢
            simp [execOp, go_sem, Ec, Ef, E39, E40]
          rintro e W2 ⟨v, rfl, hown, hb⟩
          obtain ⟨X, c, hv, hX, hXc, _⟩ := own_open hown
          rw [HSD.out] at hv hXc
          exact ⟨_, rfl, hb, ⟨hI.1.call hb, hI.2.1.later hb, hI.2.2.later hb⟩, X, c, hv, hX, hXc⟩
        case oe5 => as_aux_lemma =>
          intro p vals4 W1 F hF hlo hhi hI hd
          have hp : p = 0 := Nat.le_antisymm hhi hlo
          subst hp
          clear hlo hhi
          have E4 : F.eval (.tmp 4) = .pointer (some ⟨w.heap.size, 0, none⟩) := hF.out_ (by kernel_rfl) rfl
          refine .inr ⟨wanted_none rfl, ?_⟩
          have hl := run_loadVar_row (P := Try.prog) W1 w.heap.size 23 23 (arr8 s) (0, 0) _ (hI.1.get 0 rfl) Try.underlying23 rfl (infoH _ HS.out)
          refine .inl ⟨.agg (arr8 s), ?_, hI, TyP.of_is rfl⟩
          have Ec : ∀ v, F.eval (.const v) = v := fun _ => rfl; have Ef : ∀ f, F.eval (.func f) = .func (.func f) #[] #[] := fun _ => rfl; clear hF hd; generalize F.eval = ρ at E4 Ec Ef ⊢
          simp only [execOp, E4, Instr.loadAt, Instr.sureAddr, Sem.run_bind, Sem.run_pure, Result.andThen_ok, hl]
        case oe6 => as_aux_lemma =>
          intro p vals4 W1 F hF hlo hhi hI hd
          have hp : p = 0 := Nat.le_antisymm hhi hlo
          subst hp
          clear hlo hhi
          have E7 : F.eval (.tmp 7) = .pointer (some ⟨w.heap.size + 1 + 1 + 1, 0, none⟩) := hF.out_ (by kernel_rfl) rfl
          refine .inr ⟨wanted_none rfl, ?_⟩
          have hl := run_loadVar_row (P := Try.prog) W1 (w.heap.size + 1 + 1 + 1) 23 23 (arr8 m) (0, 0) _ (hI.1.get 3 rfl) Try.underlying23 rfl (infoH _ HM.out)
          refine .inl ⟨.agg (arr8 m), ?_, hI, TyP.of_is rfl⟩
          have Ec : ∀ v, F.eval (.const v) = v := fun _ => rfl; have Ef : ∀ f, F.eval (.func f) = .func (.func f) #[] #[] := fun _ => rfl; clear hF hd; generalize F.eval = ρ at E7 Ec Ef ⊢
          simp only [execOp, E7, Instr.loadAt, Instr.sureAddr, Sem.run_bind, Sem.run_pure, Result.andThen_ok, hl]
        case oe7 => as_aux_lemma =>
          intro p vals4 W1 F hF hlo hhi hI hd
          have hp : p = 0 := Nat.le_antisymm hhi hlo
          subst hp
          clear hlo hhi
          have d5 : vals4 5 = .agg (arr8 s) := hd ⟨5, .data⟩ (Array.mem_of_getElem? (i := 0) rfl) rfl (show (0 : Nat) ≤ 1000 by decide)
          have d6 : vals4 6 = .agg (arr8 m) := hd ⟨6, .data⟩ (Array.mem_of_getElem? (i := 1) rfl) rfl (show (0 : Nat) ≤ 1000 by decide)
          have E42 := eval_some (hF.own_ 5 rfl rfl (by kernel_rfl) (by decide)); rw [d5] at E42
          have E43 := eval_some (hF.own_ 6 rfl rfl (by kernel_rfl) (by decide)); rw [d6] at E43
          refine .inr ⟨wanted_none rfl, ?_⟩
          refine .inr (.inr (.inl ⟨18, #[.agg (arr8 s), .agg (arr8 m)], ?_, (CB2.out W1).mono ?_⟩))
          · have Ec : ∀ v, F.eval (.const v) = v := fun _ => rfl; have Ef : ∀ f, F.eval (.func f) = .func (.func f) #[] #[] := fun _ => rfl; clear hF hd; generalize F.eval = ρ at E42 E43 Ec Ef ⊢
            simp [execOp, go_sem, Ec, Ef, E42, E43]
          rintro e W2 ⟨v, rfl, hown, hb⟩
          obtain ⟨X, c, hv, hX, hXc, _⟩ := own_open hown
          rw [HSM.out] at hv hXc
          exact ⟨_, rfl, hb, ⟨hI.1.call hb, hI.2.1.later hb, hI.2.2.later hb⟩, X, c, hv, hX, hXc⟩
        case oe8 => as_aux_lemma =>
          intro p vals4 W1 F hF hlo hhi hI hd
          have hp : p = 0 := Nat.le_antisymm hhi hlo
          subst hp
          clear hlo hhi
          have E5 : F.eval (.tmp 5) = .pointer (some ⟨w.heap.size + 1, 0, none⟩) := hF.out_ (by kernel_rfl) rfl
          refine .inr ⟨wanted_none rfl, ?_⟩
          have hl := run_loadVar_row (P := Try.prog) W1 (w.heap.size + 1) 23 23 (arr8 o) (0, 0) _ (hI.1.get 1 rfl) Try.underlying23 rfl (infoH _ HO.out)
          refine .inl ⟨.agg (arr8 o), ?_, hI, TyP.of_is rfl⟩
          have Ec : ∀ v, F.eval (.const v) = v := fun _ => rfl; have Ef : ∀ f, F.eval (.func f) = .func (.func f) #[] #[] := fun _ => rfl; clear hF hd; generalize F.eval = ρ at E5 Ec Ef ⊢
          simp only [execOp, E5, Instr.loadAt, Instr.sureAddr, Sem.run_bind, Sem.run_pure, Result.andThen_ok, hl]
        case oe9 => as_aux_lemma =>
          intro p vals4 W1 F hF hlo hhi hI hd
          have hp : p = 0 := Nat.le_antisymm hhi hlo
          subst hp
          clear hlo hhi
          have E6 : F.eval (.tmp 6) = .pointer (some ⟨w.heap.size + 1 + 1, 0, none⟩) := hF.out_ (by kernel_rfl) rfl
          refine .inr ⟨wanted_none rfl, ?_⟩
          have hl := run_loadVar_row (P := Try.prog) W1 (w.heap.size + 1 + 1) 23 23 (arr8 d) (0, 0) _ (hI.1.get 2 rfl) Try.underlying23 rfl (infoH _ HD.out)
          refine .inl ⟨.agg (arr8 d), ?_, hI, TyP.of_is rfl⟩
          have Ec : ∀ v, F.eval (.const v) = v := fun _ => rfl; have Ef : ∀ f, F.eval (.func f) = .func (.func f) #[] #[] := fun _ => rfl; clear hF hd; generalize F.eval = ρ at E6 Ec Ef ⊢
          simp only [execOp, E6, Instr.loadAt, Instr.sureAddr, Sem.run_bind, Sem.run_pure, Result.andThen_ok, hl]
        case oe10 => as_aux_lemma =>
          intro p vals4 W1 F hF hlo hhi hI hd
          have hp : p = 0 := Nat.le_antisymm hhi hlo
          subst hp
          clear hlo hhi
          have d8 : vals4 8 = .agg (arr8 o) := hd ⟨8, .data⟩ (Array.mem_of_getElem? (i := 0) rfl) rfl (show (0 : Nat) ≤ 1000 by decide)
          have d9 : vals4 9 = .agg (arr8 d) := hd ⟨9, .data⟩ (Array.mem_of_getElem? (i := 1) rfl) rfl (show (0 : Nat) ≤ 1000 by decide)
          have E45 := eval_some (hF.own_ 8 rfl rfl (by kernel_rfl) (by decide)); rw [d8] at E45
          have E46 := eval_some (hF.own_ 9 rfl rfl (by kernel_rfl) (by decide)); rw [d9] at E46
          refine .inr ⟨wanted_none rfl, ?_⟩
          refine .inr (.inr (.inl ⟨18, #[.agg (arr8 o), .agg (arr8 d)], ?_, (CB3.out W1).mono ?_⟩))
          · have Ec : ∀ v, F.eval (.const v) = v := fun _ => rfl; have Ef : ∀ f, F.eval (.func f) = .func (.func f) #[] #[] := fun _ => rfl; clear hF hd; generalize F.eval = ρ at E45 E46 Ec Ef ⊢
            simp [execOp, go_sem, Ec, Ef, E45, E46]
          rintro e W2 ⟨v, rfl, hown, hb⟩
          obtain ⟨X, c, hv, hX, hXc, _⟩ := own_open hown
          rw [HOD.out] at hv hXc
          exact ⟨_, rfl, hb, ⟨hI.1.call hb, hI.2.1.later hb, hI.2.2.later hb⟩, X, c, hv, hX, hXc⟩
        case oe11 => as_aux_lemma =>
          intro p vals4 W1 F hF hlo hhi hI hd
          have hp : p = 0 := Nat.le_antisymm hhi hlo
          subst hp
          clear hlo hhi
          have d0 : vals4 0 = .slice (some ⟨w.heap.size, 0, none⟩) 32 32 := hd ⟨0, .data⟩ (Array.mem_of_getElem? (i := 0) rfl) rfl (show (0 : Nat) ≤ 1000 by decide)
          have d1 : vals4 1 = .slice (some ⟨(w.heap.size + 1), 0, none⟩) 32 32 := hd ⟨1, .data⟩ (Array.mem_of_getElem? (i := 1) rfl) rfl (show (0 : Nat) ≤ 1000 by decide)
          obtain ⟨X4, c4, hspec4, hh4, hc4⟩ := hd ⟨4, .data⟩ (Array.mem_of_getElem? (i := 2) rfl) rfl (show (0 : Nat) ≤ 1000 by decide)
          have d4 : vals4 4 = .slice X4 64 c4 := hspec4
          obtain ⟨X7, c7, hspec7, hh7, hc7⟩ := hd ⟨7, .data⟩ (Array.mem_of_getElem? (i := 3) rfl) rfl (show (0 : Nat) ≤ 1000 by decide)
          have d7 : vals4 7 = .slice X7 64 c7 := hspec7
          obtain ⟨X10, c10, hspec10, hh10, hc10⟩ := hd ⟨10, .data⟩ (Array.mem_of_getElem? (i := 4) rfl) rfl (show (0 : Nat) ≤ 1000 by decide)
          have d10 : vals4 10 = .slice X10 64 c10 := hspec10
          have E37 := eval_some (hF.own_ 0 rfl rfl (by kernel_rfl) (by decide)); rw [d0] at E37
          have E38 := eval_some (hF.own_ 1 rfl rfl (by kernel_rfl) (by decide)); rw [d1] at E38
          have E41 := eval_some (hF.own_ 4 rfl rfl (by kernel_rfl) (by decide)); rw [d4] at E41
          have E44 := eval_some (hF.own_ 7 rfl rfl (by kernel_rfl) (by decide)); rw [d7] at E44
          have E47 := eval_some (hF.own_ 10 rfl rfl (by kernel_rfl) (by decide)); rw [d10] at E47
          refine .inr ⟨wanted_none rfl, ?_⟩
          have hb : Below W1.heap.size W1 (W1.alloc (.cells #[.slice (some ⟨w.heap.size, 0, none⟩) 32 32, .slice (some ⟨w.heap.size + 1, 0, none⟩) 32 32, .slice X4 64 c4, .slice X7 64 c7, .slice X10 64 c10] 24)) := (Below.refl W1.heap.size W1).alloc (Nat.le_refl _) _
          refine .inr (.inl ⟨.slice (some ⟨W1.heap.size, 0, none⟩) 5 5, W1.alloc (.cells #[.slice (some ⟨w.heap.size, 0, none⟩) 32 32, .slice (some ⟨w.heap.size + 1, 0, none⟩) 32 32, .slice X4 64 c4, .slice X7 64 c7, .slice X10 64 c10] 24), ?_, hb, ⟨hI.1.call hb, hI.2.1.later hb, hI.2.2.later hb⟩, W1.heap.size, _, rfl, meet_five W1 s o (s ++ d) (s ++ m) (o ++ d) _ _ _ _ _ 32 32 c4 c7 c10 HS.out HO.out HSD.out HSM.out HOD.out (holdsK (k := 0) hI.1 rfl) (holdsK (k := 1) hI.1 rfl) hh4 hh7 hh10 (by decide) (by decide) hc4 hc7 hc10, rfl, rfl⟩)
          have Ec : ∀ v, F.eval (.const v) = v := fun _ => rfl; have Ef : ∀ f, F.eval (.func f) = .func (.func f) #[] #[] := fun _ => rfl; clear hF hd; generalize F.eval = ρ at E37 E38 E41 E44 E47 Ec Ef ⊢
          simp [execOp, go_sem, Ec, E37, E38, E41, E44, E47]
        case oe12 => as_aux_lemma =>
          intro p vals4 W1 F hF hlo hhi hI hd
          have hp : p = 0 := Nat.le_antisymm hhi hlo
          subst hp
          clear hlo hhi
          obtain ⟨g11, l11, hspec11, hm11, hl11, hb11⟩ := hd ⟨11, .data⟩ (Array.mem_of_getElem? (i := 0) rfl) rfl (show (0 : Nat) ≤ 1000 by decide)
          have d11 : vals4 11 = .slice (some ⟨g11, 0, none⟩) 5 5 := hspec11
          have E48 := eval_some (hF.own_ 11 rfl rfl (by kernel_rfl) (by decide)); rw [d11] at E48
          refine .inr ⟨wanted_none rfl, ?_⟩
          refine .inr (.inr (.inl ⟨17, #[.slice (some ⟨g11, 0, none⟩) 5 5], ?_, (meet_any l11 W1 g11 5 5 hl11 (by decide) hm11).mono ?_⟩))
          · have Ec : ∀ v, F.eval (.const v) = v := fun _ => rfl; have Ef : ∀ f, F.eval (.func f) = .func (.func f) #[] #[] := fun _ => rfl; clear hF hd; generalize F.eval = ρ at E48 Ec Ef ⊢
            simp [execOp, go_sem, Ec, Ef, E48]
          rintro e W2 ⟨b, rfl, hiff, hb⟩
          exact ⟨_, rfl, hb, ⟨hI.1.call hb, hI.2.1.later hb, hI.2.2.later hb⟩, b, rfl, by rw [← hb11, ← meetsL_of]; exact hiff⟩
        case oeend =>
          intro vals4 W1 F hF hdef hI hT
          obtain ⟨mb, hv, hmb⟩ := hT 12 (by decide) (show (0 : Nat) ≤ 1000 by decide)
          rename_i K hK9
          refine hK9 _ _ ?_
          rw [hF.act]
          simp only [fin, Act.put, List.setIfInBounds_toArray, List.set_cons_succ, List.set_cons_zero]
          rw [hv]
          clear hF hT hv HI4
          obtain ⟨W6, hW6⟩ : ∃ W6, W1 = W6 := ⟨_, rfl⟩
          rw [hW6] at hI ⊢
          clear hW6
          have HI6 := Lib.hid hI
          clear hI
          cases mb with
          | true =>
            clear hmb
            go_wp2
            go_ret
            exact ⟨rfl, HI6.out.1.bel⟩
          | false =>
            obtain ⟨f1, f2, f3, f4⟩ := HF.out (fun h => by have h2 := hmb.2 h; cases h2)
            have f5 : decide (s = o) = decide (o = s) := decide_eq_decide.2 ⟨Eq.symm, Eq.symm⟩
            obtain ⟨b1, hb1⟩ : ∃ b1, decide (m = d) = b1 := ⟨_, rfl⟩
            obtain ⟨b2, hb2⟩ : ∃ b2, decide (o = s) = b2 := ⟨_, rfl⟩
            rw [hb1] at f1
            rw [hb2] at f2 f3 f4 f5
            have F1 := Lib.hid f1
            have F2 := Lib.hid f2
            have F3 := Lib.hid f3
            have F4 := Lib.hid f4
            have F5 := Lib.hid f5
            have FB1 := Lib.hid hb1
            have FB2 := Lib.hid hb2
            clear f1 f2 f3 f4 f5 hb1 hb2 hmb HF
            go_wp2
            refine wp_region_phased 91 rfl (fun _ _ W W' => Below W.heap.size W W') (fun p W1 => Keeps w [(w.heap.size, arr8 s, 23), (w.heap.size + 1, arr8 o, 23), (w.heap.size + 1 + 1, arr8 d, 23), (w.heap.size + 1 + 1 + 1, arr8 m, 23), (ga, arr8 K1, 23), (gb, arr8 K2, 23)] W1 ∧ Holds8 W1.heap.size W1 (some ⟨gx, 0, none⟩) (s ++ A1) ∧ Holds8 W1.heap.size W1 (some ⟨gy, 0, none⟩) (o ++ A2)) [.is (.bool true), .is (.bool true), .is (.slice (some ⟨ga, 0, none⟩) 32 32), .is (.slice (some ⟨gx, 0, none⟩) 64 64), .is (.agg (arr8 m)), .is (.bool b1), .is (.agg (arr8 m)), .is (.agg (arr8 d)), .is (.bool b1), .is (.bool true), .is (.bool true), .is (.bool true), .is (.slice (some ⟨ga, 0, none⟩) 32 32), .is (.slice (some ⟨gy, 0, none⟩) 64 64), .is (.agg (arr8 d)), .is (.bool b2), .is (.agg (arr8 o)), .is (.agg (arr8 s)), .is (.bool b2), .is (.bool true), .is (.bool true), .is (.bool true), .is (.slice (some ⟨gb, 0, none⟩) 32 32), .is (.slice (some ⟨gx, 0, none⟩) 64 64), .is (.agg (arr8 d)), .is (.bool b2), .is (.agg (arr8 o)), .is (.agg (arr8 s)), .is (.bool b2), .is (.bool true), .is (.bool true), .is (.bool true), .is (.agg (arr8 K1)), .is (.agg (arr8 K2)), .is (.bool b2), .is (.agg (arr8 s)), .is (.agg (arr8 o)), .is (.bool b2), .is (.bool true), .is (.bool true), .is (.bool true)] [] [0, 0, 0, 0, 0, 0, 0, 0, 0, 0, 0, 0, 0, 0, 0, 0, 0, 0, 0, 0, 0, 0, 0, 0, 0, 0, 0, 0, 0, 0, 0, 0, 0, 0, 0, 0, 0, 0, 0, 0, 0] [0, 0, 0, 0, 0, 0, 0, 0, 0, 0, 0, 0, 0, 0, 0, 0, 0, 0, 0, 0, 0, 0, 0, 0, 0, 0, 0, 0, 0, 0, 0, 0, 0, 0, 0, 0, 0, 0, 0, 0, 0] (by kernel_rfl) (by kernel_rfl) (by kernel_rfl) (fun _ _ W => Below.refl _ W) (⟨HI6.out.1.drew, HI6.out.2⟩) ⟨?of0, ?of1, ?of2, ?of3, ?of4, ?of5, ?of6, ?of7, ?of8, ?of9, ?of10, ?of11, ?of12, ?of13, ?of14, ?of15, ?of16, ?of17, ?of18, ?of19, ?of20, ?of21, ?of22, ?of23, ?of24, ?of25, ?of26, ?of27, ?of28, ?of29, ?of30, ?of31, ?of32, ?of33, ?of34, ?of35, ?of36, ?of37, ?of38, ?of39, ?of40, trivial⟩ ?ofend
            case of0 => as_aux_lemma =>
              intro p vals5 W1 F hF hlo hhi hI hd
              have hp : p = 0 := Nat.le_antisymm hhi hlo
              subst hp
              clear hlo hhi
              have E9 : F.eval (.tmp 9) = .bool true := hF.out_ (by kernel_rfl) rfl
              refine .inr ⟨wanted_none rfl, .inl ⟨.bool true, ?_, hI, TyP.of_is rfl⟩⟩
              simp only [execOp, E9, Sem.run_pure]
            case of1 => as_aux_lemma =>
              intro p vals5 W1 F hF hlo hhi hI hd
              have hp : p = 0 := Nat.le_antisymm hhi hlo
              subst hp
              clear hlo hhi
              have d0 : vals5 0 = .bool true := hd ⟨0, .data⟩ (Array.mem_of_getElem? (i := 0) rfl) rfl (show (0 : Nat) ≤ 1000 by decide)
              have E51 := eval_some (hF.own_ 0 rfl rfl (by kernel_rfl) (by decide)); rw [d0] at E51
              refine .inr ⟨wanted_none rfl, .inl ⟨.bool true, ?_, hI, TyP.of_is rfl⟩⟩
              simp only [execOp, E51, Sem.run_pure]
            case of2 => as_aux_lemma =>
              intro p vals5 W1 F hF hlo hhi hI hd
              have hp : p = 0 := Nat.le_antisymm hhi hlo
              subst hp
              clear hlo hhi
              have d1 : vals5 1 = .bool true := hd ⟨1, .guard⟩ (Array.mem_of_getElem? (i := 0) rfl) rfl (show (0 : Nat) ≤ 1000 by decide)
              have E10 : F.eval (.tmp 10) = .pointer (some ⟨ga, 0, none⟩) := hF.out_ (by kernel_rfl) rfl
              have G := hF.own_ 1 rfl rfl (by kernel_rfl) (by decide); rw [d1] at G
              refine .inr ⟨wanted_yes rfl rfl rfl G, .inl ⟨.slice (some ⟨ga, 0, none⟩) 32 32, ?_, hI, TyP.of_is rfl⟩⟩
              have Ec : ∀ v, F.eval (.const v) = v := fun _ => rfl; have Ef : ∀ f, F.eval (.func f) = .func (.func f) #[] #[] := fun _ => rfl; clear hF hd; generalize F.eval = ρ at E10 Ec Ef ⊢
              simp [execOp, go_sem, Ec, E10]
            case of3 => as_aux_lemma =>
              intro p vals5 W1 F hF hlo hhi hI hd
              have hp : p = 0 := Nat.le_antisymm hhi hlo
              subst hp
              clear hlo hhi
              have d1 : vals5 1 = .bool true := hd ⟨1, .guard⟩ (Array.mem_of_getElem? (i := 0) rfl) rfl (show (0 : Nat) ≤ 1000 by decide)
              have E12 : F.eval (.tmp 12) = .slice (some ⟨gx, 0, none⟩) 64 64 := hF.out_ (by kernel_rfl) rfl
              have G := hF.own_ 1 rfl rfl (by kernel_rfl) (by decide); rw [d1] at G
              refine .inr ⟨wanted_yes rfl rfl rfl G, .inl ⟨.slice (some ⟨gx, 0, none⟩) 64 64, ?_, hI, TyP.of_is rfl⟩⟩
              simp only [execOp, E12, Sem.run_pure]
            case of4 => as_aux_lemma =>
              intro p vals5 W1 F hF hlo hhi hI hd
              have hp : p = 0 := Nat.le_antisymm hhi hlo
              subst hp
              clear hlo hhi
              have d1 : vals5 1 = .bool true := hd ⟨1, .guard⟩ (Array.mem_of_getElem? (i := 0) rfl) rfl (show (0 : Nat) ≤ 1000 by decide)
              have E7 : F.eval (.tmp 7) = .pointer (some ⟨w.heap.size + 1 + 1 + 1, 0, none⟩) := hF.out_ (by kernel_rfl) rfl
              have G := hF.own_ 1 rfl rfl (by kernel_rfl) (by decide); rw [d1] at G
              refine .inr ⟨wanted_yes rfl rfl rfl G, ?_⟩
              have hl := run_loadVar_row (P := Try.prog) W1 (w.heap.size + 1 + 1 + 1) 23 23 (arr8 m) (0, 0) _ (hI.1.get 3 rfl) Try.underlying23 rfl (infoH _ HM.out)
              refine .inl ⟨.agg (arr8 m), ?_, hI, TyP.of_is rfl⟩
              have Ec : ∀ v, F.eval (.const v) = v := fun _ => rfl; have Ef : ∀ f, F.eval (.func f) = .func (.func f) #[] #[] := fun _ => rfl; clear hF hd; generalize F.eval = ρ at E7 Ec Ef ⊢
              simp only [execOp, E7, Instr.loadAt, Instr.sureAddr, Sem.run_bind, Sem.run_pure, Result.andThen_ok, hl]
            case of5 => as_aux_lemma =>
              intro p vals5 W1 F hF hlo hhi hI hd
              have hp : p = 0 := Nat.le_antisymm hhi hlo
              subst hp
              clear hlo hhi
              have d1 : vals5 1 = .bool true := hd ⟨1, .chain⟩ (Array.mem_of_getElem? (i := 3) rfl) rfl (show (0 : Nat) ≤ 1000 by decide)
              have d2 : vals5 2 = .slice (some ⟨ga, 0, none⟩) 32 32 := hd ⟨2, .data⟩ (Array.mem_of_getElem? (i := 0) rfl) rfl (show (0 : Nat) ≤ 1000 by decide)
              have d3 : vals5 3 = .slice (some ⟨gx, 0, none⟩) 64 64 := hd ⟨3, .data⟩ (Array.mem_of_getElem? (i := 1) rfl) rfl (show (0 : Nat) ≤ 1000 by decide)
              have d4 : vals5 4 = .agg (arr8 m) := hd ⟨4, .data⟩ (Array.mem_of_getElem? (i := 2) rfl) rfl (show (0 : Nat) ≤ 1000 by decide)
              have E53 := eval_some (hF.own_ 2 rfl rfl (by kernel_rfl) (by decide)); rw [d2] at E53
              have E54 := eval_some (hF.own_ 3 rfl rfl (by kernel_rfl) (by decide)); rw [d3] at E54
              have E55 := eval_some (hF.own_ 4 rfl rfl (by kernel_rfl) (by decide)); rw [d4] at E55
              have G := hF.own_ 1 rfl rfl (by kernel_rfl) (by decide); rw [d1] at G
              refine .inr ⟨wanted_yes rfl rfl rfl G, ?_⟩
              refine .inr (.inr (.inl ⟨13, #[.slice (some ⟨ga, 0, none⟩) 32 32, .slice (some ⟨gx, 0, none⟩) 64 64, .agg (arr8 m)], ?_, (CI.out W1 _ _ _ _ _ _ F1.out HM.out HK1.out HL1.out (holdsK (k := 4) hI.1 rfl) hI.2.1).mono ?_⟩))
              · have Ec : ∀ v, F.eval (.const v) = v := fun _ => rfl; have Ef : ∀ f, F.eval (.func f) = .func (.func f) #[] #[] := fun _ => rfl; clear hF hd; generalize F.eval = ρ at E53 E54 E55 Ec Ef ⊢
                simp [execOp, go_sem, Ec, Ef, E53, E54, E55]
              rintro e W2 ⟨rfl, hb⟩
              exact ⟨_, rfl, hb, ⟨hI.1.call hb, hI.2.1.later hb, hI.2.2.later hb⟩, TyP.of_is rfl⟩
            case of6 => as_aux_lemma =>
              intro p vals5 W1 F hF hlo hhi hI hd
              have hp : p = 0 := Nat.le_antisymm hhi hlo
              subst hp
              clear hlo hhi
              have d1 : vals5 1 = .bool true := hd ⟨1, .guard⟩ (Array.mem_of_getElem? (i := 0) rfl) rfl (show (0 : Nat) ≤ 1000 by decide)
              have E7 : F.eval (.tmp 7) = .pointer (some ⟨w.heap.size + 1 + 1 + 1, 0, none⟩) := hF.out_ (by kernel_rfl) rfl
              have G := hF.own_ 1 rfl rfl (by kernel_rfl) (by decide); rw [d1] at G
              refine .inr ⟨wanted_yes rfl rfl rfl G, ?_⟩
              have hl := run_loadVar_row (P := Try.prog) W1 (w.heap.size + 1 + 1 + 1) 23 23 (arr8 m) (0, 0) _ (hI.1.get 3 rfl) Try.underlying23 rfl (infoH _ HM.out)
              refine .inl ⟨.agg (arr8 m), ?_, hI, TyP.of_is rfl⟩
              have Ec : ∀ v, F.eval (.const v) = v := fun _ => rfl; have Ef : ∀ f, F.eval (.func f) = .func (.func f) #[] #[] := fun _ => rfl; clear hF hd; generalize F.eval = ρ at E7 Ec Ef ⊢
              simp only [execOp, E7, Instr.loadAt, Instr.sureAddr, Sem.run_bind, Sem.run_pure, Result.andThen_ok, hl]
            case of7 => as_aux_lemma =>
              intro p vals5 W1 F hF hlo hhi hI hd
              have hp : p = 0 := Nat.le_antisymm hhi hlo
              subst hp
              clear hlo hhi
              have d1 : vals5 1 = .bool true := hd ⟨1, .guard⟩ (Array.mem_of_getElem? (i := 0) rfl) rfl (show (0 : Nat) ≤ 1000 by decide)
              have E6 : F.eval (.tmp 6) = .pointer (some ⟨w.heap.size + 1 + 1, 0, none⟩) := hF.out_ (by kernel_rfl) rfl
              have G := hF.own_ 1 rfl rfl (by kernel_rfl) (by decide); rw [d1] at G
              refine .inr ⟨wanted_yes rfl rfl rfl G, ?_⟩
              have hl := run_loadVar_row (P := Try.prog) W1 (w.heap.size + 1 + 1) 23 23 (arr8 d) (0, 0) _ (hI.1.get 2 rfl) Try.underlying23 rfl (infoH _ HD.out)
              refine .inl ⟨.agg (arr8 d), ?_, hI, TyP.of_is rfl⟩
              have Ec : ∀ v, F.eval (.const v) = v := fun _ => rfl; have Ef : ∀ f, F.eval (.func f) = .func (.func f) #[] #[] := fun _ => rfl; clear hF hd; generalize F.eval = ρ at E6 Ec Ef ⊢
              simp only [execOp, E6, Instr.loadAt, Instr.sureAddr, Sem.run_bind, Sem.run_pure, Result.andThen_ok, hl]
            case of8 => as_aux_lemma =>
              intro p vals5 W1 F hF hlo hhi hI hd
              have hp : p = 0 := Nat.le_antisymm hhi hlo
              subst hp
              clear hlo hhi
              have d1 : vals5 1 = .bool true := hd ⟨1, .guard⟩ (Array.mem_of_getElem? (i := 2) rfl) rfl (show (0 : Nat) ≤ 1000 by decide)
              have d6 : vals5 6 = .agg (arr8 m) := hd ⟨6, .data⟩ (Array.mem_of_getElem? (i := 0) rfl) rfl (show (0 : Nat) ≤ 1000 by decide)
              have d7 : vals5 7 = .agg (arr8 d) := hd ⟨7, .data⟩ (Array.mem_of_getElem? (i := 1) rfl) rfl (show (0 : Nat) ≤ 1000 by decide)
              have E57 := eval_some (hF.own_ 6 rfl rfl (by kernel_rfl) (by decide)); rw [d6] at E57
              have E58 := eval_some (hF.own_ 7 rfl rfl (by kernel_rfl) (by decide)); rw [d7] at E58
              have G := hF.own_ 1 rfl rfl (by kernel_rfl) (by decide); rw [d1] at G
              refine .inr ⟨wanted_yes rfl rfl rfl G, .inl ⟨.bool b1, ?_, hI, TyP.of_is rfl⟩⟩
              have Ec : ∀ v, F.eval (.const v) = v := fun _ => rfl; have Ef : ∀ f, F.eval (.func f) = .func (.func f) #[] #[] := fun _ => rfl; clear hF hd; generalize F.eval = ρ at E57 E58 Ec Ef ⊢
              simp [execOp, go_sem, Ec, E57, E58, eq_hash m d HM.out HD.out, FB1.out]
            case of9 => as_aux_lemma =>
              intro p vals5 W1 F hF hlo hhi hI hd
              have hp : p = 0 := Nat.le_antisymm hhi hlo
              subst hp
              clear hlo hhi
              have d1 : vals5 1 = .bool true := hd ⟨1, .guard⟩ (Array.mem_of_getElem? (i := 2) rfl) rfl (show (0 : Nat) ≤ 1000 by decide)
              have d5 : vals5 5 = .bool b1 := hd ⟨5, .data⟩ (Array.mem_of_getElem? (i := 0) rfl) rfl (show (0 : Nat) ≤ 1000 by decide)
              have d8 : vals5 8 = .bool b1 := hd ⟨8, .data⟩ (Array.mem_of_getElem? (i := 1) rfl) rfl (show (0 : Nat) ≤ 1000 by decide)
              have E56 := eval_some (hF.own_ 5 rfl rfl (by kernel_rfl) (by decide)); rw [d5] at E56
              have E59 := eval_some (hF.own_ 8 rfl rfl (by kernel_rfl) (by decide)); rw [d8] at E59
              have G := hF.own_ 1 rfl rfl (by kernel_rfl) (by decide); rw [d1] at G
              refine .inr ⟨wanted_yes rfl rfl rfl G, .inl ⟨.bool true, ?_, hI, TyP.of_is rfl⟩⟩
              have Ec : ∀ v, F.eval (.const v) = v := fun _ => rfl; have Ef : ∀ f, F.eval (.func f) = .func (.func f) #[] #[] := fun _ => rfl; clear hF hd; generalize F.eval = ρ at E56 E59 Ec Ef ⊢
              simp [execOp, go_sem, Ec, E56, E59]
            case of10 => as_aux_lemma =>
              intro p vals5 W1 F hF hlo hhi hI hd
              have hp : p = 0 := Nat.le_antisymm hhi hlo
              subst hp
              clear hlo hhi
              have d1 : vals5 1 = .bool true := hd ⟨1, .data⟩ (Array.mem_of_getElem? (i := 0) rfl) rfl (show (0 : Nat) ≤ 1000 by decide)
              have d9 : vals5 9 = .bool true := hd ⟨9, .data⟩ (Array.mem_of_getElem? (i := 1) rfl) rfl (show (0 : Nat) ≤ 1000 by decide)
              have E52 := eval_some (hF.own_ 1 rfl rfl (by kernel_rfl) (by decide)); rw [d1] at E52
              have E60 := eval_some (hF.own_ 9 rfl rfl (by kernel_rfl) (by decide)); rw [d9] at E60
              refine .inr ⟨wanted_none rfl, .inl ⟨.bool true, ?_, hI, TyP.of_is rfl⟩⟩
              have Ec : ∀ v, F.eval (.const v) = v := fun _ => rfl; have Ef : ∀ f, F.eval (.func f) = .func (.func f) #[] #[] := fun _ => rfl; clear hF hd; generalize F.eval = ρ at E52 E60 Ec Ef ⊢
              simp [execOp, go_sem, Ec, E52, E60]
            case of11 => as_aux_lemma =>
              intro p vals5 W1 F hF hlo hhi hI hd
              have hp : p = 0 := Nat.le_antisymm hhi hlo
              subst hp
              clear hlo hhi
              have d10 : vals5 10 = .bool true := hd ⟨10, .data⟩ (Array.mem_of_getElem? (i := 0) rfl) rfl (show (0 : Nat) ≤ 1000 by decide)
              have E61 := eval_some (hF.own_ 10 rfl rfl (by kernel_rfl) (by decide)); rw [d10] at E61
              refine .inr ⟨wanted_none rfl, .inl ⟨.bool true, ?_, hI, TyP.of_is rfl⟩⟩
              simp only [execOp, E61, Sem.run_pure]
            case of12 => as_aux_lemma =>
              intro p vals5 W1 F hF hlo hhi hI hd
              have hp : p = 0 := Nat.le_antisymm hhi hlo
              subst hp
              clear hlo hhi
              have d11 : vals5 11 = .bool true := hd ⟨11, .guard⟩ (Array.mem_of_getElem? (i := 0) rfl) rfl (show (0 : Nat) ≤ 1000 by decide)
              have E10 : F.eval (.tmp 10) = .pointer (some ⟨ga, 0, none⟩) := hF.out_ (by kernel_rfl) rfl
              have G := hF.own_ 11 rfl rfl (by kernel_rfl) (by decide); rw [d11] at G
              refine .inr ⟨wanted_yes rfl rfl rfl G, .inl ⟨.slice (some ⟨ga, 0, none⟩) 32 32, ?_, hI, TyP.of_is rfl⟩⟩
              have Ec : ∀ v, F.eval (.const v) = v := fun _ => rfl; have Ef : ∀ f, F.eval (.func f) = .func (.func f) #[] #[] := fun _ => rfl; clear hF hd; generalize F.eval = ρ at E10 Ec Ef ⊢
              simp [execOp, go_sem, Ec, E10]
            case of13 => as_aux_lemma =>
              intro p vals5 W1 F hF hlo hhi hI hd
              have hp : p = 0 := Nat.le_antisymm hhi hlo
              subst hp
              clear hlo hhi
              have d11 : vals5 11 = .bool true := hd ⟨11, .guard⟩ (Array.mem_of_getElem? (i := 0) rfl) rfl (show (0 : Nat) ≤ 1000 by decide)
              have E13 : F.eval (.tmp 13) = .slice (some ⟨gy, 0, none⟩) 64 64 := hF.out_ (by kernel_rfl) rfl
              have G := hF.own_ 11 rfl rfl (by kernel_rfl) (by decide); rw [d11] at G
              refine .inr ⟨wanted_yes rfl rfl rfl G, .inl ⟨.slice (some ⟨gy, 0, none⟩) 64 64, ?_, hI, TyP.of_is rfl⟩⟩
              simp only [execOp, E13, Sem.run_pure]
            case of14 => as_aux_lemma =>
              intro p vals5 W1 F hF hlo hhi hI hd
              have hp : p = 0 := Nat.le_antisymm hhi hlo
              subst hp
              clear hlo hhi
              have d11 : vals5 11 = .bool true := hd ⟨11, .guard⟩ (Array.mem_of_getElem? (i := 0) rfl) rfl (show (0 : Nat) ≤ 1000 by decide)
              have E6 : F.eval (.tmp 6) = .pointer (some ⟨w.heap.size + 1 + 1, 0, none⟩) := hF.out_ (by kernel_rfl) rfl
              have G := hF.own_ 11 rfl rfl (by kernel_rfl) (by decide); rw [d11] at G
              refine .inr ⟨wanted_yes rfl rfl rfl G, ?_⟩
              have hl := run_loadVar_row (P := Try.prog) W1 (w.heap.size + 1 + 1) 23 23 (arr8 d) (0, 0) _ (hI.1.get 2 rfl) Try.underlying23 rfl (infoH _ HD.out)
              refine .inl ⟨.agg (arr8 d), ?_, hI, TyP.of_is rfl⟩
              have Ec : ∀ v, F.eval (.const v) = v := fun _ => rfl; have Ef : ∀ f, F.eval (.func f) = .func (.func f) #[] #[] := fun _ => rfl; clear hF hd; generalize F.eval = ρ at E6 Ec Ef ⊢
              simp only [execOp, E6, Instr.loadAt, Instr.sureAddr, Sem.run_bind, Sem.run_pure, Result.andThen_ok, hl]
            case of15 => as_aux_lemma =>
              intro p vals5 W1 F hF hlo hhi hI hd
              have hp : p = 0 := Nat.le_antisymm hhi hlo
              subst hp
              clear hlo hhi
              have d11 : vals5 11 = .bool true := hd ⟨11, .chain⟩ (Array.mem_of_getElem? (i := 3) rfl) rfl (show (0 : Nat) ≤ 1000 by decide)
              have d12 : vals5 12 = .slice (some ⟨ga, 0, none⟩) 32 32 := hd ⟨12, .data⟩ (Array.mem_of_getElem? (i := 0) rfl) rfl (show (0 : Nat) ≤ 1000 by decide)
              have d13 : vals5 13 = .slice (some ⟨gy, 0, none⟩) 64 64 := hd ⟨13, .data⟩ (Array.mem_of_getElem? (i := 1) rfl) rfl (show (0 : Nat) ≤ 1000 by decide)
              have d14 : vals5 14 = .agg (arr8 d) := hd ⟨14, .data⟩ (Array.mem_of_getElem? (i := 2) rfl) rfl (show (0 : Nat) ≤ 1000 by decide)
              have E63 := eval_some (hF.own_ 12 rfl rfl (by kernel_rfl) (by decide)); rw [d12] at E63
              have E64 := eval_some (hF.own_ 13 rfl rfl (by kernel_rfl) (by decide)); rw [d13] at E64
              have E65 := eval_some (hF.own_ 14 rfl rfl (by kernel_rfl) (by decide)); rw [d14] at E65
              have G := hF.own_ 11 rfl rfl (by kernel_rfl) (by decide); rw [d11] at G
              refine .inr ⟨wanted_yes rfl rfl rfl G, ?_⟩
              refine .inr (.inr (.inl ⟨13, #[.slice (some ⟨ga, 0, none⟩) 32 32, .slice (some ⟨gy, 0, none⟩) 64 64, .agg (arr8 d)], ?_, (CI.out W1 _ _ _ _ _ _ F2.out HD.out HK1.out HL2.out (holdsK (k := 4) hI.1 rfl) hI.2.2).mono ?_⟩))
              · have Ec : ∀ v, F.eval (.const v) = v := fun _ => rfl; have Ef : ∀ f, F.eval (.func f) = .func (.func f) #[] #[] := fun _ => rfl; clear hF hd; generalize F.eval = ρ at E63 E64 E65 Ec Ef ⊢
                simp [execOp, go_sem, Ec, Ef, E63, E64, E65]
              rintro e W2 ⟨rfl, hb⟩
              exact ⟨_, rfl, hb, ⟨hI.1.call hb, hI.2.1.later hb, hI.2.2.later hb⟩, TyP.of_is rfl⟩
            case of16 => as_aux_lemma =>
              intro p vals5 W1 F hF hlo hhi hI hd
              have hp : p = 0 := Nat.le_antisymm hhi hlo
              subst hp
              clear hlo hhi
              have d11 : vals5 11 = .bool true := hd ⟨11, .guard⟩ (Array.mem_of_getElem? (i := 0) rfl) rfl (show (0 : Nat) ≤ 1000 by decide)
              have E5 : F.eval (.tmp 5) = .pointer (some ⟨w.heap.size + 1, 0, none⟩) := hF.out_ (by kernel_rfl) rfl
              have G := hF.own_ 11 rfl rfl (by kernel_rfl) (by decide); rw [d11] at G
              refine .inr ⟨wanted_yes rfl rfl rfl G, ?_⟩
              have hl := run_loadVar_row (P := Try.prog) W1 (w.heap.size + 1) 23 23 (arr8 o) (0, 0) _ (hI.1.get 1 rfl) Try.underlying23 rfl (infoH _ HO.out)
              refine .inl ⟨.agg (arr8 o), ?_, hI, TyP.of_is rfl⟩
              have Ec : ∀ v, F.eval (.const v) = v := fun _ => rfl; have Ef : ∀ f, F.eval (.func f) = .func (.func f) #[] #[] := fun _ => rfl; clear hF hd; generalize F.eval = ρ at E5 Ec Ef ⊢
              simp only [execOp, E5, Instr.loadAt, Instr.sureAddr, Sem.run_bind, Sem.run_pure, Result.andThen_ok, hl]
            case of17 => as_aux_lemma =>
              intro p vals5 W1 F hF hlo hhi hI hd
              have hp : p = 0 := Nat.le_antisymm hhi hlo
              subst hp
              clear hlo hhi
              have d11 : vals5 11 = .bool true := hd ⟨11, .guard⟩ (Array.mem_of_getElem? (i := 0) rfl) rfl (show (0 : Nat) ≤ 1000 by decide)
              have E4 : F.eval (.tmp 4) = .pointer (some ⟨w.heap.size, 0, none⟩) := hF.out_ (by kernel_rfl) rfl
              have G := hF.own_ 11 rfl rfl (by kernel_rfl) (by decide); rw [d11] at G
              refine .inr ⟨wanted_yes rfl rfl rfl G, ?_⟩
              have hl := run_loadVar_row (P := Try.prog) W1 w.heap.size 23 23 (arr8 s) (0, 0) _ (hI.1.get 0 rfl) Try.underlying23 rfl (infoH _ HS.out)
              refine .inl ⟨.agg (arr8 s), ?_, hI, TyP.of_is rfl⟩
              have Ec : ∀ v, F.eval (.const v) = v := fun _ => rfl; have Ef : ∀ f, F.eval (.func f) = .func (.func f) #[] #[] := fun _ => rfl; clear hF hd; generalize F.eval = ρ at E4 Ec Ef ⊢
              simp only [execOp, E4, Instr.loadAt, Instr.sureAddr, Sem.run_bind, Sem.run_pure, Result.andThen_ok, hl]
            case of18 => as_aux_lemma =>
              intro p vals5 W1 F hF hlo hhi hI hd
              have hp : p = 0 := Nat.le_antisymm hhi hlo
              subst hp
              clear hlo hhi
              have d11 : vals5 11 = .bool true := hd ⟨11, .guard⟩ (Array.mem_of_getElem? (i := 2) rfl) rfl (show (0 : Nat) ≤ 1000 by decide)
              have d16 : vals5 16 = .agg (arr8 o) := hd ⟨16, .data⟩ (Array.mem_of_getElem? (i := 0) rfl) rfl (show (0 : Nat) ≤ 1000 by decide)
              have d17 : vals5 17 = .agg (arr8 s) := hd ⟨17, .data⟩ (Array.mem_of_getElem? (i := 1) rfl) rfl (show (0 : Nat) ≤ 1000 by decide)
              have E67 := eval_some (hF.own_ 16 rfl rfl (by kernel_rfl) (by decide)); rw [d16] at E67
              have E68 := eval_some (hF.own_ 17 rfl rfl (by kernel_rfl) (by decide)); rw [d17] at E68
              have G := hF.own_ 11 rfl rfl (by kernel_rfl) (by decide); rw [d11] at G
              refine .inr ⟨wanted_yes rfl rfl rfl G, .inl ⟨.bool b2, ?_, hI, TyP.of_is rfl⟩⟩
              have Ec : ∀ v, F.eval (.const v) = v := fun _ => rfl; have Ef : ∀ f, F.eval (.func f) = .func (.func f) #[] #[] := fun _ => rfl; clear hF hd; generalize F.eval = ρ at E67 E68 Ec Ef ⊢
              simp [execOp, go_sem, Ec, E67, E68, eq_hash o s HO.out HS.out, FB2.out]
            case of19 => as_aux_lemma =>
              intro p vals5 W1 F hF hlo hhi hI hd
              have hp : p = 0 := Nat.le_antisymm hhi hlo
              subst hp
              clear hlo hhi
              have d11 : vals5 11 = .bool true := hd ⟨11, .guard⟩ (Array.mem_of_getElem? (i := 2) rfl) rfl (show (0 : Nat) ≤ 1000 by decide)
              have d15 : vals5 15 = .bool b2 := hd ⟨15, .data⟩ (Array.mem_of_getElem? (i := 0) rfl) rfl (show (0 : Nat) ≤ 1000 by decide)
              have d18 : vals5 18 = .bool b2 := hd ⟨18, .data⟩ (Array.mem_of_getElem? (i := 1) rfl) rfl (show (0 : Nat) ≤ 1000 by decide)
              have E66 := eval_some (hF.own_ 15 rfl rfl (by kernel_rfl) (by decide)); rw [d15] at E66
              have E69 := eval_some (hF.own_ 18 rfl rfl (by kernel_rfl) (by decide)); rw [d18] at E69
              have G := hF.own_ 11 rfl rfl (by kernel_rfl) (by decide); rw [d11] at G
              refine .inr ⟨wanted_yes rfl rfl rfl G, .inl ⟨.bool true, ?_, hI, TyP.of_is rfl⟩⟩
              have Ec : ∀ v, F.eval (.const v) = v := fun _ => rfl; have Ef : ∀ f, F.eval (.func f) = .func (.func f) #[] #[] := fun _ => rfl; clear hF hd; generalize F.eval = ρ at E66 E69 Ec Ef ⊢
              simp [execOp, go_sem, Ec, E66, E69]
            case of20 => as_aux_lemma =>
              intro p vals5 W1 F hF hlo hhi hI hd
              have hp : p = 0 := Nat.le_antisymm hhi hlo
              subst hp
              clear hlo hhi
              have d11 : vals5 11 = .bool true := hd ⟨11, .data⟩ (Array.mem_of_getElem? (i := 0) rfl) rfl (show (0 : Nat) ≤ 1000 by decide)
              have d19 : vals5 19 = .bool true := hd ⟨19, .data⟩ (Array.mem_of_getElem? (i := 1) rfl) rfl (show (0 : Nat) ≤ 1000 by decide)
              have E62 := eval_some (hF.own_ 11 rfl rfl (by kernel_rfl) (by decide)); rw [d11] at E62
              have E70 := eval_some (hF.own_ 19 rfl rfl (by kernel_rfl) (by decide)); rw [d19] at E70
              refine .inr ⟨wanted_none rfl, .inl ⟨.bool true, ?_, hI, TyP.of_is rfl⟩⟩
              have Ec : ∀ v, F.eval (.const v) = v := fun _ => rfl; have Ef : ∀ f, F.eval (.func f) = .func (.func f) #[] #[] := fun _ => rfl; clear hF hd; generalize F.eval = ρ at E62 E70 Ec Ef ⊢
              simp [execOp, go_sem, Ec, E62, E70]
            case of21 => as_aux_lemma =>
              intro p vals5 W1 F hF hlo hhi hI hd
              have hp : p = 0 := Nat.le_antisymm hhi hlo
              subst hp
              clear hlo hhi
              have d20 : vals5 20 = .bool true := hd ⟨20, .data⟩ (Array.mem_of_getElem? (i := 0) rfl) rfl (show (0 : Nat) ≤ 1000 by decide)
              have E71 := eval_some (hF.own_ 20 rfl rfl (by kernel_rfl) (by decide)); rw [d20] at E71
              refine .inr ⟨wanted_none rfl, .inl ⟨.bool true, ?_, hI, TyP.of_is rfl⟩⟩
              simp only [execOp, E71, Sem.run_pure]
            case of22 => as_aux_lemma =>
              intro p vals5 W1 F hF hlo hhi hI hd
              have hp : p = 0 := Nat.le_antisymm hhi hlo
              subst hp
              clear hlo hhi
              have d21 : vals5 21 = .bool true := hd ⟨21, .guard⟩ (Array.mem_of_getElem? (i := 0) rfl) rfl (show (0 : Nat) ≤ 1000 by decide)
              have E11 : F.eval (.tmp 11) = .pointer (some ⟨gb, 0, none⟩) := hF.out_ (by kernel_rfl) rfl
              have G := hF.own_ 21 rfl rfl (by kernel_rfl) (by decide); rw [d21] at G
              refine .inr ⟨wanted_yes rfl rfl rfl G, .inl ⟨.slice (some ⟨gb, 0, none⟩) 32 32, ?_, hI, TyP.of_is rfl⟩⟩
              have Ec : ∀ v, F.eval (.const v) = v := fun _ => rfl; have Ef : ∀ f, F.eval (.func f) = .func (.func f) #[] #[] := fun _ => rfl; clear hF hd; generalize F.eval = ρ at E11 Ec Ef ⊢
              simp [execOp, go_sem, Ec, E11]
            case of23 => as_aux_lemma =>
              intro p vals5 W1 F hF hlo hhi hI hd
              have hp : p = 0 := Nat.le_antisymm hhi hlo
              subst hp
              clear hlo hhi
              have d21 : vals5 21 = .bool true := hd ⟨21, .guard⟩ (Array.mem_of_getElem? (i := 0) rfl) rfl (show (0 : Nat) ≤ 1000 by decide)
              have E12 : F.eval (.tmp 12) = .slice (some ⟨gx, 0, none⟩) 64 64 := hF.out_ (by kernel_rfl) rfl
              have G := hF.own_ 21 rfl rfl (by kernel_rfl) (by decide); rw [d21] at G
              refine .inr ⟨wanted_yes rfl rfl rfl G, .inl ⟨.slice (some ⟨gx, 0, none⟩) 64 64, ?_, hI, TyP.of_is rfl⟩⟩
              simp only [execOp, E12, Sem.run_pure]
            case of24 => as_aux_lemma =>
              intro p vals5 W1 F hF hlo hhi hI hd
              have hp : p = 0 := Nat.le_antisymm hhi hlo
              subst hp
              clear hlo hhi
              have d21 : vals5 21 = .bool true := hd ⟨21, .guard⟩ (Array.mem_of_getElem? (i := 0) rfl) rfl (show (0 : Nat) ≤ 1000 by decide)
              have E6 : F.eval (.tmp 6) = .pointer (some ⟨w.heap.size + 1 + 1, 0, none⟩) := hF.out_ (by kernel_rfl) rfl
              have G := hF.own_ 21 rfl rfl (by kernel_rfl) (by decide); rw [d21] at G
              refine .inr ⟨wanted_yes rfl rfl rfl G, ?_⟩
              have hl := run_loadVar_row (P := Try.prog) W1 (w.heap.size + 1 + 1) 23 23 (arr8 d) (0, 0) _ (hI.1.get 2 rfl) Try.underlying23 rfl (infoH _ HD.out)
              refine .inl ⟨.agg (arr8 d), ?_, hI, TyP.of_is rfl⟩
              have Ec : ∀ v, F.eval (.const v) = v := fun _ => rfl; have Ef : ∀ f, F.eval (.func f) = .func (.func f) #[] #[] := fun _ => rfl; clear hF hd; generalize F.eval = ρ at E6 Ec Ef ⊢
              simp only [execOp, E6, Instr.loadAt, Instr.sureAddr, Sem.run_bind, Sem.run_pure, Result.andThen_ok, hl]
            case of25 => as_aux_lemma =>
              intro p vals5 W1 F hF hlo hhi hI hd
              have hp : p = 0 := Nat.le_antisymm hhi hlo
              subst hp
              clear hlo hhi
              have d21 : vals5 21 = .bool true := hd ⟨21, .chain⟩ (Array.mem_of_getElem? (i := 3) rfl) rfl (show (0 : Nat) ≤ 1000 by decide)
              have d22 : vals5 22 = .slice (some ⟨gb, 0, none⟩) 32 32 := hd ⟨22, .data⟩ (Array.mem_of_getElem? (i := 0) rfl) rfl (show (0 : Nat) ≤ 1000 by decide)
              have d23 : vals5 23 = .slice (some ⟨gx, 0, none⟩) 64 64 := hd ⟨23, .data⟩ (Array.mem_of_getElem? (i := 1) rfl) rfl (show (0 : Nat) ≤ 1000 by decide)
              have d24 : vals5 24 = .agg (arr8 d) := hd ⟨24, .data⟩ (Array.mem_of_getElem? (i := 2) rfl) rfl (show (0 : Nat) ≤ 1000 by decide)
              have E73 := eval_some (hF.own_ 22 rfl rfl (by kernel_rfl) (by decide)); rw [d22] at E73
              have E74 := eval_some (hF.own_ 23 rfl rfl (by kernel_rfl) (by decide)); rw [d23] at E74
              have E75 := eval_some (hF.own_ 24 rfl rfl (by kernel_rfl) (by decide)); rw [d24] at E75
              have G := hF.own_ 21 rfl rfl (by kernel_rfl) (by decide); rw [d21] at G
              refine .inr ⟨wanted_yes rfl rfl rfl G, ?_⟩
              refine .inr (.inr (.inl ⟨13, #[.slice (some ⟨gb, 0, none⟩) 32 32, .slice (some ⟨gx, 0, none⟩) 64 64, .agg (arr8 d)], ?_, (CI.out W1 _ _ _ _ _ _ F3.out HD.out HK2.out HL1.out (holdsK (k := 5) hI.1 rfl) hI.2.1).mono ?_⟩))
              · have Ec : ∀ v, F.eval (.const v) = v := fun _ => rfl; have Ef : ∀ f, F.eval (.func f) = .func (.func f) #[] #[] := fun _ => rfl; clear hF hd; generalize F.eval = ρ at E73 E74 E75 Ec Ef ⊢
                simp [execOp, go_sem, Ec, Ef, E73, E74, E75]
              rintro e W2 ⟨rfl, hb⟩
              exact ⟨_, rfl, hb, ⟨hI.1.call hb, hI.2.1.later hb, hI.2.2.later hb⟩, TyP.of_is rfl⟩
            case of26 => as_aux_lemma =>
              intro p vals5 W1 F hF hlo hhi hI hd
              have hp : p = 0 := Nat.le_antisymm hhi hlo
              subst hp
              clear hlo hhi
              have d21 : vals5 21 = .bool true := hd ⟨21, .guard⟩ (Array.mem_of_getElem? (i := 0) rfl) rfl (show (0 : Nat) ≤ 1000 by decide)
              have E5 : F.eval (.tmp 5) = .pointer (some ⟨w.heap.size + 1, 0, none⟩) := hF.out_ (by kernel_rfl) rfl
              have G := hF.own_ 21 rfl rfl (by kernel_rfl) (by decide); rw [d21] at G
              refine .inr ⟨wanted_yes rfl rfl rfl G, ?_⟩
              have hl := run_loadVar_row (P := Try.prog) W1 (w.heap.size + 1) 23 23 (arr8 o) (0, 0) _ (hI.1.get 1 rfl) Try.underlying23 rfl (infoH _ HO.out)
              refine .inl ⟨.agg (arr8 o), ?_, hI, TyP.of_is rfl⟩
              have Ec : ∀ v, F.eval (.const v) = v := fun _ => rfl; have Ef : ∀ f, F.eval (.func f) = .func (.func f) #[] #[] := fun _ => rfl; clear hF hd; generalize F.eval = ρ at E5 Ec Ef ⊢
              simp only [execOp, E5, Instr.loadAt, Instr.sureAddr, Sem.run_bind, Sem.run_pure, Result.andThen_ok, hl]
            case of27 => as_aux_lemma =>
              intro p vals5 W1 F hF hlo hhi hI hd
              have hp : p = 0 := Nat.le_antisymm hhi hlo
              subst hp
              clear hlo hhi
              have d21 : vals5 21 = .bool true := hd ⟨21, .guard⟩ (Array.mem_of_getElem? (i := 0) rfl) rfl (show (0 : Nat) ≤ 1000 by decide)
              have E4 : F.eval (.tmp 4) = .pointer (some ⟨w.heap.size, 0, none⟩) := hF.out_ (by kernel_rfl) rfl
              have G := hF.own_ 21 rfl rfl (by kernel_rfl) (by decide); rw [d21] at G
              refine .inr ⟨wanted_yes rfl rfl rfl G, ?_⟩
              have hl := run_loadVar_row (P := Try.prog) W1 w.heap.size 23 23 (arr8 s) (0, 0) _ (hI.1.get 0 rfl) Try.underlying23 rfl (infoH _ HS.out)
              refine .inl ⟨.agg (arr8 s), ?_, hI, TyP.of_is rfl⟩
              have Ec : ∀ v, F.eval (.const v) = v := fun _ => rfl; have Ef : ∀ f, F.eval (.func f) = .func (.func f) #[] #[] := fun _ => rfl; clear hF hd; generalize F.eval = ρ at E4 Ec Ef ⊢
              simp only [execOp, E4, Instr.loadAt, Instr.sureAddr, Sem.run_bind, Sem.run_pure, Result.andThen_ok, hl]
            case of28 => as_aux_lemma =>
              intro p vals5 W1 F hF hlo hhi hI hd
              have hp : p = 0 := Nat.le_antisymm hhi hlo
              subst hp
              clear hlo hhi
              have d21 : vals5 21 = .bool true := hd ⟨21, .guard⟩ (Array.mem_of_getElem? (i := 2) rfl) rfl (show (0 : Nat) ≤ 1000 by decide)
              have d26 : vals5 26 = .agg (arr8 o) := hd ⟨26, .data⟩ (Array.mem_of_getElem? (i := 0) rfl) rfl (show (0 : Nat) ≤ 1000 by decide)
              have d27 : vals5 27 = .agg (arr8 s) := hd ⟨27, .data⟩ (Array.mem_of_getElem? (i := 1) rfl) rfl (show (0 : Nat) ≤ 1000 by decide)
              have E77 := eval_some (hF.own_ 26 rfl rfl (by kernel_rfl) (by decide)); rw [d26] at E77
              have E78 := eval_some (hF.own_ 27 rfl rfl (by kernel_rfl) (by decide)); rw [d27] at E78
              have G := hF.own_ 21 rfl rfl (by kernel_rfl) (by decide); rw [d21] at G
              refine .inr ⟨wanted_yes rfl rfl rfl G, .inl ⟨.bool b2, ?_, hI, TyP.of_is rfl⟩⟩
              have Ec : ∀ v, F.eval (.const v) = v := fun _ => rfl; have Ef : ∀ f, F.eval (.func f) = .func (.func f) #[] #[] := fun _ => rfl; clear hF hd; generalize F.eval = ρ at E77 E78 Ec Ef ⊢
              simp [execOp, go_sem, Ec, E77, E78, eq_hash o s HO.out HS.out, FB2.out]
            case of29 => as_aux_lemma =>
              intro p vals5 W1 F hF hlo hhi hI hd
              have hp : p = 0 := Nat.le_antisymm hhi hlo
              subst hp
              clear hlo hhi
              have d21 : vals5 21 = .bool true := hd ⟨21, .guard⟩ (Array.mem_of_getElem? (i := 2) rfl) rfl (show (0 : Nat) ≤ 1000 by decide)
              have d25 : vals5 25 = .bool b2 := hd ⟨25, .data⟩ (Array.mem_of_getElem? (i := 0) rfl) rfl (show (0 : Nat) ≤ 1000 by decide)
              have d28 : vals5 28 = .bool b2 := hd ⟨28, .data⟩ (Array.mem_of_getElem? (i := 1) rfl) rfl (show (0 : Nat) ≤ 1000 by decide)
              have E76 := eval_some (hF.own_ 25 rfl rfl (by kernel_rfl) (by decide)); rw [d25] at E76
              have E79 := eval_some (hF.own_ 28 rfl rfl (by kernel_rfl) (by decide)); rw [d28] at E79
              have G := hF.own_ 21 rfl rfl (by kernel_rfl) (by decide); rw [d21] at G
              refine .inr ⟨wanted_yes rfl rfl rfl G, .inl ⟨.bool true, ?_, hI, TyP.of_is rfl⟩⟩
              have Ec : ∀ v, F.eval (.const v) = v := fun _ => rfl; have Ef : ∀ f, F.eval (.func f) = .func (.func f) #[] #[] := fun _ => rfl; clear hF hd; generalize F.eval = ρ at E76 E79 Ec Ef ⊢
              simp [execOp, go_sem, Ec, E76, E79]
            case of30 => as_aux_lemma =>
              intro p vals5 W1 F hF hlo hhi hI hd
              have hp : p = 0 := Nat.le_antisymm hhi hlo
              subst hp
              clear hlo hhi
              have d21 : vals5 21 = .bool true := hd ⟨21, .data⟩ (Array.mem_of_getElem? (i := 0) rfl) rfl (show (0 : Nat) ≤ 1000 by decide)
              have d29 : vals5 29 = .bool true := hd ⟨29, .data⟩ (Array.mem_of_getElem? (i := 1) rfl) rfl (show (0 : Nat) ≤ 1000 by decide)
              have E72 := eval_some (hF.own_ 21 rfl rfl (by kernel_rfl) (by decide)); rw [d21] at E72
              have E80 := eval_some (hF.own_ 29 rfl rfl (by kernel_rfl) (by decide)); rw [d29] at E80
              refine .inr ⟨wanted_none rfl, .inl ⟨.bool true, ?_, hI, TyP.of_is rfl⟩⟩
              have Ec : ∀ v, F.eval (.const v) = v := fun _ => rfl; have Ef : ∀ f, F.eval (.func f) = .func (.func f) #[] #[] := fun _ => rfl; clear hF hd; generalize F.eval = ρ at E72 E80 Ec Ef ⊢
              simp [execOp, go_sem, Ec, E72, E80]
            case of31 => as_aux_lemma =>
              intro p vals5 W1 F hF hlo hhi hI hd
              have hp : p = 0 := Nat.le_antisymm hhi hlo
              subst hp
              clear hlo hhi
              have d30 : vals5 30 = .bool true := hd ⟨30, .data⟩ (Array.mem_of_getElem? (i := 0) rfl) rfl (show (0 : Nat) ≤ 1000 by decide)
              have E81 := eval_some (hF.own_ 30 rfl rfl (by kernel_rfl) (by decide)); rw [d30] at E81
              refine .inr ⟨wanted_none rfl, .inl ⟨.bool true, ?_, hI, TyP.of_is rfl⟩⟩
              simp only [execOp, E81, Sem.run_pure]
            case of32 => as_aux_lemma =>
              intro p vals5 W1 F hF hlo hhi hI hd
              have hp : p = 0 := Nat.le_antisymm hhi hlo
              subst hp
              clear hlo hhi
              have d31 : vals5 31 = .bool true := hd ⟨31, .guard⟩ (Array.mem_of_getElem? (i := 0) rfl) rfl (show (0 : Nat) ≤ 1000 by decide)
              have E10 : F.eval (.tmp 10) = .pointer (some ⟨ga, 0, none⟩) := hF.out_ (by kernel_rfl) rfl
              have G := hF.own_ 31 rfl rfl (by kernel_rfl) (by decide); rw [d31] at G
              refine .inr ⟨wanted_yes rfl rfl rfl G, ?_⟩
              have hl := run_loadVar_row (P := Try.prog) W1 ga 23 23 (arr8 K1) (0, 0) _ (hI.1.get 4 rfl) Try.underlying23 rfl (infoH _ HK1.out)
              refine .inl ⟨.agg (arr8 K1), ?_, hI, TyP.of_is rfl⟩
              have Ec : ∀ v, F.eval (.const v) = v := fun _ => rfl; have Ef : ∀ f, F.eval (.func f) = .func (.func f) #[] #[] := fun _ => rfl; clear hF hd; generalize F.eval = ρ at E10 Ec Ef ⊢
              simp only [execOp, E10, Instr.loadAt, Instr.sureAddr, Sem.run_bind, Sem.run_pure, Result.andThen_ok, hl]
            case of33 => as_aux_lemma =>
              intro p vals5 W1 F hF hlo hhi hI hd
              have hp : p = 0 := Nat.le_antisymm hhi hlo
              subst hp
              clear hlo hhi
              have d31 : vals5 31 = .bool true := hd ⟨31, .guard⟩ (Array.mem_of_getElem? (i := 0) rfl) rfl (show (0 : Nat) ≤ 1000 by decide)
              have E11 : F.eval (.tmp 11) = .pointer (some ⟨gb, 0, none⟩) := hF.out_ (by kernel_rfl) rfl
              have G := hF.own_ 31 rfl rfl (by kernel_rfl) (by decide); rw [d31] at G
              refine .inr ⟨wanted_yes rfl rfl rfl G, ?_⟩
              have hl := run_loadVar_row (P := Try.prog) W1 gb 23 23 (arr8 K2) (0, 0) _ (hI.1.get 5 rfl) Try.underlying23 rfl (infoH _ HK2.out)
              refine .inl ⟨.agg (arr8 K2), ?_, hI, TyP.of_is rfl⟩
              have Ec : ∀ v, F.eval (.const v) = v := fun _ => rfl; have Ef : ∀ f, F.eval (.func f) = .func (.func f) #[] #[] := fun _ => rfl; clear hF hd; generalize F.eval = ρ at E11 Ec Ef ⊢
              simp only [execOp, E11, Instr.loadAt, Instr.sureAddr, Sem.run_bind, Sem.run_pure, Result.andThen_ok, hl]
            case of34 => as_aux_lemma =>
              intro p vals5 W1 F hF hlo hhi hI hd
              have hp : p = 0 := Nat.le_antisymm hhi hlo
              subst hp
              clear hlo hhi
              have d31 : vals5 31 = .bool true := hd ⟨31, .guard⟩ (Array.mem_of_getElem? (i := 2) rfl) rfl (show (0 : Nat) ≤ 1000 by decide)
              have d32 : vals5 32 = .agg (arr8 K1) := hd ⟨32, .data⟩ (Array.mem_of_getElem? (i := 0) rfl) rfl (show (0 : Nat) ≤ 1000 by decide)
              have d33 : vals5 33 = .agg (arr8 K2) := hd ⟨33, .data⟩ (Array.mem_of_getElem? (i := 1) rfl) rfl (show (0 : Nat) ≤ 1000 by decide)
              have E83 := eval_some (hF.own_ 32 rfl rfl (by kernel_rfl) (by decide)); rw [d32] at E83
              have E84 := eval_some (hF.own_ 33 rfl rfl (by kernel_rfl) (by decide)); rw [d33] at E84
              have G := hF.own_ 31 rfl rfl (by kernel_rfl) (by decide); rw [d31] at G
              refine .inr ⟨wanted_yes rfl rfl rfl G, .inl ⟨.bool b2, ?_, hI, TyP.of_is rfl⟩⟩
              have Ec : ∀ v, F.eval (.const v) = v := fun _ => rfl; have Ef : ∀ f, F.eval (.func f) = .func (.func f) #[] #[] := fun _ => rfl; clear hF hd; generalize F.eval = ρ at E83 E84 Ec Ef ⊢
              simp [execOp, go_sem, Ec, E83, E84, eq_hash K1 K2 HK1.out HK2.out, F4.out]
            case of35 => as_aux_lemma =>
              intro p vals5 W1 F hF hlo hhi hI hd
              have hp : p = 0 := Nat.le_antisymm hhi hlo
              subst hp
              clear hlo hhi
              have d31 : vals5 31 = .bool true := hd ⟨31, .guard⟩ (Array.mem_of_getElem? (i := 0) rfl) rfl (show (0 : Nat) ≤ 1000 by decide)
              have E4 : F.eval (.tmp 4) = .pointer (some ⟨w.heap.size, 0, none⟩) := hF.out_ (by kernel_rfl) rfl
              have G := hF.own_ 31 rfl rfl (by kernel_rfl) (by decide); rw [d31] at G
              refine .inr ⟨wanted_yes rfl rfl rfl G, ?_⟩
              have hl := run_loadVar_row (P := Try.prog) W1 w.heap.size 23 23 (arr8 s) (0, 0) _ (hI.1.get 0 rfl) Try.underlying23 rfl (infoH _ HS.out)
              refine .inl ⟨.agg (arr8 s), ?_, hI, TyP.of_is rfl⟩
              have Ec : ∀ v, F.eval (.const v) = v := fun _ => rfl; have Ef : ∀ f, F.eval (.func f) = .func (.func f) #[] #[] := fun _ => rfl; clear hF hd; generalize F.eval = ρ at E4 Ec Ef ⊢
              simp only [execOp, E4, Instr.loadAt, Instr.sureAddr, Sem.run_bind, Sem.run_pure, Result.andThen_ok, hl]
            case of36 => as_aux_lemma =>
              intro p vals5 W1 F hF hlo hhi hI hd
              have hp : p = 0 := Nat.le_antisymm hhi hlo
              subst hp
              clear hlo hhi
              have d31 : vals5 31 = .bool true := hd ⟨31, .guard⟩ (Array.mem_of_getElem? (i := 0) rfl) rfl (show (0 : Nat) ≤ 1000 by decide)
              have E5 : F.eval (.tmp 5) = .pointer (some ⟨w.heap.size + 1, 0, none⟩) := hF.out_ (by kernel_rfl) rfl
              have G := hF.own_ 31 rfl rfl (by kernel_rfl) (by decide); rw [d31] at G
              refine .inr ⟨wanted_yes rfl rfl rfl G, ?_⟩
              have hl := run_loadVar_row (P := Try.prog) W1 (w.heap.size + 1) 23 23 (arr8 o) (0, 0) _ (hI.1.get 1 rfl) Try.underlying23 rfl (infoH _ HO.out)
              refine .inl ⟨.agg (arr8 o), ?_, hI, TyP.of_is rfl⟩
              have Ec : ∀ v, F.eval (.const v) = v := fun _ => rfl; have Ef : ∀ f, F.eval (.func f) = .func (.func f) #[] #[] := fun _ => rfl; clear hF hd; generalize F.eval = ρ at E5 Ec Ef ⊢
              simp only [execOp, E5, Instr.loadAt, Instr.sureAddr, Sem.run_bind, Sem.run_pure, Result.andThen_ok, hl]
            case of37 => as_aux_lemma =>
              intro p vals5 W1 F hF hlo hhi hI hd
              have hp : p = 0 := Nat.le_antisymm hhi hlo
              subst hp
              clear hlo hhi
              have d31 : vals5 31 = .bool true := hd ⟨31, .guard⟩ (Array.mem_of_getElem? (i := 2) rfl) rfl (show (0 : Nat) ≤ 1000 by decide)
              have d35 : vals5 35 = .agg (arr8 s) := hd ⟨35, .data⟩ (Array.mem_of_getElem? (i := 0) rfl) rfl (show (0 : Nat) ≤ 1000 by decide)
              have d36 : vals5 36 = .agg (arr8 o) := hd ⟨36, .data⟩ (Array.mem_of_getElem? (i := 1) rfl) rfl (show (0 : Nat) ≤ 1000 by decide)
              have E86 := eval_some (hF.own_ 35 rfl rfl (by kernel_rfl) (by decide)); rw [d35] at E86
              have E87 := eval_some (hF.own_ 36 rfl rfl (by kernel_rfl) (by decide)); rw [d36] at E87
              have G := hF.own_ 31 rfl rfl (by kernel_rfl) (by decide); rw [d31] at G
              refine .inr ⟨wanted_yes rfl rfl rfl G, .inl ⟨.bool b2, ?_, hI, TyP.of_is rfl⟩⟩
              have Ec : ∀ v, F.eval (.const v) = v := fun _ => rfl; have Ef : ∀ f, F.eval (.func f) = .func (.func f) #[] #[] := fun _ => rfl; clear hF hd; generalize F.eval = ρ at E86 E87 Ec Ef ⊢
              simp [execOp, go_sem, Ec, E86, E87, eq_hash s o HS.out HO.out, F5.out]
            case of38 => as_aux_lemma =>
              intro p vals5 W1 F hF hlo hhi hI hd
              have hp : p = 0 := Nat.le_antisymm hhi hlo
              subst hp
              clear hlo hhi
              have d31 : vals5 31 = .bool true := hd ⟨31, .guard⟩ (Array.mem_of_getElem? (i := 2) rfl) rfl (show (0 : Nat) ≤ 1000 by decide)
              have d34 : vals5 34 = .bool b2 := hd ⟨34, .data⟩ (Array.mem_of_getElem? (i := 0) rfl) rfl (show (0 : Nat) ≤ 1000 by decide)
              have d37 : vals5 37 = .bool b2 := hd ⟨37, .data⟩ (Array.mem_of_getElem? (i := 1) rfl) rfl (show (0 : Nat) ≤ 1000 by decide)
              have E85 := eval_some (hF.own_ 34 rfl rfl (by kernel_rfl) (by decide)); rw [d34] at E85
              have E88 := eval_some (hF.own_ 37 rfl rfl (by kernel_rfl) (by decide)); rw [d37] at E88
              have G := hF.own_ 31 rfl rfl (by kernel_rfl) (by decide); rw [d31] at G
              refine .inr ⟨wanted_yes rfl rfl rfl G, .inl ⟨.bool true, ?_, hI, TyP.of_is rfl⟩⟩
              have Ec : ∀ v, F.eval (.const v) = v := fun _ => rfl; have Ef : ∀ f, F.eval (.func f) = .func (.func f) #[] #[] := fun _ => rfl; clear hF hd; generalize F.eval = ρ at E85 E88 Ec Ef ⊢
              simp [execOp, go_sem, Ec, E85, E88]
            case of39 => as_aux_lemma =>
              intro p vals5 W1 F hF hlo hhi hI hd
              have hp : p = 0 := Nat.le_antisymm hhi hlo
              subst hp
              clear hlo hhi
              have d31 : vals5 31 = .bool true := hd ⟨31, .data⟩ (Array.mem_of_getElem? (i := 0) rfl) rfl (show (0 : Nat) ≤ 1000 by decide)
              have d38 : vals5 38 = .bool true := hd ⟨38, .data⟩ (Array.mem_of_getElem? (i := 1) rfl) rfl (show (0 : Nat) ≤ 1000 by decide)
              have E82 := eval_some (hF.own_ 31 rfl rfl (by kernel_rfl) (by decide)); rw [d31] at E82
              have E89 := eval_some (hF.own_ 38 rfl rfl (by kernel_rfl) (by decide)); rw [d38] at E89
              refine .inr ⟨wanted_none rfl, .inl ⟨.bool true, ?_, hI, TyP.of_is rfl⟩⟩
              have Ec : ∀ v, F.eval (.const v) = v := fun _ => rfl; have Ef : ∀ f, F.eval (.func f) = .func (.func f) #[] #[] := fun _ => rfl; clear hF hd; generalize F.eval = ρ at E82 E89 Ec Ef ⊢
              simp [execOp, go_sem, Ec, E82, E89]
            case of40 => as_aux_lemma =>
              intro p vals5 W1 F hF hlo hhi hI hd
              have hp : p = 0 := Nat.le_antisymm hhi hlo
              subst hp
              clear hlo hhi
              have d39 : vals5 39 = .bool true := hd ⟨39, .data⟩ (Array.mem_of_getElem? (i := 0) rfl) rfl (show (0 : Nat) ≤ 1000 by decide)
              have E90 := eval_some (hF.own_ 39 rfl rfl (by kernel_rfl) (by decide)); rw [d39] at E90
              refine .inr ⟨wanted_none rfl, .inl ⟨.bool true, ?_, hI, TyP.of_is rfl⟩⟩
              simp only [execOp, E90, Sem.run_pure]
            case ofend =>
              intro vals5 W1 F hF hdef hI hT
              have hv : vals5 40 = .bool true := hT 40 (by decide) (show (0 : Nat) ≤ 1000 by decide)
              rename_i K hK9
              refine hK9 _ _ ?_
              rw [hF.act]
              simp only [fin, Act.put, List.setIfInBounds_toArray, List.set_cons_succ, List.set_cons_zero]
              rw [hv]
              clear hF hT hv
              go_wp2
              go_ret
              exact ⟨rfl, hI.1.bel⟩
set_option maxRecDepth 100000 in
theorem binds_lifted (os : Os) (started : os.Started) (H : Type) (enc : TypeId × Value → H) :
    ReturnsInHanded {} Try.checked os 6 .any (Rows.signBindsSpec.pre6 enc Try.prog Try.f6 Rows.signBindsRow.domain false) (Rows.signBindsSpec.post enc Try.prog Try.f6 false true false false) := by
  refine returnsInHanded_of_change (C := Try.checked) own started (by kernel_rfl) Try.func6
    (ChangeSpec.witness6 (enc := enc) (C := Try.checked) false ⟨#[], #[.agg (vals (List.replicate 32 0)).toArray, .agg (vals (List.replicate 32 0)).toArray, .agg (vals (List.replicate 32 0)).toArray, .agg (vals (List.replicate 32 0)).toArray], []⟩ 8 (by kernel_rfl) (by kernel_rfl) (by kernel_rfl) (by kernel_rfl)) ?_
  intro W base args ds gs before hval0 hW hcnd _
  have hval : ∀ (j : Nat) t v, Try.f6.params[j]? = some t → args[j]? = some v → Value.okWide Try.prog W .any base t v := hval0
  have hW' := hW
  obtain ⟨p, q, hA0, hV, rfl, hfz, hnd⟩ := hW
  have hA : DataW.TrodAll enc Try.prog W 0 (fun _ => true) true Try.f6.params.toList args.toList ds p := hA0
  rw [Try.params6] at hA hval
  obtain ⟨v0, vs0, d0, ds0, p0, q0, hargs, rfl, rfl, h0, r0⟩ := trodAll_cons hA
  obtain ⟨v1, vs1, d1, ds1, p1, q1, rfl, rfl, rfl, h1, r1⟩ := trodAll_cons r0
  obtain ⟨v2, vs2, d2, ds2, p2, q2, rfl, rfl, rfl, h2, r2⟩ := trodAll_cons r1
  obtain ⟨v3, vs3, d3, ds3, p3, q3, rfl, rfl, rfl, h3, r3⟩ := trodAll_cons r2
  obtain ⟨rfl, rfl, rfl⟩ := trodAll_nil r3
  obtain rfl : args = #[v0, v1, v2, v3] := by cases args; simp_all
  obtain ⟨rfl, rfl⟩ := trodVars_none hV
  have k0 := h0
  have lt0 : ∀ x ∈ p0, x.block < W.heap.size := by obtain ⟨m, hm⟩ := k0; exact DataW.trod_lt m _ _ _ hm
  have k1 := h1
  have lt1 : ∀ x ∈ p1, x.block < W.heap.size := by obtain ⟨m, hm⟩ := k1; exact DataW.trod_lt m _ _ _ hm
  have k2 := h2
  have lt2 : ∀ x ∈ p2, x.block < W.heap.size := by obtain ⟨m, hm⟩ := k2; exact DataW.trod_lt m _ _ _ hm
  have k3 := h3
  have lt3 : ∀ x ∈ p3, x.block < W.heap.size := by obtain ⟨m, hm⟩ := k3; exact DataW.trod_lt m _ _ _ hm
  obtain ⟨cs0, rfl⟩ := okWide_arrayH Try.underlying23 (hval 0 23 v0 rfl rfl)
  obtain ⟨bs0, hz0, rfl⟩ := isHash_of k0
  obtain ⟨cs1, rfl⟩ := okWide_arrayH Try.underlying23 (hval 1 23 v1 rfl rfl)
  obtain ⟨bs1, hz1, rfl⟩ := isHash_of k1
  obtain ⟨cs2, rfl⟩ := okWide_arrayH Try.underlying23 (hval 2 23 v2 rfl rfl)
  obtain ⟨bs2, hz2, rfl⟩ := isHash_of k2
  obtain ⟨cs3, rfl⟩ := okWide_arrayH Try.underlying23 (hval 3 23 v3 rfl rfl)
  obtain ⟨bs3, hz3, rfl⟩ := isHash_of k3
  clear hA0 hval0
  refine (binds_walk W bs0 bs1 bs2 bs3 hz0 hz1 hz2 hz3).mono fun e W' ⟨he, bel⟩ => ?_
  subst he
  exact ⟨_, rfl, _, _, _, [], _, [], hW', trodAll_mk1 (shut_bool Try.underlying4 _), (trodAll_cons_mk (Below.trod laidOut (by kernel_rfl) (of_decide_eq_true (by kernel_rfl)) k0 bel lt0) (trodAll_cons_mk (Below.trod laidOut (by kernel_rfl) (of_decide_eq_true (by kernel_rfl)) k1 bel lt1) (trodAll_cons_mk (Below.trod laidOut (by kernel_rfl) (of_decide_eq_true (by kernel_rfl)) k2 bel lt2) (trodAll_cons_mk (Below.trod laidOut (by kernel_rfl) (of_decide_eq_true (by kernel_rfl)) k3 bel lt3) trodAll_mk0)))), rfl, bel.frame _, fun h => by cases h⟩

theorem binds_over : Rows.signBindsRow.holds Try.pinned (OpenSpec.ofChange Rows.signBindsSpec) :=
  OpenClaim.holds_of_wide 6 Try.f6 rfl rfl rfl rfl rfl rfl rfl ⟨rfl, rfl, rfl, rfl, rfl⟩ rfl rfl rfl rfl rfl (by kernel_rfl) Try.func6 (by kernel_rfl)
    (of_decide_eq_true (by kernel_rfl)) (by unfold Func.isWrapper; first | (rw [if_pos (by decide +kernel)]; kernel_rfl) | (rw [if_neg (by decide +kernel)]; exact ⟨rfl, rfl⟩))
    (fun os started H enc _ => binds_lifted os started H enc)

/-- A signature is its public key's, of that digest; of another digest, by another secret, or for another key it is none, unless two unlike messages of these have one hash; any two secrets, and digests. No condition. -/
theorem binds_proved : Rows.SignBindsSaid := binds_over
#print axioms binds_proved
end Go.Proofs.Ytijobhpmaenjlaa.Oct
