/- SignTold is true at every input. No condition. -/
import Derived.Test.YtijobhpmaenjlaaSigC
import Derived.Test.YtijobhpmaenjlaaReg4
import Derived.Test.YtijobhpmaenjlaaKept
import Derived.Test.YtijobhpmaenjlaaApp
import Derived.Laws.Cover3
namespace Go.Proofs.Ytijobhpmaenjlaa.Oct
set_option linter.unusedVariables false
set_option linter.unusedSimpArgs false
open Go.Proofs.Ytijobhpmaenjlaa Go.RowKit Go.Lib Go.Shelf Go.ChangeShapes Go.WideShapes Go.ChangeAt

theorem okWide_arrayH {P : Program} {w : World} {r : Reach} {base : Nat} {t e : TypeId} {n : Nat} {v : Value} (ht : P.underlying t = some (.array n e)) (h : Value.okWide P w r base t v) : ∃ cs, v = .agg cs := by
  unfold Value.okWide at h
  rw [ht] at h
  obtain ⟨cs, hv, _⟩ := h
  exact ⟨cs, hv⟩
/-- A hash, read: its cells are its bytes. -/
theorem isHash_of {H : Type} {enc : TypeId × Value → H} {w : World} {base : Nat} {spare : Nat → Bool} {held : Bool} {cs : Array Value} {d : DataW H} {ps : List MemPlace}
    (h : DataW.Trod enc Try.prog w base spare held 23 (.agg cs) d ps) : ∃ bs : List UInt8, bs.length = 32 ∧ cs = arr8 bs := by
  obtain ⟨fuel, hf⟩ := h
  have hc1 : Try.prog.cellsOf 5 = 1 := by kernel_rfl
  have hc2 : Try.prog.cellsOf 23 = 32 := by kernel_rfl
  have e1 : (Value.agg cs).cells.toList = cs.toList := rfl
  rw [e1] at hf
  obtain ⟨hl, hb⟩ := trod_ints Try.underlying23 Try.underlying5 hc1 hf
  rw [hc2] at hl
  have hw : ∀ i, i < 32 → ∃ x : UInt8, cs.toList[i]? = some (.int .u8 (x.toNat : Int)) := by
    intro i hi
    obtain ⟨z, hz, hwf⟩ := hb i hi
    have hbd := bounds_u8 hwf
    refine ⟨UInt8.ofNat z.toNat, ?_⟩
    rw [hz, UInt8.toNat_ofNat']
    congr 2
    omega
  obtain ⟨f, hf⟩ : ∃ f : Nat → UInt8, ∀ i, i < 32 → cs.toList[i]? = some (.int .u8 ((f i).toNat : Int)) :=
    ⟨fun i => if h : i < 32 then Classical.choose (hw i h) else 0, fun i hi => by dsimp only; rw [dif_pos hi]; exact Classical.choose_spec (hw i hi)⟩
  refine ⟨(List.range 32).map f, by simp, ?_⟩
  apply Array.ext'
  apply List.ext_getElem?
  intro i
  by_cases hi : i < 32
  · rw [hf i hi]
    simp [arr8, vals, hi]
  · rw [List.getElem?_eq_none (by omega), List.getElem?_eq_none (by simp [arr8, vals]; omega)]

/-- One block more, that nobody knew. -/
theorem Keeps.add {W0 W : World} {l : List (Nat × Array Value × TypeId)} (h : Keeps W0 l W) {g : Nat} {cs : Array Value} {t : TypeId} (hb : W0.heap.size ≤ g) (hc : W.heap[g]? = some (.cells cs t (0, 0))) (hne : ∀ (i : Nat) p, l[i]? = some p → p.1 ≠ g) : Keeps W0 (l ++ [(g, cs, t)]) W := by
  have key : ∀ (i : Nat) p, (l ++ [(g, cs, t)])[i]? = some p → (l[i]? = some p ∧ i < l.length) ∨ (p = (g, cs, t) ∧ i = l.length) := by
    intro i p hi
    rcases Nat.lt_or_ge i l.length with hlt | hge
    · rw [List.getElem?_append_left hlt] at hi
      exact .inl ⟨hi, hlt⟩
    · rw [List.getElem?_append_right hge] at hi
      have h0 : i - l.length = 0 := by
        have := (List.getElem?_eq_some_iff.1 hi).1
        simp at this
        omega
      rw [h0] at hi
      simp at hi
      exact .inr ⟨hi.symm, by omega⟩
  refine ⟨fun i p hi => ?_, fun i p hi => ?_, fun i j p q hi hj hij => ?_, h.bel⟩
  · rcases key i p hi with ⟨hi, _⟩ | ⟨rfl, _⟩
    · exact h.rows i p hi
    · exact hc
  · rcases key i p hi with ⟨hi, _⟩ | ⟨rfl, _⟩
    · exact h.base i p hi
    · exact hb
  · rcases key i p hi with ⟨hi, _⟩ | ⟨rfl, hi'⟩ <;> rcases key j q hj with ⟨hj, _⟩ | ⟨rfl, hj'⟩
    · exact h.apart i j p q hi hj hij
    · exact hne i p hi
    · exact (hne j q hj).symm
    · omega
/-- A block that is none of these, written whole. -/
theorem Keeps.besides {W0 W : World} {l : List (Nat × Array Value × TypeId)} (h : Keeps W0 l W) {g : Nat} (cs : Array Value) (hb : W0.heap.size ≤ g) (hne : ∀ (i : Nat) p, l[i]? = some p → p.1 ≠ g) : Keeps W0 l (W.setRow g cs) :=
  ⟨fun i p hi => by rw [setRow_other _ _ _ _ (hne i p hi)]; exact h.rows i p hi, h.base, h.apart, h.bel.trans ⟨rfl, rfl, rfl, by simp [World.setRow], fun k hk => setRow_other _ _ _ _ (Nat.ne_of_lt (Nat.lt_of_lt_of_le hk hb))⟩⟩
theorem run_store_hash (W : World) (g : Nat) (old K : List UInt8) (hg : W.heap[g]? = some (.cells (arr8 old) 23 (0, 0))) (ho : old.length = 32) (hK : K.length = 32) : (storeVar 23 ⟨g, 0, none⟩ (.agg (arr8 K))).run Try.prog W = .ok () (W.setRow g (arr8 K)) := by
  have h := run_storeVar_part (P := Try.prog) W g 0 23 23 (arr8 old) (arr8 K) hg (by rw [arr8_size, arr8_size, ho, hK]; decide) (fun x hx => by have := Array.all_eq_true_iff_forall_mem.1 (one8x K) x (by simpa using hx); exact this) (infoH _ hK)
  rw [h]
  congr 2
  have hd : (arr8 old).toList.drop (0 + (arr8 K).size) = [] := List.drop_of_length_le (by rw [arr8_size, hK, Array.length_toList, arr8_size, ho]; decide)
  rw [hd]
  simp

/-- What stands in memory while a key is laid into its box. -/
structure KeyI (w : World) (B b0 : Nat) (l : List (Nat × Array Value × TypeId)) (K : List UInt8) (p : Nat) (v : Value) (W : World) : Prop where
  keeps : Keeps w l W
  big : b0 ≤ W.heap.size
  key : 1 ≤ p → ∃ g, v = .pointer (some ⟨g, 0, none⟩) ∧ b0 ≤ g ∧ W.heap[g]? = some (.cells (arr8 K) 23 (0, 0))
theorem KeyI.call {w : World} {B b0 : Nat} {l : List (Nat × Array Value × TypeId)} {K : List UInt8} {v v' : Value} {W W' : World} (h : KeyI w B b0 l K 0 v W) (hb : Below W.heap.size W W') : KeyI w B b0 l K 0 v' W' :=
  ⟨h.keeps.call hb, Nat.le_trans h.big hb.size, fun h => absurd h (by decide)⟩
theorem stays {W W' : World} (hb : Below W.heap.size W W') : ∀ (g : Nat) (cs : Array Value) (fr : Nat × Nat), W.heap[g]? = some (.cells cs 5 fr) → W'.heap[g]? = some (.cells cs 5 fr) := fun g cs fr h => by
  rw [hb.block g (Array.getElem?_eq_some_iff.1 h).1]
  exact h
theorem box_row {W : World} {g : Nat} {a b : Array Value} {f e : Nat × Nat} (h1 : W.heap[g]? = some (.cells a 23 f)) (h2 : W.heap[g]? = some (.cells b 5 e)) : False := by
  rw [h1] at h2
  injection h2 with h
  injection h with _ ht _
  exact absurd ht (by decide)
theorem part_fst {s t : List UInt8} {j : Nat} {v : Value} (h : (arr8 s)[j]? = some v) : (arr8 (s ++ t))[0 + j]? = some v := by
  rw [Nat.zero_add]
  unfold arr8 at *
  rw [List.getElem?_toArray] at h ⊢
  have hl := (List.getElem?_eq_some_iff.1 h).1
  simp only [vals, List.map_append]
  rw [List.getElem?_append_left (by simpa [vals] using hl)]
  exact h
theorem isB_sign (s m : List UInt8) (hs : s.length = 32) : isB (sha s) (s ++ sha (s ++ m)) m = true := by
  have h1 : (sha s).length = 32 := hashOf_length _
  have h2 : (sha (s ++ m)).length = 32 := hashOf_length _
  have h3 : (s ++ sha (s ++ m)).take 32 = s := by rw [List.take_append_of_le_length (by omega), List.take_of_length_le (by omega)]
  have h4 : (s ++ sha (s ++ m)).drop 32 = sha (s ++ m) := by rw [List.drop_append_of_le_length (by omega), List.drop_of_length_le (by omega), List.nil_append]
  unfold isB
  rw [h3, h4, h1, List.length_append, hs, h2]
  simp

set_option maxRecDepth 100000 in
set_option maxHeartbeats 4000000 in
theorem told_walk (w : World) (s d m : List UInt8) (hs : s.length = 32) (hd : d.length = 32) (hm : m.length = 32) :
    Calls Try.prog 8 #[.agg (arr8 s), .agg (arr8 d), .agg (arr8 m)] w fun e w' => e = .returned (.bool true) ∧ Below w.heap.size w w' := by
  have hK := (((Keeps.nil w).new (arr8 s) 23).new (arr8 d) 23).new (arr8 m) 23
  simp only [World.size_alloc, List.nil_append, List.cons_append] at hK
  have C0 := fun W => alive_any W
  have C1 := fun W => public_any W s hs
  have C2 := fun W => sign_any W s d hs hd
  have C3 := fun W => sign_any W s m hs hm
  have hib := isB_sign s m hs
  have C4 := fun W (X Y : Option Addr) (c e : Nat) (k : List UInt8) (sg : List UInt8) (h1 : Holds8 W.heap.size W X k) (h2 : Holds8 W.heap.size W Y sg) (k1 : k.length = 32) (k2 : sg.length = 64) (k3 : 32 ≤ c) (k4 : 64 ≤ e) => is_any W X Y 32 c 64 e k sg m hm h1 h2 k1 k2 k3 k4
  have hKl : (sha s).length = 32 := hashOf_length _
  have hDl : (sha (s ++ d)).length = 32 := hashOf_length _
  have hMl : (sha (s ++ m)).length = 32 := hashOf_length _
  generalize sha s = KH at *
  generalize sha (s ++ d) = D at *
  generalize sha (s ++ m) = M at *
  have CA := Lib.hid C0
  have CP := Lib.hid C1
  have CS := Lib.hid C2
  have CM := Lib.hid C3
  have CI := Lib.hid C4
  have HIB := Lib.hid hib
  have HS := Lib.hid hs
  have HD := Lib.hid hd
  have HM := Lib.hid hm
  have HKl := Lib.hid hKl
  have HSD := Lib.hid (show (s ++ D).length = 64 by rw [List.length_append, hs, hDl])
  have HSM := Lib.hid (show (s ++ M).length = 64 by rw [List.length_append, hs, hMl])
  clear C0 C1 C2 C3 C4 hib hs hd hm hKl hDl hMl
  go_enter Try.func8, Try.ntmps8
  go_wp2_with (first | (go_at_call 16; (with_reducible refine (CA.out _).mono ?_); rintro e W1 ⟨rfl, hb1⟩; replace hK := hK.call hb1; clear hb1))
  generalize hb0 : W1.heap.size = b0 at *
  have hl0 : w.heap.size < b0 := by rw [← hb0]; exact hK.lt 0 rfl
  have hl1 : w.heap.size + 1 < b0 := by rw [← hb0]; exact hK.lt 1 rfl
  have hl2 : w.heap.size + 1 + 1 < b0 := by rw [← hb0]; exact hK.lt 2 rfl
  have hI0 : KeyI w w.heap.size b0 [(w.heap.size, arr8 s, 23), (w.heap.size + 1, arr8 d, 23), (w.heap.size + 1 + 1, arr8 m, 23)] KH 0 undef W1 := ⟨hK, by rw [hb0]; exact Nat.le_refl _, fun h => absurd h (by decide)⟩
  have hne : ∀ g, b0 ≤ g → ∀ (i : Nat) (p : Nat × Array Value × TypeId), [(w.heap.size, arr8 s, 23), (w.heap.size + 1, arr8 d, 23), (w.heap.size + 1 + 1, arr8 m, 23)][i]? = some p → p.1 ≠ g := fun g hg i p hi => by
    match i, hi with
    | 0, hi => cases hi; dsimp only; omega
    | 1, hi => cases hi; dsimp only; omega
    | 2, hi => cases hi; dsimp only; omega
  have HNE := Lib.hid hne
  have HL0 := Lib.hid hl0
  clear hne hl0 hl1 hl2 hK hb0
  refine wp_region_phasedV 33 rfl (fun k d W W' => (d = 0 → Below W.heap.size W W') ∧ (∀ (g : Nat) (cs : Array Value) (fr : Nat × Nat), W.heap[g]? = some (.cells cs 5 fr) → W'.heap[g]? = some (.cells cs 5 fr))) (fun p vals W1 => KeyI w w.heap.size b0 [(w.heap.size, arr8 s, 23), (w.heap.size + 1, arr8 d, 23), (w.heap.size + 1 + 1, arr8 m, 23)] KH p (vals 5) W1) [.is (.agg (arr8 s)), .is (.agg (arr8 KH)), .is (.agg (arr8 s)), .is (.agg (arr8 d)), ⟨0, 1000, fun v W => ∃ g, v = .slice (some ⟨g, 0, none⟩) 64 64 ∧ b0 ≤ g ∧ W.heap[g]? = some (.cells (arr8 (s ++ D)) 5 (0, 0)), fun k d v W W' hk hd h hr => by obtain ⟨g, e, h1, h2⟩ := h; exact ⟨g, e, h1, hr.2 _ _ _ h2⟩⟩, ⟨0, 0, fun v W => ∃ g, v = .pointer (some ⟨g, 0, none⟩) ∧ b0 ≤ g ∧ W.heap[g]? = some (.cells (arr8 zero32) 23 (0, 0)), fun k d v W W' hk hd h hr => by obtain ⟨g, e, h1, h2⟩ := h; exact ⟨g, e, h1, by rw [(hr.1 (by omega)).block g (Array.getElem?_eq_some_iff.1 h2).1]; exact h2⟩⟩, .is undef, ⟨0, 1000, fun v W => ∃ g, v = .slice (some ⟨g, 0, none⟩) 64 64 ∧ b0 ≤ g ∧ W.heap[g]? = some (.cells (arr8 (s ++ D)) 5 (0, 0)), fun k d v W W' hk hd h hr => by obtain ⟨g, e, h1, h2⟩ := h; exact ⟨g, e, h1, hr.2 _ _ _ h2⟩⟩] [6] [0, 0, 0, 0, 0, 0, 0, 1] [0, 0, 0, 0, 0, 0, 0, 1] (by kernel_rfl) (by kernel_rfl) (by kernel_rfl) (fun _ _ W => ⟨fun _ => Below.refl _ W, fun _ _ _ h => h⟩) (⟨hI0.keeps.drew, hI0.big, fun h => absurd h (by decide)⟩) ⟨?ob0, ?ob1, ?ob2, ?ob3, ?ob4, ?ob5, ?ob6, ?ob7, trivial⟩ ?obend
  case ob0 => as_aux_lemma =>
    intro p vals W1 F hF hlo hhi hI hd
    have hp : p = 0 := Nat.le_antisymm hhi hlo
    subst hp
    clear hlo hhi
    have E3 : F.eval (.tmp 3) = .pointer (some ⟨w.heap.size, 0, none⟩) := hF.out_ (by kernel_rfl) rfl
    refine .inr ⟨wanted_none rfl, ?_⟩
    have hl := run_loadVar_row (P := Try.prog) W1 w.heap.size 23 23 (arr8 s) (0, 0) _ (hI.keeps.get 0 rfl) Try.underlying23 rfl (infoH _ HS.out)
    refine .inl ⟨.agg (arr8 s), ?_, hI, TyP.of_is rfl⟩
    have Ec : ∀ v, F.eval (.const v) = v := fun _ => rfl; have Ef : ∀ f, F.eval (.func f) = .func (.func f) #[] #[] := fun _ => rfl; clear hF hd; generalize F.eval = ρ at E3 Ec Ef ⊢
    simp only [execOp, E3, Instr.loadAt, Instr.sureAddr, Sem.run_bind, Sem.run_pure, Result.andThen_ok, hl]
  case ob1 => as_aux_lemma =>
    intro p vals W1 F hF hlo hhi hI hd
    have hp : p = 0 := Nat.le_antisymm hhi hlo
    subst hp
    clear hlo hhi
    have d0 : vals 0 = .agg (arr8 s) := hd ⟨0, .data⟩ (Array.mem_of_getElem? (i := 0) rfl) rfl (show (0 : Nat) ≤ 1000 by decide)
    have E12 := eval_some (hF.own_ 0 rfl rfl (by kernel_rfl) (by decide)); rw [d0] at E12
    refine .inr ⟨wanted_none rfl, ?_⟩
    refine .inr (.inr (.inl ⟨10, #[.agg (arr8 s)], ?_, (CP.out W1).mono ?_⟩))
    · have Ec : ∀ v, F.eval (.const v) = v := fun _ => rfl; have Ef : ∀ f, F.eval (.func f) = .func (.func f) #[] #[] := fun _ => rfl; clear hF hd; generalize F.eval = ρ at E12 Ec Ef ⊢
      simp [execOp, go_sem, Ec, Ef, E12]
    rintro e W2 ⟨rfl, hb⟩
    exact ⟨_, rfl, ⟨fun _ => hb, stays hb⟩, hI.call hb, TyP.of_is rfl⟩
  case ob2 => as_aux_lemma =>
    intro p vals W1 F hF hlo hhi hI hd
    have hp : p = 0 := Nat.le_antisymm hhi hlo
    subst hp
    clear hlo hhi
    have E3 : F.eval (.tmp 3) = .pointer (some ⟨w.heap.size, 0, none⟩) := hF.out_ (by kernel_rfl) rfl
    refine .inr ⟨wanted_none rfl, ?_⟩
    have hl := run_loadVar_row (P := Try.prog) W1 w.heap.size 23 23 (arr8 s) (0, 0) _ (hI.keeps.get 0 rfl) Try.underlying23 rfl (infoH _ HS.out)
    refine .inl ⟨.agg (arr8 s), ?_, hI, TyP.of_is rfl⟩
    have Ec : ∀ v, F.eval (.const v) = v := fun _ => rfl; have Ef : ∀ f, F.eval (.func f) = .func (.func f) #[] #[] := fun _ => rfl; clear hF hd; generalize F.eval = ρ at E3 Ec Ef ⊢
    simp only [execOp, E3, Instr.loadAt, Instr.sureAddr, Sem.run_bind, Sem.run_pure, Result.andThen_ok, hl]
  case ob3 => as_aux_lemma =>
    intro p vals W1 F hF hlo hhi hI hd
    have hp : p = 0 := Nat.le_antisymm hhi hlo
    subst hp
    clear hlo hhi
    have E4 : F.eval (.tmp 4) = .pointer (some ⟨w.heap.size + 1, 0, none⟩) := hF.out_ (by kernel_rfl) rfl
    refine .inr ⟨wanted_none rfl, ?_⟩
    have hl := run_loadVar_row (P := Try.prog) W1 (w.heap.size + 1) 23 23 (arr8 d) (0, 0) _ (hI.keeps.get 1 rfl) Try.underlying23 rfl (infoH _ HD.out)
    refine .inl ⟨.agg (arr8 d), ?_, hI, TyP.of_is rfl⟩
    have Ec : ∀ v, F.eval (.const v) = v := fun _ => rfl; have Ef : ∀ f, F.eval (.func f) = .func (.func f) #[] #[] := fun _ => rfl; clear hF hd; generalize F.eval = ρ at E4 Ec Ef ⊢
    simp only [execOp, E4, Instr.loadAt, Instr.sureAddr, Sem.run_bind, Sem.run_pure, Result.andThen_ok, hl]
  case ob4 => as_aux_lemma =>
    intro p vals W1 F hF hlo hhi hI hd
    have hp : p = 0 := Nat.le_antisymm hhi hlo
    subst hp
    clear hlo hhi
    have d2 : vals 2 = .agg (arr8 s) := hd ⟨2, .data⟩ (Array.mem_of_getElem? (i := 0) rfl) rfl (show (0 : Nat) ≤ 1000 by decide)
    have d3 : vals 3 = .agg (arr8 d) := hd ⟨3, .data⟩ (Array.mem_of_getElem? (i := 1) rfl) rfl (show (0 : Nat) ≤ 1000 by decide)
    have E14 := eval_some (hF.own_ 2 rfl rfl (by kernel_rfl) (by decide)); rw [d2] at E14
    have E15 := eval_some (hF.own_ 3 rfl rfl (by kernel_rfl) (by decide)); rw [d3] at E15
    refine .inr ⟨wanted_none rfl, ?_⟩
    refine .inr (.inr (.inl ⟨9, #[.agg (arr8 s), .agg (arr8 d)], ?_, (CS.out W1).mono ?_⟩))
    · have Ec : ∀ v, F.eval (.const v) = v := fun _ => rfl; have Ef : ∀ f, F.eval (.func f) = .func (.func f) #[] #[] := fun _ => rfl; clear hF hd; generalize F.eval = ρ at E14 E15 Ec Ef ⊢
      simp [execOp, go_sem, Ec, Ef, E14, E15]
    rintro e W2 ⟨g9, rfl, hk9⟩
    have hb := hk9.bel
    exact ⟨_, rfl, ⟨fun _ => hb, stays hb⟩, hI.call hb, g9, rfl, Nat.le_trans hI.big (hk9.base 0 _ rfl), hk9.get 0 rfl⟩
  case ob5 => as_aux_lemma =>
    intro p vals W1 F hF hlo hhi hI hd
    have hp : p = 0 := Nat.le_antisymm hhi hlo
    subst hp
    clear hlo hhi
    refine .inr ⟨wanted_none rfl, ?_⟩
    have hb : Below W1.heap.size W1 (W1.alloc (.cells (arr8 zero32) 23)) := (Below.refl W1.heap.size W1).alloc (Nat.le_refl _) _
    refine .inr (.inl ⟨.pointer (some ⟨W1.heap.size, 0, none⟩), W1.alloc (.cells (arr8 zero32) 23), by kernel_rfl, ⟨fun _ => hb, stays hb⟩, hI.call hb, W1.heap.size, rfl, hI.big, heap_alloc_new W1 _⟩)
  case ob6 => as_aux_lemma =>
    intro p vals W1 F hF hlo hhi hI hd
    have hp : p = 0 := Nat.le_antisymm hhi hlo
    subst hp
    clear hlo hhi
    have d1 : vals 1 = .agg (arr8 KH) := hd ⟨1, .data⟩ (Array.mem_of_getElem? (i := 1) rfl) rfl (show (0 : Nat) ≤ 1000 by decide)
    obtain ⟨g5, hspec5, hg5, hm5⟩ := hd ⟨5, .data⟩ (Array.mem_of_getElem? (i := 0) rfl) rfl (show (0 : Nat) ≤ 0 by decide)
    have d5 : vals 5 = .pointer (some ⟨g5, 0, none⟩) := hspec5
    have E8 := eval_some (hF.own_ 5 rfl rfl (by kernel_rfl) (by decide)); rw [d5] at E8
    have E13 := eval_some (hF.own_ 1 rfl rfl (by kernel_rfl) (by decide)); rw [d1] at E13
    refine .inr ⟨wanted_none rfl, ?_⟩
    have hst := run_store_hash W1 g5 zero32 KH hm5 rfl HKl.out
    refine .inr (.inr (.inr ⟨W1.setRow g5 (arr8 KH), ?_, ⟨fun h => absurd h (by decide), fun g cs fr h => (setRow_other _ _ _ _ (fun e => by subst e; exact box_row hm5 h)).trans h⟩, ⟨Keeps.besides hI.keeps _ (Nat.le_of_lt (Nat.lt_of_lt_of_le HL0.out hg5)) (HNE.out g5 hg5), by rw [setRow_size]; exact hI.big, fun _ => ⟨g5, hspec5, hg5, setRow_heap _ _ _ _ _ _ hm5⟩⟩, TyP.of_is rfl⟩))
    have Ec : ∀ v, F.eval (.const v) = v := fun _ => rfl; have Ef : ∀ f, F.eval (.func f) = .func (.func f) #[] #[] := fun _ => rfl; clear hF hd; generalize F.eval = ρ at E8 E13 Ec Ef ⊢
    simp only [execOp, E8, E13, Instr.storeAt, Instr.sureAddr, Sem.run_bind, Sem.run_pure, Result.andThen_ok, hst]
  case ob7 => as_aux_lemma =>
    intro p vals W1 F hF hlo hhi hI hd
    have hp : p = 1 := Nat.le_antisymm hhi hlo
    subst hp
    clear hlo hhi
    obtain ⟨g4, hspec4, hg4, hm4⟩ := hd ⟨4, .data⟩ (Array.mem_of_getElem? (i := 0) rfl) rfl (show (1 : Nat) ≤ 1000 by decide)
    have d4 : vals 4 = .slice (some ⟨g4, 0, none⟩) 64 64 := hspec4
    have E16 := eval_some (hF.own_ 4 rfl rfl (by kernel_rfl) (by decide)); rw [d4] at E16
    refine .inr ⟨wanted_none rfl, ?_⟩
    refine .inl ⟨.slice (some ⟨g4, 0, none⟩) 64 64, ?_, hI, g4, rfl, hg4, hm4⟩
    simp only [execOp, E16, Sem.run_pure]
  case obend =>
    intro vals W1 F hF hdef hI hT
    obtain ⟨gk, hvk, hgk, hmk⟩ := hI.key (Nat.le_refl _)
    obtain ⟨gs, hvs, hgs, hms⟩ := hT 7 (by decide) (show (1 : Nat) ≤ 1000 by decide)
    rename_i K hK9
    refine hK9 _ _ ?_
    rw [hF.act]
    simp only [fin, Act.put, List.setIfInBounds_toArray, List.set_cons_succ, List.set_cons_zero]
    rw [hvk, hvs]
    have hK4 := Keeps.add hI.keeps (Nat.le_of_lt (Nat.lt_of_lt_of_le HL0.out hgk)) hmk (HNE.out gk hgk)
    have hK5 := Keeps.add hK4 (Nat.le_of_lt (Nat.lt_of_lt_of_le HL0.out hgs)) hms (fun i p hi => by
      match i, hi with
      | 0, hi => exact HNE.out gs hgs 0 p hi
      | 1, hi => exact HNE.out gs hgs 1 p hi
      | 2, hi => exact HNE.out gs hgs 2 p hi
      | 3, hi => cases hi; exact fun e => by subst e; exact box_row hmk hms)
    simp only [List.cons_append, List.nil_append] at hK5
    clear hF hT hvk hvs hI hI0 hK4 hmk hms hgk hgs
    have HK5 := Lib.hid hK5
    clear hK5
    go_wp2
    refine wp_region_phased 33 rfl (fun _ _ W W' => Below W.heap.size W W') (fun p W1 => Keeps w [(w.heap.size, arr8 s, 23), (w.heap.size + 1, arr8 d, 23), (w.heap.size + 1 + 1, arr8 m, 23), (gk, arr8 KH, 23), (gs, arr8 (s ++ D), 5)] W1) [.is (.slice (some ⟨gs, 0, none⟩) 64 64), .is (.slice (some ⟨gs, 0, none⟩) 32 64), .is (.pointer (some ⟨gs, 0, none⟩)), .is (.agg (arr8 s)), .is (.agg (arr8 m)), ⟨0, 1000, fun v W => ∃ g, v = .slice (some ⟨g, 0, none⟩) 64 64 ∧ Holds8 W.heap.size W (some ⟨g, 0, none⟩) (s ++ M), fun k d v W W' hk hd h hr => by obtain ⟨g, e, h2⟩ := h; exact ⟨g, e, h2.later hr⟩⟩, ⟨0, 1000, fun v W => ∃ g, v = .slice (some ⟨g, 0, none⟩) 64 64 ∧ Holds8 W.heap.size W (some ⟨g, 0, none⟩) (s ++ M), fun k d v W W' hk hd h hr => by obtain ⟨g, e, h2⟩ := h; exact ⟨g, e, h2.later hr⟩⟩] [] [0, 0, 0, 0, 0, 0, 0] [0, 0, 0, 0, 0, 0, 0] (by kernel_rfl) (by kernel_rfl) (by kernel_rfl) (fun _ _ W => Below.refl _ W) (HK5.out.drew) ⟨?oc0, ?oc1, ?oc2, ?oc3, ?oc4, ?oc5, ?oc6, trivial⟩ ?ocend
    case oc0 => as_aux_lemma =>
      intro p vals2 W1 F hF hlo hhi hI hd
      have hp : p = 0 := Nat.le_antisymm hhi hlo
      subst hp
      clear hlo hhi
      have E9 : F.eval (.tmp 9) = .slice (some ⟨gs, 0, none⟩) 64 64 := hF.out_ (by kernel_rfl) rfl
      refine .inr ⟨wanted_none rfl, .inl ⟨.slice (some ⟨gs, 0, none⟩) 64 64, ?_, hI, TyP.of_is rfl⟩⟩
      simp only [execOp, E9, Sem.run_pure]
    case oc1 => as_aux_lemma =>
      intro p vals2 W1 F hF hlo hhi hI hd
      have hp : p = 0 := Nat.le_antisymm hhi hlo
      subst hp
      clear hlo hhi
      have d0 : vals2 0 = .slice (some ⟨gs, 0, none⟩) 64 64 := hd ⟨0, .data⟩ (Array.mem_of_getElem? (i := 0) rfl) rfl (show (0 : Nat) ≤ 1000 by decide)
      have E20 := eval_some (hF.own_ 0 rfl rfl (by kernel_rfl) (by decide)); rw [d0] at E20
      refine .inr ⟨wanted_none rfl, .inl ⟨.slice (some ⟨gs, 0, none⟩) 32 64, ?_, hI, TyP.of_is rfl⟩⟩
      have Ec : ∀ v, F.eval (.const v) = v := fun _ => rfl; have Ef : ∀ f, F.eval (.func f) = .func (.func f) #[] #[] := fun _ => rfl; clear hF hd; generalize F.eval = ρ at E20 Ec Ef ⊢
      simp [execOp, go_sem, Ec, E20]
    case oc2 => as_aux_lemma =>
      intro p vals2 W1 F hF hlo hhi hI hd
      have hp : p = 0 := Nat.le_antisymm hhi hlo
      subst hp
      clear hlo hhi
      have d1 : vals2 1 = .slice (some ⟨gs, 0, none⟩) 32 64 := hd ⟨1, .data⟩ (Array.mem_of_getElem? (i := 0) rfl) rfl (show (0 : Nat) ≤ 1000 by decide)
      have E21 := eval_some (hF.own_ 1 rfl rfl (by kernel_rfl) (by decide)); rw [d1] at E21
      refine .inr ⟨wanted_none rfl, .inl ⟨.pointer (some ⟨gs, 0, none⟩), ?_, hI, TyP.of_is rfl⟩⟩
      have Ec : ∀ v, F.eval (.const v) = v := fun _ => rfl; have Ef : ∀ f, F.eval (.func f) = .func (.func f) #[] #[] := fun _ => rfl; clear hF hd; generalize F.eval = ρ at E21 Ec Ef ⊢
      simp [execOp, go_sem, Ec, E21, run_arrayAt (P := Try.prog) (w := W1) 23 5 32 (some ⟨gs, 0, none⟩) 32 64 Try.underlying23 (by decide)]
    case oc3 => as_aux_lemma =>
      intro p vals2 W1 F hF hlo hhi hI hd
      have hp : p = 0 := Nat.le_antisymm hhi hlo
      subst hp
      clear hlo hhi
      have d2 : vals2 2 = .pointer (some ⟨gs, 0, none⟩) := hd ⟨2, .data⟩ (Array.mem_of_getElem? (i := 0) rfl) rfl (show (0 : Nat) ≤ 1000 by decide)
      have E22 := eval_some (hF.own_ 2 rfl rfl (by kernel_rfl) (by decide)); rw [d2] at E22
      refine .inr ⟨wanted_none rfl, ?_⟩
      have hl := run_loadVar_part (P := Try.prog) W1 gs 0 5 23 _ (0, 0) (arr8 s) _ (hI.get 4 rfl) (fun j v hv => part_fst hv) Try.underlying23 rfl (infoH _ HS.out)
      refine .inl ⟨.agg (arr8 s), ?_, hI, TyP.of_is rfl⟩
      have Ec : ∀ v, F.eval (.const v) = v := fun _ => rfl; have Ef : ∀ f, F.eval (.func f) = .func (.func f) #[] #[] := fun _ => rfl; clear hF hd; generalize F.eval = ρ at E22 Ec Ef ⊢
      simp only [execOp, E22, Instr.loadAt, Instr.sureAddr, Sem.run_bind, Sem.run_pure, Result.andThen_ok, hl]
    case oc4 => as_aux_lemma =>
      intro p vals2 W1 F hF hlo hhi hI hd
      have hp : p = 0 := Nat.le_antisymm hhi hlo
      subst hp
      clear hlo hhi
      have E5 : F.eval (.tmp 5) = .pointer (some ⟨w.heap.size + 1 + 1, 0, none⟩) := hF.out_ (by kernel_rfl) rfl
      refine .inr ⟨wanted_none rfl, ?_⟩
      have hl := run_loadVar_row (P := Try.prog) W1 (w.heap.size + 1 + 1) 23 23 (arr8 m) (0, 0) _ (hI.get 2 rfl) Try.underlying23 rfl (infoH _ HM.out)
      refine .inl ⟨.agg (arr8 m), ?_, hI, TyP.of_is rfl⟩
      have Ec : ∀ v, F.eval (.const v) = v := fun _ => rfl; have Ef : ∀ f, F.eval (.func f) = .func (.func f) #[] #[] := fun _ => rfl; clear hF hd; generalize F.eval = ρ at E5 Ec Ef ⊢
      simp only [execOp, E5, Instr.loadAt, Instr.sureAddr, Sem.run_bind, Sem.run_pure, Result.andThen_ok, hl]
    case oc5 => as_aux_lemma =>
      intro p vals2 W1 F hF hlo hhi hI hd
      have hp : p = 0 := Nat.le_antisymm hhi hlo
      subst hp
      clear hlo hhi
      have d3 : vals2 3 = .agg (arr8 s) := hd ⟨3, .data⟩ (Array.mem_of_getElem? (i := 0) rfl) rfl (show (0 : Nat) ≤ 1000 by decide)
      have d4 : vals2 4 = .agg (arr8 m) := hd ⟨4, .data⟩ (Array.mem_of_getElem? (i := 1) rfl) rfl (show (0 : Nat) ≤ 1000 by decide)
      have E23 := eval_some (hF.own_ 3 rfl rfl (by kernel_rfl) (by decide)); rw [d3] at E23
      have E24 := eval_some (hF.own_ 4 rfl rfl (by kernel_rfl) (by decide)); rw [d4] at E24
      refine .inr ⟨wanted_none rfl, ?_⟩
      refine .inr (.inr (.inl ⟨9, #[.agg (arr8 s), .agg (arr8 m)], ?_, (CM.out W1).mono ?_⟩))
      · have Ec : ∀ v, F.eval (.const v) = v := fun _ => rfl; have Ef : ∀ f, F.eval (.func f) = .func (.func f) #[] #[] := fun _ => rfl; clear hF hd; generalize F.eval = ρ at E23 E24 Ec Ef ⊢
        simp [execOp, go_sem, Ec, Ef, E23, E24]
      rintro e W2 ⟨g9, rfl, hk9⟩
      have hb := hk9.bel
      exact ⟨_, rfl, hb, hI.call hb, g9, rfl, holdsK (k := 0) hk9 rfl⟩
    case oc6 => as_aux_lemma =>
      intro p vals2 W1 F hF hlo hhi hI hd
      have hp : p = 0 := Nat.le_antisymm hhi hlo
      subst hp
      clear hlo hhi
      obtain ⟨g5, hspec5, hh5⟩ := hd ⟨5, .data⟩ (Array.mem_of_getElem? (i := 0) rfl) rfl (show (0 : Nat) ≤ 1000 by decide)
      have d5 : vals2 5 = .slice (some ⟨g5, 0, none⟩) 64 64 := hspec5
      have E25 := eval_some (hF.own_ 5 rfl rfl (by kernel_rfl) (by decide)); rw [d5] at E25
      refine .inr ⟨wanted_none rfl, ?_⟩
      refine .inl ⟨.slice (some ⟨g5, 0, none⟩) 64 64, ?_, hI, g5, rfl, hh5⟩
      simp only [execOp, E25, Sem.run_pure]
    case ocend =>
      intro vals2 W1 F hF hdef hI hT
      obtain ⟨g6, hv, hh6⟩ := hT 6 (by decide) (show (0 : Nat) ≤ 1000 by decide)
      rename_i K hK9
      refine hK9 _ _ ?_
      rw [hF.act]
      simp only [fin, Act.put, List.setIfInBounds_toArray, List.set_cons_succ, List.set_cons_zero]
      rw [hv]
      clear hF hT hv
      have HI6 := Lib.hid hI
      have HH6 := Lib.hid hh6
      clear hI hh6
      have H0 : Hid (Holds8 W1.heap.size W1 (some ⟨g6, 0, none⟩) (s ++ M)) := HH6
      go_wp2
      have CIT : Hid (∀ W (X Y : Option Addr) (c e : Nat) (h1 : Holds8 W.heap.size W X KH) (h2 : Holds8 W.heap.size W Y (s ++ M)) (k1 : KH.length = 32) (k2 : (s ++ M).length = 64) (k3 : 32 ≤ c) (k4 : 64 ≤ e), Calls Try.prog 13 #[.slice X 32 c, .slice Y 64 e, .agg (arr8 m)] W fun e w' => e = .returned (.bool true) ∧ Below W.heap.size W w') := Lib.hid fun W X Y c e h1 h2 k1 k2 k3 k4 => by have h := CI.out W X Y c e KH (s ++ M) h1 h2 k1 k2 k3 k4; rw [HIB.out] at h; exact h
      refine wp_region_phased 33 rfl (fun _ _ W W' => Below W.heap.size W W') (fun p W1 => Keeps w [(w.heap.size, arr8 s, 23), (w.heap.size + 1, arr8 d, 23), (w.heap.size + 1 + 1, arr8 m, 23), (gk, arr8 KH, 23), (gs, arr8 (s ++ D), 5)] W1 ∧ Holds8 W1.heap.size W1 (some ⟨g6, 0, none⟩) (s ++ M)) [.is (.bool true), .is (.bool true), .is (.slice (some ⟨gk, 0, none⟩) 32 32), .is (.slice (some ⟨g6, 0, none⟩) 64 64), .is (.agg (arr8 m)), .is (.bool true), .is (.bool true), .is (.bool true)] [] [0, 0, 0, 0, 0, 0, 0, 0] [0, 0, 0, 0, 0, 0, 0, 0] (by kernel_rfl) (by kernel_rfl) (by kernel_rfl) (fun _ _ W => Below.refl _ W) (⟨HI6.out.drew, HH6.out⟩) ⟨?od0, ?od1, ?od2, ?od3, ?od4, ?od5, ?od6, ?od7, trivial⟩ ?odend
      case od0 => as_aux_lemma =>
        intro p vals3 W1 F hF hlo hhi hI hd
        have hp : p = 0 := Nat.le_antisymm hhi hlo
        subst hp
        clear hlo hhi
        have E7 : F.eval (.tmp 7) = .bool true := hF.out_ (by kernel_rfl) rfl
        refine .inr ⟨wanted_none rfl, .inl ⟨.bool true, ?_, hI, TyP.of_is rfl⟩⟩
        simp only [execOp, E7, Sem.run_pure]
      case od1 => as_aux_lemma =>
        intro p vals3 W1 F hF hlo hhi hI hd
        have hp : p = 0 := Nat.le_antisymm hhi hlo
        subst hp
        clear hlo hhi
        have d0 : vals3 0 = .bool true := hd ⟨0, .data⟩ (Array.mem_of_getElem? (i := 0) rfl) rfl (show (0 : Nat) ≤ 1000 by decide)
        have E26 := eval_some (hF.own_ 0 rfl rfl (by kernel_rfl) (by decide)); rw [d0] at E26
        refine .inr ⟨wanted_none rfl, .inl ⟨.bool true, ?_, hI, TyP.of_is rfl⟩⟩
        simp only [execOp, E26, Sem.run_pure]
      case od2 => as_aux_lemma =>
        intro p vals3 W1 F hF hlo hhi hI hd
        have hp : p = 0 := Nat.le_antisymm hhi hlo
        subst hp
        clear hlo hhi
        have d1 : vals3 1 = .bool true := hd ⟨1, .guard⟩ (Array.mem_of_getElem? (i := 0) rfl) rfl (show (0 : Nat) ≤ 1000 by decide)
        have E8 : F.eval (.tmp 8) = .pointer (some ⟨gk, 0, none⟩) := hF.out_ (by kernel_rfl) rfl
        have G := hF.own_ 1 rfl rfl (by kernel_rfl) (by decide); rw [d1] at G
        refine .inr ⟨wanted_yes rfl rfl rfl G, .inl ⟨.slice (some ⟨gk, 0, none⟩) 32 32, ?_, hI, TyP.of_is rfl⟩⟩
        have Ec : ∀ v, F.eval (.const v) = v := fun _ => rfl; have Ef : ∀ f, F.eval (.func f) = .func (.func f) #[] #[] := fun _ => rfl; clear hF hd; generalize F.eval = ρ at E8 Ec Ef ⊢
        simp [execOp, go_sem, Ec, E8]
      case od3 => as_aux_lemma =>
        intro p vals3 W1 F hF hlo hhi hI hd
        have hp : p = 0 := Nat.le_antisymm hhi hlo
        subst hp
        clear hlo hhi
        have d1 : vals3 1 = .bool true := hd ⟨1, .guard⟩ (Array.mem_of_getElem? (i := 0) rfl) rfl (show (0 : Nat) ≤ 1000 by decide)
        have E10 : F.eval (.tmp 10) = .slice (some ⟨g6, 0, none⟩) 64 64 := hF.out_ (by kernel_rfl) rfl
        have G := hF.own_ 1 rfl rfl (by kernel_rfl) (by decide); rw [d1] at G
        refine .inr ⟨wanted_yes rfl rfl rfl G, .inl ⟨.slice (some ⟨g6, 0, none⟩) 64 64, ?_, hI, TyP.of_is rfl⟩⟩
        simp only [execOp, E10, Sem.run_pure]
      case od4 => as_aux_lemma =>
        intro p vals3 W1 F hF hlo hhi hI hd
        have hp : p = 0 := Nat.le_antisymm hhi hlo
        subst hp
        clear hlo hhi
        have d1 : vals3 1 = .bool true := hd ⟨1, .guard⟩ (Array.mem_of_getElem? (i := 0) rfl) rfl (show (0 : Nat) ≤ 1000 by decide)
        have E5 : F.eval (.tmp 5) = .pointer (some ⟨w.heap.size + 1 + 1, 0, none⟩) := hF.out_ (by kernel_rfl) rfl
        have G := hF.own_ 1 rfl rfl (by kernel_rfl) (by decide); rw [d1] at G
        refine .inr ⟨wanted_yes rfl rfl rfl G, ?_⟩
        have hl := run_loadVar_row (P := Try.prog) W1 (w.heap.size + 1 + 1) 23 23 (arr8 m) (0, 0) _ (hI.1.get 2 rfl) Try.underlying23 rfl (infoH _ HM.out)
        refine .inl ⟨.agg (arr8 m), ?_, hI, TyP.of_is rfl⟩
        have Ec : ∀ v, F.eval (.const v) = v := fun _ => rfl; have Ef : ∀ f, F.eval (.func f) = .func (.func f) #[] #[] := fun _ => rfl; clear hF hd; generalize F.eval = ρ at E5 Ec Ef ⊢
        simp only [execOp, E5, Instr.loadAt, Instr.sureAddr, Sem.run_bind, Sem.run_pure, Result.andThen_ok, hl]
      case od5 => as_aux_lemma =>
        intro p vals3 W1 F hF hlo hhi hI hd
        have hp : p = 0 := Nat.le_antisymm hhi hlo
        subst hp
        clear hlo hhi
        have d1 : vals3 1 = .bool true := hd ⟨1, .chain⟩ (Array.mem_of_getElem? (i := 3) rfl) rfl (show (0 : Nat) ≤ 1000 by decide)
        have d2 : vals3 2 = .slice (some ⟨gk, 0, none⟩) 32 32 := hd ⟨2, .data⟩ (Array.mem_of_getElem? (i := 0) rfl) rfl (show (0 : Nat) ≤ 1000 by decide)
        have d3 : vals3 3 = .slice (some ⟨g6, 0, none⟩) 64 64 := hd ⟨3, .data⟩ (Array.mem_of_getElem? (i := 1) rfl) rfl (show (0 : Nat) ≤ 1000 by decide)
        have d4 : vals3 4 = .agg (arr8 m) := hd ⟨4, .data⟩ (Array.mem_of_getElem? (i := 2) rfl) rfl (show (0 : Nat) ≤ 1000 by decide)
        have E28 := eval_some (hF.own_ 2 rfl rfl (by kernel_rfl) (by decide)); rw [d2] at E28
        have E29 := eval_some (hF.own_ 3 rfl rfl (by kernel_rfl) (by decide)); rw [d3] at E29
        have E30 := eval_some (hF.own_ 4 rfl rfl (by kernel_rfl) (by decide)); rw [d4] at E30
        have G := hF.own_ 1 rfl rfl (by kernel_rfl) (by decide); rw [d1] at G
        refine .inr ⟨wanted_yes rfl rfl rfl G, ?_⟩
        refine .inr (.inr (.inl ⟨13, #[.slice (some ⟨gk, 0, none⟩) 32 32, .slice (some ⟨g6, 0, none⟩) 64 64, .agg (arr8 m)], ?_, (CIT.out W1 _ _ _ _ (holdsK (k := 3) hI.1 rfl) hI.2 HKl.out HSM.out (by decide) (by decide)).mono ?_⟩))
        · have Ec : ∀ v, F.eval (.const v) = v := fun _ => rfl; have Ef : ∀ f, F.eval (.func f) = .func (.func f) #[] #[] := fun _ => rfl; clear hF hd; generalize F.eval = ρ at E28 E29 E30 Ec Ef ⊢
          simp [execOp, go_sem, Ec, Ef, E28, E29, E30]
        rintro e W2 ⟨rfl, hb⟩
        exact ⟨_, rfl, hb, ⟨hI.1.call hb, hI.2.later hb⟩, TyP.of_is rfl⟩
      case od6 => as_aux_lemma =>
        intro p vals3 W1 F hF hlo hhi hI hd
        have hp : p = 0 := Nat.le_antisymm hhi hlo
        subst hp
        clear hlo hhi
        have d1 : vals3 1 = .bool true := hd ⟨1, .data⟩ (Array.mem_of_getElem? (i := 0) rfl) rfl (show (0 : Nat) ≤ 1000 by decide)
        have d5 : vals3 5 = .bool true := hd ⟨5, .data⟩ (Array.mem_of_getElem? (i := 1) rfl) rfl (show (0 : Nat) ≤ 1000 by decide)
        have E27 := eval_some (hF.own_ 1 rfl rfl (by kernel_rfl) (by decide)); rw [d1] at E27
        have E31 := eval_some (hF.own_ 5 rfl rfl (by kernel_rfl) (by decide)); rw [d5] at E31
        refine .inr ⟨wanted_none rfl, .inl ⟨.bool true, ?_, hI, TyP.of_is rfl⟩⟩
        have Ec : ∀ v, F.eval (.const v) = v := fun _ => rfl; have Ef : ∀ f, F.eval (.func f) = .func (.func f) #[] #[] := fun _ => rfl; clear hF hd; generalize F.eval = ρ at E27 E31 Ec Ef ⊢
        simp [execOp, go_sem, Ec, E27, E31]
      case od7 => as_aux_lemma =>
        intro p vals3 W1 F hF hlo hhi hI hd
        have hp : p = 0 := Nat.le_antisymm hhi hlo
        subst hp
        clear hlo hhi
        have d6 : vals3 6 = .bool true := hd ⟨6, .data⟩ (Array.mem_of_getElem? (i := 0) rfl) rfl (show (0 : Nat) ≤ 1000 by decide)
        have E32 := eval_some (hF.own_ 6 rfl rfl (by kernel_rfl) (by decide)); rw [d6] at E32
        refine .inr ⟨wanted_none rfl, .inl ⟨.bool true, ?_, hI, TyP.of_is rfl⟩⟩
        simp only [execOp, E32, Sem.run_pure]
      case odend =>
        intro vals3 W1 F hF hdef hI hT
        have hv : vals3 7 = .bool true := hT 7 (by decide) (show (0 : Nat) ≤ 1000 by decide)
        rename_i K hK9
        refine hK9 _ _ ?_
        rw [hF.act]
        simp only [fin, Act.put, List.setIfInBounds_toArray, List.set_cons_succ, List.set_cons_zero]
        rw [hv]
        clear hF hT hv
        go_wp2
        go_ret
        exact ⟨rfl, hI.1.bel⟩
set_option maxRecDepth 100000 in
theorem told_lifted (os : Os) (started : os.Started) (H : Type) (enc : TypeId × Value → H) :
    ReturnsInHanded {} Try.checked os 8 .any (Rows.signToldSpec.pre6 enc Try.prog Try.f8 Rows.signToldRow.domain false) (Rows.signToldSpec.post enc Try.prog Try.f8 false true false false) := by
  refine returnsInHanded_of_change (C := Try.checked) own started (by kernel_rfl) Try.func8
    (ChangeSpec.witness6 (enc := enc) (C := Try.checked) false ⟨#[], #[.agg (vals (List.replicate 32 0)).toArray, .agg (vals (List.replicate 32 0)).toArray, .agg (vals (List.replicate 32 0)).toArray], []⟩ 8 (by kernel_rfl) (by kernel_rfl) (by kernel_rfl) (by kernel_rfl)) ?_
  intro W base args ds gs before hval0 hW hcnd _
  have hval : ∀ (j : Nat) t v, Try.f8.params[j]? = some t → args[j]? = some v → Value.okWide Try.prog W .any base t v := hval0
  have hW' := hW
  obtain ⟨p, q, hA0, hV, rfl, hfz, hnd⟩ := hW
  have hA : DataW.TrodAll enc Try.prog W 0 (fun _ => true) true Try.f8.params.toList args.toList ds p := hA0
  rw [Try.params8] at hA hval
  obtain ⟨v0, vs0, d0, ds0, p0, q0, hargs, rfl, rfl, h0, r0⟩ := trodAll_cons hA
  obtain ⟨v1, vs1, d1, ds1, p1, q1, rfl, rfl, rfl, h1, r1⟩ := trodAll_cons r0
  obtain ⟨v2, vs2, d2, ds2, p2, q2, rfl, rfl, rfl, h2, r2⟩ := trodAll_cons r1
  obtain ⟨rfl, rfl, rfl⟩ := trodAll_nil r2
  obtain rfl : args = #[v0, v1, v2] := by cases args; simp_all
  obtain ⟨rfl, rfl⟩ := trodVars_none hV
  have k0 := h0
  have lt0 : ∀ x ∈ p0, x.block < W.heap.size := by obtain ⟨m, hm⟩ := k0; exact DataW.trod_lt m _ _ _ hm
  have k1 := h1
  have lt1 : ∀ x ∈ p1, x.block < W.heap.size := by obtain ⟨m, hm⟩ := k1; exact DataW.trod_lt m _ _ _ hm
  have k2 := h2
  have lt2 : ∀ x ∈ p2, x.block < W.heap.size := by obtain ⟨m, hm⟩ := k2; exact DataW.trod_lt m _ _ _ hm
  obtain ⟨cs0, rfl⟩ := okWide_arrayH Try.underlying23 (hval 0 23 v0 rfl rfl)
  obtain ⟨bs0, hz0, rfl⟩ := isHash_of k0
  obtain ⟨cs1, rfl⟩ := okWide_arrayH Try.underlying23 (hval 1 23 v1 rfl rfl)
  obtain ⟨bs1, hz1, rfl⟩ := isHash_of k1
  obtain ⟨cs2, rfl⟩ := okWide_arrayH Try.underlying23 (hval 2 23 v2 rfl rfl)
  obtain ⟨bs2, hz2, rfl⟩ := isHash_of k2
  clear hA0 hval0
  refine (told_walk W bs0 bs1 bs2 hz0 hz1 hz2).mono fun e W' ⟨he, bel⟩ => ?_
  subst he
  exact ⟨_, rfl, _, _, _, [], _, [], hW', trodAll_mk1 (shut_bool Try.underlying4 _), (trodAll_cons_mk (Below.trod laidOut (by kernel_rfl) (of_decide_eq_true (by kernel_rfl)) k0 bel lt0) (trodAll_cons_mk (Below.trod laidOut (by kernel_rfl) (of_decide_eq_true (by kernel_rfl)) k1 bel lt1) (trodAll_cons_mk (Below.trod laidOut (by kernel_rfl) (of_decide_eq_true (by kernel_rfl)) k2 bel lt2) trodAll_mk0))), rfl, bel.frame _, fun h => by cases h⟩

theorem told_over : Rows.signToldRow.holds Try.pinned (OpenSpec.ofChange Rows.signToldSpec) :=
  OpenClaim.holds_of_wide 8 Try.f8 rfl rfl rfl rfl rfl rfl rfl ⟨rfl, rfl, rfl, rfl, rfl⟩ rfl rfl rfl rfl rfl (by kernel_rfl) Try.func8 (by kernel_rfl)
    (of_decide_eq_true (by kernel_rfl)) (by unfold Func.isWrapper; first | (rw [if_pos (by decide +kernel)]; kernel_rfl) | (rw [if_neg (by decide +kernel)]; exact ⟨rfl, rfl⟩))
    (fun os started H enc _ => told_lifted os started H enc)

/-- Whoever has one signature can sign any other digest; any secret, and digests. No condition. -/
theorem told_proved : Rows.SignToldSaid := told_over
#print axioms told_proved
end Go.Proofs.Ytijobhpmaenjlaa.Oct
