/- Contract of sign.Is. The digest has 32 bytes. -/
import Derived.Test.YtijobhpmaenjlaaSigA
namespace Go.Proofs.Ytijobhpmaenjlaa.Oct
set_option linter.unusedVariables false
set_option linter.unusedSimpArgs false
open Go.Proofs.Ytijobhpmaenjlaa Go.RowKit Go.Lib Go.Shelf

def isB (p s d : List UInt8) : Bool := decide (p.length = 32) && decide (s.length = 64) && decide (sha (s.take 32) = p) && decide (sha (s.take 32 ++ d) = s.drop 32)
theorem eq_hash (x y : List UInt8) (hx : x.length = 32) (hy : y.length = 32) (w : World) : (Op.equalIn 10000 23 (.agg (arr8 x)) (.agg (arr8 y))).run Try.prog w = .ok (decide (x = y)) w := by
  have e : ∀ h : List UInt8, arr8 h = ((h.map fun b => (b.toNat : Int)).map (Value.int .u8)).toArray := fun h => by
    unfold arr8 vals
    rw [List.map_map]
    rfl
  have := run_equalIn_row (P := Try.prog) 9998 23 5 .u8 32 (x.map fun b => (b.toNat : Int)) (y.map fun b => (b.toNat : Int)) Try.underlying23 Try.underlying5 (by kernel_rfl) (by simp [hx]) (by simp [hy]) w
  rw [e, e, this]
  congr 1
  by_cases h : x = y
  · subst h
    simp
  · have h2 : ¬ (x.map fun b => (b.toNat : Int)) = (y.map fun b => (b.toNat : Int)) := fun q => h (by
      have inj : ∀ (l m : List UInt8), (l.map fun b => (b.toNat : Int)) = (m.map fun b => (b.toNat : Int)) → l = m := by
        intro l
        induction l with
        | nil => intro m hm; cases m with | nil => rfl | cons b m => simp at hm
        | cons a l ih =>
          intro m hm
          cases m with
          | nil => simp at hm
          | cons b m =>
            simp only [List.map_cons, List.cons.injEq] at hm
            rw [ih m hm.2, UInt8.toNat_inj.1 (show a.toNat = b.toNat by have := hm.1; omega)]
      exact inj x y q)
    simp [h, h2]
set_option maxRecDepth 100000 in
set_option maxHeartbeats 2000000 in
theorem is_short (w : World) (P S : Option Addr) (pl pc sl sc : Nat) (d : List UInt8) (h : ¬ (pl = 32 ∧ sl = 64)) : Calls Try.prog 13 #[.slice P pl pc, .slice S sl sc, .agg (arr8 d)] w fun e w' => e = .returned (.bool false) ∧ Below w.heap.size w w' := by
  by_cases h1 : pl = 32
  · have h2 : ¬ sl = 64 := fun e => h ⟨h1, e⟩
    have e1 : ((pl : Int) != 32) = false := by simp; omega
    have e2 : ((sl : Int) != 64) = true := by rw [bne_iff_ne]; omega
    clear h h1 h2
    go_enter Try.func13, Try.ntmps13
    go_wp2
    go_ret
    exact ⟨rfl, (Below.refl _ _).alloc (Nat.le_refl _) _⟩
  · have e1 : ((pl : Int) != 32) = true := by rw [bne_iff_ne]; omega
    clear h h1
    go_enter Try.func13, Try.ntmps13
    go_wp2
    go_ret
    exact ⟨rfl, (Below.refl _ _).alloc (Nat.le_refl _) _⟩

set_option maxRecDepth 100000 in
set_option maxHeartbeats 2000000 in
theorem is_good (w : World) (P S : Option Addr) (pc sc : Nat) (p s d : List UInt8) (hd : d.length = 32) (hp8 : Holds8 w.heap.size w P p) (hs8 : Holds8 w.heap.size w S s) (hp : p.length = 32) (hs : s.length = 64) (hpc : 32 ≤ pc) (hsc : 64 ≤ sc) :
    Calls Try.prog 13 #[.slice P 32 pc, .slice S 64 sc, .agg (arr8 d)] w fun e w' => e = .returned (.bool (isB p s d)) ∧ Below w.heap.size w w' := by
  have hk1 : (s.take 32).length = 32 := by rw [List.length_take]; omega
  have hk2 : (s.drop 32).length = 32 := by rw [List.length_drop]; omega
  obtain ⟨sb, so, hSe⟩ : ∃ b off, S = some ⟨b, off, none⟩ := by
    rcases hs8 with ⟨_, e⟩ | ⟨b, off, e, _⟩
    · rw [e] at hs; cases hs
    · exact ⟨b, off, e⟩
  obtain ⟨pb, po, hPe⟩ : ∃ b off, P = some ⟨b, off, none⟩ := by
    rcases hp8 with ⟨_, e⟩ | ⟨b, off, e, _⟩
    · rw [e] at hp; cases hp
    · exact ⟨b, off, e⟩
  subst hSe hPe
  have hd8 : Holds8 w.heap.size w (some ⟨sb, so + 32, none⟩) (s.drop 32) := by
    have h := hs8.dropS 32 64 (by omega) (by omega)
    unfold cutS at h
    rwa [if_neg (by decide)] at h
  have CH1 : Hid (∀ W, Below w.heap.size w W → Calls Try.prog 21 #[.slice (some ⟨sb, so, none⟩) 32 32] W fun e w' => e = .returned (.agg (arr8 (s.take 32))) ∧ Below W.heap.size W w') :=
    Lib.hid fun W hb => hash_any W _ 32 (s.take 32) hk1 (((hs8.takeS 32).below hb (Nat.le_refl _)).more hb.size)
  have CH2 : Hid (∀ W, Below w.heap.size w W → Calls Try.prog 21 #[.slice (some ⟨sb, so + 32, none⟩) 32 32] W fun e w' => e = .returned (.agg (arr8 (s.drop 32))) ∧ Below W.heap.size W w') :=
    Lib.hid fun W hb => hash_any W _ 32 (s.drop 32) hk2 ((hd8.below hb (Nat.le_refl _)).more hb.size)
  have CH3 : Hid (∀ W, Below w.heap.size w W → Calls Try.prog 21 #[.slice (some ⟨pb, po, none⟩) 32 32] W fun e w' => e = .returned (.agg (arr8 p)) ∧ Below W.heap.size W w') :=
    Lib.hid fun W hb => hash_any W _ 32 p hp ((hp8.below hb (Nat.le_refl _)).more hb.size)
  have CPU := Lib.hid (fun W => public_any W (s.take 32) hk1)
  have CPR := Lib.hid (fun W => prove_any W (s.take 32) d hk1 hd)
  have hib : isB p s d = (decide (sha (s.take 32) = p) && decide (sha (s.take 32 ++ d) = s.drop 32)) := by unfold isB; rw [hp, hs]; simp
  rw [hib]
  have hq1 := fun W => eq_hash (sha (s.take 32)) p rfl hp W
  have hq2 := fun W => eq_hash (sha (s.take 32 ++ d)) (s.drop 32) rfl hk2 W
  obtain ⟨b1, hb1⟩ : ∃ b1, decide (sha (s.take 32) = p) = b1 := ⟨_, rfl⟩
  obtain ⟨b2, hb2⟩ : ∃ b2, decide (sha (s.take 32 ++ d) = s.drop 32) = b2 := ⟨_, rfl⟩
  rw [hb1] at hq1 ⊢
  rw [hb2] at hq2 ⊢
  have HQ1 := Lib.hid hq1
  have HQ2 := Lib.hid hq2
  have HK1 := Lib.hid hk1
  have HK2 := Lib.hid hk2
  have HD := Lib.hid hd
  have hK := (Keeps.nil w).new (arr8 d) 23
  simp only [List.nil_append] at hK
  clear hb1 hb2 hq1 hq2 hib hk1 hk2 hd8 hs8 hp8 hp hs hd
  go_enter Try.func13, Try.ntmps13
  go_wp2_with (first | (go_at_call 21; (with_reducible refine (CH1.out _ hK.bel).mono ?_); rintro e W1 ⟨rfl, hb⟩; replace hK := hK.call hb; clear hb CH1) | (refine wpList_alloc rfl 23 rfl (z := arr8 zero32) (by kernel_rfl) ?_; try simp only [World.size_alloc]) | (refine wpList_fill hK rfl 23 (.tmp 7) (.tmp 19) rfl rfl rfl (infoH _ HK1.out) (size_same rfl HK1.out) (one8x _) ?_; clear hK; intro W2 hK) | (go_at_call 21; (with_reducible refine (CH2.out _ hK.bel).mono ?_); rintro e W3 ⟨rfl, hb⟩; replace hK := hK.call hb; clear hb CH2) | (refine wpList_fill hK rfl 23 (.tmp 8) (.tmp 22) rfl rfl rfl (infoH _ HK2.out) (size_same rfl HK2.out) (one8x _) ?_; clear hK; intro W4 hK))
  go_frame
  obtain ⟨B1, hB1⟩ : ∃ B1, W1.heap.size = B1 := ⟨_, rfl⟩
  obtain ⟨B3, hB3⟩ : ∃ B3, W3.heap.size = B3 := ⟨_, rfl⟩
  rw [hB1, hB3] at hK
  rw [hB1, hB3]
  clear hB1 hB3
  simp only [List.cons_append, List.nil_append] at hK
  cases b1 with
  | true =>
    refine wp_region_phased 36 rfl (fun _ _ _ _ => True) (fun p W1 => Keeps w [(w.heap.size, arr8 d, 23), (B1, arr8 (s.take 32), 23), (B3, arr8 (s.drop 32), 23)] W1) [.is (.agg (arr8 (s.take 32))), .is (.agg (arr8 (sha (s.take 32)))), .is (.slice (some ⟨pb, po, none⟩) 32 pc), .is (.slice (some ⟨pb, po, none⟩) 32 32), .is (.agg (arr8 p)), .is (.bool true), .is (.bool true), .is (.agg (arr8 (s.take 32))), .is (.agg (arr8 d)), .is (.agg (arr8 (sha (s.take 32 ++ d)))), .is (.agg (arr8 (s.drop 32))), .is (.bool b2), .is (.bool b2), .is (.bool b2)] [] [0, 0, 0, 0, 0, 0, 0, 0, 0, 0, 0, 0, 0, 0] [0, 0, 0, 0, 0, 0, 0, 0, 0, 0, 0, 0, 0, 0] (by kernel_rfl) (by kernel_rfl) (by kernel_rfl) (fun _ _ _ => trivial) (hK.drew) ⟨?ob0, ?ob1, ?ob2, ?ob3, ?ob4, ?ob5, ?ob6, ?ob7, ?ob8, ?ob9, ?ob10, ?ob11, ?ob12, ?ob13, trivial⟩ ?obend
    case ob0 =>
      intro p vals W1 F hF hlo hhi hI hd
      have hp : p = 0 := Nat.le_antisymm hhi hlo
      subst hp
      clear hlo hhi
      have E7 : F.eval (.tmp 7) = .pointer (some ⟨B1, 0, none⟩) := hF.out_ (by kernel_rfl) rfl
      refine .inr ⟨wanted_none rfl, ?_⟩
      have hl := run_loadVar_row (P := Try.prog) W1 B1 23 23 (arr8 (s.take 32)) (0, 0) _ (hI.get 1 rfl) Try.underlying23 rfl (infoH _ HK1.out)
      refine .inl ⟨.agg (arr8 (s.take 32)), ?_, hI, TyP.of_is rfl⟩
      have Ec : ∀ v, F.eval (.const v) = v := fun _ => rfl; have Ef : ∀ f, F.eval (.func f) = .func (.func f) #[] #[] := fun _ => rfl; clear hF hd; generalize F.eval = ρ at E7 Ec Ef ⊢
      simp only [execOp, E7, Instr.loadAt, Instr.sureAddr, Sem.run_bind, Sem.run_pure, Result.andThen_ok, hl]
    case ob1 =>
      intro p vals W1 F hF hlo hhi hI hd
      have hp : p = 0 := Nat.le_antisymm hhi hlo
      subst hp
      clear hlo hhi
      have d0 : vals 0 = .agg (arr8 (s.take 32)) := hd ⟨0, .data⟩ (Array.mem_of_getElem? (i := 0) rfl) rfl (show (0 : Nat) ≤ 1000 by decide)
      have E23 := eval_some (hF.own_ 0 rfl rfl (by kernel_rfl) (by decide)); rw [d0] at E23
      refine .inr ⟨wanted_none rfl, ?_⟩
      refine .inr (.inr (.inl ⟨10, #[.agg (arr8 (s.take 32))], ?_, (CPU.out W1).mono ?_⟩))
      · have Ec : ∀ v, F.eval (.const v) = v := fun _ => rfl; have Ef : ∀ f, F.eval (.func f) = .func (.func f) #[] #[] := fun _ => rfl; clear hF hd; generalize F.eval = ρ at E23 Ec Ef ⊢
        simp [execOp, go_sem, Ec, Ef, E23]
      rintro e W2 ⟨rfl, hb⟩
      exact ⟨_, rfl, trivial, hI.call hb, TyP.of_is rfl⟩
    case ob2 =>
      intro p vals W1 F hF hlo hhi hI hd
      have hp : p = 0 := Nat.le_antisymm hhi hlo
      subst hp
      clear hlo hhi
      have E0 : F.eval (.tmp 0) = .slice (some ⟨pb, po, none⟩) 32 pc := hF.out_ (by kernel_rfl) rfl
      refine .inr ⟨wanted_none rfl, .inl ⟨.slice (some ⟨pb, po, none⟩) 32 pc, ?_, hI, TyP.of_is rfl⟩⟩
      simp only [execOp, E0, Sem.run_pure]
    case ob3 =>
      intro p vals W1 F hF hlo hhi hI hd
      have hp : p = 0 := Nat.le_antisymm hhi hlo
      subst hp
      clear hlo hhi
      have d2 : vals 2 = .slice (some ⟨pb, po, none⟩) 32 pc := hd ⟨2, .data⟩ (Array.mem_of_getElem? (i := 0) rfl) rfl (show (0 : Nat) ≤ 1000 by decide)
      have E25 := eval_some (hF.own_ 2 rfl rfl (by kernel_rfl) (by decide)); rw [d2] at E25
      refine .inr ⟨wanted_none rfl, ?_⟩
      refine .inl ⟨.slice (some ⟨pb, po, none⟩) 32 32, ?_, hI, TyP.of_is rfl⟩
      have Ec : ∀ v, F.eval (.const v) = v := fun _ => rfl; have Ef : ∀ f, F.eval (.func f) = .func (.func f) #[] #[] := fun _ => rfl; clear hF hd; generalize F.eval = ρ at E25 Ec Ef ⊢
      simp [execOp, go_sem, Ec, E25]
      omega
    case ob4 =>
      intro p vals W1 F hF hlo hhi hI hd
      have hp : p = 0 := Nat.le_antisymm hhi hlo
      subst hp
      clear hlo hhi
      have d3 : vals 3 = .slice (some ⟨pb, po, none⟩) 32 32 := hd ⟨3, .data⟩ (Array.mem_of_getElem? (i := 0) rfl) rfl (show (0 : Nat) ≤ 1000 by decide)
      have E26 := eval_some (hF.own_ 3 rfl rfl (by kernel_rfl) (by decide)); rw [d3] at E26
      refine .inr ⟨wanted_none rfl, ?_⟩
      refine .inr (.inr (.inl ⟨21, #[.slice (some ⟨pb, po, none⟩) 32 32], ?_, (CH3.out W1 hI.bel).mono ?_⟩))
      · have Ec : ∀ v, F.eval (.const v) = v := fun _ => rfl; have Ef : ∀ f, F.eval (.func f) = .func (.func f) #[] #[] := fun _ => rfl; clear hF hd; generalize F.eval = ρ at E26 Ec Ef ⊢
        simp [execOp, go_sem, Ec, Ef, E26]
      rintro e W2 ⟨rfl, hb⟩
      exact ⟨_, rfl, trivial, hI.call hb, TyP.of_is rfl⟩
    case ob5 =>
      intro p vals W1 F hF hlo hhi hI hd
      have hp : p = 0 := Nat.le_antisymm hhi hlo
      subst hp
      clear hlo hhi
      have d1 : vals 1 = .agg (arr8 (sha (s.take 32))) := hd ⟨1, .data⟩ (Array.mem_of_getElem? (i := 0) rfl) rfl (show (0 : Nat) ≤ 1000 by decide)
      have d4 : vals 4 = .agg (arr8 p) := hd ⟨4, .data⟩ (Array.mem_of_getElem? (i := 1) rfl) rfl (show (0 : Nat) ≤ 1000 by decide)
      have E24 := eval_some (hF.own_ 1 rfl rfl (by kernel_rfl) (by decide)); rw [d1] at E24
      have E27 := eval_some (hF.own_ 4 rfl rfl (by kernel_rfl) (by decide)); rw [d4] at E27
      refine .inr ⟨wanted_none rfl, .inl ⟨.bool true, ?_, hI, TyP.of_is rfl⟩⟩
      have Ec : ∀ v, F.eval (.const v) = v := fun _ => rfl; have Ef : ∀ f, F.eval (.func f) = .func (.func f) #[] #[] := fun _ => rfl; clear hF hd; generalize F.eval = ρ at E24 E27 Ec Ef ⊢
      simp [execOp, go_sem, Ec, E24, E27, HQ1.out]
    case ob6 =>
      intro p vals W1 F hF hlo hhi hI hd
      have hp : p = 0 := Nat.le_antisymm hhi hlo
      subst hp
      clear hlo hhi
      have d5 : vals 5 = .bool true := hd ⟨5, .data⟩ (Array.mem_of_getElem? (i := 0) rfl) rfl (show (0 : Nat) ≤ 1000 by decide)
      have E28 := eval_some (hF.own_ 5 rfl rfl (by kernel_rfl) (by decide)); rw [d5] at E28
      refine .inr ⟨wanted_none rfl, .inl ⟨.bool true, ?_, hI, TyP.of_is rfl⟩⟩
      simp only [execOp, E28, Sem.run_pure]
    case ob7 =>
      intro p vals W1 F hF hlo hhi hI hd
      have hp : p = 0 := Nat.le_antisymm hhi hlo
      subst hp
      clear hlo hhi
      have d6 : vals 6 = .bool true := hd ⟨6, .guard⟩ (Array.mem_of_getElem? (i := 0) rfl) rfl (show (0 : Nat) ≤ 1000 by decide)
      have E7 : F.eval (.tmp 7) = .pointer (some ⟨B1, 0, none⟩) := hF.out_ (by kernel_rfl) rfl
      have G := hF.own_ 6 rfl rfl (by kernel_rfl) (by decide); rw [d6] at G
      refine .inr ⟨wanted_yes rfl rfl rfl G, ?_⟩
      have hl := run_loadVar_row (P := Try.prog) W1 B1 23 23 (arr8 (s.take 32)) (0, 0) _ (hI.get 1 rfl) Try.underlying23 rfl (infoH _ HK1.out)
      refine .inl ⟨.agg (arr8 (s.take 32)), ?_, hI, TyP.of_is rfl⟩
      have Ec : ∀ v, F.eval (.const v) = v := fun _ => rfl; have Ef : ∀ f, F.eval (.func f) = .func (.func f) #[] #[] := fun _ => rfl; clear hF hd; generalize F.eval = ρ at E7 Ec Ef ⊢
      simp only [execOp, E7, Instr.loadAt, Instr.sureAddr, Sem.run_bind, Sem.run_pure, Result.andThen_ok, hl]
    case ob8 =>
      intro p vals W1 F hF hlo hhi hI hd
      have hp : p = 0 := Nat.le_antisymm hhi hlo
      subst hp
      clear hlo hhi
      have d6 : vals 6 = .bool true := hd ⟨6, .guard⟩ (Array.mem_of_getElem? (i := 0) rfl) rfl (show (0 : Nat) ≤ 1000 by decide)
      have E5 : F.eval (.tmp 5) = .pointer (some ⟨w.heap.size, 0, none⟩) := hF.out_ (by kernel_rfl) rfl
      have G := hF.own_ 6 rfl rfl (by kernel_rfl) (by decide); rw [d6] at G
      refine .inr ⟨wanted_yes rfl rfl rfl G, ?_⟩
      have hl := run_loadVar_row (P := Try.prog) W1 w.heap.size 23 23 (arr8 d) (0, 0) _ (hI.get 0 rfl) Try.underlying23 rfl (infoH _ HD.out)
      refine .inl ⟨.agg (arr8 d), ?_, hI, TyP.of_is rfl⟩
      have Ec : ∀ v, F.eval (.const v) = v := fun _ => rfl; have Ef : ∀ f, F.eval (.func f) = .func (.func f) #[] #[] := fun _ => rfl; clear hF hd; generalize F.eval = ρ at E5 Ec Ef ⊢
      simp only [execOp, E5, Instr.loadAt, Instr.sureAddr, Sem.run_bind, Sem.run_pure, Result.andThen_ok, hl]
    case ob9 =>
      intro p vals W1 F hF hlo hhi hI hd
      have hp : p = 0 := Nat.le_antisymm hhi hlo
      subst hp
      clear hlo hhi
      have d6 : vals 6 = .bool true := hd ⟨6, .chain⟩ (Array.mem_of_getElem? (i := 2) rfl) rfl (show (0 : Nat) ≤ 1000 by decide)
      have d7 : vals 7 = .agg (arr8 (s.take 32)) := hd ⟨7, .data⟩ (Array.mem_of_getElem? (i := 0) rfl) rfl (show (0 : Nat) ≤ 1000 by decide)
      have d8 : vals 8 = .agg (arr8 d) := hd ⟨8, .data⟩ (Array.mem_of_getElem? (i := 1) rfl) rfl (show (0 : Nat) ≤ 1000 by decide)
      have E30 := eval_some (hF.own_ 7 rfl rfl (by kernel_rfl) (by decide)); rw [d7] at E30
      have E31 := eval_some (hF.own_ 8 rfl rfl (by kernel_rfl) (by decide)); rw [d8] at E31
      have G := hF.own_ 6 rfl rfl (by kernel_rfl) (by decide); rw [d6] at G
      refine .inr ⟨wanted_yes rfl rfl rfl G, ?_⟩
      refine .inr (.inr (.inl ⟨19, #[.agg (arr8 (s.take 32)), .agg (arr8 d)], ?_, (CPR.out W1).mono ?_⟩))
      · have Ec : ∀ v, F.eval (.const v) = v := fun _ => rfl; have Ef : ∀ f, F.eval (.func f) = .func (.func f) #[] #[] := fun _ => rfl; clear hF hd; generalize F.eval = ρ at E30 E31 Ec Ef ⊢
        simp [execOp, go_sem, Ec, Ef, E30, E31]
      rintro e W2 ⟨rfl, hb⟩
      exact ⟨_, rfl, trivial, hI.call hb, TyP.of_is rfl⟩
    case ob10 =>
      intro p vals W1 F hF hlo hhi hI hd
      have hp : p = 0 := Nat.le_antisymm hhi hlo
      subst hp
      clear hlo hhi
      have d6 : vals 6 = .bool true := hd ⟨6, .guard⟩ (Array.mem_of_getElem? (i := 0) rfl) rfl (show (0 : Nat) ≤ 1000 by decide)
      have E8 : F.eval (.tmp 8) = .pointer (some ⟨B3, 0, none⟩) := hF.out_ (by kernel_rfl) rfl
      have G := hF.own_ 6 rfl rfl (by kernel_rfl) (by decide); rw [d6] at G
      refine .inr ⟨wanted_yes rfl rfl rfl G, ?_⟩
      have hl := run_loadVar_row (P := Try.prog) W1 B3 23 23 (arr8 (s.drop 32)) (0, 0) _ (hI.get 2 rfl) Try.underlying23 rfl (infoH _ HK2.out)
      refine .inl ⟨.agg (arr8 (s.drop 32)), ?_, hI, TyP.of_is rfl⟩
      have Ec : ∀ v, F.eval (.const v) = v := fun _ => rfl; have Ef : ∀ f, F.eval (.func f) = .func (.func f) #[] #[] := fun _ => rfl; clear hF hd; generalize F.eval = ρ at E8 Ec Ef ⊢
      simp only [execOp, E8, Instr.loadAt, Instr.sureAddr, Sem.run_bind, Sem.run_pure, Result.andThen_ok, hl]
    case ob11 =>
      intro p vals W1 F hF hlo hhi hI hd
      have hp : p = 0 := Nat.le_antisymm hhi hlo
      subst hp
      clear hlo hhi
      have d6 : vals 6 = .bool true := hd ⟨6, .guard⟩ (Array.mem_of_getElem? (i := 2) rfl) rfl (show (0 : Nat) ≤ 1000 by decide)
      have d9 : vals 9 = .agg (arr8 (sha (s.take 32 ++ d))) := hd ⟨9, .data⟩ (Array.mem_of_getElem? (i := 0) rfl) rfl (show (0 : Nat) ≤ 1000 by decide)
      have d10 : vals 10 = .agg (arr8 (s.drop 32)) := hd ⟨10, .data⟩ (Array.mem_of_getElem? (i := 1) rfl) rfl (show (0 : Nat) ≤ 1000 by decide)
      have E32 := eval_some (hF.own_ 9 rfl rfl (by kernel_rfl) (by decide)); rw [d9] at E32
      have E33 := eval_some (hF.own_ 10 rfl rfl (by kernel_rfl) (by decide)); rw [d10] at E33
      have G := hF.own_ 6 rfl rfl (by kernel_rfl) (by decide); rw [d6] at G
      refine .inr ⟨wanted_yes rfl rfl rfl G, .inl ⟨.bool b2, ?_, hI, TyP.of_is rfl⟩⟩
      have Ec : ∀ v, F.eval (.const v) = v := fun _ => rfl; have Ef : ∀ f, F.eval (.func f) = .func (.func f) #[] #[] := fun _ => rfl; clear hF hd; generalize F.eval = ρ at E32 E33 Ec Ef ⊢
      simp [execOp, go_sem, Ec, E32, E33, HQ2.out]
    case ob12 =>
      intro p vals W1 F hF hlo hhi hI hd
      have hp : p = 0 := Nat.le_antisymm hhi hlo
      subst hp
      clear hlo hhi
      have d6 : vals 6 = .bool true := hd ⟨6, .data⟩ (Array.mem_of_getElem? (i := 0) rfl) rfl (show (0 : Nat) ≤ 1000 by decide)
      have d11 : vals 11 = .bool b2 := hd ⟨11, .data⟩ (Array.mem_of_getElem? (i := 1) rfl) rfl (show (0 : Nat) ≤ 1000 by decide)
      have E29 := eval_some (hF.own_ 6 rfl rfl (by kernel_rfl) (by decide)); rw [d6] at E29
      have E34 := eval_some (hF.own_ 11 rfl rfl (by kernel_rfl) (by decide)); rw [d11] at E34
      refine .inr ⟨wanted_none rfl, .inl ⟨.bool b2, ?_, hI, TyP.of_is rfl⟩⟩
      have Ec : ∀ v, F.eval (.const v) = v := fun _ => rfl; have Ef : ∀ f, F.eval (.func f) = .func (.func f) #[] #[] := fun _ => rfl; clear hF hd; generalize F.eval = ρ at E29 E34 Ec Ef ⊢
      simp [execOp, go_sem, Ec, E29, E34]
    case ob13 =>
      intro p vals W1 F hF hlo hhi hI hd
      have hp : p = 0 := Nat.le_antisymm hhi hlo
      subst hp
      clear hlo hhi
      have d12 : vals 12 = .bool b2 := hd ⟨12, .data⟩ (Array.mem_of_getElem? (i := 0) rfl) rfl (show (0 : Nat) ≤ 1000 by decide)
      have E35 := eval_some (hF.own_ 12 rfl rfl (by kernel_rfl) (by decide)); rw [d12] at E35
      refine .inr ⟨wanted_none rfl, .inl ⟨.bool b2, ?_, hI, TyP.of_is rfl⟩⟩
      simp only [execOp, E35, Sem.run_pure]
    case obend =>
      intro vals W1 F hF hdef hI hT
      have hv : vals 13 = .bool b2 := hT 13 (by decide) (show (0 : Nat) ≤ 1000 by decide)
      rename_i K hK9
      refine hK9 _ _ ?_
      rw [hF.act]
      simp only [fin, Act.put, List.setIfInBounds_toArray, List.set_cons_succ, List.set_cons_zero]
      rw [hv]
      clear hF hT hv
      go_wp2
      go_ret
      exact ⟨by simp, hI.bel⟩
  | false =>
    refine wp_region_phased 36 rfl (fun _ _ _ _ => True) (fun p W1 => Keeps w [(w.heap.size, arr8 d, 23), (B1, arr8 (s.take 32), 23), (B3, arr8 (s.drop 32), 23)] W1) [.is (.agg (arr8 (s.take 32))), .is (.agg (arr8 (sha (s.take 32)))), .is (.slice (some ⟨pb, po, none⟩) 32 pc), .is (.slice (some ⟨pb, po, none⟩) 32 32), .is (.agg (arr8 p)), .is (.bool false), .is (.bool false), .is undef, .is undef, .is undef, .is undef, .is undef, .is (.bool false), .is (.bool false)] [] [0, 0, 0, 0, 0, 0, 0, 0, 0, 0, 0, 0, 0, 0] [0, 0, 0, 0, 0, 0, 0, 0, 0, 0, 0, 0, 0, 0] (by kernel_rfl) (by kernel_rfl) (by kernel_rfl) (fun _ _ _ => trivial) (hK.drew) ⟨?qb0, ?qb1, ?qb2, ?qb3, ?qb4, ?qb5, ?qb6, ?qb7, ?qb8, ?qb9, ?qb10, ?qb11, ?qb12, ?qb13, trivial⟩ ?qbend
    case qb0 =>
      intro p vals W1 F hF hlo hhi hI hd
      have hp : p = 0 := Nat.le_antisymm hhi hlo
      subst hp
      clear hlo hhi
      have E7 : F.eval (.tmp 7) = .pointer (some ⟨B1, 0, none⟩) := hF.out_ (by kernel_rfl) rfl
      refine .inr ⟨wanted_none rfl, ?_⟩
      have hl := run_loadVar_row (P := Try.prog) W1 B1 23 23 (arr8 (s.take 32)) (0, 0) _ (hI.get 1 rfl) Try.underlying23 rfl (infoH _ HK1.out)
      refine .inl ⟨.agg (arr8 (s.take 32)), ?_, hI, TyP.of_is rfl⟩
      have Ec : ∀ v, F.eval (.const v) = v := fun _ => rfl; have Ef : ∀ f, F.eval (.func f) = .func (.func f) #[] #[] := fun _ => rfl; clear hF hd; generalize F.eval = ρ at E7 Ec Ef ⊢
      simp only [execOp, E7, Instr.loadAt, Instr.sureAddr, Sem.run_bind, Sem.run_pure, Result.andThen_ok, hl]
    case qb1 =>
      intro p vals W1 F hF hlo hhi hI hd
      have hp : p = 0 := Nat.le_antisymm hhi hlo
      subst hp
      clear hlo hhi
      have d0 : vals 0 = .agg (arr8 (s.take 32)) := hd ⟨0, .data⟩ (Array.mem_of_getElem? (i := 0) rfl) rfl (show (0 : Nat) ≤ 1000 by decide)
      have E23 := eval_some (hF.own_ 0 rfl rfl (by kernel_rfl) (by decide)); rw [d0] at E23
      refine .inr ⟨wanted_none rfl, ?_⟩
      refine .inr (.inr (.inl ⟨10, #[.agg (arr8 (s.take 32))], ?_, (CPU.out W1).mono ?_⟩))
      · have Ec : ∀ v, F.eval (.const v) = v := fun _ => rfl; have Ef : ∀ f, F.eval (.func f) = .func (.func f) #[] #[] := fun _ => rfl; clear hF hd; generalize F.eval = ρ at E23 Ec Ef ⊢
        simp [execOp, go_sem, Ec, Ef, E23]
      rintro e W2 ⟨rfl, hb⟩
      exact ⟨_, rfl, trivial, hI.call hb, TyP.of_is rfl⟩
    case qb2 =>
      intro p vals W1 F hF hlo hhi hI hd
      have hp : p = 0 := Nat.le_antisymm hhi hlo
      subst hp
      clear hlo hhi
      have E0 : F.eval (.tmp 0) = .slice (some ⟨pb, po, none⟩) 32 pc := hF.out_ (by kernel_rfl) rfl
      refine .inr ⟨wanted_none rfl, .inl ⟨.slice (some ⟨pb, po, none⟩) 32 pc, ?_, hI, TyP.of_is rfl⟩⟩
      simp only [execOp, E0, Sem.run_pure]
    case qb3 =>
      intro p vals W1 F hF hlo hhi hI hd
      have hp : p = 0 := Nat.le_antisymm hhi hlo
      subst hp
      clear hlo hhi
      have d2 : vals 2 = .slice (some ⟨pb, po, none⟩) 32 pc := hd ⟨2, .data⟩ (Array.mem_of_getElem? (i := 0) rfl) rfl (show (0 : Nat) ≤ 1000 by decide)
      have E25 := eval_some (hF.own_ 2 rfl rfl (by kernel_rfl) (by decide)); rw [d2] at E25
      refine .inr ⟨wanted_none rfl, ?_⟩
      refine .inl ⟨.slice (some ⟨pb, po, none⟩) 32 32, ?_, hI, TyP.of_is rfl⟩
      have Ec : ∀ v, F.eval (.const v) = v := fun _ => rfl; have Ef : ∀ f, F.eval (.func f) = .func (.func f) #[] #[] := fun _ => rfl; clear hF hd; generalize F.eval = ρ at E25 Ec Ef ⊢
      simp [execOp, go_sem, Ec, E25]
      omega
    case qb4 =>
      intro p vals W1 F hF hlo hhi hI hd
      have hp : p = 0 := Nat.le_antisymm hhi hlo
      subst hp
      clear hlo hhi
      have d3 : vals 3 = .slice (some ⟨pb, po, none⟩) 32 32 := hd ⟨3, .data⟩ (Array.mem_of_getElem? (i := 0) rfl) rfl (show (0 : Nat) ≤ 1000 by decide)
      have E26 := eval_some (hF.own_ 3 rfl rfl (by kernel_rfl) (by decide)); rw [d3] at E26
      refine .inr ⟨wanted_none rfl, ?_⟩
      refine .inr (.inr (.inl ⟨21, #[.slice (some ⟨pb, po, none⟩) 32 32], ?_, (CH3.out W1 hI.bel).mono ?_⟩))
      · have Ec : ∀ v, F.eval (.const v) = v := fun _ => rfl; have Ef : ∀ f, F.eval (.func f) = .func (.func f) #[] #[] := fun _ => rfl; clear hF hd; generalize F.eval = ρ at E26 Ec Ef ⊢
        simp [execOp, go_sem, Ec, Ef, E26]
      rintro e W2 ⟨rfl, hb⟩
      exact ⟨_, rfl, trivial, hI.call hb, TyP.of_is rfl⟩
    case qb5 =>
      intro p vals W1 F hF hlo hhi hI hd
      have hp : p = 0 := Nat.le_antisymm hhi hlo
      subst hp
      clear hlo hhi
      have d1 : vals 1 = .agg (arr8 (sha (s.take 32))) := hd ⟨1, .data⟩ (Array.mem_of_getElem? (i := 0) rfl) rfl (show (0 : Nat) ≤ 1000 by decide)
      have d4 : vals 4 = .agg (arr8 p) := hd ⟨4, .data⟩ (Array.mem_of_getElem? (i := 1) rfl) rfl (show (0 : Nat) ≤ 1000 by decide)
      have E24 := eval_some (hF.own_ 1 rfl rfl (by kernel_rfl) (by decide)); rw [d1] at E24
      have E27 := eval_some (hF.own_ 4 rfl rfl (by kernel_rfl) (by decide)); rw [d4] at E27
      refine .inr ⟨wanted_none rfl, .inl ⟨.bool false, ?_, hI, TyP.of_is rfl⟩⟩
      have Ec : ∀ v, F.eval (.const v) = v := fun _ => rfl; have Ef : ∀ f, F.eval (.func f) = .func (.func f) #[] #[] := fun _ => rfl; clear hF hd; generalize F.eval = ρ at E24 E27 Ec Ef ⊢
      simp [execOp, go_sem, Ec, E24, E27, HQ1.out]
    case qb6 =>
      intro p vals W1 F hF hlo hhi hI hd
      have hp : p = 0 := Nat.le_antisymm hhi hlo
      subst hp
      clear hlo hhi
      have d5 : vals 5 = .bool false := hd ⟨5, .data⟩ (Array.mem_of_getElem? (i := 0) rfl) rfl (show (0 : Nat) ≤ 1000 by decide)
      have E28 := eval_some (hF.own_ 5 rfl rfl (by kernel_rfl) (by decide)); rw [d5] at E28
      refine .inr ⟨wanted_none rfl, .inl ⟨.bool false, ?_, hI, TyP.of_is rfl⟩⟩
      simp only [execOp, E28, Sem.run_pure]
    case qb7 =>
      intro p vals W1 F hF hlo hhi hI hd
      have hp : p = 0 := Nat.le_antisymm hhi hlo
      subst hp
      clear hlo hhi
      have d6 : vals 6 = .bool false := hd ⟨6, .guard⟩ (Array.mem_of_getElem? (i := 0) rfl) rfl (show (0 : Nat) ≤ 1000 by decide)
      have G := hF.own_ 6 rfl rfl (by kernel_rfl) (by decide); rw [d6] at G
      exact .inl ⟨wanted_no rfl rfl rfl G rfl, hI, TyP.of_is rfl⟩
    case qb8 =>
      intro p vals W1 F hF hlo hhi hI hd
      have hp : p = 0 := Nat.le_antisymm hhi hlo
      subst hp
      clear hlo hhi
      have d6 : vals 6 = .bool false := hd ⟨6, .guard⟩ (Array.mem_of_getElem? (i := 0) rfl) rfl (show (0 : Nat) ≤ 1000 by decide)
      have G := hF.own_ 6 rfl rfl (by kernel_rfl) (by decide); rw [d6] at G
      exact .inl ⟨wanted_no rfl rfl rfl G rfl, hI, TyP.of_is rfl⟩
    case qb9 =>
      intro p vals W1 F hF hlo hhi hI hd
      have hp : p = 0 := Nat.le_antisymm hhi hlo
      subst hp
      clear hlo hhi
      have d6 : vals 6 = .bool false := hd ⟨6, .chain⟩ (Array.mem_of_getElem? (i := 2) rfl) rfl (show (0 : Nat) ≤ 1000 by decide)
      have G := hF.own_ 6 rfl rfl (by kernel_rfl) (by decide); rw [d6] at G
      exact .inl ⟨wanted_no rfl rfl rfl G rfl, hI, TyP.of_is rfl⟩
    case qb10 =>
      intro p vals W1 F hF hlo hhi hI hd
      have hp : p = 0 := Nat.le_antisymm hhi hlo
      subst hp
      clear hlo hhi
      have d6 : vals 6 = .bool false := hd ⟨6, .guard⟩ (Array.mem_of_getElem? (i := 0) rfl) rfl (show (0 : Nat) ≤ 1000 by decide)
      have G := hF.own_ 6 rfl rfl (by kernel_rfl) (by decide); rw [d6] at G
      exact .inl ⟨wanted_no rfl rfl rfl G rfl, hI, TyP.of_is rfl⟩
    case qb11 =>
      intro p vals W1 F hF hlo hhi hI hd
      have hp : p = 0 := Nat.le_antisymm hhi hlo
      subst hp
      clear hlo hhi
      have d6 : vals 6 = .bool false := hd ⟨6, .guard⟩ (Array.mem_of_getElem? (i := 2) rfl) rfl (show (0 : Nat) ≤ 1000 by decide)
      have G := hF.own_ 6 rfl rfl (by kernel_rfl) (by decide); rw [d6] at G
      exact .inl ⟨wanted_no rfl rfl rfl G rfl, hI, TyP.of_is rfl⟩
    case qb12 =>
      intro p vals W1 F hF hlo hhi hI hd
      have hp : p = 0 := Nat.le_antisymm hhi hlo
      subst hp
      clear hlo hhi
      have d6 : vals 6 = .bool false := hd ⟨6, .data⟩ (Array.mem_of_getElem? (i := 0) rfl) rfl (show (0 : Nat) ≤ 1000 by decide)
      have d11 : vals 11 = undef := hd ⟨11, .data⟩ (Array.mem_of_getElem? (i := 1) rfl) rfl (show (0 : Nat) ≤ 1000 by decide)
      have E29 := eval_some (hF.own_ 6 rfl rfl (by kernel_rfl) (by decide)); rw [d6] at E29
      have E34 := eval_some (hF.own_ 11 rfl rfl (by kernel_rfl) (by decide)); rw [d11] at E34
      refine .inr ⟨wanted_none rfl, .inl ⟨.bool false, ?_, hI, TyP.of_is rfl⟩⟩
      have Ec : ∀ v, F.eval (.const v) = v := fun _ => rfl; have Ef : ∀ f, F.eval (.func f) = .func (.func f) #[] #[] := fun _ => rfl; clear hF hd; generalize F.eval = ρ at E29 E34 Ec Ef ⊢
      simp [execOp, go_sem, Ec, E29, E34]
    case qb13 =>
      intro p vals W1 F hF hlo hhi hI hd
      have hp : p = 0 := Nat.le_antisymm hhi hlo
      subst hp
      clear hlo hhi
      have d12 : vals 12 = .bool false := hd ⟨12, .data⟩ (Array.mem_of_getElem? (i := 0) rfl) rfl (show (0 : Nat) ≤ 1000 by decide)
      have E35 := eval_some (hF.own_ 12 rfl rfl (by kernel_rfl) (by decide)); rw [d12] at E35
      refine .inr ⟨wanted_none rfl, .inl ⟨.bool false, ?_, hI, TyP.of_is rfl⟩⟩
      simp only [execOp, E35, Sem.run_pure]
    case qbend =>
      intro vals W1 F hF hdef hI hT
      have hv : vals 13 = .bool false := hT 13 (by decide) (show (0 : Nat) ≤ 1000 by decide)
      rename_i K hK9
      refine hK9 _ _ ?_
      rw [hF.act]
      simp only [fin, Act.put, List.setIfInBounds_toArray, List.set_cons_succ, List.set_cons_zero]
      rw [hv]
      clear hF hT hv
      go_wp2
      go_ret
      exact ⟨by simp, hI.bel⟩

theorem is_any (w : World) (P S : Option Addr) (pl pc sl sc : Nat) (p s d : List UInt8) (hd : d.length = 32) (hp8 : Holds8 w.heap.size w P p) (hs8 : Holds8 w.heap.size w S s) (hp : p.length = pl) (hs : s.length = sl) (hpc : pl ≤ pc) (hsc : sl ≤ sc) :
    Calls Try.prog 13 #[.slice P pl pc, .slice S sl sc, .agg (arr8 d)] w fun e w' => e = .returned (.bool (isB p s d)) ∧ Below w.heap.size w w' := by
  by_cases h : pl = 32 ∧ sl = 64
  · obtain ⟨rfl, rfl⟩ := h
    exact is_good w P S pc sc p s d hd hp8 hs8 hp hs hpc hsc
  · have hib : isB p s d = false := by
      unfold isB
      rw [hp, hs]
      by_cases h1 : pl = 32
      · have h2 : ¬ sl = 64 := fun e => h ⟨h1, e⟩
        simp [h2]
      · simp [h1]
    rw [hib]
    exact is_short w P S pl pc sl sc d h
end Go.Proofs.Ytijobhpmaenjlaa.Oct
