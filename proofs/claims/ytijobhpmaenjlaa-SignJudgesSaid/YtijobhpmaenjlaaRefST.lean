/- The reference's Is judges as sign.Is does: bytes of any length, digests of 32 bytes. -/
import Derived.Test.YtijobhpmaenjlaaRefSS
namespace Go.Proofs.Ytijobhpmaenjlaa.Oct
set_option linter.unusedVariables false
set_option linter.unusedSimpArgs false
open Go.Proofs.Ytijobhpmaenjlaa Go.RowKit Go.Lib Go.Shelf

set_option maxRecDepth 100000 in
set_option maxHeartbeats 2000000 in
theorem ris_short (w : World) (P S : Option Addr) (pl pc sl sc : Nat) (d : List UInt8) (h : ¬ (pl = 32 ∧ sl = 64)) : Calls Try.prog 14 #[.slice P pl pc, .slice S sl sc, .agg (arr8 d)] w fun e w' => e = .returned (.bool false) ∧ Below w.heap.size w w' := by
  by_cases h1 : pl = 32
  · have h2 : ¬ sl = 64 := fun e => h ⟨h1, e⟩
    have e1 : ((pl : Int) != 32) = false := by simp; omega
    have e2 : ((sl : Int) != 64) = true := by rw [bne_iff_ne]; omega
    clear h h1 h2
    go_enter Try.func14, Try.ntmps14
    go_wp2
    go_ret
    exact ⟨rfl, (Below.refl _ _).alloc (Nat.le_refl _) _⟩
  · have e1 : ((pl : Int) != 32) = true := by rw [bne_iff_ne]; omega
    clear h h1
    go_enter Try.func14, Try.ntmps14
    go_wp2
    go_ret
    exact ⟨rfl, (Below.refl _ _).alloc (Nat.le_refl _) _⟩

/-- The first k of 32 bytes, the rest zeros. -/
def tkRow (t : List UInt8) (k : Nat) : List UInt8 := t.take k ++ List.replicate (32 - k) 0
theorem tkRow_length (t : List UInt8) (k : Nat) (ht : t.length = 32) (h : k ≤ 32) : (tkRow t k).length = 32 := by
  rw [tkRow, List.length_append, List.length_take, List.length_replicate, ht]
  omega
theorem tkRow_zero (t : List UInt8) : tkRow t 0 = zero32 := rfl
theorem tkRow_all (t : List UInt8) (ht : t.length = 32) : tkRow t 32 = t := by
  unfold tkRow
  rw [List.take_of_length_le (by omega)]
  simp
theorem tkRow_step (t : List UInt8) (k : Nat) (ht : t.length = 32) (hk : k < 32) : (tkRow t k).set k (t.getD k 0) = tkRow t (k + 1) := by
  have hl : (t.take k).length = k := by rw [List.length_take]; omega
  have hr : List.replicate (32 - k) (0 : UInt8) = 0 :: List.replicate (32 - (k + 1)) 0 := by rw [show 32 - k = (32 - (k + 1)) + 1 by omega, List.replicate_succ]
  have ht2 : t.take (k + 1) = t.take k ++ [t.getD k 0] := by
    rw [List.take_succ_eq_append_getElem (by omega)]
    simp [List.getD, ht, hk]
  unfold tkRow
  rw [List.set_append_right _ _ (by omega), hl, Nat.sub_self, hr, List.set_cons_zero, ht2, List.append_assoc]
  rfl
theorem str_neL {S T : ByteArray} (h : ¬ S = T) : ¬ S.toList = T.toList := fun e => by
  rw [ByteArray.toList_eq, ByteArray.toList_eq] at e
  exact h (ByteArray.ext (Array.toList_inj.1 e))
theorem str_inj (x y : List UInt8) : ((⟨x.toArray⟩ : ByteArray) = ⟨y.toArray⟩) ↔ x = y := ⟨fun e => List.toArray_inj (by injection e), fun e => by rw [e]⟩

set_option maxRecDepth 100000 in
set_option maxHeartbeats 4000000 in
theorem ris_good (w : World) (P S : Option Addr) (pc sc : Nat) (p s d : List UInt8) (hd : d.length = 32) (hp8 : Holds8 w.heap.size w P p) (hs8 : Holds8 w.heap.size w S s) (hp : p.length = 32) (hs : s.length = 64) :
    Calls Try.prog 14 #[.slice P 32 pc, .slice S 64 sc, .agg (arr8 d)] w fun e w' => e = .returned (.bool (isB p s d)) ∧ Below w.heap.size w w' := by
  obtain ⟨sb, so, hSe⟩ : ∃ b off, S = some ⟨b, off, none⟩ := by
    rcases hs8 with ⟨_, e⟩ | ⟨b, off, e, _⟩
    · rw [e] at hs; cases hs
    · exact ⟨b, off, e⟩
  subst hSe
  obtain ⟨T, hT⟩ : ∃ T, s.take 32 = T := ⟨_, rfl⟩
  have hTl : T.length = 32 := by rw [← hT, List.length_take, hs]; rfl
  have hTg : ∀ k, k < 32 → s.getD k 0 = T.getD k 0 := fun k hk => by rw [← hT]; simp [List.getD, List.getElem?_take, hk]
  have hsT : s = T ++ s.drop 32 := by rw [← hT, List.take_append_drop]
  obtain ⟨KH, hK0⟩ : ∃ KH, sha T = KH := ⟨_, rfl⟩
  obtain ⟨D, hD0⟩ : ∃ D, sha (T ++ d) = D := ⟨_, rfl⟩
  have hKl : KH.length = 32 := by rw [← hK0]; exact hashOf_length _
  have hDl : D.length = 32 := by rw [← hD0]; exact hashOf_length _
  have hib : isB p s d = (decide (KH = p) && decide (D = s.drop 32)) := by
    unfold isB
    rw [hT, hK0, hD0, hp, hs]
    simp
  rw [hib]
  have HS8 : Hid (∀ W, Below w.heap.size w W → Holds8 W.heap.size W (some ⟨sb, so, none⟩) s) := Lib.hid fun W hb => (hs8.below hb (Nat.le_refl _)).more hb.size
  have HP8 : Hid (∀ W, Below w.heap.size w W → Holds8 W.heap.size W P p) := Lib.hid fun W hb => (hp8.below hb (Nat.le_refl _)).more hb.size
  have CP : Hid (∀ W, Calls Try.prog 11 #[.agg (arr8 T)] W fun e w' => e = .returned (.agg (arr8 KH)) ∧ Below W.heap.size W w') :=
    Lib.hid fun W => by have h := rpublic_any W T hTl; rw [hK0] at h; exact h
  have CS : Hid (∀ W, Calls Try.prog 12 #[.agg (arr8 T), .agg (arr8 d)] W (OwnBytes W (T ++ D))) :=
    Lib.hid fun W => by have h := rsign_any W T d hTl hd; rw [hD0] at h; exact h
  have HT := Lib.hid hTl
  have HKl := Lib.hid hKl
  have HD := Lib.hid hDl
  have HTG := Lib.hid hTg
  have HST := Lib.hid hsT
  have Hs := Lib.hid hs
  have Hp := Lib.hid hp
  have Hd := Lib.hid hd
  have HK2 := Lib.hid (((Keeps.nil w).new (arr8 d) 23).new (arr8 (tkRow T 0)) 23)
  rw [List.nil_append, World.size_alloc] at HK2
  clear hs hp hd hTl hKl hDl hTg hsT hT hK0 hD0 hib hp8 hs8
  go_enter Try.func14, Try.ntmps14
  go_wp2_with (refine wpList_alloc rfl 23 rfl (z := arr8 zero32) (by kernel_rfl) ?_; try simp only [World.size_alloc])
  have HK3 : Hid (Keeps w [(w.heap.size, arr8 d, 23), (w.heap.size + 1, arr8 (tkRow T 0), 23)] ((w.alloc (.cells (arr8 d) 23)).alloc (.cells (arr8 zero32) 23))) := HK2
  clear HK2
  go_loopw [8] (fun i wr => ∃ k : Nat, k ≤ 32 ∧ i = .int .i64 (k : Int) ∧ Keeps w [(w.heap.size, arr8 d, 23), (w.heap.size + 1, arr8 (tkRow T k), 23)] wr) (fun i _ => 32 - (RowKit.intOf i).toNat)
  case atStart => exact ⟨0, Nat.zero_le _, rfl, HK3.out⟩
  case round =>
    clear HK3
    obtain ⟨k, hk, rfl, hK⟩ := hrel
    by_cases hlt : k < 32
    · have h8 : wr.cell? ⟨sb, so + k, none⟩ = some (.int .u8 (((T.getD k 0).toNat : Nat) : Int)) := by
        rcases HS8.out wr hK.bel with ⟨e, _⟩ | ⟨b, off, e, _, hc⟩
        · cases e
        · cases e
          rw [hc k (by rw [Hs.out]; omega), ← HTG.out k hlt]
          simp [List.getD, Hs.out, show k < 64 by omega]
      have hc := hK.cell 1 rfl k
      have hf := hK.frozen 1 rfl k
      rw [arr8_get _ _ (by rw [tkRow_length _ _ HT.out hk]; exact hlt)] at hc
      have HSTEP := Lib.hid (tkRow_step T k HT.out hlt)
      generalize T.getD k 0 = x at *
      have k64 : (k : Int) < 64 := by omega
      have k32 : (k : Int) < 32 := by omega
      go_wp2
      go_roundw
      case rel =>
        refine ⟨k + 1, by omega, by go_num, ?_⟩
        have h := hK.setc 1 rfl k (.int .u8 ((x.toNat : Nat) : Int))
        rw [arr8_set, HSTEP.out] at h
        exact h
      case measure => simp [RowKit.intOf]; omega
    · have h32 : k = 32 := by omega
      have hKT : Keeps w [(w.heap.size, arr8 d, 23), (w.heap.size + 1, arr8 T, 23)] wr := by
        rw [h32, tkRow_all T HT.out] at hK; exact hK
      clear hK h32
      go_wp2_with (first | (refine wpList_load_row rfl 23 (.tmp 7) rfl (w.heap.size + 1) rfl 23 _ (0, 0) _ (hKT.get 1 rfl) Try.underlying23 rfl (infoH _ HT.out) ?_) | (go_at_call 11; (with_reducible refine (CP.out _).mono ?_); rintro e W1 ⟨rfl, hb1⟩; have hK1 := hKT.call hb1; clear hb1 hKT) | (refine wpList_alloc rfl 23 rfl (z := arr8 zero32) (by kernel_rfl) ?_; try simp only [World.size_alloc]) | (refine wpList_fillR hK1 rfl 23 (.tmp 9) (.tmp 29) rfl rfl rfl (infoH _ HKl.out) (size_same rfl HKl.out) (one8x _) ?_; intro W2 hK2 hb2; clear hK1 hb2))
      go_frame
      generalize hb9 : W1.heap.size = B9 at *
      have HI0 := Lib.hid hK2
      obtain ⟨KS, hKS⟩ : ∃ x : ByteArray, x = ⟨KH.toArray⟩ := ⟨_, rfl⟩
      obtain ⟨PS, hPS⟩ : ∃ x : ByteArray, x = ⟨p.toArray⟩ := ⟨_, rfl⟩
      obtain ⟨SS, hSS⟩ : ∃ x : ByteArray, x = ⟨s.toArray⟩ := ⟨_, rfl⟩
      obtain ⟨DS, hDS⟩ : ∃ x : ByteArray, x = ⟨(T ++ D).toArray⟩ := ⟨_, rfl⟩
      have hkp : KS = PS ↔ KH = p := by rw [hKS, hPS, str_inj]
      have hds : DS = SS ↔ D = s.drop 32 := by
        rw [hDS, hSS, str_inj]
        exact ⟨fun e => by rw [HST.out] at e; exact List.append_cancel_left e, fun e => by rw [HST.out, e]⟩
      have HKS := Lib.hid hKS
      have HPS := Lib.hid hPS
      have HSS := Lib.hid hSS
      have HDS := Lib.hid hDS
      clear hKS hPS hSS hDS hK2 hlt hk
      by_cases hkp2 : KH = p
      · have HBK : Hid (KH = p) := Lib.hid hkp2
        replace hkp := hkp.2 hkp2
        clear hkp2
        by_cases hds2 : D = s.drop 32
        · have HB := Lib.hid (show (decide (KH = p) && decide (D = s.drop 32)) = true by rw [decide_eq_true HBK.out, decide_eq_true hds2]; rfl)
          replace hds := hds.2 hds2
          clear hds2
          refine wp_region_phased 44 rfl (fun _ _ W W' => Below W.heap.size W W') (fun p W1 => Keeps w [(w.heap.size, arr8 d, 23), ((w.heap.size + 1), arr8 T, 23), (B9, arr8 KH, 23)] W1) [.is (.slice (some ⟨B9, 0, none⟩) 32 32), .is (.string KS), .is (.slice P 32 pc), .is (.string PS), .is (.bool true), .is (.bool true), .is (.agg (arr8 T)), .is (.agg (arr8 d)), ⟨0, 1000, fun v W => ∃ X c, v = .slice X 64 c ∧ Holds8 W.heap.size W X (T ++ D), fun k d v W W' hk hd h hr => by obtain ⟨X, c, e, h2⟩ := h; exact ⟨X, c, e, h2.later hr⟩⟩, .is (.string DS), .is (.slice (some ⟨sb, so, none⟩) 64 sc), .is (.string SS), .is (.bool true), .is (.bool true), .is (.bool true)] [] [0, 0, 0, 0, 0, 0, 0, 0, 0, 0, 0, 0, 0, 0, 0] [0, 0, 0, 0, 0, 0, 0, 0, 0, 0, 0, 0, 0, 0, 0] (by kernel_rfl) (by kernel_rfl) (by kernel_rfl) (fun _ _ W => Below.refl _ W) (HI0.out.drew) ⟨?oa0, ?oa1, ?oa2, ?oa3, ?oa4, ?oa5, ?oa6, ?oa7, ?oa8, ?oa9, ?oa10, ?oa11, ?oa12, ?oa13, ?oa14, trivial⟩ ?oaend
          case oa0 => as_aux_lemma =>
            intro p vals W1 F hF hlo hhi hI hd
            have hp : p = 0 := Nat.le_antisymm hhi hlo
            subst hp
            clear hlo hhi
            have E9 : F.eval (.tmp 9) = .pointer (some ⟨B9, 0, none⟩) := hF.out_ (by kernel_rfl) rfl
            refine .inr ⟨wanted_none rfl, .inl ⟨.slice (some ⟨B9, 0, none⟩) 32 32, ?_, hI, TyP.of_is rfl⟩⟩
            have Ec : ∀ v, F.eval (.const v) = v := fun _ => rfl; have Ef : ∀ f, F.eval (.func f) = .func (.func f) #[] #[] := fun _ => rfl; clear hF hd; generalize F.eval = ρ at E9 Ec Ef ⊢
            simp [execOp, go_sem, Ec, E9]
          case oa1 => as_aux_lemma =>
            intro p vals W1 F hF hlo hhi hI hd
            have hp : p = 0 := Nat.le_antisymm hhi hlo
            subst hp
            clear hlo hhi
            have d0 : vals 0 = .slice (some ⟨B9, 0, none⟩) 32 32 := hd ⟨0, .data⟩ (Array.mem_of_getElem? (i := 0) rfl) rfl (show (0 : Nat) ≤ 1000 by decide)
            have E30 := eval_some (hF.own_ 0 rfl rfl (by kernel_rfl) (by decide)); rw [d0] at E30
            refine .inr ⟨wanted_none rfl, ?_⟩
            have hst := str_of (holdsK (k := 2) hI rfl) 32
            refine .inl ⟨.string KS, ?_, hI, TyP.of_is rfl⟩
            have Ec : ∀ v, F.eval (.const v) = v := fun _ => rfl; have Ef : ∀ f, F.eval (.func f) = .func (.func f) #[] #[] := fun _ => rfl; clear hF hd; generalize F.eval = ρ at E30 Ec Ef ⊢
            simp only [execOp, E30]
            rw [HKl.out] at hst
            rw [Sem.run_bind, hst, ← HKS.out]
            rfl
          case oa2 => as_aux_lemma =>
            intro p vals W1 F hF hlo hhi hI hd
            have hp : p = 0 := Nat.le_antisymm hhi hlo
            subst hp
            clear hlo hhi
            have E0 : F.eval (.tmp 0) = .slice P 32 pc := hF.out_ (by kernel_rfl) rfl
            refine .inr ⟨wanted_none rfl, .inl ⟨.slice P 32 pc, ?_, hI, TyP.of_is rfl⟩⟩
            simp only [execOp, E0, Sem.run_pure]
          case oa3 => as_aux_lemma =>
            intro p vals W1 F hF hlo hhi hI hd
            have hp : p = 0 := Nat.le_antisymm hhi hlo
            subst hp
            clear hlo hhi
            have d2 : vals 2 = .slice P 32 pc := hd ⟨2, .data⟩ (Array.mem_of_getElem? (i := 0) rfl) rfl (show (0 : Nat) ≤ 1000 by decide)
            have E32 := eval_some (hF.own_ 2 rfl rfl (by kernel_rfl) (by decide)); rw [d2] at E32
            refine .inr ⟨wanted_none rfl, ?_⟩
            have hst := str_of (HP8.out W1 hI.bel) pc
            refine .inl ⟨.string PS, ?_, hI, TyP.of_is rfl⟩
            have Ec : ∀ v, F.eval (.const v) = v := fun _ => rfl; have Ef : ∀ f, F.eval (.func f) = .func (.func f) #[] #[] := fun _ => rfl; clear hF hd; generalize F.eval = ρ at E32 Ec Ef ⊢
            simp only [execOp, E32]
            rw [Hp.out] at hst
            rw [Sem.run_bind, hst, ← HPS.out]
            rfl
          case oa4 => as_aux_lemma =>
            intro p vals W1 F hF hlo hhi hI hd
            have hp : p = 0 := Nat.le_antisymm hhi hlo
            subst hp
            clear hlo hhi
            have d1 : vals 1 = .string KS := hd ⟨1, .data⟩ (Array.mem_of_getElem? (i := 0) rfl) rfl (show (0 : Nat) ≤ 1000 by decide)
            have d3 : vals 3 = .string PS := hd ⟨3, .data⟩ (Array.mem_of_getElem? (i := 1) rfl) rfl (show (0 : Nat) ≤ 1000 by decide)
            have E31 := eval_some (hF.own_ 1 rfl rfl (by kernel_rfl) (by decide)); rw [d1] at E31
            have E33 := eval_some (hF.own_ 3 rfl rfl (by kernel_rfl) (by decide)); rw [d3] at E33
            refine .inr ⟨wanted_none rfl, .inl ⟨.bool true, ?_, hI, TyP.of_is rfl⟩⟩
            have Ec : ∀ v, F.eval (.const v) = v := fun _ => rfl; have Ef : ∀ f, F.eval (.func f) = .func (.func f) #[] #[] := fun _ => rfl; clear hF hd; generalize F.eval = ρ at E31 E33 Ec Ef ⊢
            simp [execOp, go_sem, Ec, E31, E33, hkp]
          case oa5 => as_aux_lemma =>
            intro p vals W1 F hF hlo hhi hI hd
            have hp : p = 0 := Nat.le_antisymm hhi hlo
            subst hp
            clear hlo hhi
            have d4 : vals 4 = .bool true := hd ⟨4, .data⟩ (Array.mem_of_getElem? (i := 0) rfl) rfl (show (0 : Nat) ≤ 1000 by decide)
            have E34 := eval_some (hF.own_ 4 rfl rfl (by kernel_rfl) (by decide)); rw [d4] at E34
            refine .inr ⟨wanted_none rfl, .inl ⟨.bool true, ?_, hI, TyP.of_is rfl⟩⟩
            simp only [execOp, E34, Sem.run_pure]
          case oa6 => as_aux_lemma =>
            intro p vals W1 F hF hlo hhi hI hd
            have hp : p = 0 := Nat.le_antisymm hhi hlo
            subst hp
            clear hlo hhi
            have d5 : vals 5 = .bool true := hd ⟨5, .guard⟩ (Array.mem_of_getElem? (i := 0) rfl) rfl (show (0 : Nat) ≤ 1000 by decide)
            have E7 : F.eval (.tmp 7) = .pointer (some ⟨w.heap.size + 1, 0, none⟩) := hF.out_ (by kernel_rfl) rfl
            have G := hF.own_ 5 rfl rfl (by kernel_rfl) (by decide); rw [d5] at G
            refine .inr ⟨wanted_yes rfl rfl rfl G, ?_⟩
            have hl := run_loadVar_row (P := Try.prog) W1 (w.heap.size + 1) 23 23 (arr8 T) (0, 0) _ (hI.get 1 rfl) Try.underlying23 rfl (infoH _ HT.out)
            refine .inl ⟨.agg (arr8 T), ?_, hI, TyP.of_is rfl⟩
            have Ec : ∀ v, F.eval (.const v) = v := fun _ => rfl; have Ef : ∀ f, F.eval (.func f) = .func (.func f) #[] #[] := fun _ => rfl; clear hF hd; generalize F.eval = ρ at E7 Ec Ef ⊢
            simp only [execOp, E7, Instr.loadAt, Instr.sureAddr, Sem.run_bind, Sem.run_pure, Result.andThen_ok, hl]
          case oa7 => as_aux_lemma =>
            intro p vals W1 F hF hlo hhi hI hd
            have hp : p = 0 := Nat.le_antisymm hhi hlo
            subst hp
            clear hlo hhi
            have d5 : vals 5 = .bool true := hd ⟨5, .guard⟩ (Array.mem_of_getElem? (i := 0) rfl) rfl (show (0 : Nat) ≤ 1000 by decide)
            have E5 : F.eval (.tmp 5) = .pointer (some ⟨w.heap.size, 0, none⟩) := hF.out_ (by kernel_rfl) rfl
            have G := hF.own_ 5 rfl rfl (by kernel_rfl) (by decide); rw [d5] at G
            refine .inr ⟨wanted_yes rfl rfl rfl G, ?_⟩
            have hl := run_loadVar_row (P := Try.prog) W1 w.heap.size 23 23 (arr8 d) (0, 0) _ (hI.get 0 rfl) Try.underlying23 rfl (infoH _ Hd.out)
            refine .inl ⟨.agg (arr8 d), ?_, hI, TyP.of_is rfl⟩
            have Ec : ∀ v, F.eval (.const v) = v := fun _ => rfl; have Ef : ∀ f, F.eval (.func f) = .func (.func f) #[] #[] := fun _ => rfl; clear hF hd; generalize F.eval = ρ at E5 Ec Ef ⊢
            simp only [execOp, E5, Instr.loadAt, Instr.sureAddr, Sem.run_bind, Sem.run_pure, Result.andThen_ok, hl]
          case oa8 => as_aux_lemma =>
            intro p vals W1 F hF hlo hhi hI hd
            have hp : p = 0 := Nat.le_antisymm hhi hlo
            subst hp
            clear hlo hhi
            have d5 : vals 5 = .bool true := hd ⟨5, .chain⟩ (Array.mem_of_getElem? (i := 2) rfl) rfl (show (0 : Nat) ≤ 1000 by decide)
            have d6 : vals 6 = .agg (arr8 T) := hd ⟨6, .data⟩ (Array.mem_of_getElem? (i := 0) rfl) rfl (show (0 : Nat) ≤ 1000 by decide)
            have d7 : vals 7 = .agg (arr8 d) := hd ⟨7, .data⟩ (Array.mem_of_getElem? (i := 1) rfl) rfl (show (0 : Nat) ≤ 1000 by decide)
            have E36 := eval_some (hF.own_ 6 rfl rfl (by kernel_rfl) (by decide)); rw [d6] at E36
            have E37 := eval_some (hF.own_ 7 rfl rfl (by kernel_rfl) (by decide)); rw [d7] at E37
            have G := hF.own_ 5 rfl rfl (by kernel_rfl) (by decide); rw [d5] at G
            refine .inr ⟨wanted_yes rfl rfl rfl G, ?_⟩
            refine .inr (.inr (.inl ⟨12, #[.agg (arr8 T), .agg (arr8 d)], ?_, (CS.out W1).mono ?_⟩))
            · have Ec : ∀ v, F.eval (.const v) = v := fun _ => rfl; have Ef : ∀ f, F.eval (.func f) = .func (.func f) #[] #[] := fun _ => rfl; clear hF hd; generalize F.eval = ρ at E36 E37 Ec Ef ⊢
              simp [execOp, go_sem, Ec, Ef, E36, E37]
            rintro e W2 ⟨v, rfl, hown, hb⟩
            obtain ⟨X, c, hv, hX, _⟩ := own_open hown
            rw [List.length_append, HT.out, HD.out] at hv
            exact ⟨_, rfl, hb, hI.call hb, X, c, hv, hX⟩
          case oa9 => as_aux_lemma =>
            intro p vals W1 F hF hlo hhi hI hd
            have hp : p = 0 := Nat.le_antisymm hhi hlo
            subst hp
            clear hlo hhi
            have d5 : vals 5 = .bool true := hd ⟨5, .guard⟩ (Array.mem_of_getElem? (i := 1) rfl) rfl (show (0 : Nat) ≤ 1000 by decide)
            obtain ⟨X8, c8, hspec8, hh8⟩ := hd ⟨8, .data⟩ (Array.mem_of_getElem? (i := 0) rfl) rfl (show (0 : Nat) ≤ 1000 by decide)
            have d8 : vals 8 = .slice X8 64 c8 := hspec8
            have E38 := eval_some (hF.own_ 8 rfl rfl (by kernel_rfl) (by decide)); rw [d8] at E38
            have G := hF.own_ 5 rfl rfl (by kernel_rfl) (by decide); rw [d5] at G
            refine .inr ⟨wanted_yes rfl rfl rfl G, ?_⟩
            have hst := str_of (hh8) c8
            refine .inl ⟨.string DS, ?_, hI, TyP.of_is rfl⟩
            have Ec : ∀ v, F.eval (.const v) = v := fun _ => rfl; have Ef : ∀ f, F.eval (.func f) = .func (.func f) #[] #[] := fun _ => rfl; clear hF hd; generalize F.eval = ρ at E38 Ec Ef ⊢
            simp only [execOp, E38]
            rw [show (T ++ D).length = 64 by rw [List.length_append, HT.out, HD.out]] at hst
            rw [Sem.run_bind, hst, ← HDS.out]
            rfl
          case oa10 => as_aux_lemma =>
            intro p vals W1 F hF hlo hhi hI hd
            have hp : p = 0 := Nat.le_antisymm hhi hlo
            subst hp
            clear hlo hhi
            have d5 : vals 5 = .bool true := hd ⟨5, .guard⟩ (Array.mem_of_getElem? (i := 0) rfl) rfl (show (0 : Nat) ≤ 1000 by decide)
            have E1 : F.eval (.tmp 1) = .slice (some ⟨sb, so, none⟩) 64 sc := hF.out_ (by kernel_rfl) rfl
            have G := hF.own_ 5 rfl rfl (by kernel_rfl) (by decide); rw [d5] at G
            refine .inr ⟨wanted_yes rfl rfl rfl G, .inl ⟨.slice (some ⟨sb, so, none⟩) 64 sc, ?_, hI, TyP.of_is rfl⟩⟩
            simp only [execOp, E1, Sem.run_pure]
          case oa11 => as_aux_lemma =>
            intro p vals W1 F hF hlo hhi hI hd
            have hp : p = 0 := Nat.le_antisymm hhi hlo
            subst hp
            clear hlo hhi
            have d5 : vals 5 = .bool true := hd ⟨5, .guard⟩ (Array.mem_of_getElem? (i := 1) rfl) rfl (show (0 : Nat) ≤ 1000 by decide)
            have d10 : vals 10 = .slice (some ⟨sb, so, none⟩) 64 sc := hd ⟨10, .data⟩ (Array.mem_of_getElem? (i := 0) rfl) rfl (show (0 : Nat) ≤ 1000 by decide)
            have E40 := eval_some (hF.own_ 10 rfl rfl (by kernel_rfl) (by decide)); rw [d10] at E40
            have G := hF.own_ 5 rfl rfl (by kernel_rfl) (by decide); rw [d5] at G
            refine .inr ⟨wanted_yes rfl rfl rfl G, ?_⟩
            have hst := str_of (HS8.out W1 hI.bel) sc
            refine .inl ⟨.string SS, ?_, hI, TyP.of_is rfl⟩
            have Ec : ∀ v, F.eval (.const v) = v := fun _ => rfl; have Ef : ∀ f, F.eval (.func f) = .func (.func f) #[] #[] := fun _ => rfl; clear hF hd; generalize F.eval = ρ at E40 Ec Ef ⊢
            simp only [execOp, E40]
            rw [Hs.out] at hst
            rw [Sem.run_bind, hst, ← HSS.out]
            rfl
          case oa12 => as_aux_lemma =>
            intro p vals W1 F hF hlo hhi hI hd
            have hp : p = 0 := Nat.le_antisymm hhi hlo
            subst hp
            clear hlo hhi
            have d5 : vals 5 = .bool true := hd ⟨5, .guard⟩ (Array.mem_of_getElem? (i := 2) rfl) rfl (show (0 : Nat) ≤ 1000 by decide)
            have d9 : vals 9 = .string DS := hd ⟨9, .data⟩ (Array.mem_of_getElem? (i := 0) rfl) rfl (show (0 : Nat) ≤ 1000 by decide)
            have d11 : vals 11 = .string SS := hd ⟨11, .data⟩ (Array.mem_of_getElem? (i := 1) rfl) rfl (show (0 : Nat) ≤ 1000 by decide)
            have E39 := eval_some (hF.own_ 9 rfl rfl (by kernel_rfl) (by decide)); rw [d9] at E39
            have E41 := eval_some (hF.own_ 11 rfl rfl (by kernel_rfl) (by decide)); rw [d11] at E41
            have G := hF.own_ 5 rfl rfl (by kernel_rfl) (by decide); rw [d5] at G
            refine .inr ⟨wanted_yes rfl rfl rfl G, .inl ⟨.bool true, ?_, hI, TyP.of_is rfl⟩⟩
            have Ec : ∀ v, F.eval (.const v) = v := fun _ => rfl; have Ef : ∀ f, F.eval (.func f) = .func (.func f) #[] #[] := fun _ => rfl; clear hF hd; generalize F.eval = ρ at E39 E41 Ec Ef ⊢
            simp [execOp, go_sem, Ec, E39, E41, hds]
          case oa13 => as_aux_lemma =>
            intro p vals W1 F hF hlo hhi hI hd
            have hp : p = 0 := Nat.le_antisymm hhi hlo
            subst hp
            clear hlo hhi
            have d5 : vals 5 = .bool true := hd ⟨5, .data⟩ (Array.mem_of_getElem? (i := 0) rfl) rfl (show (0 : Nat) ≤ 1000 by decide)
            have d12 : vals 12 = .bool true := hd ⟨12, .data⟩ (Array.mem_of_getElem? (i := 1) rfl) rfl (show (0 : Nat) ≤ 1000 by decide)
            have E35 := eval_some (hF.own_ 5 rfl rfl (by kernel_rfl) (by decide)); rw [d5] at E35
            have E42 := eval_some (hF.own_ 12 rfl rfl (by kernel_rfl) (by decide)); rw [d12] at E42
            refine .inr ⟨wanted_none rfl, .inl ⟨.bool true, ?_, hI, TyP.of_is rfl⟩⟩
            have Ec : ∀ v, F.eval (.const v) = v := fun _ => rfl; have Ef : ∀ f, F.eval (.func f) = .func (.func f) #[] #[] := fun _ => rfl; clear hF hd; generalize F.eval = ρ at E35 E42 Ec Ef ⊢
            simp [execOp, go_sem, Ec, E35, E42]
          case oa14 => as_aux_lemma =>
            intro p vals W1 F hF hlo hhi hI hd
            have hp : p = 0 := Nat.le_antisymm hhi hlo
            subst hp
            clear hlo hhi
            have d13 : vals 13 = .bool true := hd ⟨13, .data⟩ (Array.mem_of_getElem? (i := 0) rfl) rfl (show (0 : Nat) ≤ 1000 by decide)
            have E43 := eval_some (hF.own_ 13 rfl rfl (by kernel_rfl) (by decide)); rw [d13] at E43
            refine .inr ⟨wanted_none rfl, .inl ⟨.bool true, ?_, hI, TyP.of_is rfl⟩⟩
            simp only [execOp, E43, Sem.run_pure]
          case oaend =>
            intro vals W1 F hF hdef hI hT
            have hv : vals 14 = .bool true := hT 14 (by decide) (show (0 : Nat) ≤ 1000 by decide)
            rename_i K hK9
            refine hK9 _ _ ?_
            rw [hF.act]
            simp only [fin, Act.put, List.setIfInBounds_toArray, List.set_cons_succ, List.set_cons_zero]
            rw [hv]
            clear hF hT hv
            go_wp2
            go_ret
            exact ⟨by rw [HB.out]; rfl, hI.bel⟩
        · have HB := Lib.hid (show (decide (KH = p) && decide (D = s.drop 32)) = false by rw [decide_eq_false hds2, Bool.and_false])
          replace hds : ¬ DS.toList = SS.toList := str_neL fun e => hds2 (hds.1 e)
          clear hds2
          refine wp_region_phased 44 rfl (fun _ _ W W' => Below W.heap.size W W') (fun p W1 => Keeps w [(w.heap.size, arr8 d, 23), ((w.heap.size + 1), arr8 T, 23), (B9, arr8 KH, 23)] W1) [.is (.slice (some ⟨B9, 0, none⟩) 32 32), .is (.string KS), .is (.slice P 32 pc), .is (.string PS), .is (.bool true), .is (.bool true), .is (.agg (arr8 T)), .is (.agg (arr8 d)), ⟨0, 1000, fun v W => ∃ X c, v = .slice X 64 c ∧ Holds8 W.heap.size W X (T ++ D), fun k d v W W' hk hd h hr => by obtain ⟨X, c, e, h2⟩ := h; exact ⟨X, c, e, h2.later hr⟩⟩, .is (.string DS), .is (.slice (some ⟨sb, so, none⟩) 64 sc), .is (.string SS), .is (.bool false), .is (.bool false), .is (.bool false)] [] [0, 0, 0, 0, 0, 0, 0, 0, 0, 0, 0, 0, 0, 0, 0] [0, 0, 0, 0, 0, 0, 0, 0, 0, 0, 0, 0, 0, 0, 0] (by kernel_rfl) (by kernel_rfl) (by kernel_rfl) (fun _ _ W => Below.refl _ W) (HI0.out.drew) ⟨?ob0, ?ob1, ?ob2, ?ob3, ?ob4, ?ob5, ?ob6, ?ob7, ?ob8, ?ob9, ?ob10, ?ob11, ?ob12, ?ob13, ?ob14, trivial⟩ ?obend
          case ob0 => as_aux_lemma =>
            intro p vals W1 F hF hlo hhi hI hd
            have hp : p = 0 := Nat.le_antisymm hhi hlo
            subst hp
            clear hlo hhi
            have E9 : F.eval (.tmp 9) = .pointer (some ⟨B9, 0, none⟩) := hF.out_ (by kernel_rfl) rfl
            refine .inr ⟨wanted_none rfl, .inl ⟨.slice (some ⟨B9, 0, none⟩) 32 32, ?_, hI, TyP.of_is rfl⟩⟩
            have Ec : ∀ v, F.eval (.const v) = v := fun _ => rfl; have Ef : ∀ f, F.eval (.func f) = .func (.func f) #[] #[] := fun _ => rfl; clear hF hd; generalize F.eval = ρ at E9 Ec Ef ⊢
            simp [execOp, go_sem, Ec, E9]
          case ob1 => as_aux_lemma =>
            intro p vals W1 F hF hlo hhi hI hd
            have hp : p = 0 := Nat.le_antisymm hhi hlo
            subst hp
            clear hlo hhi
            have d0 : vals 0 = .slice (some ⟨B9, 0, none⟩) 32 32 := hd ⟨0, .data⟩ (Array.mem_of_getElem? (i := 0) rfl) rfl (show (0 : Nat) ≤ 1000 by decide)
            have E30 := eval_some (hF.own_ 0 rfl rfl (by kernel_rfl) (by decide)); rw [d0] at E30
            refine .inr ⟨wanted_none rfl, ?_⟩
            have hst := str_of (holdsK (k := 2) hI rfl) 32
            refine .inl ⟨.string KS, ?_, hI, TyP.of_is rfl⟩
            have Ec : ∀ v, F.eval (.const v) = v := fun _ => rfl; have Ef : ∀ f, F.eval (.func f) = .func (.func f) #[] #[] := fun _ => rfl; clear hF hd; generalize F.eval = ρ at E30 Ec Ef ⊢
            simp only [execOp, E30]
            rw [HKl.out] at hst
            rw [Sem.run_bind, hst, ← HKS.out]
            rfl
          case ob2 => as_aux_lemma =>
            intro p vals W1 F hF hlo hhi hI hd
            have hp : p = 0 := Nat.le_antisymm hhi hlo
            subst hp
            clear hlo hhi
            have E0 : F.eval (.tmp 0) = .slice P 32 pc := hF.out_ (by kernel_rfl) rfl
            refine .inr ⟨wanted_none rfl, .inl ⟨.slice P 32 pc, ?_, hI, TyP.of_is rfl⟩⟩
            simp only [execOp, E0, Sem.run_pure]
          case ob3 => as_aux_lemma =>
            intro p vals W1 F hF hlo hhi hI hd
            have hp : p = 0 := Nat.le_antisymm hhi hlo
            subst hp
            clear hlo hhi
            have d2 : vals 2 = .slice P 32 pc := hd ⟨2, .data⟩ (Array.mem_of_getElem? (i := 0) rfl) rfl (show (0 : Nat) ≤ 1000 by decide)
            have E32 := eval_some (hF.own_ 2 rfl rfl (by kernel_rfl) (by decide)); rw [d2] at E32
            refine .inr ⟨wanted_none rfl, ?_⟩
            have hst := str_of (HP8.out W1 hI.bel) pc
            refine .inl ⟨.string PS, ?_, hI, TyP.of_is rfl⟩
            have Ec : ∀ v, F.eval (.const v) = v := fun _ => rfl; have Ef : ∀ f, F.eval (.func f) = .func (.func f) #[] #[] := fun _ => rfl; clear hF hd; generalize F.eval = ρ at E32 Ec Ef ⊢
            simp only [execOp, E32]
            rw [Hp.out] at hst
            rw [Sem.run_bind, hst, ← HPS.out]
            rfl
          case ob4 => as_aux_lemma =>
            intro p vals W1 F hF hlo hhi hI hd
            have hp : p = 0 := Nat.le_antisymm hhi hlo
            subst hp
            clear hlo hhi
            have d1 : vals 1 = .string KS := hd ⟨1, .data⟩ (Array.mem_of_getElem? (i := 0) rfl) rfl (show (0 : Nat) ≤ 1000 by decide)
            have d3 : vals 3 = .string PS := hd ⟨3, .data⟩ (Array.mem_of_getElem? (i := 1) rfl) rfl (show (0 : Nat) ≤ 1000 by decide)
            have E31 := eval_some (hF.own_ 1 rfl rfl (by kernel_rfl) (by decide)); rw [d1] at E31
            have E33 := eval_some (hF.own_ 3 rfl rfl (by kernel_rfl) (by decide)); rw [d3] at E33
            refine .inr ⟨wanted_none rfl, .inl ⟨.bool true, ?_, hI, TyP.of_is rfl⟩⟩
            have Ec : ∀ v, F.eval (.const v) = v := fun _ => rfl; have Ef : ∀ f, F.eval (.func f) = .func (.func f) #[] #[] := fun _ => rfl; clear hF hd; generalize F.eval = ρ at E31 E33 Ec Ef ⊢
            simp [execOp, go_sem, Ec, E31, E33, hkp]
          case ob5 => as_aux_lemma =>
            intro p vals W1 F hF hlo hhi hI hd
            have hp : p = 0 := Nat.le_antisymm hhi hlo
            subst hp
            clear hlo hhi
            have d4 : vals 4 = .bool true := hd ⟨4, .data⟩ (Array.mem_of_getElem? (i := 0) rfl) rfl (show (0 : Nat) ≤ 1000 by decide)
            have E34 := eval_some (hF.own_ 4 rfl rfl (by kernel_rfl) (by decide)); rw [d4] at E34
            refine .inr ⟨wanted_none rfl, .inl ⟨.bool true, ?_, hI, TyP.of_is rfl⟩⟩
            simp only [execOp, E34, Sem.run_pure]
          case ob6 => as_aux_lemma =>
            intro p vals W1 F hF hlo hhi hI hd
            have hp : p = 0 := Nat.le_antisymm hhi hlo
            subst hp
            clear hlo hhi
            have d5 : vals 5 = .bool true := hd ⟨5, .guard⟩ (Array.mem_of_getElem? (i := 0) rfl) rfl (show (0 : Nat) ≤ 1000 by decide)
            have E7 : F.eval (.tmp 7) = .pointer (some ⟨w.heap.size + 1, 0, none⟩) := hF.out_ (by kernel_rfl) rfl
            have G := hF.own_ 5 rfl rfl (by kernel_rfl) (by decide); rw [d5] at G
            refine .inr ⟨wanted_yes rfl rfl rfl G, ?_⟩
            have hl := run_loadVar_row (P := Try.prog) W1 (w.heap.size + 1) 23 23 (arr8 T) (0, 0) _ (hI.get 1 rfl) Try.underlying23 rfl (infoH _ HT.out)
            refine .inl ⟨.agg (arr8 T), ?_, hI, TyP.of_is rfl⟩
            have Ec : ∀ v, F.eval (.const v) = v := fun _ => rfl; have Ef : ∀ f, F.eval (.func f) = .func (.func f) #[] #[] := fun _ => rfl; clear hF hd; generalize F.eval = ρ at E7 Ec Ef ⊢
            simp only [execOp, E7, Instr.loadAt, Instr.sureAddr, Sem.run_bind, Sem.run_pure, Result.andThen_ok, hl]
          case ob7 => as_aux_lemma =>
            intro p vals W1 F hF hlo hhi hI hd
            have hp : p = 0 := Nat.le_antisymm hhi hlo
            subst hp
            clear hlo hhi
            have d5 : vals 5 = .bool true := hd ⟨5, .guard⟩ (Array.mem_of_getElem? (i := 0) rfl) rfl (show (0 : Nat) ≤ 1000 by decide)
            have E5 : F.eval (.tmp 5) = .pointer (some ⟨w.heap.size, 0, none⟩) := hF.out_ (by kernel_rfl) rfl
            have G := hF.own_ 5 rfl rfl (by kernel_rfl) (by decide); rw [d5] at G
            refine .inr ⟨wanted_yes rfl rfl rfl G, ?_⟩
            have hl := run_loadVar_row (P := Try.prog) W1 w.heap.size 23 23 (arr8 d) (0, 0) _ (hI.get 0 rfl) Try.underlying23 rfl (infoH _ Hd.out)
            refine .inl ⟨.agg (arr8 d), ?_, hI, TyP.of_is rfl⟩
            have Ec : ∀ v, F.eval (.const v) = v := fun _ => rfl; have Ef : ∀ f, F.eval (.func f) = .func (.func f) #[] #[] := fun _ => rfl; clear hF hd; generalize F.eval = ρ at E5 Ec Ef ⊢
            simp only [execOp, E5, Instr.loadAt, Instr.sureAddr, Sem.run_bind, Sem.run_pure, Result.andThen_ok, hl]
          case ob8 => as_aux_lemma =>
            intro p vals W1 F hF hlo hhi hI hd
            have hp : p = 0 := Nat.le_antisymm hhi hlo
            subst hp
            clear hlo hhi
            have d5 : vals 5 = .bool true := hd ⟨5, .chain⟩ (Array.mem_of_getElem? (i := 2) rfl) rfl (show (0 : Nat) ≤ 1000 by decide)
            have d6 : vals 6 = .agg (arr8 T) := hd ⟨6, .data⟩ (Array.mem_of_getElem? (i := 0) rfl) rfl (show (0 : Nat) ≤ 1000 by decide)
            have d7 : vals 7 = .agg (arr8 d) := hd ⟨7, .data⟩ (Array.mem_of_getElem? (i := 1) rfl) rfl (show (0 : Nat) ≤ 1000 by decide)
            have E36 := eval_some (hF.own_ 6 rfl rfl (by kernel_rfl) (by decide)); rw [d6] at E36
            have E37 := eval_some (hF.own_ 7 rfl rfl (by kernel_rfl) (by decide)); rw [d7] at E37
            have G := hF.own_ 5 rfl rfl (by kernel_rfl) (by decide); rw [d5] at G
            refine .inr ⟨wanted_yes rfl rfl rfl G, ?_⟩
            refine .inr (.inr (.inl ⟨12, #[.agg (arr8 T), .agg (arr8 d)], ?_, (CS.out W1).mono ?_⟩))
            · have Ec : ∀ v, F.eval (.const v) = v := fun _ => rfl; have Ef : ∀ f, F.eval (.func f) = .func (.func f) #[] #[] := fun _ => rfl; clear hF hd; generalize F.eval = ρ at E36 E37 Ec Ef ⊢
              simp [execOp, go_sem, Ec, Ef, E36, E37]
            rintro e W2 ⟨v, rfl, hown, hb⟩
            obtain ⟨X, c, hv, hX, _⟩ := own_open hown
            rw [List.length_append, HT.out, HD.out] at hv
            exact ⟨_, rfl, hb, hI.call hb, X, c, hv, hX⟩
          case ob9 => as_aux_lemma =>
            intro p vals W1 F hF hlo hhi hI hd
            have hp : p = 0 := Nat.le_antisymm hhi hlo
            subst hp
            clear hlo hhi
            have d5 : vals 5 = .bool true := hd ⟨5, .guard⟩ (Array.mem_of_getElem? (i := 1) rfl) rfl (show (0 : Nat) ≤ 1000 by decide)
            obtain ⟨X8, c8, hspec8, hh8⟩ := hd ⟨8, .data⟩ (Array.mem_of_getElem? (i := 0) rfl) rfl (show (0 : Nat) ≤ 1000 by decide)
            have d8 : vals 8 = .slice X8 64 c8 := hspec8
            have E38 := eval_some (hF.own_ 8 rfl rfl (by kernel_rfl) (by decide)); rw [d8] at E38
            have G := hF.own_ 5 rfl rfl (by kernel_rfl) (by decide); rw [d5] at G
            refine .inr ⟨wanted_yes rfl rfl rfl G, ?_⟩
            have hst := str_of (hh8) c8
            refine .inl ⟨.string DS, ?_, hI, TyP.of_is rfl⟩
            have Ec : ∀ v, F.eval (.const v) = v := fun _ => rfl; have Ef : ∀ f, F.eval (.func f) = .func (.func f) #[] #[] := fun _ => rfl; clear hF hd; generalize F.eval = ρ at E38 Ec Ef ⊢
            simp only [execOp, E38]
            rw [show (T ++ D).length = 64 by rw [List.length_append, HT.out, HD.out]] at hst
            rw [Sem.run_bind, hst, ← HDS.out]
            rfl
          case ob10 => as_aux_lemma =>
            intro p vals W1 F hF hlo hhi hI hd
            have hp : p = 0 := Nat.le_antisymm hhi hlo
            subst hp
            clear hlo hhi
            have d5 : vals 5 = .bool true := hd ⟨5, .guard⟩ (Array.mem_of_getElem? (i := 0) rfl) rfl (show (0 : Nat) ≤ 1000 by decide)
            have E1 : F.eval (.tmp 1) = .slice (some ⟨sb, so, none⟩) 64 sc := hF.out_ (by kernel_rfl) rfl
            have G := hF.own_ 5 rfl rfl (by kernel_rfl) (by decide); rw [d5] at G
            refine .inr ⟨wanted_yes rfl rfl rfl G, .inl ⟨.slice (some ⟨sb, so, none⟩) 64 sc, ?_, hI, TyP.of_is rfl⟩⟩
            simp only [execOp, E1, Sem.run_pure]
          case ob11 => as_aux_lemma =>
            intro p vals W1 F hF hlo hhi hI hd
            have hp : p = 0 := Nat.le_antisymm hhi hlo
            subst hp
            clear hlo hhi
            have d5 : vals 5 = .bool true := hd ⟨5, .guard⟩ (Array.mem_of_getElem? (i := 1) rfl) rfl (show (0 : Nat) ≤ 1000 by decide)
            have d10 : vals 10 = .slice (some ⟨sb, so, none⟩) 64 sc := hd ⟨10, .data⟩ (Array.mem_of_getElem? (i := 0) rfl) rfl (show (0 : Nat) ≤ 1000 by decide)
            have E40 := eval_some (hF.own_ 10 rfl rfl (by kernel_rfl) (by decide)); rw [d10] at E40
            have G := hF.own_ 5 rfl rfl (by kernel_rfl) (by decide); rw [d5] at G
            refine .inr ⟨wanted_yes rfl rfl rfl G, ?_⟩
            have hst := str_of (HS8.out W1 hI.bel) sc
            refine .inl ⟨.string SS, ?_, hI, TyP.of_is rfl⟩
            have Ec : ∀ v, F.eval (.const v) = v := fun _ => rfl; have Ef : ∀ f, F.eval (.func f) = .func (.func f) #[] #[] := fun _ => rfl; clear hF hd; generalize F.eval = ρ at E40 Ec Ef ⊢
            simp only [execOp, E40]
            rw [Hs.out] at hst
            rw [Sem.run_bind, hst, ← HSS.out]
            rfl
          case ob12 => as_aux_lemma =>
            intro p vals W1 F hF hlo hhi hI hd
            have hp : p = 0 := Nat.le_antisymm hhi hlo
            subst hp
            clear hlo hhi
            have d5 : vals 5 = .bool true := hd ⟨5, .guard⟩ (Array.mem_of_getElem? (i := 2) rfl) rfl (show (0 : Nat) ≤ 1000 by decide)
            have d9 : vals 9 = .string DS := hd ⟨9, .data⟩ (Array.mem_of_getElem? (i := 0) rfl) rfl (show (0 : Nat) ≤ 1000 by decide)
            have d11 : vals 11 = .string SS := hd ⟨11, .data⟩ (Array.mem_of_getElem? (i := 1) rfl) rfl (show (0 : Nat) ≤ 1000 by decide)
            have E39 := eval_some (hF.own_ 9 rfl rfl (by kernel_rfl) (by decide)); rw [d9] at E39
            have E41 := eval_some (hF.own_ 11 rfl rfl (by kernel_rfl) (by decide)); rw [d11] at E41
            have G := hF.own_ 5 rfl rfl (by kernel_rfl) (by decide); rw [d5] at G
            refine .inr ⟨wanted_yes rfl rfl rfl G, .inl ⟨.bool false, ?_, hI, TyP.of_is rfl⟩⟩
            have Ec : ∀ v, F.eval (.const v) = v := fun _ => rfl; have Ef : ∀ f, F.eval (.func f) = .func (.func f) #[] #[] := fun _ => rfl; clear hF hd; generalize F.eval = ρ at E39 E41 Ec Ef ⊢
            simp [execOp, go_sem, Ec, E39, E41, hds]
          case ob13 => as_aux_lemma =>
            intro p vals W1 F hF hlo hhi hI hd
            have hp : p = 0 := Nat.le_antisymm hhi hlo
            subst hp
            clear hlo hhi
            have d5 : vals 5 = .bool true := hd ⟨5, .data⟩ (Array.mem_of_getElem? (i := 0) rfl) rfl (show (0 : Nat) ≤ 1000 by decide)
            have d12 : vals 12 = .bool false := hd ⟨12, .data⟩ (Array.mem_of_getElem? (i := 1) rfl) rfl (show (0 : Nat) ≤ 1000 by decide)
            have E35 := eval_some (hF.own_ 5 rfl rfl (by kernel_rfl) (by decide)); rw [d5] at E35
            have E42 := eval_some (hF.own_ 12 rfl rfl (by kernel_rfl) (by decide)); rw [d12] at E42
            refine .inr ⟨wanted_none rfl, .inl ⟨.bool false, ?_, hI, TyP.of_is rfl⟩⟩
            have Ec : ∀ v, F.eval (.const v) = v := fun _ => rfl; have Ef : ∀ f, F.eval (.func f) = .func (.func f) #[] #[] := fun _ => rfl; clear hF hd; generalize F.eval = ρ at E35 E42 Ec Ef ⊢
            simp [execOp, go_sem, Ec, E35, E42]
          case ob14 => as_aux_lemma =>
            intro p vals W1 F hF hlo hhi hI hd
            have hp : p = 0 := Nat.le_antisymm hhi hlo
            subst hp
            clear hlo hhi
            have d13 : vals 13 = .bool false := hd ⟨13, .data⟩ (Array.mem_of_getElem? (i := 0) rfl) rfl (show (0 : Nat) ≤ 1000 by decide)
            have E43 := eval_some (hF.own_ 13 rfl rfl (by kernel_rfl) (by decide)); rw [d13] at E43
            refine .inr ⟨wanted_none rfl, .inl ⟨.bool false, ?_, hI, TyP.of_is rfl⟩⟩
            simp only [execOp, E43, Sem.run_pure]
          case obend =>
            intro vals W1 F hF hdef hI hT
            have hv : vals 14 = .bool false := hT 14 (by decide) (show (0 : Nat) ≤ 1000 by decide)
            rename_i K hK9
            refine hK9 _ _ ?_
            rw [hF.act]
            simp only [fin, Act.put, List.setIfInBounds_toArray, List.set_cons_succ, List.set_cons_zero]
            rw [hv]
            clear hF hT hv
            go_wp2
            go_ret
            exact ⟨by rw [HB.out]; rfl, hI.bel⟩
      · have HB := Lib.hid (show (decide (KH = p) && decide (D = s.drop 32)) = false by rw [decide_eq_false hkp2, Bool.false_and])
        replace hkp : ¬ KS.toList = PS.toList := str_neL fun e => hkp2 (hkp.1 e)
        clear hkp2
        refine wp_region_phased 44 rfl (fun _ _ W W' => Below W.heap.size W W') (fun p W1 => Keeps w [(w.heap.size, arr8 d, 23), ((w.heap.size + 1), arr8 T, 23), (B9, arr8 KH, 23)] W1) [.is (.slice (some ⟨B9, 0, none⟩) 32 32), .is (.string KS), .is (.slice P 32 pc), .is (.string PS), .is (.bool false), .is (.bool false), .is undef, .is undef, .is undef, .is undef, .is undef, .is undef, .is undef, .is (.bool false), .is (.bool false)] [] [0, 0, 0, 0, 0, 0, 0, 0, 0, 0, 0, 0, 0, 0, 0] [0, 0, 0, 0, 0, 0, 0, 0, 0, 0, 0, 0, 0, 0, 0] (by kernel_rfl) (by kernel_rfl) (by kernel_rfl) (fun _ _ W => Below.refl _ W) (HI0.out.drew) ⟨?oc0, ?oc1, ?oc2, ?oc3, ?oc4, ?oc5, ?oc6, ?oc7, ?oc8, ?oc9, ?oc10, ?oc11, ?oc12, ?oc13, ?oc14, trivial⟩ ?ocend
        case oc0 => as_aux_lemma =>
          intro p vals W1 F hF hlo hhi hI hd
          have hp : p = 0 := Nat.le_antisymm hhi hlo
          subst hp
          clear hlo hhi
          have E9 : F.eval (.tmp 9) = .pointer (some ⟨B9, 0, none⟩) := hF.out_ (by kernel_rfl) rfl
          refine .inr ⟨wanted_none rfl, .inl ⟨.slice (some ⟨B9, 0, none⟩) 32 32, ?_, hI, TyP.of_is rfl⟩⟩
          have Ec : ∀ v, F.eval (.const v) = v := fun _ => rfl; have Ef : ∀ f, F.eval (.func f) = .func (.func f) #[] #[] := fun _ => rfl; clear hF hd; generalize F.eval = ρ at E9 Ec Ef ⊢
          simp [execOp, go_sem, Ec, E9]
        case oc1 => as_aux_lemma =>
          intro p vals W1 F hF hlo hhi hI hd
          have hp : p = 0 := Nat.le_antisymm hhi hlo
          subst hp
          clear hlo hhi
          have d0 : vals 0 = .slice (some ⟨B9, 0, none⟩) 32 32 := hd ⟨0, .data⟩ (Array.mem_of_getElem? (i := 0) rfl) rfl (show (0 : Nat) ≤ 1000 by decide)
          have E30 := eval_some (hF.own_ 0 rfl rfl (by kernel_rfl) (by decide)); rw [d0] at E30
          refine .inr ⟨wanted_none rfl, ?_⟩
          have hst := str_of (holdsK (k := 2) hI rfl) 32
          refine .inl ⟨.string KS, ?_, hI, TyP.of_is rfl⟩
          have Ec : ∀ v, F.eval (.const v) = v := fun _ => rfl; have Ef : ∀ f, F.eval (.func f) = .func (.func f) #[] #[] := fun _ => rfl; clear hF hd; generalize F.eval = ρ at E30 Ec Ef ⊢
          simp only [execOp, E30]
          rw [HKl.out] at hst
          rw [Sem.run_bind, hst, ← HKS.out]
          rfl
        case oc2 => as_aux_lemma =>
          intro p vals W1 F hF hlo hhi hI hd
          have hp : p = 0 := Nat.le_antisymm hhi hlo
          subst hp
          clear hlo hhi
          have E0 : F.eval (.tmp 0) = .slice P 32 pc := hF.out_ (by kernel_rfl) rfl
          refine .inr ⟨wanted_none rfl, .inl ⟨.slice P 32 pc, ?_, hI, TyP.of_is rfl⟩⟩
          simp only [execOp, E0, Sem.run_pure]
        case oc3 => as_aux_lemma =>
          intro p vals W1 F hF hlo hhi hI hd
          have hp : p = 0 := Nat.le_antisymm hhi hlo
          subst hp
          clear hlo hhi
          have d2 : vals 2 = .slice P 32 pc := hd ⟨2, .data⟩ (Array.mem_of_getElem? (i := 0) rfl) rfl (show (0 : Nat) ≤ 1000 by decide)
          have E32 := eval_some (hF.own_ 2 rfl rfl (by kernel_rfl) (by decide)); rw [d2] at E32
          refine .inr ⟨wanted_none rfl, ?_⟩
          have hst := str_of (HP8.out W1 hI.bel) pc
          refine .inl ⟨.string PS, ?_, hI, TyP.of_is rfl⟩
          have Ec : ∀ v, F.eval (.const v) = v := fun _ => rfl; have Ef : ∀ f, F.eval (.func f) = .func (.func f) #[] #[] := fun _ => rfl; clear hF hd; generalize F.eval = ρ at E32 Ec Ef ⊢
          simp only [execOp, E32]
          rw [Hp.out] at hst
          rw [Sem.run_bind, hst, ← HPS.out]
          rfl
        case oc4 => as_aux_lemma =>
          intro p vals W1 F hF hlo hhi hI hd
          have hp : p = 0 := Nat.le_antisymm hhi hlo
          subst hp
          clear hlo hhi
          have d1 : vals 1 = .string KS := hd ⟨1, .data⟩ (Array.mem_of_getElem? (i := 0) rfl) rfl (show (0 : Nat) ≤ 1000 by decide)
          have d3 : vals 3 = .string PS := hd ⟨3, .data⟩ (Array.mem_of_getElem? (i := 1) rfl) rfl (show (0 : Nat) ≤ 1000 by decide)
          have E31 := eval_some (hF.own_ 1 rfl rfl (by kernel_rfl) (by decide)); rw [d1] at E31
          have E33 := eval_some (hF.own_ 3 rfl rfl (by kernel_rfl) (by decide)); rw [d3] at E33
          refine .inr ⟨wanted_none rfl, .inl ⟨.bool false, ?_, hI, TyP.of_is rfl⟩⟩
          have Ec : ∀ v, F.eval (.const v) = v := fun _ => rfl; have Ef : ∀ f, F.eval (.func f) = .func (.func f) #[] #[] := fun _ => rfl; clear hF hd; generalize F.eval = ρ at E31 E33 Ec Ef ⊢
          simp [execOp, go_sem, Ec, E31, E33, hkp]
        case oc5 => as_aux_lemma =>
          intro p vals W1 F hF hlo hhi hI hd
          have hp : p = 0 := Nat.le_antisymm hhi hlo
          subst hp
          clear hlo hhi
          have d4 : vals 4 = .bool false := hd ⟨4, .data⟩ (Array.mem_of_getElem? (i := 0) rfl) rfl (show (0 : Nat) ≤ 1000 by decide)
          have E34 := eval_some (hF.own_ 4 rfl rfl (by kernel_rfl) (by decide)); rw [d4] at E34
          refine .inr ⟨wanted_none rfl, .inl ⟨.bool false, ?_, hI, TyP.of_is rfl⟩⟩
          simp only [execOp, E34, Sem.run_pure]
        case oc6 => as_aux_lemma =>
          intro p vals W1 F hF hlo hhi hI hd
          have hp : p = 0 := Nat.le_antisymm hhi hlo
          subst hp
          clear hlo hhi
          have d5 : vals 5 = .bool false := hd ⟨5, .guard⟩ (Array.mem_of_getElem? (i := 0) rfl) rfl (show (0 : Nat) ≤ 1000 by decide)
          have G := hF.own_ 5 rfl rfl (by kernel_rfl) (by decide); rw [d5] at G
          exact .inl ⟨wanted_no rfl rfl rfl G rfl, hI, TyP.of_is rfl⟩
        case oc7 => as_aux_lemma =>
          intro p vals W1 F hF hlo hhi hI hd
          have hp : p = 0 := Nat.le_antisymm hhi hlo
          subst hp
          clear hlo hhi
          have d5 : vals 5 = .bool false := hd ⟨5, .guard⟩ (Array.mem_of_getElem? (i := 0) rfl) rfl (show (0 : Nat) ≤ 1000 by decide)
          have G := hF.own_ 5 rfl rfl (by kernel_rfl) (by decide); rw [d5] at G
          exact .inl ⟨wanted_no rfl rfl rfl G rfl, hI, TyP.of_is rfl⟩
        case oc8 => as_aux_lemma =>
          intro p vals W1 F hF hlo hhi hI hd
          have hp : p = 0 := Nat.le_antisymm hhi hlo
          subst hp
          clear hlo hhi
          have d5 : vals 5 = .bool false := hd ⟨5, .chain⟩ (Array.mem_of_getElem? (i := 2) rfl) rfl (show (0 : Nat) ≤ 1000 by decide)
          have G := hF.own_ 5 rfl rfl (by kernel_rfl) (by decide); rw [d5] at G
          exact .inl ⟨wanted_no rfl rfl rfl G rfl, hI, TyP.of_is rfl⟩
        case oc9 => as_aux_lemma =>
          intro p vals W1 F hF hlo hhi hI hd
          have hp : p = 0 := Nat.le_antisymm hhi hlo
          subst hp
          clear hlo hhi
          have d5 : vals 5 = .bool false := hd ⟨5, .guard⟩ (Array.mem_of_getElem? (i := 1) rfl) rfl (show (0 : Nat) ≤ 1000 by decide)
          have G := hF.own_ 5 rfl rfl (by kernel_rfl) (by decide); rw [d5] at G
          exact .inl ⟨wanted_no rfl rfl rfl G rfl, hI, TyP.of_is rfl⟩
        case oc10 => as_aux_lemma =>
          intro p vals W1 F hF hlo hhi hI hd
          have hp : p = 0 := Nat.le_antisymm hhi hlo
          subst hp
          clear hlo hhi
          have d5 : vals 5 = .bool false := hd ⟨5, .guard⟩ (Array.mem_of_getElem? (i := 0) rfl) rfl (show (0 : Nat) ≤ 1000 by decide)
          have G := hF.own_ 5 rfl rfl (by kernel_rfl) (by decide); rw [d5] at G
          exact .inl ⟨wanted_no rfl rfl rfl G rfl, hI, TyP.of_is rfl⟩
        case oc11 => as_aux_lemma =>
          intro p vals W1 F hF hlo hhi hI hd
          have hp : p = 0 := Nat.le_antisymm hhi hlo
          subst hp
          clear hlo hhi
          have d5 : vals 5 = .bool false := hd ⟨5, .guard⟩ (Array.mem_of_getElem? (i := 1) rfl) rfl (show (0 : Nat) ≤ 1000 by decide)
          have G := hF.own_ 5 rfl rfl (by kernel_rfl) (by decide); rw [d5] at G
          exact .inl ⟨wanted_no rfl rfl rfl G rfl, hI, TyP.of_is rfl⟩
        case oc12 => as_aux_lemma =>
          intro p vals W1 F hF hlo hhi hI hd
          have hp : p = 0 := Nat.le_antisymm hhi hlo
          subst hp
          clear hlo hhi
          have d5 : vals 5 = .bool false := hd ⟨5, .guard⟩ (Array.mem_of_getElem? (i := 2) rfl) rfl (show (0 : Nat) ≤ 1000 by decide)
          have G := hF.own_ 5 rfl rfl (by kernel_rfl) (by decide); rw [d5] at G
          exact .inl ⟨wanted_no rfl rfl rfl G rfl, hI, TyP.of_is rfl⟩
        case oc13 => as_aux_lemma =>
          intro p vals W1 F hF hlo hhi hI hd
          have hp : p = 0 := Nat.le_antisymm hhi hlo
          subst hp
          clear hlo hhi
          have d5 : vals 5 = .bool false := hd ⟨5, .data⟩ (Array.mem_of_getElem? (i := 0) rfl) rfl (show (0 : Nat) ≤ 1000 by decide)
          have d12 : vals 12 = undef := hd ⟨12, .data⟩ (Array.mem_of_getElem? (i := 1) rfl) rfl (show (0 : Nat) ≤ 1000 by decide)
          have E35 := eval_some (hF.own_ 5 rfl rfl (by kernel_rfl) (by decide)); rw [d5] at E35
          have E42 := eval_some (hF.own_ 12 rfl rfl (by kernel_rfl) (by decide)); rw [d12] at E42
          refine .inr ⟨wanted_none rfl, .inl ⟨.bool false, ?_, hI, TyP.of_is rfl⟩⟩
          have Ec : ∀ v, F.eval (.const v) = v := fun _ => rfl; have Ef : ∀ f, F.eval (.func f) = .func (.func f) #[] #[] := fun _ => rfl; clear hF hd; generalize F.eval = ρ at E35 E42 Ec Ef ⊢
          simp [execOp, go_sem, Ec, E35, E42]
        case oc14 => as_aux_lemma =>
          intro p vals W1 F hF hlo hhi hI hd
          have hp : p = 0 := Nat.le_antisymm hhi hlo
          subst hp
          clear hlo hhi
          have d13 : vals 13 = .bool false := hd ⟨13, .data⟩ (Array.mem_of_getElem? (i := 0) rfl) rfl (show (0 : Nat) ≤ 1000 by decide)
          have E43 := eval_some (hF.own_ 13 rfl rfl (by kernel_rfl) (by decide)); rw [d13] at E43
          refine .inr ⟨wanted_none rfl, .inl ⟨.bool false, ?_, hI, TyP.of_is rfl⟩⟩
          simp only [execOp, E43, Sem.run_pure]
        case ocend =>
          intro vals W1 F hF hdef hI hT
          have hv : vals 14 = .bool false := hT 14 (by decide) (show (0 : Nat) ≤ 1000 by decide)
          rename_i K hK9
          refine hK9 _ _ ?_
          rw [hF.act]
          simp only [fin, Act.put, List.setIfInBounds_toArray, List.set_cons_succ, List.set_cons_zero]
          rw [hv]
          clear hF hT hv
          go_wp2
          go_ret
          exact ⟨by rw [HB.out]; rfl, hI.bel⟩
theorem ris_any (w : World) (P S : Option Addr) (pl pc sl sc : Nat) (p s d : List UInt8) (hd : d.length = 32) (hp8 : Holds8 w.heap.size w P p) (hs8 : Holds8 w.heap.size w S s) (hp : p.length = pl) (hs : s.length = sl) :
    Calls Try.prog 14 #[.slice P pl pc, .slice S sl sc, .agg (arr8 d)] w fun e w' => e = .returned (.bool (isB p s d)) ∧ Below w.heap.size w w' := by
  by_cases h : pl = 32 ∧ sl = 64
  · obtain ⟨rfl, rfl⟩ := h
    exact ris_good w P S pc sc p s d hd hp8 hs8 hp hs
  · have hib : isB p s d = false := by
      unfold isB
      rw [hp, hs]
      by_cases h1 : pl = 32
      · have h2 : ¬ sl = 64 := fun e => h ⟨h1, e⟩
        simp [h2]
      · simp [h1]
    rw [hib]
    exact ris_short w P S pl pc sl sc d h
end Go.Proofs.Ytijobhpmaenjlaa.Oct
