/- meet: whether two unlike messages of a row have one hash. Messages of less than 2^60 bytes. -/
import Derived.Test.YtijobhpmaenjlaaSigH
namespace Go.Proofs.Ytijobhpmaenjlaa.Oct
set_option linter.unusedVariables false
set_option linter.unusedSimpArgs false
open Go.Proofs.Ytijobhpmaenjlaa Go.RowKit Go.Lib Go.Shelf Go.ChangeShapes Go.WideShapes Go.ChangeAt

structure MV where
  A : Option Addr
  b : List UInt8
  c : Nat
/-- A row of messages in memory. -/
structure MeetAt (W : World) (g : Nat) (l : List MV) : Prop where
  here : g < W.heap.size
  cells : ∀ (k : Nat) (p : MV), l[k]? = some p → W.cell? ⟨g, k, none⟩ = some (.slice p.A p.b.length p.c)
  held : ∀ (k : Nat) (p : MV), l[k]? = some p → Holds8 W.heap.size W p.A p.b ∧ p.b.length ≤ p.c ∧ p.b.length < 1152921504606846976
theorem MeetAt.later {W W' : World} {g : Nat} {l : List MV} (h : MeetAt W g l) (hb : Below W.heap.size W W') : MeetAt W' g l :=
  ⟨Nat.lt_of_lt_of_le h.here hb.size, fun k p hk => (hb.cell (p := ⟨g, k, none⟩) h.here).trans (h.cells k p hk), fun k p hk => ⟨(h.held k p hk).1.later hb, (h.held k p hk).2⟩⟩
/-- Two unlike messages with one hash. -/
def PairM (x y : List UInt8) : Prop := x ≠ y ∧ sha x = sha y
def Meets (l : List MV) : Prop := ∃ (i k : Nat) (x y : MV), k < i ∧ l[i]? = some x ∧ l[k]? = some y ∧ PairM x.b y.b
/-- What meet answers. -/
def MeetR (l : List MV) (w : World) (e : Ending) (w' : World) : Prop := ∃ b : Bool, e = .returned (.bool b) ∧ (b = true ↔ Meets l) ∧ Below w.heap.size w w'
theorem str_injI (x y : List UInt8) : ((⟨x.toArray⟩ : ByteArray) = ⟨y.toArray⟩) ↔ x = y := ⟨fun e => List.toArray_inj (by injection e), fun e => by rw [e]⟩
theorem str_neI {S T : ByteArray} (h : ¬ S = T) : ¬ S.toList = T.toList := fun e => by
  rw [ByteArray.toList_eq, ByteArray.toList_eq] at e
  exact h (ByteArray.ext (Array.toList_inj.1 e))

set_option maxRecDepth 100000 in
set_option maxHeartbeats 4000000 in
theorem meet_any (l : List MV) (w : World) (g n c : Nat) (hn : l.length = n) (hn9 : n ≤ 1000) (hM : MeetAt w g l) :
    Calls Try.prog 17 #[.slice (some ⟨g, 0, none⟩) n c] w (MeetR l w) := by
  have HN := Lib.hid hn
  have HM := Lib.hid hM
  clear hn hM
  go_enter Try.func17, Try.ntmps17
  go_wp2
  go_loopw [7] (fun iv wr => ∃ i : Nat, i ≤ n ∧ iv = .int .i64 (i : Int) ∧ Below w.heap.size w wr ∧ Hid (∀ i' : Nat, i' < i → ∀ (k : Nat) (x y : MV), k < i' → l[i']? = some x → l[k]? = some y → ¬ PairM x.b y.b)) (fun iv _ => n - (RowKit.intOf iv).toNat)
  case atStart => exact ⟨0, Nat.zero_le _, rfl, Below.refl _ _, Lib.hid fun i' h => absurd h (Nat.not_lt_zero _)⟩
  case round =>
    obtain ⟨i, hi, rfl, hB, HNO⟩ := hrel
    by_cases hlt : i < n
    · obtain ⟨x, hx⟩ : ∃ x, l[i]? = some x := ⟨l[i]'(by rw [HN.out]; exact hlt), List.getElem?_eq_getElem _⟩
      have HX := Lib.hid hx
      have HB := Lib.hid hB
      clear hx hB
      go_wp2
      obtain ⟨wo, rfl⟩ : ∃ wo : World, wo = wr := ⟨_, rfl⟩
      go_loopw [4] (fun kv wr => ∃ k : Nat, k ≤ i ∧ kv = .int .i64 (k : Int) ∧ Below w.heap.size w wr ∧ Hid (∀ k' : Nat, k' < k → ∀ y : MV, l[k']? = some y → ¬ PairM x.b y.b)) (fun kv _ => i - (RowKit.intOf kv).toNat)
      case atStart => exact ⟨0, Nat.zero_le _, rfl, HB.out, Lib.hid fun k' h => absurd h (Nat.not_lt_zero _)⟩
      case round =>
        clear HB
        obtain ⟨k, hk, rfl, hB, HNK⟩ := hrel
        by_cases hlt2 : k < i
        · obtain ⟨y, hy⟩ : ∃ y, l[k]? = some y := ⟨l[k]'(by rw [HN.out]; omega), List.getElem?_eq_getElem _⟩
          have HY := Lib.hid hy
          clear hy
          have hM0 := HM.out.later hB
          obtain ⟨xA, xb, xc⟩ := x
          obtain ⟨yA, yb, yc⟩ := y
          obtain ⟨hx8, hxc, hxl⟩ := hM0.held i _ HX.out
          obtain ⟨hy8, hyc, hyl⟩ := hM0.held k _ HY.out
          have hin : (i : Int) < (n : Int) := by omega
          have hkn : (k : Int) < (n : Int) := by omega
          dsimp only at *
          obtain ⟨xl, hxe⟩ : ∃ xl, xb.length = xl := ⟨_, rfl⟩
          obtain ⟨yl, hye⟩ : ∃ yl, yb.length = yl := ⟨_, rfl⟩
          obtain ⟨xh, hxh⟩ : ∃ xh, sha xb = xh := ⟨_, rfl⟩
          obtain ⟨yh, hyh⟩ : ∃ yh, sha yb = yh := ⟨_, rfl⟩
          have hxh32 : xh.length = 32 := by rw [← hxh]; exact hashOf_length _
          have hyh32 : yh.length = 32 := by rw [← hyh]; exact hashOf_length _
          have CX : Hid (∀ W, Holds8 W.heap.size W xA xb → Calls Try.prog 15 #[.slice xA xl xc] W fun e w' => e = .returned (.agg (arr8 xh)) ∧ Below W.heap.size W w') := Lib.hid fun W h => by have h2 := of_any' W xA xl xc xb hxe h (by omega) (by omega); rw [hxh] at h2; exact h2
          have CY : Hid (∀ W, Holds8 W.heap.size W yA yb → Calls Try.prog 15 #[.slice yA yl yc] W fun e w' => e = .returned (.agg (arr8 yh)) ∧ Below W.heap.size W w') := Lib.hid fun W h => by have h2 := of_any' W yA yl yc yb hye h (by omega) (by omega); rw [hyh] at h2; exact h2
          have hpair : PairM xb yb ↔ xb ≠ yb ∧ xh = yh := by unfold PairM; rw [hxh, hyh]
          have HP := Lib.hid hpair
          have HXE := Lib.hid hxe
          have HYE := Lib.hid hye
          have HX32 := Lib.hid hxh32
          have HY32 := Lib.hid hyh32
          obtain ⟨XS, hXS⟩ : ∃ s : ByteArray, s = ⟨xb.toArray⟩ := ⟨_, rfl⟩
          obtain ⟨YS, hYS⟩ : ∃ s : ByteArray, s = ⟨yb.toArray⟩ := ⟨_, rfl⟩
          have hxy : XS = YS ↔ xb = yb := by rw [hXS, hYS, str_injI]
          have HXS := Lib.hid hXS
          have HYS := Lib.hid hYS
          have HM0 := Lib.hid hM0
          have HB := Lib.hid hB
          clear hpair hxe hye hxh hyh hxh32 hyh32 hXS hYS hx8 hxc hxl hy8 hyc hyl hM0
          go_wp2
          by_cases hxy2 : xb = yb
          · have hxyS : XS = YS := hxy.2 hxy2
            replace hxy := hxyS
            clear hxyS
            refine wp_region_phased 40 rfl (fun _ _ W W' => Below W.heap.size W W') (fun p W1 => Below w.heap.size w W1 ∧ MeetAt W1 g l) [.is (.slice (some ⟨g, 0, none⟩) n c), .is (.int .i64 (i : Int)), .is (.pointer (some ⟨g, i, none⟩)), .is (.slice xA xl xc), .is (.string XS), .is (.slice (some ⟨g, 0, none⟩) n c), .is (.int .i64 (k : Int)), .is (.pointer (some ⟨g, k, none⟩)), .is (.slice yA yl yc), .is (.string YS), .is (.bool false), .is (.bool false), .is undef, .is undef, .is undef, .is undef, .is undef, .is undef, .is undef, .is undef, .is undef, .is undef, .is undef, .is (.bool false)] [] [0, 0, 0, 0, 0, 0, 0, 0, 0, 0, 0, 0, 0, 0, 0, 0, 0, 0, 0, 0, 0, 0, 0, 0] [0, 0, 0, 0, 0, 0, 0, 0, 0, 0, 0, 0, 0, 0, 0, 0, 0, 0, 0, 0, 0, 0, 0, 0] (by kernel_rfl) (by kernel_rfl) (by kernel_rfl) (fun _ _ W => Below.refl _ W) (⟨HB.out.drew, HM0.out.later (Below.refl _ _).drew⟩) ⟨?oc0, ?oc1, ?oc2, ?oc3, ?oc4, ?oc5, ?oc6, ?oc7, ?oc8, ?oc9, ?oc10, ?oc11, ?oc12, ?oc13, ?oc14, ?oc15, ?oc16, ?oc17, ?oc18, ?oc19, ?oc20, ?oc21, ?oc22, ?oc23, trivial⟩ ?ocend
            case oc0 => as_aux_lemma =>
              intro p vals W1 F hF hlo hhi hI hd
              have hp : p = 0 := Nat.le_antisymm hhi hlo
              subst hp
              clear hlo hhi
              have E0 : F.eval (.tmp 0) = .slice (some ⟨g, 0, none⟩) n c := hF.out_ (by kernel_rfl) rfl
              refine .inr ⟨wanted_none rfl, .inl ⟨.slice (some ⟨g, 0, none⟩) n c, ?_, hI, TyP.of_is rfl⟩⟩
              simp only [execOp, E0, Sem.run_pure]
            case oc1 => as_aux_lemma =>
              intro p vals W1 F hF hlo hhi hI hd
              have hp : p = 0 := Nat.le_antisymm hhi hlo
              subst hp
              clear hlo hhi
              have E3 : F.eval (.tmp 3) = .int .i64 (i : Int) := hF.out_ (by kernel_rfl) rfl
              refine .inr ⟨wanted_none rfl, .inl ⟨.int .i64 (i : Int), ?_, hI, TyP.of_is rfl⟩⟩
              simp only [execOp, E3, Sem.run_pure]
            case oc2 => as_aux_lemma =>
              intro p vals W1 F hF hlo hhi hI hd
              have hp : p = 0 := Nat.le_antisymm hhi hlo
              subst hp
              clear hlo hhi
              have d0 : vals 0 = .slice (some ⟨g, 0, none⟩) n c := hd ⟨0, .data⟩ (Array.mem_of_getElem? (i := 0) rfl) rfl (show (0 : Nat) ≤ 1000 by decide)
              have d1 : vals 1 = .int .i64 (i : Int) := hd ⟨1, .data⟩ (Array.mem_of_getElem? (i := 1) rfl) rfl (show (0 : Nat) ≤ 1000 by decide)
              have E15 := eval_some (hF.own_ 0 rfl rfl (by kernel_rfl) (by decide)); rw [d0] at E15
              have E16 := eval_some (hF.own_ 1 rfl rfl (by kernel_rfl) (by decide)); rw [d1] at E16
              refine .inr ⟨wanted_none rfl, .inl ⟨.pointer (some ⟨g, i, none⟩), ?_, hI, TyP.of_is rfl⟩⟩
              have Ec : ∀ v, F.eval (.const v) = v := fun _ => rfl; have Ef : ∀ f, F.eval (.func f) = .func (.func f) #[] #[] := fun _ => rfl; clear hF hd; generalize F.eval = ρ at E15 E16 Ec Ef ⊢
              simp [execOp, go_sem, Ec, E15, E16, hin, hkn]
            case oc3 => as_aux_lemma =>
              intro p vals W1 F hF hlo hhi hI hd
              have hp : p = 0 := Nat.le_antisymm hhi hlo
              subst hp
              clear hlo hhi
              have d2 : vals 2 = .pointer (some ⟨g, i, none⟩) := hd ⟨2, .data⟩ (Array.mem_of_getElem? (i := 0) rfl) rfl (show (0 : Nat) ≤ 1000 by decide)
              have E17 := eval_some (hF.own_ 2 rfl rfl (by kernel_rfl) (by decide)); rw [d2] at E17
              have hcell := hI.2.cells _ _ HX.out
              dsimp only at hcell
              rw [HXE.out] at hcell
              refine .inr ⟨wanted_none rfl, .inl ⟨.slice xA xl xc, ?_, hI, TyP.of_is rfl⟩⟩
              have Ec : ∀ v, F.eval (.const v) = v := fun _ => rfl; have Ef : ∀ f, F.eval (.func f) = .func (.func f) #[] #[] := fun _ => rfl; clear hF hd; generalize F.eval = ρ at E17 Ec Ef ⊢
              simp [execOp, go_sem, Ec, E17, hcell]
            case oc4 => as_aux_lemma =>
              intro p vals W1 F hF hlo hhi hI hd
              have hp : p = 0 := Nat.le_antisymm hhi hlo
              subst hp
              clear hlo hhi
              have d3 : vals 3 = .slice xA xl xc := hd ⟨3, .data⟩ (Array.mem_of_getElem? (i := 0) rfl) rfl (show (0 : Nat) ≤ 1000 by decide)
              have E18 := eval_some (hF.own_ 3 rfl rfl (by kernel_rfl) (by decide)); rw [d3] at E18
              refine .inr ⟨wanted_none rfl, ?_⟩
              have hst := str_of (hI.2.held _ _ HX.out).1 xc
              refine .inl ⟨.string XS, ?_, hI, TyP.of_is rfl⟩
              have Ec : ∀ v, F.eval (.const v) = v := fun _ => rfl; have Ef : ∀ f, F.eval (.func f) = .func (.func f) #[] #[] := fun _ => rfl; clear hF hd; generalize F.eval = ρ at E18 Ec Ef ⊢
              simp only [execOp, E18]
              rw [HXE.out] at hst
              rw [Sem.run_bind, hst, ← HXS.out]
              rfl
            case oc5 => as_aux_lemma =>
              intro p vals W1 F hF hlo hhi hI hd
              have hp : p = 0 := Nat.le_antisymm hhi hlo
              subst hp
              clear hlo hhi
              have E0 : F.eval (.tmp 0) = .slice (some ⟨g, 0, none⟩) n c := hF.out_ (by kernel_rfl) rfl
              refine .inr ⟨wanted_none rfl, .inl ⟨.slice (some ⟨g, 0, none⟩) n c, ?_, hI, TyP.of_is rfl⟩⟩
              simp only [execOp, E0, Sem.run_pure]
            case oc6 => as_aux_lemma =>
              intro p vals W1 F hF hlo hhi hI hd
              have hp : p = 0 := Nat.le_antisymm hhi hlo
              subst hp
              clear hlo hhi
              have E4 : F.eval (.tmp 4) = .int .i64 (k : Int) := hF.out_ (by kernel_rfl) rfl
              refine .inr ⟨wanted_none rfl, .inl ⟨.int .i64 (k : Int), ?_, hI, TyP.of_is rfl⟩⟩
              simp only [execOp, E4, Sem.run_pure]
            case oc7 => as_aux_lemma =>
              intro p vals W1 F hF hlo hhi hI hd
              have hp : p = 0 := Nat.le_antisymm hhi hlo
              subst hp
              clear hlo hhi
              have d5 : vals 5 = .slice (some ⟨g, 0, none⟩) n c := hd ⟨5, .data⟩ (Array.mem_of_getElem? (i := 0) rfl) rfl (show (0 : Nat) ≤ 1000 by decide)
              have d6 : vals 6 = .int .i64 (k : Int) := hd ⟨6, .data⟩ (Array.mem_of_getElem? (i := 1) rfl) rfl (show (0 : Nat) ≤ 1000 by decide)
              have E20 := eval_some (hF.own_ 5 rfl rfl (by kernel_rfl) (by decide)); rw [d5] at E20
              have E21 := eval_some (hF.own_ 6 rfl rfl (by kernel_rfl) (by decide)); rw [d6] at E21
              refine .inr ⟨wanted_none rfl, .inl ⟨.pointer (some ⟨g, k, none⟩), ?_, hI, TyP.of_is rfl⟩⟩
              have Ec : ∀ v, F.eval (.const v) = v := fun _ => rfl; have Ef : ∀ f, F.eval (.func f) = .func (.func f) #[] #[] := fun _ => rfl; clear hF hd; generalize F.eval = ρ at E20 E21 Ec Ef ⊢
              simp [execOp, go_sem, Ec, E20, E21, hin, hkn]
            case oc8 => as_aux_lemma =>
              intro p vals W1 F hF hlo hhi hI hd
              have hp : p = 0 := Nat.le_antisymm hhi hlo
              subst hp
              clear hlo hhi
              have d7 : vals 7 = .pointer (some ⟨g, k, none⟩) := hd ⟨7, .data⟩ (Array.mem_of_getElem? (i := 0) rfl) rfl (show (0 : Nat) ≤ 1000 by decide)
              have E22 := eval_some (hF.own_ 7 rfl rfl (by kernel_rfl) (by decide)); rw [d7] at E22
              have hcell := hI.2.cells _ _ HY.out
              dsimp only at hcell
              rw [HYE.out] at hcell
              refine .inr ⟨wanted_none rfl, .inl ⟨.slice yA yl yc, ?_, hI, TyP.of_is rfl⟩⟩
              have Ec : ∀ v, F.eval (.const v) = v := fun _ => rfl; have Ef : ∀ f, F.eval (.func f) = .func (.func f) #[] #[] := fun _ => rfl; clear hF hd; generalize F.eval = ρ at E22 Ec Ef ⊢
              simp [execOp, go_sem, Ec, E22, hcell]
            case oc9 => as_aux_lemma =>
              intro p vals W1 F hF hlo hhi hI hd
              have hp : p = 0 := Nat.le_antisymm hhi hlo
              subst hp
              clear hlo hhi
              have d8 : vals 8 = .slice yA yl yc := hd ⟨8, .data⟩ (Array.mem_of_getElem? (i := 0) rfl) rfl (show (0 : Nat) ≤ 1000 by decide)
              have E23 := eval_some (hF.own_ 8 rfl rfl (by kernel_rfl) (by decide)); rw [d8] at E23
              refine .inr ⟨wanted_none rfl, ?_⟩
              have hst := str_of (hI.2.held _ _ HY.out).1 yc
              refine .inl ⟨.string YS, ?_, hI, TyP.of_is rfl⟩
              have Ec : ∀ v, F.eval (.const v) = v := fun _ => rfl; have Ef : ∀ f, F.eval (.func f) = .func (.func f) #[] #[] := fun _ => rfl; clear hF hd; generalize F.eval = ρ at E23 Ec Ef ⊢
              simp only [execOp, E23]
              rw [HYE.out] at hst
              rw [Sem.run_bind, hst, ← HYS.out]
              rfl
            case oc10 => as_aux_lemma =>
              intro p vals W1 F hF hlo hhi hI hd
              have hp : p = 0 := Nat.le_antisymm hhi hlo
              subst hp
              clear hlo hhi
              have d4 : vals 4 = .string XS := hd ⟨4, .data⟩ (Array.mem_of_getElem? (i := 0) rfl) rfl (show (0 : Nat) ≤ 1000 by decide)
              have d9 : vals 9 = .string YS := hd ⟨9, .data⟩ (Array.mem_of_getElem? (i := 1) rfl) rfl (show (0 : Nat) ≤ 1000 by decide)
              have E19 := eval_some (hF.own_ 4 rfl rfl (by kernel_rfl) (by decide)); rw [d4] at E19
              have E24 := eval_some (hF.own_ 9 rfl rfl (by kernel_rfl) (by decide)); rw [d9] at E24
              refine .inr ⟨wanted_none rfl, .inl ⟨.bool false, ?_, hI, TyP.of_is rfl⟩⟩
              have Ec : ∀ v, F.eval (.const v) = v := fun _ => rfl; have Ef : ∀ f, F.eval (.func f) = .func (.func f) #[] #[] := fun _ => rfl; clear hF hd; generalize F.eval = ρ at E19 E24 Ec Ef ⊢
              simp [execOp, go_sem, Ec, E19, E24, hxy]
            case oc11 => as_aux_lemma =>
              intro p vals W1 F hF hlo hhi hI hd
              have hp : p = 0 := Nat.le_antisymm hhi hlo
              subst hp
              clear hlo hhi
              have d10 : vals 10 = .bool false := hd ⟨10, .data⟩ (Array.mem_of_getElem? (i := 0) rfl) rfl (show (0 : Nat) ≤ 1000 by decide)
              have E25 := eval_some (hF.own_ 10 rfl rfl (by kernel_rfl) (by decide)); rw [d10] at E25
              refine .inr ⟨wanted_none rfl, .inl ⟨.bool false, ?_, hI, TyP.of_is rfl⟩⟩
              simp only [execOp, E25, Sem.run_pure]
            case oc12 => as_aux_lemma =>
              intro p vals W1 F hF hlo hhi hI hd
              have hp : p = 0 := Nat.le_antisymm hhi hlo
              subst hp
              clear hlo hhi
              have d11 : vals 11 = .bool false := hd ⟨11, .guard⟩ (Array.mem_of_getElem? (i := 0) rfl) rfl (show (0 : Nat) ≤ 1000 by decide)
              have G := hF.own_ 11 rfl rfl (by kernel_rfl) (by decide); rw [d11] at G
              exact .inl ⟨wanted_no rfl rfl rfl G rfl, hI, TyP.of_is rfl⟩
            case oc13 => as_aux_lemma =>
              intro p vals W1 F hF hlo hhi hI hd
              have hp : p = 0 := Nat.le_antisymm hhi hlo
              subst hp
              clear hlo hhi
              have d11 : vals 11 = .bool false := hd ⟨11, .guard⟩ (Array.mem_of_getElem? (i := 0) rfl) rfl (show (0 : Nat) ≤ 1000 by decide)
              have G := hF.own_ 11 rfl rfl (by kernel_rfl) (by decide); rw [d11] at G
              exact .inl ⟨wanted_no rfl rfl rfl G rfl, hI, TyP.of_is rfl⟩
            case oc14 => as_aux_lemma =>
              intro p vals W1 F hF hlo hhi hI hd
              have hp : p = 0 := Nat.le_antisymm hhi hlo
              subst hp
              clear hlo hhi
              have d11 : vals 11 = .bool false := hd ⟨11, .guard⟩ (Array.mem_of_getElem? (i := 2) rfl) rfl (show (0 : Nat) ≤ 1000 by decide)
              have G := hF.own_ 11 rfl rfl (by kernel_rfl) (by decide); rw [d11] at G
              exact .inl ⟨wanted_no rfl rfl rfl G rfl, hI, TyP.of_is rfl⟩
            case oc15 => as_aux_lemma =>
              intro p vals W1 F hF hlo hhi hI hd
              have hp : p = 0 := Nat.le_antisymm hhi hlo
              subst hp
              clear hlo hhi
              have d11 : vals 11 = .bool false := hd ⟨11, .guard⟩ (Array.mem_of_getElem? (i := 1) rfl) rfl (show (0 : Nat) ≤ 1000 by decide)
              have G := hF.own_ 11 rfl rfl (by kernel_rfl) (by decide); rw [d11] at G
              exact .inl ⟨wanted_no rfl rfl rfl G rfl, hI, TyP.of_is rfl⟩
            case oc16 => as_aux_lemma =>
              intro p vals W1 F hF hlo hhi hI hd
              have hp : p = 0 := Nat.le_antisymm hhi hlo
              subst hp
              clear hlo hhi
              have d11 : vals 11 = .bool false := hd ⟨11, .chain⟩ (Array.mem_of_getElem? (i := 1) rfl) rfl (show (0 : Nat) ≤ 1000 by decide)
              have G := hF.own_ 11 rfl rfl (by kernel_rfl) (by decide); rw [d11] at G
              exact .inl ⟨wanted_no rfl rfl rfl G rfl, hI, TyP.of_is rfl⟩
            case oc17 => as_aux_lemma =>
              intro p vals W1 F hF hlo hhi hI hd
              have hp : p = 0 := Nat.le_antisymm hhi hlo
              subst hp
              clear hlo hhi
              have d11 : vals 11 = .bool false := hd ⟨11, .guard⟩ (Array.mem_of_getElem? (i := 0) rfl) rfl (show (0 : Nat) ≤ 1000 by decide)
              have G := hF.own_ 11 rfl rfl (by kernel_rfl) (by decide); rw [d11] at G
              exact .inl ⟨wanted_no rfl rfl rfl G rfl, hI, TyP.of_is rfl⟩
            case oc18 => as_aux_lemma =>
              intro p vals W1 F hF hlo hhi hI hd
              have hp : p = 0 := Nat.le_antisymm hhi hlo
              subst hp
              clear hlo hhi
              have d11 : vals 11 = .bool false := hd ⟨11, .guard⟩ (Array.mem_of_getElem? (i := 0) rfl) rfl (show (0 : Nat) ≤ 1000 by decide)
              have G := hF.own_ 11 rfl rfl (by kernel_rfl) (by decide); rw [d11] at G
              exact .inl ⟨wanted_no rfl rfl rfl G rfl, hI, TyP.of_is rfl⟩
            case oc19 => as_aux_lemma =>
              intro p vals W1 F hF hlo hhi hI hd
              have hp : p = 0 := Nat.le_antisymm hhi hlo
              subst hp
              clear hlo hhi
              have d11 : vals 11 = .bool false := hd ⟨11, .guard⟩ (Array.mem_of_getElem? (i := 2) rfl) rfl (show (0 : Nat) ≤ 1000 by decide)
              have G := hF.own_ 11 rfl rfl (by kernel_rfl) (by decide); rw [d11] at G
              exact .inl ⟨wanted_no rfl rfl rfl G rfl, hI, TyP.of_is rfl⟩
            case oc20 => as_aux_lemma =>
              intro p vals W1 F hF hlo hhi hI hd
              have hp : p = 0 := Nat.le_antisymm hhi hlo
              subst hp
              clear hlo hhi
              have d11 : vals 11 = .bool false := hd ⟨11, .guard⟩ (Array.mem_of_getElem? (i := 1) rfl) rfl (show (0 : Nat) ≤ 1000 by decide)
              have G := hF.own_ 11 rfl rfl (by kernel_rfl) (by decide); rw [d11] at G
              exact .inl ⟨wanted_no rfl rfl rfl G rfl, hI, TyP.of_is rfl⟩
            case oc21 => as_aux_lemma =>
              intro p vals W1 F hF hlo hhi hI hd
              have hp : p = 0 := Nat.le_antisymm hhi hlo
              subst hp
              clear hlo hhi
              have d11 : vals 11 = .bool false := hd ⟨11, .guard⟩ (Array.mem_of_getElem? (i := 2) rfl) rfl (show (0 : Nat) ≤ 1000 by decide)
              have G := hF.own_ 11 rfl rfl (by kernel_rfl) (by decide); rw [d11] at G
              exact .inl ⟨wanted_no rfl rfl rfl G rfl, hI, TyP.of_is rfl⟩
            case oc22 => as_aux_lemma =>
              intro p vals W1 F hF hlo hhi hI hd
              have hp : p = 0 := Nat.le_antisymm hhi hlo
              subst hp
              clear hlo hhi
              have d11 : vals 11 = .bool false := hd ⟨11, .guard⟩ (Array.mem_of_getElem? (i := 2) rfl) rfl (show (0 : Nat) ≤ 1000 by decide)
              have G := hF.own_ 11 rfl rfl (by kernel_rfl) (by decide); rw [d11] at G
              exact .inl ⟨wanted_no rfl rfl rfl G rfl, hI, TyP.of_is rfl⟩
            case oc23 => as_aux_lemma =>
              intro p vals W1 F hF hlo hhi hI hd
              have hp : p = 0 := Nat.le_antisymm hhi hlo
              subst hp
              clear hlo hhi
              have d11 : vals 11 = .bool false := hd ⟨11, .data⟩ (Array.mem_of_getElem? (i := 0) rfl) rfl (show (0 : Nat) ≤ 1000 by decide)
              have d22 : vals 22 = undef := hd ⟨22, .data⟩ (Array.mem_of_getElem? (i := 1) rfl) rfl (show (0 : Nat) ≤ 1000 by decide)
              have E26 := eval_some (hF.own_ 11 rfl rfl (by kernel_rfl) (by decide)); rw [d11] at E26
              have E37 := eval_some (hF.own_ 22 rfl rfl (by kernel_rfl) (by decide)); rw [d22] at E37
              refine .inr ⟨wanted_none rfl, .inl ⟨.bool false, ?_, hI, TyP.of_is rfl⟩⟩
              have Ec : ∀ v, F.eval (.const v) = v := fun _ => rfl; have Ef : ∀ f, F.eval (.func f) = .func (.func f) #[] #[] := fun _ => rfl; clear hF hd; generalize F.eval = ρ at E26 E37 Ec Ef ⊢
              simp [execOp, go_sem, Ec, E26, E37]
            case ocend =>
              intro vals W1 F hF hdef hI hT
              have hv : vals 23 = .bool false := hT 23 (by decide) (show (0 : Nat) ≤ 1000 by decide)
              rename_i K hK9
              refine hK9 _ _ ?_
              rw [hF.act]
              simp only [fin, Act.put, List.setIfInBounds_toArray, List.set_cons_succ, List.set_cons_zero]
              rw [hv]
              clear hF hT hv
              go_wp2
              go_roundw
              case rel =>
                refine ⟨k + 1, by omega, by go_num, hI.1, Lib.hid fun k' hk' y' hy' => ?_⟩
                by_cases e : k' = k
                · subst e
                  have h1 := HY.out
                  rw [hy'] at h1
                  cases h1
                  exact fun h => (HP.out.1 h).1 hxy2
                · exact HNK.out k' (by omega) y' hy'
              case measure => simp [RowKit.intOf]; omega
          · have hxyS : ¬ XS.toList = YS.toList := str_neI fun e => hxy2 (hxy.1 e)
            replace hxy := hxyS
            clear hxyS
            by_cases hhh2 : xh = yh
            · have hhh : xh = yh := hhh2
              refine wp_region_phased 40 rfl (fun _ _ W W' => Below W.heap.size W W') (fun p W1 => Below w.heap.size w W1 ∧ MeetAt W1 g l) [.is (.slice (some ⟨g, 0, none⟩) n c), .is (.int .i64 (i : Int)), .is (.pointer (some ⟨g, i, none⟩)), .is (.slice xA xl xc), .is (.string XS), .is (.slice (some ⟨g, 0, none⟩) n c), .is (.int .i64 (k : Int)), .is (.pointer (some ⟨g, k, none⟩)), .is (.slice yA yl yc), .is (.string YS), .is (.bool true), .is (.bool true), .is (.slice (some ⟨g, 0, none⟩) n c), .is (.int .i64 (i : Int)), .is (.pointer (some ⟨g, i, none⟩)), .is (.slice xA xl xc), .is (.agg (arr8 xh)), .is (.slice (some ⟨g, 0, none⟩) n c), .is (.int .i64 (k : Int)), .is (.pointer (some ⟨g, k, none⟩)), .is (.slice yA yl yc), .is (.agg (arr8 yh)), .is (.bool true), .is (.bool true)] [] [0, 0, 0, 0, 0, 0, 0, 0, 0, 0, 0, 0, 0, 0, 0, 0, 0, 0, 0, 0, 0, 0, 0, 0] [0, 0, 0, 0, 0, 0, 0, 0, 0, 0, 0, 0, 0, 0, 0, 0, 0, 0, 0, 0, 0, 0, 0, 0] (by kernel_rfl) (by kernel_rfl) (by kernel_rfl) (fun _ _ W => Below.refl _ W) (⟨HB.out.drew, HM0.out.later (Below.refl _ _).drew⟩) ⟨?oa0, ?oa1, ?oa2, ?oa3, ?oa4, ?oa5, ?oa6, ?oa7, ?oa8, ?oa9, ?oa10, ?oa11, ?oa12, ?oa13, ?oa14, ?oa15, ?oa16, ?oa17, ?oa18, ?oa19, ?oa20, ?oa21, ?oa22, ?oa23, trivial⟩ ?oaend
              case oa0 => as_aux_lemma =>
                intro p vals W1 F hF hlo hhi hI hd
                have hp : p = 0 := Nat.le_antisymm hhi hlo
                subst hp
                clear hlo hhi
                have E0 : F.eval (.tmp 0) = .slice (some ⟨g, 0, none⟩) n c := hF.out_ (by kernel_rfl) rfl
                refine .inr ⟨wanted_none rfl, .inl ⟨.slice (some ⟨g, 0, none⟩) n c, ?_, hI, TyP.of_is rfl⟩⟩
                simp only [execOp, E0, Sem.run_pure]
              case oa1 => as_aux_lemma =>
                intro p vals W1 F hF hlo hhi hI hd
                have hp : p = 0 := Nat.le_antisymm hhi hlo
                subst hp
                clear hlo hhi
                have E3 : F.eval (.tmp 3) = .int .i64 (i : Int) := hF.out_ (by kernel_rfl) rfl
                refine .inr ⟨wanted_none rfl, .inl ⟨.int .i64 (i : Int), ?_, hI, TyP.of_is rfl⟩⟩
                simp only [execOp, E3, Sem.run_pure]
              case oa2 => as_aux_lemma =>
                intro p vals W1 F hF hlo hhi hI hd
                have hp : p = 0 := Nat.le_antisymm hhi hlo
                subst hp
                clear hlo hhi
                have d0 : vals 0 = .slice (some ⟨g, 0, none⟩) n c := hd ⟨0, .data⟩ (Array.mem_of_getElem? (i := 0) rfl) rfl (show (0 : Nat) ≤ 1000 by decide)
                have d1 : vals 1 = .int .i64 (i : Int) := hd ⟨1, .data⟩ (Array.mem_of_getElem? (i := 1) rfl) rfl (show (0 : Nat) ≤ 1000 by decide)
                have E15 := eval_some (hF.own_ 0 rfl rfl (by kernel_rfl) (by decide)); rw [d0] at E15
                have E16 := eval_some (hF.own_ 1 rfl rfl (by kernel_rfl) (by decide)); rw [d1] at E16
                refine .inr ⟨wanted_none rfl, .inl ⟨.pointer (some ⟨g, i, none⟩), ?_, hI, TyP.of_is rfl⟩⟩
                have Ec : ∀ v, F.eval (.const v) = v := fun _ => rfl; have Ef : ∀ f, F.eval (.func f) = .func (.func f) #[] #[] := fun _ => rfl; clear hF hd; generalize F.eval = ρ at E15 E16 Ec Ef ⊢
                simp [execOp, go_sem, Ec, E15, E16, hin, hkn]
              case oa3 => as_aux_lemma =>
                intro p vals W1 F hF hlo hhi hI hd
                have hp : p = 0 := Nat.le_antisymm hhi hlo
                subst hp
                clear hlo hhi
                have d2 : vals 2 = .pointer (some ⟨g, i, none⟩) := hd ⟨2, .data⟩ (Array.mem_of_getElem? (i := 0) rfl) rfl (show (0 : Nat) ≤ 1000 by decide)
                have E17 := eval_some (hF.own_ 2 rfl rfl (by kernel_rfl) (by decide)); rw [d2] at E17
                have hcell := hI.2.cells _ _ HX.out
                dsimp only at hcell
                rw [HXE.out] at hcell
                refine .inr ⟨wanted_none rfl, .inl ⟨.slice xA xl xc, ?_, hI, TyP.of_is rfl⟩⟩
                have Ec : ∀ v, F.eval (.const v) = v := fun _ => rfl; have Ef : ∀ f, F.eval (.func f) = .func (.func f) #[] #[] := fun _ => rfl; clear hF hd; generalize F.eval = ρ at E17 Ec Ef ⊢
                simp [execOp, go_sem, Ec, E17, hcell]
              case oa4 => as_aux_lemma =>
                intro p vals W1 F hF hlo hhi hI hd
                have hp : p = 0 := Nat.le_antisymm hhi hlo
                subst hp
                clear hlo hhi
                have d3 : vals 3 = .slice xA xl xc := hd ⟨3, .data⟩ (Array.mem_of_getElem? (i := 0) rfl) rfl (show (0 : Nat) ≤ 1000 by decide)
                have E18 := eval_some (hF.own_ 3 rfl rfl (by kernel_rfl) (by decide)); rw [d3] at E18
                refine .inr ⟨wanted_none rfl, ?_⟩
                have hst := str_of (hI.2.held _ _ HX.out).1 xc
                refine .inl ⟨.string XS, ?_, hI, TyP.of_is rfl⟩
                have Ec : ∀ v, F.eval (.const v) = v := fun _ => rfl; have Ef : ∀ f, F.eval (.func f) = .func (.func f) #[] #[] := fun _ => rfl; clear hF hd; generalize F.eval = ρ at E18 Ec Ef ⊢
                simp only [execOp, E18]
                rw [HXE.out] at hst
                rw [Sem.run_bind, hst, ← HXS.out]
                rfl
              case oa5 => as_aux_lemma =>
                intro p vals W1 F hF hlo hhi hI hd
                have hp : p = 0 := Nat.le_antisymm hhi hlo
                subst hp
                clear hlo hhi
                have E0 : F.eval (.tmp 0) = .slice (some ⟨g, 0, none⟩) n c := hF.out_ (by kernel_rfl) rfl
                refine .inr ⟨wanted_none rfl, .inl ⟨.slice (some ⟨g, 0, none⟩) n c, ?_, hI, TyP.of_is rfl⟩⟩
                simp only [execOp, E0, Sem.run_pure]
              case oa6 => as_aux_lemma =>
                intro p vals W1 F hF hlo hhi hI hd
                have hp : p = 0 := Nat.le_antisymm hhi hlo
                subst hp
                clear hlo hhi
                have E4 : F.eval (.tmp 4) = .int .i64 (k : Int) := hF.out_ (by kernel_rfl) rfl
                refine .inr ⟨wanted_none rfl, .inl ⟨.int .i64 (k : Int), ?_, hI, TyP.of_is rfl⟩⟩
                simp only [execOp, E4, Sem.run_pure]
              case oa7 => as_aux_lemma =>
                intro p vals W1 F hF hlo hhi hI hd
                have hp : p = 0 := Nat.le_antisymm hhi hlo
                subst hp
                clear hlo hhi
                have d5 : vals 5 = .slice (some ⟨g, 0, none⟩) n c := hd ⟨5, .data⟩ (Array.mem_of_getElem? (i := 0) rfl) rfl (show (0 : Nat) ≤ 1000 by decide)
                have d6 : vals 6 = .int .i64 (k : Int) := hd ⟨6, .data⟩ (Array.mem_of_getElem? (i := 1) rfl) rfl (show (0 : Nat) ≤ 1000 by decide)
                have E20 := eval_some (hF.own_ 5 rfl rfl (by kernel_rfl) (by decide)); rw [d5] at E20
                have E21 := eval_some (hF.own_ 6 rfl rfl (by kernel_rfl) (by decide)); rw [d6] at E21
                refine .inr ⟨wanted_none rfl, .inl ⟨.pointer (some ⟨g, k, none⟩), ?_, hI, TyP.of_is rfl⟩⟩
                have Ec : ∀ v, F.eval (.const v) = v := fun _ => rfl; have Ef : ∀ f, F.eval (.func f) = .func (.func f) #[] #[] := fun _ => rfl; clear hF hd; generalize F.eval = ρ at E20 E21 Ec Ef ⊢
                simp [execOp, go_sem, Ec, E20, E21, hin, hkn]
              case oa8 => as_aux_lemma =>
                intro p vals W1 F hF hlo hhi hI hd
                have hp : p = 0 := Nat.le_antisymm hhi hlo
                subst hp
                clear hlo hhi
                have d7 : vals 7 = .pointer (some ⟨g, k, none⟩) := hd ⟨7, .data⟩ (Array.mem_of_getElem? (i := 0) rfl) rfl (show (0 : Nat) ≤ 1000 by decide)
                have E22 := eval_some (hF.own_ 7 rfl rfl (by kernel_rfl) (by decide)); rw [d7] at E22
                have hcell := hI.2.cells _ _ HY.out
                dsimp only at hcell
                rw [HYE.out] at hcell
                refine .inr ⟨wanted_none rfl, .inl ⟨.slice yA yl yc, ?_, hI, TyP.of_is rfl⟩⟩
                have Ec : ∀ v, F.eval (.const v) = v := fun _ => rfl; have Ef : ∀ f, F.eval (.func f) = .func (.func f) #[] #[] := fun _ => rfl; clear hF hd; generalize F.eval = ρ at E22 Ec Ef ⊢
                simp [execOp, go_sem, Ec, E22, hcell]
              case oa9 => as_aux_lemma =>
                intro p vals W1 F hF hlo hhi hI hd
                have hp : p = 0 := Nat.le_antisymm hhi hlo
                subst hp
                clear hlo hhi
                have d8 : vals 8 = .slice yA yl yc := hd ⟨8, .data⟩ (Array.mem_of_getElem? (i := 0) rfl) rfl (show (0 : Nat) ≤ 1000 by decide)
                have E23 := eval_some (hF.own_ 8 rfl rfl (by kernel_rfl) (by decide)); rw [d8] at E23
                refine .inr ⟨wanted_none rfl, ?_⟩
                have hst := str_of (hI.2.held _ _ HY.out).1 yc
                refine .inl ⟨.string YS, ?_, hI, TyP.of_is rfl⟩
                have Ec : ∀ v, F.eval (.const v) = v := fun _ => rfl; have Ef : ∀ f, F.eval (.func f) = .func (.func f) #[] #[] := fun _ => rfl; clear hF hd; generalize F.eval = ρ at E23 Ec Ef ⊢
                simp only [execOp, E23]
                rw [HYE.out] at hst
                rw [Sem.run_bind, hst, ← HYS.out]
                rfl
              case oa10 => as_aux_lemma =>
                intro p vals W1 F hF hlo hhi hI hd
                have hp : p = 0 := Nat.le_antisymm hhi hlo
                subst hp
                clear hlo hhi
                have d4 : vals 4 = .string XS := hd ⟨4, .data⟩ (Array.mem_of_getElem? (i := 0) rfl) rfl (show (0 : Nat) ≤ 1000 by decide)
                have d9 : vals 9 = .string YS := hd ⟨9, .data⟩ (Array.mem_of_getElem? (i := 1) rfl) rfl (show (0 : Nat) ≤ 1000 by decide)
                have E19 := eval_some (hF.own_ 4 rfl rfl (by kernel_rfl) (by decide)); rw [d4] at E19
                have E24 := eval_some (hF.own_ 9 rfl rfl (by kernel_rfl) (by decide)); rw [d9] at E24
                refine .inr ⟨wanted_none rfl, .inl ⟨.bool true, ?_, hI, TyP.of_is rfl⟩⟩
                have Ec : ∀ v, F.eval (.const v) = v := fun _ => rfl; have Ef : ∀ f, F.eval (.func f) = .func (.func f) #[] #[] := fun _ => rfl; clear hF hd; generalize F.eval = ρ at E19 E24 Ec Ef ⊢
                simp [execOp, go_sem, Ec, E19, E24, hxy]
              case oa11 => as_aux_lemma =>
                intro p vals W1 F hF hlo hhi hI hd
                have hp : p = 0 := Nat.le_antisymm hhi hlo
                subst hp
                clear hlo hhi
                have d10 : vals 10 = .bool true := hd ⟨10, .data⟩ (Array.mem_of_getElem? (i := 0) rfl) rfl (show (0 : Nat) ≤ 1000 by decide)
                have E25 := eval_some (hF.own_ 10 rfl rfl (by kernel_rfl) (by decide)); rw [d10] at E25
                refine .inr ⟨wanted_none rfl, .inl ⟨.bool true, ?_, hI, TyP.of_is rfl⟩⟩
                simp only [execOp, E25, Sem.run_pure]
              case oa12 => as_aux_lemma =>
                intro p vals W1 F hF hlo hhi hI hd
                have hp : p = 0 := Nat.le_antisymm hhi hlo
                subst hp
                clear hlo hhi
                have d11 : vals 11 = .bool true := hd ⟨11, .guard⟩ (Array.mem_of_getElem? (i := 0) rfl) rfl (show (0 : Nat) ≤ 1000 by decide)
                have E0 : F.eval (.tmp 0) = .slice (some ⟨g, 0, none⟩) n c := hF.out_ (by kernel_rfl) rfl
                have G := hF.own_ 11 rfl rfl (by kernel_rfl) (by decide); rw [d11] at G
                refine .inr ⟨wanted_yes rfl rfl rfl G, .inl ⟨.slice (some ⟨g, 0, none⟩) n c, ?_, hI, TyP.of_is rfl⟩⟩
                simp only [execOp, E0, Sem.run_pure]
              case oa13 => as_aux_lemma =>
                intro p vals W1 F hF hlo hhi hI hd
                have hp : p = 0 := Nat.le_antisymm hhi hlo
                subst hp
                clear hlo hhi
                have d11 : vals 11 = .bool true := hd ⟨11, .guard⟩ (Array.mem_of_getElem? (i := 0) rfl) rfl (show (0 : Nat) ≤ 1000 by decide)
                have E3 : F.eval (.tmp 3) = .int .i64 (i : Int) := hF.out_ (by kernel_rfl) rfl
                have G := hF.own_ 11 rfl rfl (by kernel_rfl) (by decide); rw [d11] at G
                refine .inr ⟨wanted_yes rfl rfl rfl G, .inl ⟨.int .i64 (i : Int), ?_, hI, TyP.of_is rfl⟩⟩
                simp only [execOp, E3, Sem.run_pure]
              case oa14 => as_aux_lemma =>
                intro p vals W1 F hF hlo hhi hI hd
                have hp : p = 0 := Nat.le_antisymm hhi hlo
                subst hp
                clear hlo hhi
                have d11 : vals 11 = .bool true := hd ⟨11, .guard⟩ (Array.mem_of_getElem? (i := 2) rfl) rfl (show (0 : Nat) ≤ 1000 by decide)
                have d12 : vals 12 = .slice (some ⟨g, 0, none⟩) n c := hd ⟨12, .data⟩ (Array.mem_of_getElem? (i := 0) rfl) rfl (show (0 : Nat) ≤ 1000 by decide)
                have d13 : vals 13 = .int .i64 (i : Int) := hd ⟨13, .data⟩ (Array.mem_of_getElem? (i := 1) rfl) rfl (show (0 : Nat) ≤ 1000 by decide)
                have E27 := eval_some (hF.own_ 12 rfl rfl (by kernel_rfl) (by decide)); rw [d12] at E27
                have E28 := eval_some (hF.own_ 13 rfl rfl (by kernel_rfl) (by decide)); rw [d13] at E28
                have G := hF.own_ 11 rfl rfl (by kernel_rfl) (by decide); rw [d11] at G
                refine .inr ⟨wanted_yes rfl rfl rfl G, .inl ⟨.pointer (some ⟨g, i, none⟩), ?_, hI, TyP.of_is rfl⟩⟩
                have Ec : ∀ v, F.eval (.const v) = v := fun _ => rfl; have Ef : ∀ f, F.eval (.func f) = .func (.func f) #[] #[] := fun _ => rfl; clear hF hd; generalize F.eval = ρ at E27 E28 Ec Ef ⊢
                simp [execOp, go_sem, Ec, E27, E28, hin, hkn]
              case oa15 => as_aux_lemma =>
                intro p vals W1 F hF hlo hhi hI hd
                have hp : p = 0 := Nat.le_antisymm hhi hlo
                subst hp
                clear hlo hhi
                have d11 : vals 11 = .bool true := hd ⟨11, .guard⟩ (Array.mem_of_getElem? (i := 1) rfl) rfl (show (0 : Nat) ≤ 1000 by decide)
                have d14 : vals 14 = .pointer (some ⟨g, i, none⟩) := hd ⟨14, .data⟩ (Array.mem_of_getElem? (i := 0) rfl) rfl (show (0 : Nat) ≤ 1000 by decide)
                have E29 := eval_some (hF.own_ 14 rfl rfl (by kernel_rfl) (by decide)); rw [d14] at E29
                have G := hF.own_ 11 rfl rfl (by kernel_rfl) (by decide); rw [d11] at G
                have hcell := hI.2.cells _ _ HX.out
                dsimp only at hcell
                rw [HXE.out] at hcell
                refine .inr ⟨wanted_yes rfl rfl rfl G, .inl ⟨.slice xA xl xc, ?_, hI, TyP.of_is rfl⟩⟩
                have Ec : ∀ v, F.eval (.const v) = v := fun _ => rfl; have Ef : ∀ f, F.eval (.func f) = .func (.func f) #[] #[] := fun _ => rfl; clear hF hd; generalize F.eval = ρ at E29 Ec Ef ⊢
                simp [execOp, go_sem, Ec, E29, hcell]
              case oa16 => as_aux_lemma =>
                intro p vals W1 F hF hlo hhi hI hd
                have hp : p = 0 := Nat.le_antisymm hhi hlo
                subst hp
                clear hlo hhi
                have d11 : vals 11 = .bool true := hd ⟨11, .chain⟩ (Array.mem_of_getElem? (i := 1) rfl) rfl (show (0 : Nat) ≤ 1000 by decide)
                have d15 : vals 15 = .slice xA xl xc := hd ⟨15, .data⟩ (Array.mem_of_getElem? (i := 0) rfl) rfl (show (0 : Nat) ≤ 1000 by decide)
                have E30 := eval_some (hF.own_ 15 rfl rfl (by kernel_rfl) (by decide)); rw [d15] at E30
                have G := hF.own_ 11 rfl rfl (by kernel_rfl) (by decide); rw [d11] at G
                refine .inr ⟨wanted_yes rfl rfl rfl G, ?_⟩
                refine .inr (.inr (.inl ⟨15, #[.slice xA xl xc], ?_, (CX.out W1 (hI.2.held _ _ HX.out).1).mono ?_⟩))
                · have Ec : ∀ v, F.eval (.const v) = v := fun _ => rfl; have Ef : ∀ f, F.eval (.func f) = .func (.func f) #[] #[] := fun _ => rfl; clear hF hd; generalize F.eval = ρ at E30 Ec Ef ⊢
                  simp [execOp, go_sem, Ec, Ef, E30]
                rintro e W2 ⟨rfl, hb⟩
                exact ⟨_, rfl, hb, ⟨hI.1.trans (hb.mono hI.1.size), hI.2.later hb⟩, TyP.of_is rfl⟩
              case oa17 => as_aux_lemma =>
                intro p vals W1 F hF hlo hhi hI hd
                have hp : p = 0 := Nat.le_antisymm hhi hlo
                subst hp
                clear hlo hhi
                have d11 : vals 11 = .bool true := hd ⟨11, .guard⟩ (Array.mem_of_getElem? (i := 0) rfl) rfl (show (0 : Nat) ≤ 1000 by decide)
                have E0 : F.eval (.tmp 0) = .slice (some ⟨g, 0, none⟩) n c := hF.out_ (by kernel_rfl) rfl
                have G := hF.own_ 11 rfl rfl (by kernel_rfl) (by decide); rw [d11] at G
                refine .inr ⟨wanted_yes rfl rfl rfl G, .inl ⟨.slice (some ⟨g, 0, none⟩) n c, ?_, hI, TyP.of_is rfl⟩⟩
                simp only [execOp, E0, Sem.run_pure]
              case oa18 => as_aux_lemma =>
                intro p vals W1 F hF hlo hhi hI hd
                have hp : p = 0 := Nat.le_antisymm hhi hlo
                subst hp
                clear hlo hhi
                have d11 : vals 11 = .bool true := hd ⟨11, .guard⟩ (Array.mem_of_getElem? (i := 0) rfl) rfl (show (0 : Nat) ≤ 1000 by decide)
                have E4 : F.eval (.tmp 4) = .int .i64 (k : Int) := hF.out_ (by kernel_rfl) rfl
                have G := hF.own_ 11 rfl rfl (by kernel_rfl) (by decide); rw [d11] at G
                refine .inr ⟨wanted_yes rfl rfl rfl G, .inl ⟨.int .i64 (k : Int), ?_, hI, TyP.of_is rfl⟩⟩
                simp only [execOp, E4, Sem.run_pure]
              case oa19 => as_aux_lemma =>
                intro p vals W1 F hF hlo hhi hI hd
                have hp : p = 0 := Nat.le_antisymm hhi hlo
                subst hp
                clear hlo hhi
                have d11 : vals 11 = .bool true := hd ⟨11, .guard⟩ (Array.mem_of_getElem? (i := 2) rfl) rfl (show (0 : Nat) ≤ 1000 by decide)
                have d17 : vals 17 = .slice (some ⟨g, 0, none⟩) n c := hd ⟨17, .data⟩ (Array.mem_of_getElem? (i := 0) rfl) rfl (show (0 : Nat) ≤ 1000 by decide)
                have d18 : vals 18 = .int .i64 (k : Int) := hd ⟨18, .data⟩ (Array.mem_of_getElem? (i := 1) rfl) rfl (show (0 : Nat) ≤ 1000 by decide)
                have E32 := eval_some (hF.own_ 17 rfl rfl (by kernel_rfl) (by decide)); rw [d17] at E32
                have E33 := eval_some (hF.own_ 18 rfl rfl (by kernel_rfl) (by decide)); rw [d18] at E33
                have G := hF.own_ 11 rfl rfl (by kernel_rfl) (by decide); rw [d11] at G
                refine .inr ⟨wanted_yes rfl rfl rfl G, .inl ⟨.pointer (some ⟨g, k, none⟩), ?_, hI, TyP.of_is rfl⟩⟩
                have Ec : ∀ v, F.eval (.const v) = v := fun _ => rfl; have Ef : ∀ f, F.eval (.func f) = .func (.func f) #[] #[] := fun _ => rfl; clear hF hd; generalize F.eval = ρ at E32 E33 Ec Ef ⊢
                simp [execOp, go_sem, Ec, E32, E33, hin, hkn]
              case oa20 => as_aux_lemma =>
                intro p vals W1 F hF hlo hhi hI hd
                have hp : p = 0 := Nat.le_antisymm hhi hlo
                subst hp
                clear hlo hhi
                have d11 : vals 11 = .bool true := hd ⟨11, .guard⟩ (Array.mem_of_getElem? (i := 1) rfl) rfl (show (0 : Nat) ≤ 1000 by decide)
                have d19 : vals 19 = .pointer (some ⟨g, k, none⟩) := hd ⟨19, .data⟩ (Array.mem_of_getElem? (i := 0) rfl) rfl (show (0 : Nat) ≤ 1000 by decide)
                have E34 := eval_some (hF.own_ 19 rfl rfl (by kernel_rfl) (by decide)); rw [d19] at E34
                have G := hF.own_ 11 rfl rfl (by kernel_rfl) (by decide); rw [d11] at G
                have hcell := hI.2.cells _ _ HY.out
                dsimp only at hcell
                rw [HYE.out] at hcell
                refine .inr ⟨wanted_yes rfl rfl rfl G, .inl ⟨.slice yA yl yc, ?_, hI, TyP.of_is rfl⟩⟩
                have Ec : ∀ v, F.eval (.const v) = v := fun _ => rfl; have Ef : ∀ f, F.eval (.func f) = .func (.func f) #[] #[] := fun _ => rfl; clear hF hd; generalize F.eval = ρ at E34 Ec Ef ⊢
                simp [execOp, go_sem, Ec, E34, hcell]
              case oa21 => as_aux_lemma =>
                intro p vals W1 F hF hlo hhi hI hd
                have hp : p = 0 := Nat.le_antisymm hhi hlo
                subst hp
                clear hlo hhi
                have d11 : vals 11 = .bool true := hd ⟨11, .guard⟩ (Array.mem_of_getElem? (i := 2) rfl) rfl (show (0 : Nat) ≤ 1000 by decide)
                have d20 : vals 20 = .slice yA yl yc := hd ⟨20, .data⟩ (Array.mem_of_getElem? (i := 0) rfl) rfl (show (0 : Nat) ≤ 1000 by decide)
                have E35 := eval_some (hF.own_ 20 rfl rfl (by kernel_rfl) (by decide)); rw [d20] at E35
                have G := hF.own_ 11 rfl rfl (by kernel_rfl) (by decide); rw [d11] at G
                refine .inr ⟨wanted_yes rfl rfl rfl G, ?_⟩
                refine .inr (.inr (.inl ⟨15, #[.slice yA yl yc], ?_, (CY.out W1 (hI.2.held _ _ HY.out).1).mono ?_⟩))
                · have Ec : ∀ v, F.eval (.const v) = v := fun _ => rfl; have Ef : ∀ f, F.eval (.func f) = .func (.func f) #[] #[] := fun _ => rfl; clear hF hd; generalize F.eval = ρ at E35 Ec Ef ⊢
                  simp [execOp, go_sem, Ec, Ef, E35]
                rintro e W2 ⟨rfl, hb⟩
                exact ⟨_, rfl, hb, ⟨hI.1.trans (hb.mono hI.1.size), hI.2.later hb⟩, TyP.of_is rfl⟩
              case oa22 => as_aux_lemma =>
                intro p vals W1 F hF hlo hhi hI hd
                have hp : p = 0 := Nat.le_antisymm hhi hlo
                subst hp
                clear hlo hhi
                have d11 : vals 11 = .bool true := hd ⟨11, .guard⟩ (Array.mem_of_getElem? (i := 2) rfl) rfl (show (0 : Nat) ≤ 1000 by decide)
                have d16 : vals 16 = .agg (arr8 xh) := hd ⟨16, .data⟩ (Array.mem_of_getElem? (i := 0) rfl) rfl (show (0 : Nat) ≤ 1000 by decide)
                have d21 : vals 21 = .agg (arr8 yh) := hd ⟨21, .data⟩ (Array.mem_of_getElem? (i := 1) rfl) rfl (show (0 : Nat) ≤ 1000 by decide)
                have E31 := eval_some (hF.own_ 16 rfl rfl (by kernel_rfl) (by decide)); rw [d16] at E31
                have E36 := eval_some (hF.own_ 21 rfl rfl (by kernel_rfl) (by decide)); rw [d21] at E36
                have G := hF.own_ 11 rfl rfl (by kernel_rfl) (by decide); rw [d11] at G
                refine .inr ⟨wanted_yes rfl rfl rfl G, .inl ⟨.bool true, ?_, hI, TyP.of_is rfl⟩⟩
                have Ec : ∀ v, F.eval (.const v) = v := fun _ => rfl; have Ef : ∀ f, F.eval (.func f) = .func (.func f) #[] #[] := fun _ => rfl; clear hF hd; generalize F.eval = ρ at E31 E36 Ec Ef ⊢
                simp [execOp, go_sem, Ec, E31, E36, eq_hash yh yh HY32.out HY32.out, hhh]
              case oa23 => as_aux_lemma =>
                intro p vals W1 F hF hlo hhi hI hd
                have hp : p = 0 := Nat.le_antisymm hhi hlo
                subst hp
                clear hlo hhi
                have d11 : vals 11 = .bool true := hd ⟨11, .data⟩ (Array.mem_of_getElem? (i := 0) rfl) rfl (show (0 : Nat) ≤ 1000 by decide)
                have d22 : vals 22 = .bool true := hd ⟨22, .data⟩ (Array.mem_of_getElem? (i := 1) rfl) rfl (show (0 : Nat) ≤ 1000 by decide)
                have E26 := eval_some (hF.own_ 11 rfl rfl (by kernel_rfl) (by decide)); rw [d11] at E26
                have E37 := eval_some (hF.own_ 22 rfl rfl (by kernel_rfl) (by decide)); rw [d22] at E37
                refine .inr ⟨wanted_none rfl, .inl ⟨.bool true, ?_, hI, TyP.of_is rfl⟩⟩
                have Ec : ∀ v, F.eval (.const v) = v := fun _ => rfl; have Ef : ∀ f, F.eval (.func f) = .func (.func f) #[] #[] := fun _ => rfl; clear hF hd; generalize F.eval = ρ at E26 E37 Ec Ef ⊢
                simp [execOp, go_sem, Ec, E26, E37]
              case oaend =>
                intro vals W1 F hF hdef hI hT
                have hv : vals 23 = .bool true := hT 23 (by decide) (show (0 : Nat) ≤ 1000 by decide)
                rename_i K hK9
                refine hK9 _ _ ?_
                rw [hF.act]
                simp only [fin, Act.put, List.setIfInBounds_toArray, List.set_cons_succ, List.set_cons_zero]
                rw [hv]
                clear hF hT hv
                go_wp2
                go_ret
                exact ⟨true, rfl, ⟨fun _ => ⟨i, k, _, _, hlt2, HX.out, HY.out, HP.out.2 ⟨hxy2, hhh2⟩⟩, fun _ => rfl⟩, hI.1⟩
            · have hhh : ¬ xh = yh := hhh2
              refine wp_region_phased 40 rfl (fun _ _ W W' => Below W.heap.size W W') (fun p W1 => Below w.heap.size w W1 ∧ MeetAt W1 g l) [.is (.slice (some ⟨g, 0, none⟩) n c), .is (.int .i64 (i : Int)), .is (.pointer (some ⟨g, i, none⟩)), .is (.slice xA xl xc), .is (.string XS), .is (.slice (some ⟨g, 0, none⟩) n c), .is (.int .i64 (k : Int)), .is (.pointer (some ⟨g, k, none⟩)), .is (.slice yA yl yc), .is (.string YS), .is (.bool true), .is (.bool true), .is (.slice (some ⟨g, 0, none⟩) n c), .is (.int .i64 (i : Int)), .is (.pointer (some ⟨g, i, none⟩)), .is (.slice xA xl xc), .is (.agg (arr8 xh)), .is (.slice (some ⟨g, 0, none⟩) n c), .is (.int .i64 (k : Int)), .is (.pointer (some ⟨g, k, none⟩)), .is (.slice yA yl yc), .is (.agg (arr8 yh)), .is (.bool false), .is (.bool false)] [] [0, 0, 0, 0, 0, 0, 0, 0, 0, 0, 0, 0, 0, 0, 0, 0, 0, 0, 0, 0, 0, 0, 0, 0] [0, 0, 0, 0, 0, 0, 0, 0, 0, 0, 0, 0, 0, 0, 0, 0, 0, 0, 0, 0, 0, 0, 0, 0] (by kernel_rfl) (by kernel_rfl) (by kernel_rfl) (fun _ _ W => Below.refl _ W) (⟨HB.out.drew, HM0.out.later (Below.refl _ _).drew⟩) ⟨?ob0, ?ob1, ?ob2, ?ob3, ?ob4, ?ob5, ?ob6, ?ob7, ?ob8, ?ob9, ?ob10, ?ob11, ?ob12, ?ob13, ?ob14, ?ob15, ?ob16, ?ob17, ?ob18, ?ob19, ?ob20, ?ob21, ?ob22, ?ob23, trivial⟩ ?obend
              case ob0 => as_aux_lemma =>
                intro p vals W1 F hF hlo hhi hI hd
                have hp : p = 0 := Nat.le_antisymm hhi hlo
                subst hp
                clear hlo hhi
                have E0 : F.eval (.tmp 0) = .slice (some ⟨g, 0, none⟩) n c := hF.out_ (by kernel_rfl) rfl
                refine .inr ⟨wanted_none rfl, .inl ⟨.slice (some ⟨g, 0, none⟩) n c, ?_, hI, TyP.of_is rfl⟩⟩
                simp only [execOp, E0, Sem.run_pure]
              case ob1 => as_aux_lemma =>
                intro p vals W1 F hF hlo hhi hI hd
                have hp : p = 0 := Nat.le_antisymm hhi hlo
                subst hp
                clear hlo hhi
                have E3 : F.eval (.tmp 3) = .int .i64 (i : Int) := hF.out_ (by kernel_rfl) rfl
                refine .inr ⟨wanted_none rfl, .inl ⟨.int .i64 (i : Int), ?_, hI, TyP.of_is rfl⟩⟩
                simp only [execOp, E3, Sem.run_pure]
              case ob2 => as_aux_lemma =>
                intro p vals W1 F hF hlo hhi hI hd
                have hp : p = 0 := Nat.le_antisymm hhi hlo
                subst hp
                clear hlo hhi
                have d0 : vals 0 = .slice (some ⟨g, 0, none⟩) n c := hd ⟨0, .data⟩ (Array.mem_of_getElem? (i := 0) rfl) rfl (show (0 : Nat) ≤ 1000 by decide)
                have d1 : vals 1 = .int .i64 (i : Int) := hd ⟨1, .data⟩ (Array.mem_of_getElem? (i := 1) rfl) rfl (show (0 : Nat) ≤ 1000 by decide)
                have E15 := eval_some (hF.own_ 0 rfl rfl (by kernel_rfl) (by decide)); rw [d0] at E15
                have E16 := eval_some (hF.own_ 1 rfl rfl (by kernel_rfl) (by decide)); rw [d1] at E16
                refine .inr ⟨wanted_none rfl, .inl ⟨.pointer (some ⟨g, i, none⟩), ?_, hI, TyP.of_is rfl⟩⟩
                have Ec : ∀ v, F.eval (.const v) = v := fun _ => rfl; have Ef : ∀ f, F.eval (.func f) = .func (.func f) #[] #[] := fun _ => rfl; clear hF hd; generalize F.eval = ρ at E15 E16 Ec Ef ⊢
                simp [execOp, go_sem, Ec, E15, E16, hin, hkn]
              case ob3 => as_aux_lemma =>
                intro p vals W1 F hF hlo hhi hI hd
                have hp : p = 0 := Nat.le_antisymm hhi hlo
                subst hp
                clear hlo hhi
                have d2 : vals 2 = .pointer (some ⟨g, i, none⟩) := hd ⟨2, .data⟩ (Array.mem_of_getElem? (i := 0) rfl) rfl (show (0 : Nat) ≤ 1000 by decide)
                have E17 := eval_some (hF.own_ 2 rfl rfl (by kernel_rfl) (by decide)); rw [d2] at E17
                have hcell := hI.2.cells _ _ HX.out
                dsimp only at hcell
                rw [HXE.out] at hcell
                refine .inr ⟨wanted_none rfl, .inl ⟨.slice xA xl xc, ?_, hI, TyP.of_is rfl⟩⟩
                have Ec : ∀ v, F.eval (.const v) = v := fun _ => rfl; have Ef : ∀ f, F.eval (.func f) = .func (.func f) #[] #[] := fun _ => rfl; clear hF hd; generalize F.eval = ρ at E17 Ec Ef ⊢
                simp [execOp, go_sem, Ec, E17, hcell]
              case ob4 => as_aux_lemma =>
                intro p vals W1 F hF hlo hhi hI hd
                have hp : p = 0 := Nat.le_antisymm hhi hlo
                subst hp
                clear hlo hhi
                have d3 : vals 3 = .slice xA xl xc := hd ⟨3, .data⟩ (Array.mem_of_getElem? (i := 0) rfl) rfl (show (0 : Nat) ≤ 1000 by decide)
                have E18 := eval_some (hF.own_ 3 rfl rfl (by kernel_rfl) (by decide)); rw [d3] at E18
                refine .inr ⟨wanted_none rfl, ?_⟩
                have hst := str_of (hI.2.held _ _ HX.out).1 xc
                refine .inl ⟨.string XS, ?_, hI, TyP.of_is rfl⟩
                have Ec : ∀ v, F.eval (.const v) = v := fun _ => rfl; have Ef : ∀ f, F.eval (.func f) = .func (.func f) #[] #[] := fun _ => rfl; clear hF hd; generalize F.eval = ρ at E18 Ec Ef ⊢
                simp only [execOp, E18]
                rw [HXE.out] at hst
                rw [Sem.run_bind, hst, ← HXS.out]
                rfl
              case ob5 => as_aux_lemma =>
                intro p vals W1 F hF hlo hhi hI hd
                have hp : p = 0 := Nat.le_antisymm hhi hlo
                subst hp
                clear hlo hhi
                have E0 : F.eval (.tmp 0) = .slice (some ⟨g, 0, none⟩) n c := hF.out_ (by kernel_rfl) rfl
                refine .inr ⟨wanted_none rfl, .inl ⟨.slice (some ⟨g, 0, none⟩) n c, ?_, hI, TyP.of_is rfl⟩⟩
                simp only [execOp, E0, Sem.run_pure]
              case ob6 => as_aux_lemma =>
                intro p vals W1 F hF hlo hhi hI hd
                have hp : p = 0 := Nat.le_antisymm hhi hlo
                subst hp
                clear hlo hhi
                have E4 : F.eval (.tmp 4) = .int .i64 (k : Int) := hF.out_ (by kernel_rfl) rfl
                refine .inr ⟨wanted_none rfl, .inl ⟨.int .i64 (k : Int), ?_, hI, TyP.of_is rfl⟩⟩
                simp only [execOp, E4, Sem.run_pure]
              case ob7 => as_aux_lemma =>
                intro p vals W1 F hF hlo hhi hI hd
                have hp : p = 0 := Nat.le_antisymm hhi hlo
                subst hp
                clear hlo hhi
                have d5 : vals 5 = .slice (some ⟨g, 0, none⟩) n c := hd ⟨5, .data⟩ (Array.mem_of_getElem? (i := 0) rfl) rfl (show (0 : Nat) ≤ 1000 by decide)
                have d6 : vals 6 = .int .i64 (k : Int) := hd ⟨6, .data⟩ (Array.mem_of_getElem? (i := 1) rfl) rfl (show (0 : Nat) ≤ 1000 by decide)
                have E20 := eval_some (hF.own_ 5 rfl rfl (by kernel_rfl) (by decide)); rw [d5] at E20
                have E21 := eval_some (hF.own_ 6 rfl rfl (by kernel_rfl) (by decide)); rw [d6] at E21
                refine .inr ⟨wanted_none rfl, .inl ⟨.pointer (some ⟨g, k, none⟩), ?_, hI, TyP.of_is rfl⟩⟩
                have Ec : ∀ v, F.eval (.const v) = v := fun _ => rfl; have Ef : ∀ f, F.eval (.func f) = .func (.func f) #[] #[] := fun _ => rfl; clear hF hd; generalize F.eval = ρ at E20 E21 Ec Ef ⊢
                simp [execOp, go_sem, Ec, E20, E21, hin, hkn]
              case ob8 => as_aux_lemma =>
                intro p vals W1 F hF hlo hhi hI hd
                have hp : p = 0 := Nat.le_antisymm hhi hlo
                subst hp
                clear hlo hhi
                have d7 : vals 7 = .pointer (some ⟨g, k, none⟩) := hd ⟨7, .data⟩ (Array.mem_of_getElem? (i := 0) rfl) rfl (show (0 : Nat) ≤ 1000 by decide)
                have E22 := eval_some (hF.own_ 7 rfl rfl (by kernel_rfl) (by decide)); rw [d7] at E22
                have hcell := hI.2.cells _ _ HY.out
                dsimp only at hcell
                rw [HYE.out] at hcell
                refine .inr ⟨wanted_none rfl, .inl ⟨.slice yA yl yc, ?_, hI, TyP.of_is rfl⟩⟩
                have Ec : ∀ v, F.eval (.const v) = v := fun _ => rfl; have Ef : ∀ f, F.eval (.func f) = .func (.func f) #[] #[] := fun _ => rfl; clear hF hd; generalize F.eval = ρ at E22 Ec Ef ⊢
                simp [execOp, go_sem, Ec, E22, hcell]
              case ob9 => as_aux_lemma =>
                intro p vals W1 F hF hlo hhi hI hd
                have hp : p = 0 := Nat.le_antisymm hhi hlo
                subst hp
                clear hlo hhi
                have d8 : vals 8 = .slice yA yl yc := hd ⟨8, .data⟩ (Array.mem_of_getElem? (i := 0) rfl) rfl (show (0 : Nat) ≤ 1000 by decide)
                have E23 := eval_some (hF.own_ 8 rfl rfl (by kernel_rfl) (by decide)); rw [d8] at E23
                refine .inr ⟨wanted_none rfl, ?_⟩
                have hst := str_of (hI.2.held _ _ HY.out).1 yc
                refine .inl ⟨.string YS, ?_, hI, TyP.of_is rfl⟩
                have Ec : ∀ v, F.eval (.const v) = v := fun _ => rfl; have Ef : ∀ f, F.eval (.func f) = .func (.func f) #[] #[] := fun _ => rfl; clear hF hd; generalize F.eval = ρ at E23 Ec Ef ⊢
                simp only [execOp, E23]
                rw [HYE.out] at hst
                rw [Sem.run_bind, hst, ← HYS.out]
                rfl
              case ob10 => as_aux_lemma =>
                intro p vals W1 F hF hlo hhi hI hd
                have hp : p = 0 := Nat.le_antisymm hhi hlo
                subst hp
                clear hlo hhi
                have d4 : vals 4 = .string XS := hd ⟨4, .data⟩ (Array.mem_of_getElem? (i := 0) rfl) rfl (show (0 : Nat) ≤ 1000 by decide)
                have d9 : vals 9 = .string YS := hd ⟨9, .data⟩ (Array.mem_of_getElem? (i := 1) rfl) rfl (show (0 : Nat) ≤ 1000 by decide)
                have E19 := eval_some (hF.own_ 4 rfl rfl (by kernel_rfl) (by decide)); rw [d4] at E19
                have E24 := eval_some (hF.own_ 9 rfl rfl (by kernel_rfl) (by decide)); rw [d9] at E24
                refine .inr ⟨wanted_none rfl, .inl ⟨.bool true, ?_, hI, TyP.of_is rfl⟩⟩
                have Ec : ∀ v, F.eval (.const v) = v := fun _ => rfl; have Ef : ∀ f, F.eval (.func f) = .func (.func f) #[] #[] := fun _ => rfl; clear hF hd; generalize F.eval = ρ at E19 E24 Ec Ef ⊢
                simp [execOp, go_sem, Ec, E19, E24, hxy]
              case ob11 => as_aux_lemma =>
                intro p vals W1 F hF hlo hhi hI hd
                have hp : p = 0 := Nat.le_antisymm hhi hlo
                subst hp
                clear hlo hhi
                have d10 : vals 10 = .bool true := hd ⟨10, .data⟩ (Array.mem_of_getElem? (i := 0) rfl) rfl (show (0 : Nat) ≤ 1000 by decide)
                have E25 := eval_some (hF.own_ 10 rfl rfl (by kernel_rfl) (by decide)); rw [d10] at E25
                refine .inr ⟨wanted_none rfl, .inl ⟨.bool true, ?_, hI, TyP.of_is rfl⟩⟩
                simp only [execOp, E25, Sem.run_pure]
              case ob12 => as_aux_lemma =>
                intro p vals W1 F hF hlo hhi hI hd
                have hp : p = 0 := Nat.le_antisymm hhi hlo
                subst hp
                clear hlo hhi
                have d11 : vals 11 = .bool true := hd ⟨11, .guard⟩ (Array.mem_of_getElem? (i := 0) rfl) rfl (show (0 : Nat) ≤ 1000 by decide)
                have E0 : F.eval (.tmp 0) = .slice (some ⟨g, 0, none⟩) n c := hF.out_ (by kernel_rfl) rfl
                have G := hF.own_ 11 rfl rfl (by kernel_rfl) (by decide); rw [d11] at G
                refine .inr ⟨wanted_yes rfl rfl rfl G, .inl ⟨.slice (some ⟨g, 0, none⟩) n c, ?_, hI, TyP.of_is rfl⟩⟩
                simp only [execOp, E0, Sem.run_pure]
              case ob13 => as_aux_lemma =>
                intro p vals W1 F hF hlo hhi hI hd
                have hp : p = 0 := Nat.le_antisymm hhi hlo
                subst hp
                clear hlo hhi
                have d11 : vals 11 = .bool true := hd ⟨11, .guard⟩ (Array.mem_of_getElem? (i := 0) rfl) rfl (show (0 : Nat) ≤ 1000 by decide)
                have E3 : F.eval (.tmp 3) = .int .i64 (i : Int) := hF.out_ (by kernel_rfl) rfl
                have G := hF.own_ 11 rfl rfl (by kernel_rfl) (by decide); rw [d11] at G
                refine .inr ⟨wanted_yes rfl rfl rfl G, .inl ⟨.int .i64 (i : Int), ?_, hI, TyP.of_is rfl⟩⟩
                simp only [execOp, E3, Sem.run_pure]
              case ob14 => as_aux_lemma =>
                intro p vals W1 F hF hlo hhi hI hd
                have hp : p = 0 := Nat.le_antisymm hhi hlo
                subst hp
                clear hlo hhi
                have d11 : vals 11 = .bool true := hd ⟨11, .guard⟩ (Array.mem_of_getElem? (i := 2) rfl) rfl (show (0 : Nat) ≤ 1000 by decide)
                have d12 : vals 12 = .slice (some ⟨g, 0, none⟩) n c := hd ⟨12, .data⟩ (Array.mem_of_getElem? (i := 0) rfl) rfl (show (0 : Nat) ≤ 1000 by decide)
                have d13 : vals 13 = .int .i64 (i : Int) := hd ⟨13, .data⟩ (Array.mem_of_getElem? (i := 1) rfl) rfl (show (0 : Nat) ≤ 1000 by decide)
                have E27 := eval_some (hF.own_ 12 rfl rfl (by kernel_rfl) (by decide)); rw [d12] at E27
                have E28 := eval_some (hF.own_ 13 rfl rfl (by kernel_rfl) (by decide)); rw [d13] at E28
                have G := hF.own_ 11 rfl rfl (by kernel_rfl) (by decide); rw [d11] at G
                refine .inr ⟨wanted_yes rfl rfl rfl G, .inl ⟨.pointer (some ⟨g, i, none⟩), ?_, hI, TyP.of_is rfl⟩⟩
                have Ec : ∀ v, F.eval (.const v) = v := fun _ => rfl; have Ef : ∀ f, F.eval (.func f) = .func (.func f) #[] #[] := fun _ => rfl; clear hF hd; generalize F.eval = ρ at E27 E28 Ec Ef ⊢
                simp [execOp, go_sem, Ec, E27, E28, hin, hkn]
              case ob15 => as_aux_lemma =>
                intro p vals W1 F hF hlo hhi hI hd
                have hp : p = 0 := Nat.le_antisymm hhi hlo
                subst hp
                clear hlo hhi
                have d11 : vals 11 = .bool true := hd ⟨11, .guard⟩ (Array.mem_of_getElem? (i := 1) rfl) rfl (show (0 : Nat) ≤ 1000 by decide)
                have d14 : vals 14 = .pointer (some ⟨g, i, none⟩) := hd ⟨14, .data⟩ (Array.mem_of_getElem? (i := 0) rfl) rfl (show (0 : Nat) ≤ 1000 by decide)
                have E29 := eval_some (hF.own_ 14 rfl rfl (by kernel_rfl) (by decide)); rw [d14] at E29
                have G := hF.own_ 11 rfl rfl (by kernel_rfl) (by decide); rw [d11] at G
                have hcell := hI.2.cells _ _ HX.out
                dsimp only at hcell
                rw [HXE.out] at hcell
                refine .inr ⟨wanted_yes rfl rfl rfl G, .inl ⟨.slice xA xl xc, ?_, hI, TyP.of_is rfl⟩⟩
                have Ec : ∀ v, F.eval (.const v) = v := fun _ => rfl; have Ef : ∀ f, F.eval (.func f) = .func (.func f) #[] #[] := fun _ => rfl; clear hF hd; generalize F.eval = ρ at E29 Ec Ef ⊢
                simp [execOp, go_sem, Ec, E29, hcell]
              case ob16 => as_aux_lemma =>
                intro p vals W1 F hF hlo hhi hI hd
                have hp : p = 0 := Nat.le_antisymm hhi hlo
                subst hp
                clear hlo hhi
                have d11 : vals 11 = .bool true := hd ⟨11, .chain⟩ (Array.mem_of_getElem? (i := 1) rfl) rfl (show (0 : Nat) ≤ 1000 by decide)
                have d15 : vals 15 = .slice xA xl xc := hd ⟨15, .data⟩ (Array.mem_of_getElem? (i := 0) rfl) rfl (show (0 : Nat) ≤ 1000 by decide)
                have E30 := eval_some (hF.own_ 15 rfl rfl (by kernel_rfl) (by decide)); rw [d15] at E30
                have G := hF.own_ 11 rfl rfl (by kernel_rfl) (by decide); rw [d11] at G
                refine .inr ⟨wanted_yes rfl rfl rfl G, ?_⟩
                refine .inr (.inr (.inl ⟨15, #[.slice xA xl xc], ?_, (CX.out W1 (hI.2.held _ _ HX.out).1).mono ?_⟩))
                · have Ec : ∀ v, F.eval (.const v) = v := fun _ => rfl; have Ef : ∀ f, F.eval (.func f) = .func (.func f) #[] #[] := fun _ => rfl; clear hF hd; generalize F.eval = ρ at E30 Ec Ef ⊢
                  simp [execOp, go_sem, Ec, Ef, E30]
                rintro e W2 ⟨rfl, hb⟩
                exact ⟨_, rfl, hb, ⟨hI.1.trans (hb.mono hI.1.size), hI.2.later hb⟩, TyP.of_is rfl⟩
              case ob17 => as_aux_lemma =>
                intro p vals W1 F hF hlo hhi hI hd
                have hp : p = 0 := Nat.le_antisymm hhi hlo
                subst hp
                clear hlo hhi
                have d11 : vals 11 = .bool true := hd ⟨11, .guard⟩ (Array.mem_of_getElem? (i := 0) rfl) rfl (show (0 : Nat) ≤ 1000 by decide)
                have E0 : F.eval (.tmp 0) = .slice (some ⟨g, 0, none⟩) n c := hF.out_ (by kernel_rfl) rfl
                have G := hF.own_ 11 rfl rfl (by kernel_rfl) (by decide); rw [d11] at G
                refine .inr ⟨wanted_yes rfl rfl rfl G, .inl ⟨.slice (some ⟨g, 0, none⟩) n c, ?_, hI, TyP.of_is rfl⟩⟩
                simp only [execOp, E0, Sem.run_pure]
              case ob18 => as_aux_lemma =>
                intro p vals W1 F hF hlo hhi hI hd
                have hp : p = 0 := Nat.le_antisymm hhi hlo
                subst hp
                clear hlo hhi
                have d11 : vals 11 = .bool true := hd ⟨11, .guard⟩ (Array.mem_of_getElem? (i := 0) rfl) rfl (show (0 : Nat) ≤ 1000 by decide)
                have E4 : F.eval (.tmp 4) = .int .i64 (k : Int) := hF.out_ (by kernel_rfl) rfl
                have G := hF.own_ 11 rfl rfl (by kernel_rfl) (by decide); rw [d11] at G
                refine .inr ⟨wanted_yes rfl rfl rfl G, .inl ⟨.int .i64 (k : Int), ?_, hI, TyP.of_is rfl⟩⟩
                simp only [execOp, E4, Sem.run_pure]
              case ob19 => as_aux_lemma =>
                intro p vals W1 F hF hlo hhi hI hd
                have hp : p = 0 := Nat.le_antisymm hhi hlo
                subst hp
                clear hlo hhi
                have d11 : vals 11 = .bool true := hd ⟨11, .guard⟩ (Array.mem_of_getElem? (i := 2) rfl) rfl (show (0 : Nat) ≤ 1000 by decide)
                have d17 : vals 17 = .slice (some ⟨g, 0, none⟩) n c := hd ⟨17, .data⟩ (Array.mem_of_getElem? (i := 0) rfl) rfl (show (0 : Nat) ≤ 1000 by decide)
                have d18 : vals 18 = .int .i64 (k : Int) := hd ⟨18, .data⟩ (Array.mem_of_getElem? (i := 1) rfl) rfl (show (0 : Nat) ≤ 1000 by decide)
                have E32 := eval_some (hF.own_ 17 rfl rfl (by kernel_rfl) (by decide)); rw [d17] at E32
                have E33 := eval_some (hF.own_ 18 rfl rfl (by kernel_rfl) (by decide)); rw [d18] at E33
                have G := hF.own_ 11 rfl rfl (by kernel_rfl) (by decide); rw [d11] at G
                refine .inr ⟨wanted_yes rfl rfl rfl G, .inl ⟨.pointer (some ⟨g, k, none⟩), ?_, hI, TyP.of_is rfl⟩⟩
                have Ec : ∀ v, F.eval (.const v) = v := fun _ => rfl; have Ef : ∀ f, F.eval (.func f) = .func (.func f) #[] #[] := fun _ => rfl; clear hF hd; generalize F.eval = ρ at E32 E33 Ec Ef ⊢
                simp [execOp, go_sem, Ec, E32, E33, hin, hkn]
              case ob20 => as_aux_lemma =>
                intro p vals W1 F hF hlo hhi hI hd
                have hp : p = 0 := Nat.le_antisymm hhi hlo
                subst hp
                clear hlo hhi
                have d11 : vals 11 = .bool true := hd ⟨11, .guard⟩ (Array.mem_of_getElem? (i := 1) rfl) rfl (show (0 : Nat) ≤ 1000 by decide)
                have d19 : vals 19 = .pointer (some ⟨g, k, none⟩) := hd ⟨19, .data⟩ (Array.mem_of_getElem? (i := 0) rfl) rfl (show (0 : Nat) ≤ 1000 by decide)
                have E34 := eval_some (hF.own_ 19 rfl rfl (by kernel_rfl) (by decide)); rw [d19] at E34
                have G := hF.own_ 11 rfl rfl (by kernel_rfl) (by decide); rw [d11] at G
                have hcell := hI.2.cells _ _ HY.out
                dsimp only at hcell
                rw [HYE.out] at hcell
                refine .inr ⟨wanted_yes rfl rfl rfl G, .inl ⟨.slice yA yl yc, ?_, hI, TyP.of_is rfl⟩⟩
                have Ec : ∀ v, F.eval (.const v) = v := fun _ => rfl; have Ef : ∀ f, F.eval (.func f) = .func (.func f) #[] #[] := fun _ => rfl; clear hF hd; generalize F.eval = ρ at E34 Ec Ef ⊢
                simp [execOp, go_sem, Ec, E34, hcell]
              case ob21 => as_aux_lemma =>
                intro p vals W1 F hF hlo hhi hI hd
                have hp : p = 0 := Nat.le_antisymm hhi hlo
                subst hp
                clear hlo hhi
                have d11 : vals 11 = .bool true := hd ⟨11, .guard⟩ (Array.mem_of_getElem? (i := 2) rfl) rfl (show (0 : Nat) ≤ 1000 by decide)
                have d20 : vals 20 = .slice yA yl yc := hd ⟨20, .data⟩ (Array.mem_of_getElem? (i := 0) rfl) rfl (show (0 : Nat) ≤ 1000 by decide)
                have E35 := eval_some (hF.own_ 20 rfl rfl (by kernel_rfl) (by decide)); rw [d20] at E35
                have G := hF.own_ 11 rfl rfl (by kernel_rfl) (by decide); rw [d11] at G
                refine .inr ⟨wanted_yes rfl rfl rfl G, ?_⟩
                refine .inr (.inr (.inl ⟨15, #[.slice yA yl yc], ?_, (CY.out W1 (hI.2.held _ _ HY.out).1).mono ?_⟩))
                · have Ec : ∀ v, F.eval (.const v) = v := fun _ => rfl; have Ef : ∀ f, F.eval (.func f) = .func (.func f) #[] #[] := fun _ => rfl; clear hF hd; generalize F.eval = ρ at E35 Ec Ef ⊢
                  simp [execOp, go_sem, Ec, Ef, E35]
                rintro e W2 ⟨rfl, hb⟩
                exact ⟨_, rfl, hb, ⟨hI.1.trans (hb.mono hI.1.size), hI.2.later hb⟩, TyP.of_is rfl⟩
              case ob22 => as_aux_lemma =>
                intro p vals W1 F hF hlo hhi hI hd
                have hp : p = 0 := Nat.le_antisymm hhi hlo
                subst hp
                clear hlo hhi
                have d11 : vals 11 = .bool true := hd ⟨11, .guard⟩ (Array.mem_of_getElem? (i := 2) rfl) rfl (show (0 : Nat) ≤ 1000 by decide)
                have d16 : vals 16 = .agg (arr8 xh) := hd ⟨16, .data⟩ (Array.mem_of_getElem? (i := 0) rfl) rfl (show (0 : Nat) ≤ 1000 by decide)
                have d21 : vals 21 = .agg (arr8 yh) := hd ⟨21, .data⟩ (Array.mem_of_getElem? (i := 1) rfl) rfl (show (0 : Nat) ≤ 1000 by decide)
                have E31 := eval_some (hF.own_ 16 rfl rfl (by kernel_rfl) (by decide)); rw [d16] at E31
                have E36 := eval_some (hF.own_ 21 rfl rfl (by kernel_rfl) (by decide)); rw [d21] at E36
                have G := hF.own_ 11 rfl rfl (by kernel_rfl) (by decide); rw [d11] at G
                refine .inr ⟨wanted_yes rfl rfl rfl G, .inl ⟨.bool false, ?_, hI, TyP.of_is rfl⟩⟩
                have Ec : ∀ v, F.eval (.const v) = v := fun _ => rfl; have Ef : ∀ f, F.eval (.func f) = .func (.func f) #[] #[] := fun _ => rfl; clear hF hd; generalize F.eval = ρ at E31 E36 Ec Ef ⊢
                simp [execOp, go_sem, Ec, E31, E36, eq_hash xh yh HX32.out HY32.out, hhh]
              case ob23 => as_aux_lemma =>
                intro p vals W1 F hF hlo hhi hI hd
                have hp : p = 0 := Nat.le_antisymm hhi hlo
                subst hp
                clear hlo hhi
                have d11 : vals 11 = .bool true := hd ⟨11, .data⟩ (Array.mem_of_getElem? (i := 0) rfl) rfl (show (0 : Nat) ≤ 1000 by decide)
                have d22 : vals 22 = .bool false := hd ⟨22, .data⟩ (Array.mem_of_getElem? (i := 1) rfl) rfl (show (0 : Nat) ≤ 1000 by decide)
                have E26 := eval_some (hF.own_ 11 rfl rfl (by kernel_rfl) (by decide)); rw [d11] at E26
                have E37 := eval_some (hF.own_ 22 rfl rfl (by kernel_rfl) (by decide)); rw [d22] at E37
                refine .inr ⟨wanted_none rfl, .inl ⟨.bool false, ?_, hI, TyP.of_is rfl⟩⟩
                have Ec : ∀ v, F.eval (.const v) = v := fun _ => rfl; have Ef : ∀ f, F.eval (.func f) = .func (.func f) #[] #[] := fun _ => rfl; clear hF hd; generalize F.eval = ρ at E26 E37 Ec Ef ⊢
                simp [execOp, go_sem, Ec, E26, E37]
              case obend =>
                intro vals W1 F hF hdef hI hT
                have hv : vals 23 = .bool false := hT 23 (by decide) (show (0 : Nat) ≤ 1000 by decide)
                rename_i K hK9
                refine hK9 _ _ ?_
                rw [hF.act]
                simp only [fin, Act.put, List.setIfInBounds_toArray, List.set_cons_succ, List.set_cons_zero]
                rw [hv]
                clear hF hT hv
                go_wp2
                go_roundw
                case rel =>
                  refine ⟨k + 1, by omega, by go_num, hI.1, Lib.hid fun k' hk' y' hy' => ?_⟩
                  by_cases e : k' = k
                  · subst e
                    have h1 := HY.out
                    rw [hy'] at h1
                    cases h1
                    exact fun h => hhh2 (HP.out.1 h).2
                  · exact HNK.out k' (by omega) y' hy'
                case measure => simp [RowKit.intOf]; omega
        · have hki : k = i := by omega
          have HKI := Lib.hid hki
          clear hki
          go_wp2
          go_roundw
          case rel =>
            refine ⟨i + 1, by omega, by go_num, hB, Lib.hid fun i' hi' k' x' y' hk' hx' hy' => ?_⟩
            by_cases e : i' = i
            · subst e
              have h1 := HX.out
              rw [hx'] at h1
              cases h1
              exact HNK.out k' (by rw [HKI.out]; exact hk') y' hy'
            · exact HNO.out i' (by omega) k' x' y' hk' hx' hy'
          case measure => simp [RowKit.intOf]; omega
    · have hin : i = n := by omega
      have HIN := Lib.hid hin
      have HB := Lib.hid hB
      clear hin hB
      go_wp2
      go_ret
      refine ⟨false, rfl, ⟨(fun h => by cases h), fun ⟨i', k, x, y, h1, h2, h3, h4⟩ => ?_⟩, HB.out⟩
      have h5 : i' < n := by rw [← HN.out]; exact (List.getElem?_eq_some_iff.1 h2).1
      exact absurd h4 (HNO.out i' (by rw [HIN.out]; exact h5) k x y h1 h2 h3)
end Go.Proofs.Ytijobhpmaenjlaa.Oct
