/- The contracts of purserref02.Four, Mark, Bare. No condition beyond the memory's reach. -/
import Derived.Test.YtagcdgfdflnphaaCrcK
import Derived.Test.YtagcdgfdflnphaaCrcH
import Derived.Test.YtagcdgfdflnphaaReg3
namespace Go.Proofs.Ytagcdgfdflnphaa.Oct
open Go.Proofs.Ytagcdgfdflnphaa Go.RowKit Go.Shelf

theorem four_any (S : Nat) (hS : S < 4294967296) (w : World) : Calls Try.prog 29 #[.int .u32 (S : Int)] w (OwnBytes w (leB 4 S)) := by
  have hfb : fixedB 4 S = leB 4 S := by
    unfold fixedB
    rw [if_pos (by decide), if_neg (by simp; omega)]
    rfl
  have hfx := fun W => refFixed_any 4 S (by omega) W
  rw [hfb] at hfx
  have HFX := Lib.hid hfx
  clear hfb hfx
  go_enter Try.func29, Try.ntmps29
  go_wp2_with (go_at_call 37; refine (HFX.out _).mono ?_; rintro e w1 ⟨v, rfl, hr, hb⟩)
  go_ret
  exact ⟨v, rfl, hr, hb⟩
set_option maxHeartbeats 1000000 in
theorem refMark_any (bs : List UInt8) (hl : bs.length ≤ 1000000000) (A : Option Addr) (c : Nat) (w : World) (h : Holds8 w.heap.size w A bs) :
    Calls Try.prog 16 #[.slice A bs.length c] w (OwnBytes w (bs ++ leB 4 (onS 0 bs))) := by
  have H := Lib.hid h
  have htw := Lib.hid (twin_own bs A c _ w h (by omega))
  have hsm := Lib.hid (fun (W : World) (hW : Holds8 W.heap.size W A bs) => refSum_any bs (by omega) c A W hW)
  obtain ⟨S, hS⟩ : ∃ S, onS 0 bs = S := ⟨_, rfl⟩
  have hS32 : S < 4294967296 := by rw [← hS]; exact onS_lt _ _
  have hfo := Lib.hid (four_any S hS32)
  rw [hS] at hsm ⊢
  clear hS h
  go_enter Try.func16, Try.ntmps16
  go_wp2_with (first
    | (go_at_call 8; refine htw.out.mono ?_; rintro e w1 ⟨v, rfl, hr1, hb1⟩; obtain ⟨X, cx, rfl, hx1, _, _, hax⟩ := own_open hr1)
    | (go_at_call 10; refine (hsm.out _ (H.out.later hb1)).mono ?_; rintro e w2 ⟨rfl, rfl⟩)
    | (go_at_call 29; refine (hfo.out _).mono ?_; rintro e w3 ⟨v, rfl, hr3, hb3⟩; obtain ⟨Y, cy, rfl, hy3, _, _, hay⟩ := own_open hr3)
    | (at_builtin; refine wpList_append_bytes rfl (.tmp 4) (.tmp 7) rfl w.heap.size _ _ bs (leB 4 S) rfl (ownsRow_below hr1 hb3) Y cy rfl hy3 (by rw [leB_length]; omega) (by have := hb1.size; have := hb3.size; omega) ?_; intro v' w4 hown' hgr hv; have HOW := Lib.hid hown'; have HBW := Lib.hid ((hb1.trans (hb3.mono hb1.size)).grown hgr (by have := hb1.size; have := hb3.size; omega) (own_row_ge (ownsRow_below hr1 hb3))); clear hown' hgr hv))
  go_ret
  exact ⟨v', rfl, HOW.out, HBW.out⟩

theorem four_iff {d : List UInt8} (hd : d.length = 4) {S : Nat} (hS : S < 4294967296) : leB 4 S = d ↔ leNum d = S := by
  constructor
  · intro h
    rw [← h]
    exact leNum_leB 4 S (by simpa using hS)
  · intro h
    rw [← h, ← hd]
    exact leB_leNum d
set_option maxRecDepth 100000 in
set_option maxHeartbeats 1000000 in
theorem refBare_yes (m : List UInt8) (hl : m.length ≤ 1000000000) (A : Option Addr) (c : Nat) (hA : A = none → c = 0) (hc : m.length ≤ c) (w : World) (h : Holds8 w.heap.size w A m) (k : Nat) (hk : m.length = k + 4) (S : Nat) (hS : onS 0 (m.take k) = S) (hq : leB 4 S = m.drop k) :
    Calls Try.prog 15 #[.slice A m.length c] w (OwnPair w (m.take k, 0)) := by
  have hS32 : S < 4294967296 := by rw [← hS]; exact onS_lt _ _
  have ek : (m.length : Int) - 4 = (k : Int) := by omega
  have htl : (m.take k).length = k := by rw [List.length_take]; omega
  have hdl : ((m.drop k).take (m.length - k)).length = m.length - k := by rw [List.length_take, List.length_drop]; omega
  have hdd : (m.drop k).take (m.length - k) = m.drop k := List.take_of_length_le (by rw [List.length_drop]; omega)
  have hsm := fun cc AA W hW => refSum_any (m.take k) (by omega) cc AA W hW
  have htw := fun AA cc W hW => twin_own (m.take k) AA cc w.heap.size W hW (by omega)
  rw [htl] at hsm htw
  rw [hS] at hsm
  have H := Lib.hid h
  have HW := Lib.hid (show (A = none ∧ m.length = 0) ∨ ∃ b off, A = some ⟨b, off, none⟩ from by
    rcases h with ⟨rfl, rfl⟩ | ⟨b, off, rfl, _⟩
    · exact .inl ⟨rfl, rfl⟩
    · exact .inr ⟨b, off, rfl⟩)
  have HF := Lib.hid (four_any S hS32)
  have HSM := Lib.hid hsm
  have HTW := Lib.hid htw
  have HTL := Lib.hid htl
  have HDL := Lib.hid hdl
  have HDD := Lib.hid hdd
  have HQ := Lib.hid hq
  have hkm : k ≤ m.length := by omega
  have d0 : decide ((k : Int) < 0) = false := by simp
  clear hsm htw htl hdl hdd hq h hS hk
  go_enter Try.func15, Try.ntmps15
  go_wp2
  refine wp_region_phased 27 rfl (fun _ _ W W' => Below W.heap.size W W') (fun _ W' => Below w.heap.size w W') [.is (.int .i64 (k : Int)), .is (.bool false), .is (.bool false), .is (.slice A m.length c), .is (.int .i64 (k : Int)), .is (.slice A k c), .is (.int .u32 (S : Int)), ⟨0, 1000, fun v W => ∃ B cb, v = .slice B (leB 4 S).length cb ∧ Holds8 W.heap.size W B (leB 4 S), fun k d v W W' _ _ ⟨B, cb, e, h⟩ hr => ⟨B, cb, e, h.later hr⟩⟩, .is (.string ⟨(leB 4 S).toArray⟩), .is (.slice A m.length c), .is (.int .i64 (k : Int)), .is (.slice (Go.Proofs.Ytagcdgfdflnphaa.cutAt A k c) (m.length - k) (c - k)), .is (.string ⟨(m.drop k).toArray⟩), .is (.bool false), .is (.bool false)] [] [0, 0, 0, 0, 0, 0, 0, 0, 0, 0, 0, 0, 0, 0, 0] [0, 0, 0, 0, 0, 0, 0, 0, 0, 0, 0, 0, 0, 0, 0] (by kernel_rfl) (by kernel_rfl) (by kernel_rfl) (fun _ _ _ => Below.refl _ _) ((Below.refl _ _).drew) ⟨?ob0, ?ob1, ?ob2, ?ob3, ?ob4, ?ob5, ?ob6, ?ob7, ?ob8, ?ob9, ?ob10, ?ob11, ?ob12, ?ob13, ?ob14, trivial⟩ ?obend
  case ob0 =>
    intro p vals W1 F hF hlo hhi hI hd
    have hp : p = 0 := Nat.le_antisymm hhi hlo
    subst hp
    clear hlo hhi
    have E4 : F.eval (.tmp 4) = .int .i64 (k : Int) := hF.out_ (by kernel_rfl) rfl
    refine .inr ⟨wanted_none rfl, .inl ⟨.int .i64 (k : Int), ?_, hI, TyP.of_is rfl⟩⟩
    simp only [execOp, E4, Sem.run_pure]
  case ob1 =>
    intro p vals W1 F hF hlo hhi hI hd
    have hp : p = 0 := Nat.le_antisymm hhi hlo
    subst hp
    clear hlo hhi
    have d0 : vals 0 = .int .i64 (k : Int) := hd ⟨0, .data⟩ (Array.mem_of_getElem? (i := 0) rfl) rfl (show (0 : Nat) ≤ 1000 by decide)
    have E8 := eval_some (hF.own_ 0 rfl rfl (by kernel_rfl) (by decide)); rw [d0] at E8
    refine .inr ⟨wanted_none rfl, .inl ⟨.bool false, ?_, hI, TyP.of_is rfl⟩⟩
    have Ec : ∀ v, F.eval (.const v) = v := fun _ => rfl; have Ef : ∀ f, F.eval (.func f) = .func (.func f) #[] #[] := fun _ => rfl; clear hF hd; generalize F.eval = ρ at E8 Ec Ef ⊢
    simp [execOp, go_sem, Ec, E8]
  case ob2 =>
    intro p vals W1 F hF hlo hhi hI hd
    have hp : p = 0 := Nat.le_antisymm hhi hlo
    subst hp
    clear hlo hhi
    have d1 : vals 1 = .bool false := hd ⟨1, .data⟩ (Array.mem_of_getElem? (i := 0) rfl) rfl (show (0 : Nat) ≤ 1000 by decide)
    have E9 := eval_some (hF.own_ 1 rfl rfl (by kernel_rfl) (by decide)); rw [d1] at E9
    refine .inr ⟨wanted_none rfl, .inl ⟨.bool false, ?_, hI, TyP.of_is rfl⟩⟩
    simp only [execOp, E9, Sem.run_pure]
  case ob3 =>
    intro p vals W1 F hF hlo hhi hI hd
    have hp : p = 0 := Nat.le_antisymm hhi hlo
    subst hp
    clear hlo hhi
    have d2 : vals 2 = .bool false := hd ⟨2, .guard⟩ (Array.mem_of_getElem? (i := 0) rfl) rfl (show (0 : Nat) ≤ 1000 by decide)
    have E0 : F.eval (.tmp 0) = .slice A m.length c := hF.out_ (by kernel_rfl) rfl
    have G := hF.own_ 2 rfl rfl (by kernel_rfl) (by decide); rw [d2] at G
    refine .inr ⟨wanted_yes rfl rfl rfl G, .inl ⟨.slice A m.length c, ?_, hI, TyP.of_is rfl⟩⟩
    simp only [execOp, E0, Sem.run_pure]
  case ob4 =>
    intro p vals W1 F hF hlo hhi hI hd
    have hp : p = 0 := Nat.le_antisymm hhi hlo
    subst hp
    clear hlo hhi
    have d2 : vals 2 = .bool false := hd ⟨2, .guard⟩ (Array.mem_of_getElem? (i := 0) rfl) rfl (show (0 : Nat) ≤ 1000 by decide)
    have E4 : F.eval (.tmp 4) = .int .i64 (k : Int) := hF.out_ (by kernel_rfl) rfl
    have G := hF.own_ 2 rfl rfl (by kernel_rfl) (by decide); rw [d2] at G
    refine .inr ⟨wanted_yes rfl rfl rfl G, .inl ⟨.int .i64 (k : Int), ?_, hI, TyP.of_is rfl⟩⟩
    simp only [execOp, E4, Sem.run_pure]
  case ob5 =>
    intro p vals W1 F hF hlo hhi hI hd
    have hp : p = 0 := Nat.le_antisymm hhi hlo
    subst hp
    clear hlo hhi
    have d2 : vals 2 = .bool false := hd ⟨2, .guard⟩ (Array.mem_of_getElem? (i := 2) rfl) rfl (show (0 : Nat) ≤ 1000 by decide)
    have d3 : vals 3 = .slice A m.length c := hd ⟨3, .data⟩ (Array.mem_of_getElem? (i := 0) rfl) rfl (show (0 : Nat) ≤ 1000 by decide)
    have d4 : vals 4 = .int .i64 (k : Int) := hd ⟨4, .data⟩ (Array.mem_of_getElem? (i := 1) rfl) rfl (show (0 : Nat) ≤ 1000 by decide)
    have E11 := eval_some (hF.own_ 3 rfl rfl (by kernel_rfl) (by decide)); rw [d3] at E11
    have E12 := eval_some (hF.own_ 4 rfl rfl (by kernel_rfl) (by decide)); rw [d4] at E12
    have G := hF.own_ 2 rfl rfl (by kernel_rfl) (by decide); rw [d2] at G
    refine .inr ⟨wanted_yes rfl rfl rfl G, ?_⟩
    exact .inl ⟨_, slice_to _ _ _ _ _ _ _ _ A m.length c k HW.out E11 E12 hkm hc W1, hI, TyP.of_is rfl⟩
  case ob6 =>
    intro p vals W1 F hF hlo hhi hI hd
    have hp : p = 0 := Nat.le_antisymm hhi hlo
    subst hp
    clear hlo hhi
    have d2 : vals 2 = .bool false := hd ⟨2, .chain⟩ (Array.mem_of_getElem? (i := 1) rfl) rfl (show (0 : Nat) ≤ 1000 by decide)
    have d5 : vals 5 = .slice A k c := hd ⟨5, .data⟩ (Array.mem_of_getElem? (i := 0) rfl) rfl (show (0 : Nat) ≤ 1000 by decide)
    have E13 := eval_some (hF.own_ 5 rfl rfl (by kernel_rfl) (by decide)); rw [d5] at E13
    have G := hF.own_ 2 rfl rfl (by kernel_rfl) (by decide); rw [d2] at G
    refine .inr ⟨wanted_yes rfl rfl rfl G, ?_⟩
    refine .inr (.inr (.inl ⟨10, #[.slice A k c], ?_, (HSM.out _ _ _ ((Holds8.take_ (H.out.below hI (Nat.le_refl _)) k).more hI.size)).mono ?_⟩))
    · have Ec : ∀ v, F.eval (.const v) = v := fun _ => rfl; have Ef : ∀ f, F.eval (.func f) = .func (.func f) #[] #[] := fun _ => rfl; clear hF hd; generalize F.eval = ρ at E13 Ec Ef ⊢
      simp [execOp, go_sem, Ec, Ef, E13]
    rintro e W2 ⟨rfl, rfl⟩
    exact ⟨_, rfl, Below.refl _ _, hI, TyP.of_is rfl⟩
  case ob7 =>
    intro p vals W1 F hF hlo hhi hI hd
    have hp : p = 0 := Nat.le_antisymm hhi hlo
    subst hp
    clear hlo hhi
    have d2 : vals 2 = .bool false := hd ⟨2, .guard⟩ (Array.mem_of_getElem? (i := 2) rfl) rfl (show (0 : Nat) ≤ 1000 by decide)
    have d6 : vals 6 = .int .u32 (S : Int) := hd ⟨6, .data⟩ (Array.mem_of_getElem? (i := 0) rfl) rfl (show (0 : Nat) ≤ 1000 by decide)
    have E14 := eval_some (hF.own_ 6 rfl rfl (by kernel_rfl) (by decide)); rw [d6] at E14
    have G := hF.own_ 2 rfl rfl (by kernel_rfl) (by decide); rw [d2] at G
    refine .inr ⟨wanted_yes rfl rfl rfl G, ?_⟩
    refine .inr (.inr (.inl ⟨29, #[.int .u32 (S : Int)], ?_, (HF.out _).mono ?_⟩))
    · have Ec : ∀ v, F.eval (.const v) = v := fun _ => rfl; have Ef : ∀ f, F.eval (.func f) = .func (.func f) #[] #[] := fun _ => rfl; clear hF hd; generalize F.eval = ρ at E14 Ec Ef ⊢
      simp [execOp, go_sem, Ec, Ef, E14]
    rintro e W2 ⟨v, rfl, hr2, hb⟩
    obtain ⟨B, cb, rfl, hh, _⟩ := own_open hr2
    exact ⟨_, rfl, hb, hI.trans (hb.mono hI.size), B, cb, rfl, hh⟩
  case ob8 =>
    intro p vals W1 F hF hlo hhi hI hd
    have hp : p = 0 := Nat.le_antisymm hhi hlo
    subst hp
    clear hlo hhi
    have d2 : vals 2 = .bool false := hd ⟨2, .guard⟩ (Array.mem_of_getElem? (i := 1) rfl) rfl (show (0 : Nat) ≤ 1000 by decide)
    obtain ⟨B7, c7, hspec7, hh7⟩ := hd ⟨7, .data⟩ (Array.mem_of_getElem? (i := 0) rfl) rfl (show (0 : Nat) ≤ 1000 by decide)
    have d7 : vals 7 = .slice B7 (leB 4 S).length c7 := hspec7
    have E15 := eval_some (hF.own_ 7 rfl rfl (by kernel_rfl) (by decide)); rw [d7] at E15
    have G := hF.own_ 2 rfl rfl (by kernel_rfl) (by decide); rw [d2] at G
    refine .inr ⟨wanted_yes rfl rfl rfl G, ?_⟩
    have hst := str_of hh7 c7
    refine .inl ⟨_, ?_, hI, TyP.of_is rfl⟩
    have Ec : ∀ v, F.eval (.const v) = v := fun _ => rfl; have Ef : ∀ f, F.eval (.func f) = .func (.func f) #[] #[] := fun _ => rfl; clear hF hd; generalize F.eval = ρ at E15 Ec Ef ⊢
    simp [execOp, go_sem, Ec, E15, hst]
  case ob9 =>
    intro p vals W1 F hF hlo hhi hI hd
    have hp : p = 0 := Nat.le_antisymm hhi hlo
    subst hp
    clear hlo hhi
    have d2 : vals 2 = .bool false := hd ⟨2, .guard⟩ (Array.mem_of_getElem? (i := 0) rfl) rfl (show (0 : Nat) ≤ 1000 by decide)
    have E0 : F.eval (.tmp 0) = .slice A m.length c := hF.out_ (by kernel_rfl) rfl
    have G := hF.own_ 2 rfl rfl (by kernel_rfl) (by decide); rw [d2] at G
    refine .inr ⟨wanted_yes rfl rfl rfl G, .inl ⟨.slice A m.length c, ?_, hI, TyP.of_is rfl⟩⟩
    simp only [execOp, E0, Sem.run_pure]
  case ob10 =>
    intro p vals W1 F hF hlo hhi hI hd
    have hp : p = 0 := Nat.le_antisymm hhi hlo
    subst hp
    clear hlo hhi
    have d2 : vals 2 = .bool false := hd ⟨2, .guard⟩ (Array.mem_of_getElem? (i := 0) rfl) rfl (show (0 : Nat) ≤ 1000 by decide)
    have E4 : F.eval (.tmp 4) = .int .i64 (k : Int) := hF.out_ (by kernel_rfl) rfl
    have G := hF.own_ 2 rfl rfl (by kernel_rfl) (by decide); rw [d2] at G
    refine .inr ⟨wanted_yes rfl rfl rfl G, .inl ⟨.int .i64 (k : Int), ?_, hI, TyP.of_is rfl⟩⟩
    simp only [execOp, E4, Sem.run_pure]
  case ob11 =>
    intro p vals W1 F hF hlo hhi hI hd
    have hp : p = 0 := Nat.le_antisymm hhi hlo
    subst hp
    clear hlo hhi
    have d2 : vals 2 = .bool false := hd ⟨2, .guard⟩ (Array.mem_of_getElem? (i := 2) rfl) rfl (show (0 : Nat) ≤ 1000 by decide)
    have d9 : vals 9 = .slice A m.length c := hd ⟨9, .data⟩ (Array.mem_of_getElem? (i := 0) rfl) rfl (show (0 : Nat) ≤ 1000 by decide)
    have d10 : vals 10 = .int .i64 (k : Int) := hd ⟨10, .data⟩ (Array.mem_of_getElem? (i := 1) rfl) rfl (show (0 : Nat) ≤ 1000 by decide)
    have E17 := eval_some (hF.own_ 9 rfl rfl (by kernel_rfl) (by decide)); rw [d9] at E17
    have E18 := eval_some (hF.own_ 10 rfl rfl (by kernel_rfl) (by decide)); rw [d10] at E18
    have G := hF.own_ 2 rfl rfl (by kernel_rfl) (by decide); rw [d2] at G
    refine .inr ⟨wanted_yes rfl rfl rfl G, ?_⟩
    exact .inl ⟨_, slice_from _ _ _ _ _ _ _ _ A m.length c k HW.out E17 E18 hkm hc W1, hI, TyP.of_is rfl⟩
  case ob12 =>
    intro p vals W1 F hF hlo hhi hI hd
    have hp : p = 0 := Nat.le_antisymm hhi hlo
    subst hp
    clear hlo hhi
    have d2 : vals 2 = .bool false := hd ⟨2, .guard⟩ (Array.mem_of_getElem? (i := 1) rfl) rfl (show (0 : Nat) ≤ 1000 by decide)
    have d11 : vals 11 = .slice (Go.Proofs.Ytagcdgfdflnphaa.cutAt A k c) (m.length - k) (c - k) := hd ⟨11, .data⟩ (Array.mem_of_getElem? (i := 0) rfl) rfl (show (0 : Nat) ≤ 1000 by decide)
    have E19 := eval_some (hF.own_ 11 rfl rfl (by kernel_rfl) (by decide)); rw [d11] at E19
    have G := hF.own_ 2 rfl rfl (by kernel_rfl) (by decide); rw [d2] at G
    refine .inr ⟨wanted_yes rfl rfl rfl G, ?_⟩
    have h8 := Go.Proofs.Ytagcdgfdflnphaa.Holds8.cut (H.out.below hI (Nat.le_refl _)) hkm (Nat.le_refl _) hc
    have hst := str_of (show Holds8 w.heap.size W1 _ _ from h8) (c - k)
    rw [HDL.out] at hst
    rw [HDD.out] at hst
    refine .inl ⟨_, ?_, hI, TyP.of_is rfl⟩
    have Ec : ∀ v, F.eval (.const v) = v := fun _ => rfl; have Ef : ∀ f, F.eval (.func f) = .func (.func f) #[] #[] := fun _ => rfl; clear hF hd; generalize F.eval = ρ at E19 Ec Ef ⊢
    simp [execOp, go_sem, Ec, E19, hst]
  case ob13 =>
    intro p vals W1 F hF hlo hhi hI hd
    have hp : p = 0 := Nat.le_antisymm hhi hlo
    subst hp
    clear hlo hhi
    have d2 : vals 2 = .bool false := hd ⟨2, .guard⟩ (Array.mem_of_getElem? (i := 2) rfl) rfl (show (0 : Nat) ≤ 1000 by decide)
    have d8 : vals 8 = .string ⟨(leB 4 S).toArray⟩ := hd ⟨8, .data⟩ (Array.mem_of_getElem? (i := 0) rfl) rfl (show (0 : Nat) ≤ 1000 by decide)
    have d12 : vals 12 = .string ⟨(m.drop k).toArray⟩ := hd ⟨12, .data⟩ (Array.mem_of_getElem? (i := 1) rfl) rfl (show (0 : Nat) ≤ 1000 by decide)
    have E16 := eval_some (hF.own_ 8 rfl rfl (by kernel_rfl) (by decide)); rw [d8] at E16
    have E20 := eval_some (hF.own_ 12 rfl rfl (by kernel_rfl) (by decide)); rw [d12] at E20
    have G := hF.own_ 2 rfl rfl (by kernel_rfl) (by decide); rw [d2] at G
    refine .inr ⟨wanted_yes rfl rfl rfl G, ?_⟩
    have hq := HQ.out
    refine .inl ⟨.bool false, ?_, hI, TyP.of_is rfl⟩
    have Ec : ∀ v, F.eval (.const v) = v := fun _ => rfl; have Ef : ∀ f, F.eval (.func f) = .func (.func f) #[] #[] := fun _ => rfl; clear hF hd; generalize F.eval = ρ at E16 E20 Ec Ef ⊢
    simp [execOp, go_sem, Ec, E16, E20, hq]
  case ob14 =>
    intro p vals W1 F hF hlo hhi hI hd
    have hp : p = 0 := Nat.le_antisymm hhi hlo
    subst hp
    clear hlo hhi
    have d2 : vals 2 = .bool false := hd ⟨2, .data⟩ (Array.mem_of_getElem? (i := 0) rfl) rfl (show (0 : Nat) ≤ 1000 by decide)
    have d13 : vals 13 = .bool false := hd ⟨13, .data⟩ (Array.mem_of_getElem? (i := 1) rfl) rfl (show (0 : Nat) ≤ 1000 by decide)
    have E10 := eval_some (hF.own_ 2 rfl rfl (by kernel_rfl) (by decide)); rw [d2] at E10
    have E21 := eval_some (hF.own_ 13 rfl rfl (by kernel_rfl) (by decide)); rw [d13] at E21
    refine .inr ⟨wanted_none rfl, .inl ⟨.bool false, ?_, hI, TyP.of_is rfl⟩⟩
    have Ec : ∀ v, F.eval (.const v) = v := fun _ => rfl; have Ef : ∀ f, F.eval (.func f) = .func (.func f) #[] #[] := fun _ => rfl; clear hF hd; generalize F.eval = ρ at E10 E21 Ec Ef ⊢
    simp [execOp, go_sem, Ec, E10, E21]
  case obend =>
    intro vals W1 F hF hdef hI hT
    rename_i K hK
    refine hK _ _ ?_
    have dl : vals 14 = .bool false := hT 14 (by decide) (show (0 : Nat) ≤ 1000 by decide)
    rw [hF.act]
    simp only [fin, Act.put, List.setIfInBounds_toArray, List.set_cons_succ, List.set_cons_zero, dl]
    clear hF hT dl
    go_wp2_with (go_at_call 8; refine (HTW.out _ _ _ (Holds8.take_ (H.out.below hI (Nat.le_refl _)) k)).mono ?_; rintro e w2 ⟨v, rfl, hr2, hb2⟩)
    go_ret2
    exact ⟨v, rfl, ownsRow_base hr2 hI.size, hI.trans (hb2.mono hI.size)⟩
set_option maxRecDepth 100000 in
set_option maxHeartbeats 1000000 in
theorem refBare_no (m : List UInt8) (hl : m.length ≤ 1000000000) (A : Option Addr) (c : Nat) (hA : A = none → c = 0) (hc : m.length ≤ c) (w : World) (h : Holds8 w.heap.size w A m) (k : Nat) (hk : m.length = k + 4) (S : Nat) (hS : onS 0 (m.take k) = S) (hq : leB 4 S ≠ m.drop k) :
    Calls Try.prog 15 #[.slice A m.length c] w (OwnPair w ([], 20)) := by
  have hS32 : S < 4294967296 := by rw [← hS]; exact onS_lt _ _
  have ek : (m.length : Int) - 4 = (k : Int) := by omega
  have htl : (m.take k).length = k := by rw [List.length_take]; omega
  have hdl : ((m.drop k).take (m.length - k)).length = m.length - k := by rw [List.length_take, List.length_drop]; omega
  have hdd : (m.drop k).take (m.length - k) = m.drop k := List.take_of_length_le (by rw [List.length_drop]; omega)
  have hsm := fun cc AA W hW => refSum_any (m.take k) (by omega) cc AA W hW
  have htw := fun AA cc W hW => twin_own (m.take k) AA cc w.heap.size W hW (by omega)
  rw [htl] at hsm htw
  rw [hS] at hsm
  have H := Lib.hid h
  have HW := Lib.hid (show (A = none ∧ m.length = 0) ∨ ∃ b off, A = some ⟨b, off, none⟩ from by
    rcases h with ⟨rfl, rfl⟩ | ⟨b, off, rfl, _⟩
    · exact .inl ⟨rfl, rfl⟩
    · exact .inr ⟨b, off, rfl⟩)
  have HF := Lib.hid (four_any S hS32)
  have HSM := Lib.hid hsm
  have HTW := Lib.hid htw
  have HTL := Lib.hid htl
  have HDL := Lib.hid hdl
  have HDD := Lib.hid hdd
  have HQ := Lib.hid hq
  have hkm : k ≤ m.length := by omega
  have d0 : decide ((k : Int) < 0) = false := by simp
  clear hsm htw htl hdl hdd hq h hS hk
  go_enter Try.func15, Try.ntmps15
  go_wp2
  refine wp_region_phased 27 rfl (fun _ _ W W' => Below W.heap.size W W') (fun _ W' => Below w.heap.size w W') [.is (.int .i64 (k : Int)), .is (.bool false), .is (.bool false), .is (.slice A m.length c), .is (.int .i64 (k : Int)), .is (.slice A k c), .is (.int .u32 (S : Int)), ⟨0, 1000, fun v W => ∃ B cb, v = .slice B (leB 4 S).length cb ∧ Holds8 W.heap.size W B (leB 4 S), fun k d v W W' _ _ ⟨B, cb, e, h⟩ hr => ⟨B, cb, e, h.later hr⟩⟩, .is (.string ⟨(leB 4 S).toArray⟩), .is (.slice A m.length c), .is (.int .i64 (k : Int)), .is (.slice (Go.Proofs.Ytagcdgfdflnphaa.cutAt A k c) (m.length - k) (c - k)), .is (.string ⟨(m.drop k).toArray⟩), .is (.bool true), .is (.bool true)] [] [0, 0, 0, 0, 0, 0, 0, 0, 0, 0, 0, 0, 0, 0, 0] [0, 0, 0, 0, 0, 0, 0, 0, 0, 0, 0, 0, 0, 0, 0] (by kernel_rfl) (by kernel_rfl) (by kernel_rfl) (fun _ _ _ => Below.refl _ _) ((Below.refl _ _).drew) ⟨?ob0, ?ob1, ?ob2, ?ob3, ?ob4, ?ob5, ?ob6, ?ob7, ?ob8, ?ob9, ?ob10, ?ob11, ?ob12, ?ob13, ?ob14, trivial⟩ ?obend
  case ob0 =>
    intro p vals W1 F hF hlo hhi hI hd
    have hp : p = 0 := Nat.le_antisymm hhi hlo
    subst hp
    clear hlo hhi
    have E4 : F.eval (.tmp 4) = .int .i64 (k : Int) := hF.out_ (by kernel_rfl) rfl
    refine .inr ⟨wanted_none rfl, .inl ⟨.int .i64 (k : Int), ?_, hI, TyP.of_is rfl⟩⟩
    simp only [execOp, E4, Sem.run_pure]
  case ob1 =>
    intro p vals W1 F hF hlo hhi hI hd
    have hp : p = 0 := Nat.le_antisymm hhi hlo
    subst hp
    clear hlo hhi
    have d0 : vals 0 = .int .i64 (k : Int) := hd ⟨0, .data⟩ (Array.mem_of_getElem? (i := 0) rfl) rfl (show (0 : Nat) ≤ 1000 by decide)
    have E8 := eval_some (hF.own_ 0 rfl rfl (by kernel_rfl) (by decide)); rw [d0] at E8
    refine .inr ⟨wanted_none rfl, .inl ⟨.bool false, ?_, hI, TyP.of_is rfl⟩⟩
    have Ec : ∀ v, F.eval (.const v) = v := fun _ => rfl; have Ef : ∀ f, F.eval (.func f) = .func (.func f) #[] #[] := fun _ => rfl; clear hF hd; generalize F.eval = ρ at E8 Ec Ef ⊢
    simp [execOp, go_sem, Ec, E8]
  case ob2 =>
    intro p vals W1 F hF hlo hhi hI hd
    have hp : p = 0 := Nat.le_antisymm hhi hlo
    subst hp
    clear hlo hhi
    have d1 : vals 1 = .bool false := hd ⟨1, .data⟩ (Array.mem_of_getElem? (i := 0) rfl) rfl (show (0 : Nat) ≤ 1000 by decide)
    have E9 := eval_some (hF.own_ 1 rfl rfl (by kernel_rfl) (by decide)); rw [d1] at E9
    refine .inr ⟨wanted_none rfl, .inl ⟨.bool false, ?_, hI, TyP.of_is rfl⟩⟩
    simp only [execOp, E9, Sem.run_pure]
  case ob3 =>
    intro p vals W1 F hF hlo hhi hI hd
    have hp : p = 0 := Nat.le_antisymm hhi hlo
    subst hp
    clear hlo hhi
    have d2 : vals 2 = .bool false := hd ⟨2, .guard⟩ (Array.mem_of_getElem? (i := 0) rfl) rfl (show (0 : Nat) ≤ 1000 by decide)
    have E0 : F.eval (.tmp 0) = .slice A m.length c := hF.out_ (by kernel_rfl) rfl
    have G := hF.own_ 2 rfl rfl (by kernel_rfl) (by decide); rw [d2] at G
    refine .inr ⟨wanted_yes rfl rfl rfl G, .inl ⟨.slice A m.length c, ?_, hI, TyP.of_is rfl⟩⟩
    simp only [execOp, E0, Sem.run_pure]
  case ob4 =>
    intro p vals W1 F hF hlo hhi hI hd
    have hp : p = 0 := Nat.le_antisymm hhi hlo
    subst hp
    clear hlo hhi
    have d2 : vals 2 = .bool false := hd ⟨2, .guard⟩ (Array.mem_of_getElem? (i := 0) rfl) rfl (show (0 : Nat) ≤ 1000 by decide)
    have E4 : F.eval (.tmp 4) = .int .i64 (k : Int) := hF.out_ (by kernel_rfl) rfl
    have G := hF.own_ 2 rfl rfl (by kernel_rfl) (by decide); rw [d2] at G
    refine .inr ⟨wanted_yes rfl rfl rfl G, .inl ⟨.int .i64 (k : Int), ?_, hI, TyP.of_is rfl⟩⟩
    simp only [execOp, E4, Sem.run_pure]
  case ob5 =>
    intro p vals W1 F hF hlo hhi hI hd
    have hp : p = 0 := Nat.le_antisymm hhi hlo
    subst hp
    clear hlo hhi
    have d2 : vals 2 = .bool false := hd ⟨2, .guard⟩ (Array.mem_of_getElem? (i := 2) rfl) rfl (show (0 : Nat) ≤ 1000 by decide)
    have d3 : vals 3 = .slice A m.length c := hd ⟨3, .data⟩ (Array.mem_of_getElem? (i := 0) rfl) rfl (show (0 : Nat) ≤ 1000 by decide)
    have d4 : vals 4 = .int .i64 (k : Int) := hd ⟨4, .data⟩ (Array.mem_of_getElem? (i := 1) rfl) rfl (show (0 : Nat) ≤ 1000 by decide)
    have E11 := eval_some (hF.own_ 3 rfl rfl (by kernel_rfl) (by decide)); rw [d3] at E11
    have E12 := eval_some (hF.own_ 4 rfl rfl (by kernel_rfl) (by decide)); rw [d4] at E12
    have G := hF.own_ 2 rfl rfl (by kernel_rfl) (by decide); rw [d2] at G
    refine .inr ⟨wanted_yes rfl rfl rfl G, ?_⟩
    exact .inl ⟨_, slice_to _ _ _ _ _ _ _ _ A m.length c k HW.out E11 E12 hkm hc W1, hI, TyP.of_is rfl⟩
  case ob6 =>
    intro p vals W1 F hF hlo hhi hI hd
    have hp : p = 0 := Nat.le_antisymm hhi hlo
    subst hp
    clear hlo hhi
    have d2 : vals 2 = .bool false := hd ⟨2, .chain⟩ (Array.mem_of_getElem? (i := 1) rfl) rfl (show (0 : Nat) ≤ 1000 by decide)
    have d5 : vals 5 = .slice A k c := hd ⟨5, .data⟩ (Array.mem_of_getElem? (i := 0) rfl) rfl (show (0 : Nat) ≤ 1000 by decide)
    have E13 := eval_some (hF.own_ 5 rfl rfl (by kernel_rfl) (by decide)); rw [d5] at E13
    have G := hF.own_ 2 rfl rfl (by kernel_rfl) (by decide); rw [d2] at G
    refine .inr ⟨wanted_yes rfl rfl rfl G, ?_⟩
    refine .inr (.inr (.inl ⟨10, #[.slice A k c], ?_, (HSM.out _ _ _ ((Holds8.take_ (H.out.below hI (Nat.le_refl _)) k).more hI.size)).mono ?_⟩))
    · have Ec : ∀ v, F.eval (.const v) = v := fun _ => rfl; have Ef : ∀ f, F.eval (.func f) = .func (.func f) #[] #[] := fun _ => rfl; clear hF hd; generalize F.eval = ρ at E13 Ec Ef ⊢
      simp [execOp, go_sem, Ec, Ef, E13]
    rintro e W2 ⟨rfl, rfl⟩
    exact ⟨_, rfl, Below.refl _ _, hI, TyP.of_is rfl⟩
  case ob7 =>
    intro p vals W1 F hF hlo hhi hI hd
    have hp : p = 0 := Nat.le_antisymm hhi hlo
    subst hp
    clear hlo hhi
    have d2 : vals 2 = .bool false := hd ⟨2, .guard⟩ (Array.mem_of_getElem? (i := 2) rfl) rfl (show (0 : Nat) ≤ 1000 by decide)
    have d6 : vals 6 = .int .u32 (S : Int) := hd ⟨6, .data⟩ (Array.mem_of_getElem? (i := 0) rfl) rfl (show (0 : Nat) ≤ 1000 by decide)
    have E14 := eval_some (hF.own_ 6 rfl rfl (by kernel_rfl) (by decide)); rw [d6] at E14
    have G := hF.own_ 2 rfl rfl (by kernel_rfl) (by decide); rw [d2] at G
    refine .inr ⟨wanted_yes rfl rfl rfl G, ?_⟩
    refine .inr (.inr (.inl ⟨29, #[.int .u32 (S : Int)], ?_, (HF.out _).mono ?_⟩))
    · have Ec : ∀ v, F.eval (.const v) = v := fun _ => rfl; have Ef : ∀ f, F.eval (.func f) = .func (.func f) #[] #[] := fun _ => rfl; clear hF hd; generalize F.eval = ρ at E14 Ec Ef ⊢
      simp [execOp, go_sem, Ec, Ef, E14]
    rintro e W2 ⟨v, rfl, hr2, hb⟩
    obtain ⟨B, cb, rfl, hh, _⟩ := own_open hr2
    exact ⟨_, rfl, hb, hI.trans (hb.mono hI.size), B, cb, rfl, hh⟩
  case ob8 =>
    intro p vals W1 F hF hlo hhi hI hd
    have hp : p = 0 := Nat.le_antisymm hhi hlo
    subst hp
    clear hlo hhi
    have d2 : vals 2 = .bool false := hd ⟨2, .guard⟩ (Array.mem_of_getElem? (i := 1) rfl) rfl (show (0 : Nat) ≤ 1000 by decide)
    obtain ⟨B7, c7, hspec7, hh7⟩ := hd ⟨7, .data⟩ (Array.mem_of_getElem? (i := 0) rfl) rfl (show (0 : Nat) ≤ 1000 by decide)
    have d7 : vals 7 = .slice B7 (leB 4 S).length c7 := hspec7
    have E15 := eval_some (hF.own_ 7 rfl rfl (by kernel_rfl) (by decide)); rw [d7] at E15
    have G := hF.own_ 2 rfl rfl (by kernel_rfl) (by decide); rw [d2] at G
    refine .inr ⟨wanted_yes rfl rfl rfl G, ?_⟩
    have hst := str_of hh7 c7
    refine .inl ⟨_, ?_, hI, TyP.of_is rfl⟩
    have Ec : ∀ v, F.eval (.const v) = v := fun _ => rfl; have Ef : ∀ f, F.eval (.func f) = .func (.func f) #[] #[] := fun _ => rfl; clear hF hd; generalize F.eval = ρ at E15 Ec Ef ⊢
    simp [execOp, go_sem, Ec, E15, hst]
  case ob9 =>
    intro p vals W1 F hF hlo hhi hI hd
    have hp : p = 0 := Nat.le_antisymm hhi hlo
    subst hp
    clear hlo hhi
    have d2 : vals 2 = .bool false := hd ⟨2, .guard⟩ (Array.mem_of_getElem? (i := 0) rfl) rfl (show (0 : Nat) ≤ 1000 by decide)
    have E0 : F.eval (.tmp 0) = .slice A m.length c := hF.out_ (by kernel_rfl) rfl
    have G := hF.own_ 2 rfl rfl (by kernel_rfl) (by decide); rw [d2] at G
    refine .inr ⟨wanted_yes rfl rfl rfl G, .inl ⟨.slice A m.length c, ?_, hI, TyP.of_is rfl⟩⟩
    simp only [execOp, E0, Sem.run_pure]
  case ob10 =>
    intro p vals W1 F hF hlo hhi hI hd
    have hp : p = 0 := Nat.le_antisymm hhi hlo
    subst hp
    clear hlo hhi
    have d2 : vals 2 = .bool false := hd ⟨2, .guard⟩ (Array.mem_of_getElem? (i := 0) rfl) rfl (show (0 : Nat) ≤ 1000 by decide)
    have E4 : F.eval (.tmp 4) = .int .i64 (k : Int) := hF.out_ (by kernel_rfl) rfl
    have G := hF.own_ 2 rfl rfl (by kernel_rfl) (by decide); rw [d2] at G
    refine .inr ⟨wanted_yes rfl rfl rfl G, .inl ⟨.int .i64 (k : Int), ?_, hI, TyP.of_is rfl⟩⟩
    simp only [execOp, E4, Sem.run_pure]
  case ob11 =>
    intro p vals W1 F hF hlo hhi hI hd
    have hp : p = 0 := Nat.le_antisymm hhi hlo
    subst hp
    clear hlo hhi
    have d2 : vals 2 = .bool false := hd ⟨2, .guard⟩ (Array.mem_of_getElem? (i := 2) rfl) rfl (show (0 : Nat) ≤ 1000 by decide)
    have d9 : vals 9 = .slice A m.length c := hd ⟨9, .data⟩ (Array.mem_of_getElem? (i := 0) rfl) rfl (show (0 : Nat) ≤ 1000 by decide)
    have d10 : vals 10 = .int .i64 (k : Int) := hd ⟨10, .data⟩ (Array.mem_of_getElem? (i := 1) rfl) rfl (show (0 : Nat) ≤ 1000 by decide)
    have E17 := eval_some (hF.own_ 9 rfl rfl (by kernel_rfl) (by decide)); rw [d9] at E17
    have E18 := eval_some (hF.own_ 10 rfl rfl (by kernel_rfl) (by decide)); rw [d10] at E18
    have G := hF.own_ 2 rfl rfl (by kernel_rfl) (by decide); rw [d2] at G
    refine .inr ⟨wanted_yes rfl rfl rfl G, ?_⟩
    exact .inl ⟨_, slice_from _ _ _ _ _ _ _ _ A m.length c k HW.out E17 E18 hkm hc W1, hI, TyP.of_is rfl⟩
  case ob12 =>
    intro p vals W1 F hF hlo hhi hI hd
    have hp : p = 0 := Nat.le_antisymm hhi hlo
    subst hp
    clear hlo hhi
    have d2 : vals 2 = .bool false := hd ⟨2, .guard⟩ (Array.mem_of_getElem? (i := 1) rfl) rfl (show (0 : Nat) ≤ 1000 by decide)
    have d11 : vals 11 = .slice (Go.Proofs.Ytagcdgfdflnphaa.cutAt A k c) (m.length - k) (c - k) := hd ⟨11, .data⟩ (Array.mem_of_getElem? (i := 0) rfl) rfl (show (0 : Nat) ≤ 1000 by decide)
    have E19 := eval_some (hF.own_ 11 rfl rfl (by kernel_rfl) (by decide)); rw [d11] at E19
    have G := hF.own_ 2 rfl rfl (by kernel_rfl) (by decide); rw [d2] at G
    refine .inr ⟨wanted_yes rfl rfl rfl G, ?_⟩
    have h8 := Go.Proofs.Ytagcdgfdflnphaa.Holds8.cut (H.out.below hI (Nat.le_refl _)) hkm (Nat.le_refl _) hc
    have hst := str_of (show Holds8 w.heap.size W1 _ _ from h8) (c - k)
    rw [HDL.out] at hst
    rw [HDD.out] at hst
    refine .inl ⟨_, ?_, hI, TyP.of_is rfl⟩
    have Ec : ∀ v, F.eval (.const v) = v := fun _ => rfl; have Ef : ∀ f, F.eval (.func f) = .func (.func f) #[] #[] := fun _ => rfl; clear hF hd; generalize F.eval = ρ at E19 Ec Ef ⊢
    simp [execOp, go_sem, Ec, E19, hst]
  case ob13 =>
    intro p vals W1 F hF hlo hhi hI hd
    have hp : p = 0 := Nat.le_antisymm hhi hlo
    subst hp
    clear hlo hhi
    have d2 : vals 2 = .bool false := hd ⟨2, .guard⟩ (Array.mem_of_getElem? (i := 2) rfl) rfl (show (0 : Nat) ≤ 1000 by decide)
    have d8 : vals 8 = .string ⟨(leB 4 S).toArray⟩ := hd ⟨8, .data⟩ (Array.mem_of_getElem? (i := 0) rfl) rfl (show (0 : Nat) ≤ 1000 by decide)
    have d12 : vals 12 = .string ⟨(m.drop k).toArray⟩ := hd ⟨12, .data⟩ (Array.mem_of_getElem? (i := 1) rfl) rfl (show (0 : Nat) ≤ 1000 by decide)
    have E16 := eval_some (hF.own_ 8 rfl rfl (by kernel_rfl) (by decide)); rw [d8] at E16
    have E20 := eval_some (hF.own_ 12 rfl rfl (by kernel_rfl) (by decide)); rw [d12] at E20
    have G := hF.own_ 2 rfl rfl (by kernel_rfl) (by decide); rw [d2] at G
    refine .inr ⟨wanted_yes rfl rfl rfl G, ?_⟩
    have hq := HQ.out
    refine .inl ⟨.bool true, ?_, hI, TyP.of_is rfl⟩
    have Ec : ∀ v, F.eval (.const v) = v := fun _ => rfl; have Ef : ∀ f, F.eval (.func f) = .func (.func f) #[] #[] := fun _ => rfl; clear hF hd; generalize F.eval = ρ at E16 E20 Ec Ef ⊢
    simp [execOp, go_sem, Ec, E16, E20, hq]
  case ob14 =>
    intro p vals W1 F hF hlo hhi hI hd
    have hp : p = 0 := Nat.le_antisymm hhi hlo
    subst hp
    clear hlo hhi
    have d2 : vals 2 = .bool false := hd ⟨2, .data⟩ (Array.mem_of_getElem? (i := 0) rfl) rfl (show (0 : Nat) ≤ 1000 by decide)
    have d13 : vals 13 = .bool true := hd ⟨13, .data⟩ (Array.mem_of_getElem? (i := 1) rfl) rfl (show (0 : Nat) ≤ 1000 by decide)
    have E10 := eval_some (hF.own_ 2 rfl rfl (by kernel_rfl) (by decide)); rw [d2] at E10
    have E21 := eval_some (hF.own_ 13 rfl rfl (by kernel_rfl) (by decide)); rw [d13] at E21
    refine .inr ⟨wanted_none rfl, .inl ⟨.bool true, ?_, hI, TyP.of_is rfl⟩⟩
    have Ec : ∀ v, F.eval (.const v) = v := fun _ => rfl; have Ef : ∀ f, F.eval (.func f) = .func (.func f) #[] #[] := fun _ => rfl; clear hF hd; generalize F.eval = ρ at E10 E21 Ec Ef ⊢
    simp [execOp, go_sem, Ec, E10, E21]
  case obend =>
    intro vals W1 F hF hdef hI hT
    rename_i K hK
    refine hK _ _ ?_
    have dl : vals 14 = .bool true := hT 14 (by decide) (show (0 : Nat) ≤ 1000 by decide)
    rw [hF.act]
    simp only [fin, Act.put, List.setIfInBounds_toArray, List.set_cons_succ, List.set_cons_zero, dl]
    clear hF hT dl
    go_wp2
    go_ret2
    exact ⟨_, rfl, World.ownsRow_nil _ _ _ _, hI⟩

set_option maxHeartbeats 1000000 in
theorem refBare_any (m : List UInt8) (hl : m.length ≤ 1000000000) (A : Option Addr) (c : Nat) (hA : A = none → c = 0) (hc : m.length ≤ c) (w : World) (h : Holds8 w.heap.size w A m) :
    Calls Try.prog 15 #[.slice A m.length c] w (OwnPair w (bareR m)) := by
  by_cases h4 : m.length < 4
  · have HR := Lib.hid (show bareR m = ([], 20) by unfold bareR; rw [if_pos h4])
    have d1 : (m.length : Int) - 4 < 0 := by omega
    clear h4 h
    go_enter Try.func15, Try.ntmps15
    go_wp2
    go_quiet (fail)
    go_wp2
    go_ret2
    rw [HR.out]
    exact ⟨_, rfl, World.ownsRow_nil _ _ _ _, below_drewN (Below.refl _ _) _⟩
  · obtain ⟨k, hk⟩ : ∃ k, m.length = k + 4 := ⟨m.length - 4, by omega⟩
    have hdl : (m.drop k).length = 4 := by rw [List.length_drop]; omega
    have hR : bareR m = if leNum (m.drop k) = onS 0 (m.take k) then (m.take k, 0) else ([], 20) := by unfold bareR; rw [if_neg h4, show m.length - 4 = k by omega]
    by_cases hq : leB 4 (onS 0 (m.take k)) = m.drop k
    · rw [hR, if_pos ((four_iff hdl (onS_lt _ _)).1 hq)]
      exact refBare_yes m hl A c hA hc w h k hk _ rfl hq
    · rw [hR, if_neg fun hn => hq ((four_iff hdl (onS_lt _ _)).2 hn)]
      exact refBare_no m hl A c hA hc w h k hk _ rfl hq
end Go.Proofs.Ytagcdgfdflnphaa.Oct
