/- CrcMarks is true at every input. No condition. -/
import Derived.Test.YtagcdgfdflnphaaCrcN
import Derived.Test.YtagcdgfdflnphaaOctOpenI
namespace Go.Proofs.Ytagcdgfdflnphaa.Oct
open Go.Proofs.Ytagcdgfdflnphaa Go.ChangeShapes Go.WideShapes Go.ChangeAt Go.RowKit Go.Shelf

theorem vals_set (ys : List UInt8) (k : Nat) (x : UInt8) : vals (ys.set k x) = (vals ys).set k (.int .u8 (x.toNat : Int)) := by unfold vals; rw [List.map_set]
/-- One byte of a row of the call's own is stored. -/
theorem own_store {W : World} {base g n cap : Nat} {ys : List UInt8} (h : W.ownsRow base 5 1 (.slice (some ⟨g, 0, none⟩) n cap) n (vals ys)) (k : Nat) (x : UInt8) : (W.setCell ⟨g, k, none⟩ (.int .u8 (x.toNat : Int))).ownsRow base 5 1 (.slice (some ⟨g, 0, none⟩) n cap) n (vals (ys.set k x)) := by
  rw [vals_set]
  exact (h.stored k _).1
set_option maxRecDepth 100000 in
set_option maxHeartbeats 2000000 in
theorem marks_walk (bs : List UInt8) (A : Option Addr) (c : Nat) (w : World) (h : Holds8 w.heap.size w A bs) (hA : A = none → c = 0) (hc : bs.length ≤ c) (hl : bs.length ≤ 10000) :
    Calls Try.prog 4 #[.slice A bs.length c] w fun e w' => e = .returned (.bool true) ∧ Below w.heap.size w w' := by
  have d1 : decide ((10000 : Int) < (bs.length : Int)) = false := by simp; omega
  have H := Lib.hid h
  have HTW := Lib.hid (twin_own bs A c _ w h (by omega))
  obtain ⟨M, hM⟩ : ∃ M, bs ++ leB 4 (onS 0 bs) = M := ⟨_, rfl⟩
  have hml : M.length = bs.length + 4 := by rw [← hM, List.length_append, leB_length]
  have hm1 := fun (W : World) AA cc hW => mark_any bs (by omega) AA cc W hW
  have hm2 := fun (W : World) AA cc hW => refMark_any bs (by omega) AA cc W hW
  rw [hM] at hm1 hm2
  obtain ⟨D, E, hD⟩ : ∃ D E, bareR bs = (D, E) := ⟨_, _, rfl⟩
  have hdl : D.length ≤ bs.length := by
    have h0 := congrArg Prod.fst hD
    simp only at h0
    rw [← h0]
    unfold bareR
    split
    · simp
    · split
      · simp only [List.length_take]; omega
      · simp
  have hb1 := fun (W : World) AA cc hA hW => bare_any bs (by omega) AA cc hA W hW
  have hb2 := fun (W : World) hW => refBare_any bs (by omega) A c hA hc W hW
  rw [hD] at hb1 hb2
  have hone := (show ∀ W : World, Holds8 (W.alloc (.cells #[.int .u8 9] 5)).heap.size (W.alloc (.cells #[.int .u8 9] 5)) (some ⟨W.heap.size, 0, none⟩) [9] from fun W => holds_one W 9)
  have HM1 := Lib.hid hm1
  have HM2 := Lib.hid hm2
  have HB1 := Lib.hid hb1
  have HB2 := Lib.hid hb2
  have HONE := Lib.hid hone
  have HML := Lib.hid hml
  have hml2 : M.length ≤ 10004 := by omega
  clear hM hD hm1 hm2 hb1 hb2 hone h hml
  go_enter Try.func4, Try.ntmps4
  go_wp2_with (first
    | (go_at_call 8; refine HTW.out.mono ?_; rintro e w0 ⟨v, rfl, hr0, hb0⟩; have n0 := hb0.size)
    | (at_builtin; refine wpList_append_bytes rfl (.tmp 16) (.tmp 17) rfl w.heap.size _ _ bs [9] rfl (ownsRow_below hr0 ((Below.refl _ _).alloc (Nat.le_refl _) _)) (some ⟨w0.heap.size, 0, none⟩) 1 rfl (HONE.out w0) (by rw [List.length_singleton]; omega) (by rw [World.size_alloc]; omega) ?_; intro v' w1 hown' hgr hv; obtain ⟨O, co, rfl, ho1, hoc, hO, hax⟩ := own_open hown'; have HBW := Lib.hid ((hb0.alloc hb0.size _).grown hgr (by rw [World.size_alloc]; omega) (own_row_ge hr0)); have n1 : w0.heap.size ≤ w1.heap.size := (by have := hgr.size; simp at this; omega); clear hown' hgr hv hr0; rw [List.length_append, List.length_singleton] at hoc; have HO1 := Lib.hid ho1; have HOT := Lib.hid ho1.front; clear ho1)
    | (go_at_call 13; refine (HM1.out _ _ _ HOT.out).mono ?_; rintro e w2 ⟨v, rfl, hr2, hb2⟩; obtain ⟨X, cx, rfl, hx2, _, _, _⟩ := own_open hr2; have n2 := hb2.size)
    | (go_at_call 14; refine (HB1.out _ _ _ hO (HOT.out.later hb2)).mono ?_; rintro e w3 ⟨v, rfl, hr3, hb3⟩; obtain ⟨Y, cy, rfl, hy3, _, _, _⟩ := own_open hr3; have n3 := hb3.size)
    | (go_at_call 15; refine (HB2.out _ (H.out.later (HBW.out.trans ((hb2.trans (hb3.mono n2)).mono (Nat.le_trans n0 n1))))).mono ?_; rintro e w4 ⟨v, rfl, hr4, hb4⟩; obtain ⟨Z, cz, rfl, hz4, _, _, _⟩ := own_open hr4; have n4 := hb4.size))
  have n4w : w.heap.size ≤ w4.heap.size := by omega
  have b24 : Below w2.heap.size w2 w4 := (hb3.trans (hb4.mono n3))
  have b14 : Below w1.heap.size w1 w4 := hb2.trans (b24.mono n2)
  have HBA := Lib.hid (HBW.out.trans (b14.mono (Nat.le_trans n0 n1)))
  have HX := Lib.hid (hx2.later b24)
  have HY := Lib.hid (hy3.later hb4)
  have HZ := Lib.hid hz4
  have HO4 := Lib.hid (HO1.out.below b14 (Nat.le_refl _))
  have H4 := Lib.hid (H.out.below HBA.out (Nat.le_refl _))
  have XR := Lib.hid (ownsRow_below hr2 b24)
  have XB := Lib.hid (fun k hk => (hr2.lt k hk).2)
  have YR := Lib.hid (ownsRow_below hr3 hb4)
  have n14 : w1.heap.size ≤ w4.heap.size := by omega
  clear hb2 hb3 hb4 hb0 b24 b14 hx2 hy3 hz4 hr2 hr3 hr4
  refine wp_region_phased 92 rfl (fun _ _ W W' => Below W.heap.size W W') (fun _ W' => Below w4.heap.size w4 W') [.is (.slice X M.length cx), .is (.string ⟨M.toArray⟩), .is (.slice A bs.length c), ⟨0, 1000, fun v W => ∃ B cb, v = .slice B M.length cb ∧ Holds8 W.heap.size W B M, fun k d v W W' _ _ ⟨B, cb, e, h⟩ hr => ⟨B, cb, e, h.later hr⟩⟩, .is (.string ⟨M.toArray⟩), .is (.bool true), .is (.bool true), .is (.slice Y D.length cy), .is (.string ⟨D.toArray⟩), .is (.slice Z D.length cz), .is (.string ⟨D.toArray⟩), .is (.bool true), .is (.bool true), .is (.bool true), .is (.int .i64 E), .is (.int .i64 E), .is (.bool true), .is (.bool true), .is (.bool true)] [] [0, 0, 0, 0, 0, 0, 0, 0, 0, 0, 0, 0, 0, 0, 0, 0, 0, 0, 0] [0, 0, 0, 0, 0, 0, 0, 0, 0, 0, 0, 0, 0, 0, 0, 0, 0, 0, 0] (by kernel_rfl) (by kernel_rfl) (by kernel_rfl) (fun _ _ _ => Below.refl _ _) ((Below.refl _ _).drew) ⟨?ob0, ?ob1, ?ob2, ?ob3, ?ob4, ?ob5, ?ob6, ?ob7, ?ob8, ?ob9, ?ob10, ?ob11, ?ob12, ?ob13, ?ob14, ?ob15, ?ob16, ?ob17, ?ob18, trivial⟩ ?obend
  case ob0 =>
    intro p vals W1 F hF hlo hhi hI hd
    have hp : p = 0 := Nat.le_antisymm hhi hlo
    subst hp
    clear hlo hhi
    have E4 : F.eval (.tmp 4) = .slice X M.length cx := hF.out_ (by kernel_rfl) rfl
    refine .inr ⟨wanted_none rfl, .inl ⟨.slice X M.length cx, ?_, hI, TyP.of_is rfl⟩⟩
    simp only [execOp, E4, Sem.run_pure]
  case ob1 =>
    intro p vals W1 F hF hlo hhi hI hd
    have hp : p = 0 := Nat.le_antisymm hhi hlo
    subst hp
    clear hlo hhi
    have d0 : vals 0 = .slice X M.length cx := hd ⟨0, .data⟩ (Array.mem_of_getElem? (i := 0) rfl) rfl (show (0 : Nat) ≤ 1000 by decide)
    have E37 := eval_some (hF.own_ 0 rfl rfl (by kernel_rfl) (by decide)); rw [d0] at E37
    refine .inr ⟨wanted_none rfl, ?_⟩
    have hst := str_of (HX.out.later hI) cx
    refine .inl ⟨_, ?_, hI, TyP.of_is rfl⟩
    have Ec : ∀ v, F.eval (.const v) = v := fun _ => rfl; have Ef : ∀ f, F.eval (.func f) = .func (.func f) #[] #[] := fun _ => rfl; clear hF hd; generalize F.eval = ρ at E37 Ec Ef ⊢
    simp [execOp, go_sem, Ec, E37, hst]
  case ob2 =>
    intro p vals W1 F hF hlo hhi hI hd
    have hp : p = 0 := Nat.le_antisymm hhi hlo
    subst hp
    clear hlo hhi
    have E0 : F.eval (.tmp 0) = .slice A bs.length c := hF.out_ (by kernel_rfl) rfl
    refine .inr ⟨wanted_none rfl, .inl ⟨.slice A bs.length c, ?_, hI, TyP.of_is rfl⟩⟩
    simp only [execOp, E0, Sem.run_pure]
  case ob3 =>
    intro p vals W1 F hF hlo hhi hI hd
    have hp : p = 0 := Nat.le_antisymm hhi hlo
    subst hp
    clear hlo hhi
    have d2 : vals 2 = .slice A bs.length c := hd ⟨2, .data⟩ (Array.mem_of_getElem? (i := 0) rfl) rfl (show (0 : Nat) ≤ 1000 by decide)
    have E39 := eval_some (hF.own_ 2 rfl rfl (by kernel_rfl) (by decide)); rw [d2] at E39
    refine .inr ⟨wanted_none rfl, ?_⟩
    refine .inr (.inr (.inl ⟨16, #[.slice A bs.length c], ?_, (HM2.out _ _ _ ((H4.out.below hI n4w).more (Nat.le_trans n4w hI.size))).mono ?_⟩))
    · have Ec : ∀ v, F.eval (.const v) = v := fun _ => rfl; have Ef : ∀ f, F.eval (.func f) = .func (.func f) #[] #[] := fun _ => rfl; clear hF hd; generalize F.eval = ρ at E39 Ec Ef ⊢
      simp [execOp, go_sem, Ec, Ef, E39]
    rintro e W2 ⟨v, rfl, hr2, hb⟩
    obtain ⟨B, cb, rfl, hh, _⟩ := own_open hr2
    exact ⟨_, rfl, hb, hI.trans (hb.mono hI.size), B, cb, rfl, hh⟩
  case ob4 =>
    intro p vals W1 F hF hlo hhi hI hd
    have hp : p = 0 := Nat.le_antisymm hhi hlo
    subst hp
    clear hlo hhi
    obtain ⟨B3, c3, hspec3, hh3⟩ := hd ⟨3, .data⟩ (Array.mem_of_getElem? (i := 0) rfl) rfl (show (0 : Nat) ≤ 1000 by decide)
    have d3 : vals 3 = .slice B3 M.length c3 := hspec3
    have E40 := eval_some (hF.own_ 3 rfl rfl (by kernel_rfl) (by decide)); rw [d3] at E40
    refine .inr ⟨wanted_none rfl, ?_⟩
    have hst := str_of (hh3) c3
    refine .inl ⟨_, ?_, hI, TyP.of_is rfl⟩
    have Ec : ∀ v, F.eval (.const v) = v := fun _ => rfl; have Ef : ∀ f, F.eval (.func f) = .func (.func f) #[] #[] := fun _ => rfl; clear hF hd; generalize F.eval = ρ at E40 Ec Ef ⊢
    simp [execOp, go_sem, Ec, E40, hst]
  case ob5 =>
    intro p vals W1 F hF hlo hhi hI hd
    have hp : p = 0 := Nat.le_antisymm hhi hlo
    subst hp
    clear hlo hhi
    have d1 : vals 1 = .string ⟨M.toArray⟩ := hd ⟨1, .data⟩ (Array.mem_of_getElem? (i := 0) rfl) rfl (show (0 : Nat) ≤ 1000 by decide)
    have d4 : vals 4 = .string ⟨M.toArray⟩ := hd ⟨4, .data⟩ (Array.mem_of_getElem? (i := 1) rfl) rfl (show (0 : Nat) ≤ 1000 by decide)
    have E38 := eval_some (hF.own_ 1 rfl rfl (by kernel_rfl) (by decide)); rw [d1] at E38
    have E41 := eval_some (hF.own_ 4 rfl rfl (by kernel_rfl) (by decide)); rw [d4] at E41
    refine .inr ⟨wanted_none rfl, .inl ⟨.bool true, ?_, hI, TyP.of_is rfl⟩⟩
    have Ec : ∀ v, F.eval (.const v) = v := fun _ => rfl; have Ef : ∀ f, F.eval (.func f) = .func (.func f) #[] #[] := fun _ => rfl; clear hF hd; generalize F.eval = ρ at E38 E41 Ec Ef ⊢
    simp [execOp, go_sem, Ec, E38, E41]
  case ob6 =>
    intro p vals W1 F hF hlo hhi hI hd
    have hp : p = 0 := Nat.le_antisymm hhi hlo
    subst hp
    clear hlo hhi
    have d5 : vals 5 = .bool true := hd ⟨5, .data⟩ (Array.mem_of_getElem? (i := 0) rfl) rfl (show (0 : Nat) ≤ 1000 by decide)
    have E42 := eval_some (hF.own_ 5 rfl rfl (by kernel_rfl) (by decide)); rw [d5] at E42
    refine .inr ⟨wanted_none rfl, .inl ⟨.bool true, ?_, hI, TyP.of_is rfl⟩⟩
    simp only [execOp, E42, Sem.run_pure]
  case ob7 =>
    intro p vals W1 F hF hlo hhi hI hd
    have hp : p = 0 := Nat.le_antisymm hhi hlo
    subst hp
    clear hlo hhi
    have d6 : vals 6 = .bool true := hd ⟨6, .guard⟩ (Array.mem_of_getElem? (i := 0) rfl) rfl (show (0 : Nat) ≤ 1000 by decide)
    have E5 : F.eval (.tmp 5) = .slice Y D.length cy := hF.out_ (by kernel_rfl) rfl
    have G := hF.own_ 6 rfl rfl (by kernel_rfl) (by decide); rw [d6] at G
    refine .inr ⟨wanted_yes rfl rfl rfl G, .inl ⟨.slice Y D.length cy, ?_, hI, TyP.of_is rfl⟩⟩
    simp only [execOp, E5, Sem.run_pure]
  case ob8 =>
    intro p vals W1 F hF hlo hhi hI hd
    have hp : p = 0 := Nat.le_antisymm hhi hlo
    subst hp
    clear hlo hhi
    have d6 : vals 6 = .bool true := hd ⟨6, .guard⟩ (Array.mem_of_getElem? (i := 1) rfl) rfl (show (0 : Nat) ≤ 1000 by decide)
    have d7 : vals 7 = .slice Y D.length cy := hd ⟨7, .data⟩ (Array.mem_of_getElem? (i := 0) rfl) rfl (show (0 : Nat) ≤ 1000 by decide)
    have E44 := eval_some (hF.own_ 7 rfl rfl (by kernel_rfl) (by decide)); rw [d7] at E44
    have G := hF.own_ 6 rfl rfl (by kernel_rfl) (by decide); rw [d6] at G
    refine .inr ⟨wanted_yes rfl rfl rfl G, ?_⟩
    have hst := str_of (HY.out.later hI) cy
    refine .inl ⟨_, ?_, hI, TyP.of_is rfl⟩
    have Ec : ∀ v, F.eval (.const v) = v := fun _ => rfl; have Ef : ∀ f, F.eval (.func f) = .func (.func f) #[] #[] := fun _ => rfl; clear hF hd; generalize F.eval = ρ at E44 Ec Ef ⊢
    simp [execOp, go_sem, Ec, E44, hst]
  case ob9 =>
    intro p vals W1 F hF hlo hhi hI hd
    have hp : p = 0 := Nat.le_antisymm hhi hlo
    subst hp
    clear hlo hhi
    have d6 : vals 6 = .bool true := hd ⟨6, .guard⟩ (Array.mem_of_getElem? (i := 0) rfl) rfl (show (0 : Nat) ≤ 1000 by decide)
    have E7 : F.eval (.tmp 7) = .slice Z D.length cz := hF.out_ (by kernel_rfl) rfl
    have G := hF.own_ 6 rfl rfl (by kernel_rfl) (by decide); rw [d6] at G
    refine .inr ⟨wanted_yes rfl rfl rfl G, .inl ⟨.slice Z D.length cz, ?_, hI, TyP.of_is rfl⟩⟩
    simp only [execOp, E7, Sem.run_pure]
  case ob10 =>
    intro p vals W1 F hF hlo hhi hI hd
    have hp : p = 0 := Nat.le_antisymm hhi hlo
    subst hp
    clear hlo hhi
    have d6 : vals 6 = .bool true := hd ⟨6, .guard⟩ (Array.mem_of_getElem? (i := 1) rfl) rfl (show (0 : Nat) ≤ 1000 by decide)
    have d9 : vals 9 = .slice Z D.length cz := hd ⟨9, .data⟩ (Array.mem_of_getElem? (i := 0) rfl) rfl (show (0 : Nat) ≤ 1000 by decide)
    have E46 := eval_some (hF.own_ 9 rfl rfl (by kernel_rfl) (by decide)); rw [d9] at E46
    have G := hF.own_ 6 rfl rfl (by kernel_rfl) (by decide); rw [d6] at G
    refine .inr ⟨wanted_yes rfl rfl rfl G, ?_⟩
    have hst := str_of (HZ.out.later hI) cz
    refine .inl ⟨_, ?_, hI, TyP.of_is rfl⟩
    have Ec : ∀ v, F.eval (.const v) = v := fun _ => rfl; have Ef : ∀ f, F.eval (.func f) = .func (.func f) #[] #[] := fun _ => rfl; clear hF hd; generalize F.eval = ρ at E46 Ec Ef ⊢
    simp [execOp, go_sem, Ec, E46, hst]
  case ob11 =>
    intro p vals W1 F hF hlo hhi hI hd
    have hp : p = 0 := Nat.le_antisymm hhi hlo
    subst hp
    clear hlo hhi
    have d6 : vals 6 = .bool true := hd ⟨6, .guard⟩ (Array.mem_of_getElem? (i := 2) rfl) rfl (show (0 : Nat) ≤ 1000 by decide)
    have d8 : vals 8 = .string ⟨D.toArray⟩ := hd ⟨8, .data⟩ (Array.mem_of_getElem? (i := 0) rfl) rfl (show (0 : Nat) ≤ 1000 by decide)
    have d10 : vals 10 = .string ⟨D.toArray⟩ := hd ⟨10, .data⟩ (Array.mem_of_getElem? (i := 1) rfl) rfl (show (0 : Nat) ≤ 1000 by decide)
    have E45 := eval_some (hF.own_ 8 rfl rfl (by kernel_rfl) (by decide)); rw [d8] at E45
    have E47 := eval_some (hF.own_ 10 rfl rfl (by kernel_rfl) (by decide)); rw [d10] at E47
    have G := hF.own_ 6 rfl rfl (by kernel_rfl) (by decide); rw [d6] at G
    refine .inr ⟨wanted_yes rfl rfl rfl G, .inl ⟨.bool true, ?_, hI, TyP.of_is rfl⟩⟩
    have Ec : ∀ v, F.eval (.const v) = v := fun _ => rfl; have Ef : ∀ f, F.eval (.func f) = .func (.func f) #[] #[] := fun _ => rfl; clear hF hd; generalize F.eval = ρ at E45 E47 Ec Ef ⊢
    simp [execOp, go_sem, Ec, E45, E47]
  case ob12 =>
    intro p vals W1 F hF hlo hhi hI hd
    have hp : p = 0 := Nat.le_antisymm hhi hlo
    subst hp
    clear hlo hhi
    have d6 : vals 6 = .bool true := hd ⟨6, .data⟩ (Array.mem_of_getElem? (i := 0) rfl) rfl (show (0 : Nat) ≤ 1000 by decide)
    have d11 : vals 11 = .bool true := hd ⟨11, .data⟩ (Array.mem_of_getElem? (i := 1) rfl) rfl (show (0 : Nat) ≤ 1000 by decide)
    have E43 := eval_some (hF.own_ 6 rfl rfl (by kernel_rfl) (by decide)); rw [d6] at E43
    have E48 := eval_some (hF.own_ 11 rfl rfl (by kernel_rfl) (by decide)); rw [d11] at E48
    refine .inr ⟨wanted_none rfl, .inl ⟨.bool true, ?_, hI, TyP.of_is rfl⟩⟩
    have Ec : ∀ v, F.eval (.const v) = v := fun _ => rfl; have Ef : ∀ f, F.eval (.func f) = .func (.func f) #[] #[] := fun _ => rfl; clear hF hd; generalize F.eval = ρ at E43 E48 Ec Ef ⊢
    simp [execOp, go_sem, Ec, E43, E48]
  case ob13 =>
    intro p vals W1 F hF hlo hhi hI hd
    have hp : p = 0 := Nat.le_antisymm hhi hlo
    subst hp
    clear hlo hhi
    have d12 : vals 12 = .bool true := hd ⟨12, .data⟩ (Array.mem_of_getElem? (i := 0) rfl) rfl (show (0 : Nat) ≤ 1000 by decide)
    have E49 := eval_some (hF.own_ 12 rfl rfl (by kernel_rfl) (by decide)); rw [d12] at E49
    refine .inr ⟨wanted_none rfl, .inl ⟨.bool true, ?_, hI, TyP.of_is rfl⟩⟩
    simp only [execOp, E49, Sem.run_pure]
  case ob14 =>
    intro p vals W1 F hF hlo hhi hI hd
    have hp : p = 0 := Nat.le_antisymm hhi hlo
    subst hp
    clear hlo hhi
    have d13 : vals 13 = .bool true := hd ⟨13, .guard⟩ (Array.mem_of_getElem? (i := 0) rfl) rfl (show (0 : Nat) ≤ 1000 by decide)
    have E6 : F.eval (.tmp 6) = .int .i64 E := hF.out_ (by kernel_rfl) rfl
    have G := hF.own_ 13 rfl rfl (by kernel_rfl) (by decide); rw [d13] at G
    refine .inr ⟨wanted_yes rfl rfl rfl G, .inl ⟨.int .i64 E, ?_, hI, TyP.of_is rfl⟩⟩
    simp only [execOp, E6, Sem.run_pure]
  case ob15 =>
    intro p vals W1 F hF hlo hhi hI hd
    have hp : p = 0 := Nat.le_antisymm hhi hlo
    subst hp
    clear hlo hhi
    have d13 : vals 13 = .bool true := hd ⟨13, .guard⟩ (Array.mem_of_getElem? (i := 0) rfl) rfl (show (0 : Nat) ≤ 1000 by decide)
    have E8 : F.eval (.tmp 8) = .int .i64 E := hF.out_ (by kernel_rfl) rfl
    have G := hF.own_ 13 rfl rfl (by kernel_rfl) (by decide); rw [d13] at G
    refine .inr ⟨wanted_yes rfl rfl rfl G, .inl ⟨.int .i64 E, ?_, hI, TyP.of_is rfl⟩⟩
    simp only [execOp, E8, Sem.run_pure]
  case ob16 =>
    intro p vals W1 F hF hlo hhi hI hd
    have hp : p = 0 := Nat.le_antisymm hhi hlo
    subst hp
    clear hlo hhi
    have d13 : vals 13 = .bool true := hd ⟨13, .guard⟩ (Array.mem_of_getElem? (i := 2) rfl) rfl (show (0 : Nat) ≤ 1000 by decide)
    have d14 : vals 14 = .int .i64 E := hd ⟨14, .data⟩ (Array.mem_of_getElem? (i := 0) rfl) rfl (show (0 : Nat) ≤ 1000 by decide)
    have d15 : vals 15 = .int .i64 E := hd ⟨15, .data⟩ (Array.mem_of_getElem? (i := 1) rfl) rfl (show (0 : Nat) ≤ 1000 by decide)
    have E51 := eval_some (hF.own_ 14 rfl rfl (by kernel_rfl) (by decide)); rw [d14] at E51
    have E52 := eval_some (hF.own_ 15 rfl rfl (by kernel_rfl) (by decide)); rw [d15] at E52
    have G := hF.own_ 13 rfl rfl (by kernel_rfl) (by decide); rw [d13] at G
    refine .inr ⟨wanted_yes rfl rfl rfl G, .inl ⟨.bool true, ?_, hI, TyP.of_is rfl⟩⟩
    have Ec : ∀ v, F.eval (.const v) = v := fun _ => rfl; have Ef : ∀ f, F.eval (.func f) = .func (.func f) #[] #[] := fun _ => rfl; clear hF hd; generalize F.eval = ρ at E51 E52 Ec Ef ⊢
    simp [execOp, go_sem, Ec, E51, E52]
  case ob17 =>
    intro p vals W1 F hF hlo hhi hI hd
    have hp : p = 0 := Nat.le_antisymm hhi hlo
    subst hp
    clear hlo hhi
    have d13 : vals 13 = .bool true := hd ⟨13, .data⟩ (Array.mem_of_getElem? (i := 0) rfl) rfl (show (0 : Nat) ≤ 1000 by decide)
    have d16 : vals 16 = .bool true := hd ⟨16, .data⟩ (Array.mem_of_getElem? (i := 1) rfl) rfl (show (0 : Nat) ≤ 1000 by decide)
    have E50 := eval_some (hF.own_ 13 rfl rfl (by kernel_rfl) (by decide)); rw [d13] at E50
    have E53 := eval_some (hF.own_ 16 rfl rfl (by kernel_rfl) (by decide)); rw [d16] at E53
    refine .inr ⟨wanted_none rfl, .inl ⟨.bool true, ?_, hI, TyP.of_is rfl⟩⟩
    have Ec : ∀ v, F.eval (.const v) = v := fun _ => rfl; have Ef : ∀ f, F.eval (.func f) = .func (.func f) #[] #[] := fun _ => rfl; clear hF hd; generalize F.eval = ρ at E50 E53 Ec Ef ⊢
    simp [execOp, go_sem, Ec, E50, E53]
  case ob18 =>
    intro p vals W1 F hF hlo hhi hI hd
    have hp : p = 0 := Nat.le_antisymm hhi hlo
    subst hp
    clear hlo hhi
    have d17 : vals 17 = .bool true := hd ⟨17, .data⟩ (Array.mem_of_getElem? (i := 0) rfl) rfl (show (0 : Nat) ≤ 1000 by decide)
    have E54 := eval_some (hF.own_ 17 rfl rfl (by kernel_rfl) (by decide)); rw [d17] at E54
    refine .inr ⟨wanted_none rfl, .inl ⟨.bool true, ?_, hI, TyP.of_is rfl⟩⟩
    simp only [execOp, E54, Sem.run_pure]
  case obend =>
    intro vals W1 F hF hdef hI hT
    rename_i K hK
    refine hK _ _ ?_
    have dl : vals 18 = .bool true := hT 18 (by decide) (show (0 : Nat) ≤ 1000 by decide)
    rw [hF.act]
    simp only [fin, Act.put, List.setIfInBounds_toArray, List.set_cons_succ, List.set_cons_zero, dl]
    clear hF hT dl
    have HBF := Lib.hid (HBA.out.trans (hI.mono n4w))
    have HO5 := Lib.hid (HO4.out.below hI n14)
    have xrow := Lib.hid (ownsRow_below XR.out hI)
    have yrow := Lib.hid (ownsRow_below YR.out hI)
    have n15 : w1.heap.size ≤ W1.heap.size := Nat.le_trans n14 hI.size
    clear hI HX HY HZ HO4 H4 XR YR
    have xbase := Lib.hid (Nat.le_refl w1.heap.size)
    have ybase := Lib.hid n2
    go_wp2
    go_loopw [10, 57] (fun _ i wr => ∃ (q : Nat) (ys : List UInt8), q ≤ M.length ∧ i = .int .i64 (q : Int) ∧ ys.length = M.length ∧ wr.ownsRow w1.heap.size 5 1 (.slice X M.length cx) M.length (Go.Proofs.Ytagcdgfdflnphaa.Oct.vals ys) ∧ Below w1.heap.size W1 wr ∧ wr.ownsRow w2.heap.size 5 1 (.slice Y D.length cy) D.length (Go.Proofs.Ytagcdgfdflnphaa.Oct.vals D)) (fun _ i _ => M.length - (intOf i).toNat)
    case atStart => exact ⟨0, _, Nat.zero_le _, rfl, rfl, xrow.out, Below.refl _ _, yrow.out⟩
    case round =>
      obtain ⟨q, ys, hq, rfl, hyl, hrow, hB, hyr⟩ := hrel
      by_cases hlt : q < M.length
      · obtain ⟨g, cg, hX, hgb, hgl, hgc, hgcell, hgf⟩ := own_form hyl (by omega) hrow
        rw [hyl] at hX
        have hcq := hgcell q (by omega)
        rw [Nat.zero_add] at hcq
        have hfq := hgf q
        obtain ⟨y, hy⟩ : ∃ y, ys[q]'(by omega) = y := ⟨_, rfl⟩
        rw [hy] at hcq
        have hub := UInt8.toNat_lt y
        obtain ⟨y2, hy2⟩ : ∃ y2 : UInt8, y + 1 = y2 := ⟨_, rfl⟩
        have ey : ((y.toNat : Int) + 1) % 256 = (y2.toNat : Int) := by
          rw [← hy2, UInt8.toNat_add]
          simp
        have HX := Lib.hid hX
        rw [hX] at hrow ⊢
        have HS := Lib.hid (own_store hrow q y2)
        have HL := Lib.hid (show (ys.set q y2).length = M.length by rw [List.length_set]; exact hyl)
        have HB := Lib.hid (hB.setCell (p := ⟨g, q, none⟩) (by have := hgb; have := xbase.out; simp only; omega) (.int .u8 (y2.toNat : Int)))
        have hg2 : g < w2.heap.size := XB.out g (by rw [HX.out]; rfl)
        have HE := Lib.hid (ownsRow_same hyr (w' := wr.setCell ⟨g, q, none⟩ (.int .u8 (y2.toNat : Int))) fun k' hk' => Below.heap_setCell _ _ _ _ (by have := (hyr.lt k' hk').1; simp only; omega))
        clear hgcell hgf hy hy2 hrow hyl hX
        go_wp2
        refine ⟨⟨q + 1, ys.set q y2, by omega, by go_num, HL.out, HS.out, HB.out, HE.out⟩, ?_⟩
        simp [intOf]
        omega
      · obtain rfl : q = M.length := by omega
        have zrow := Lib.hid hyr
        have zbase := ybase
        obtain ⟨wo, hwo⟩ : ∃ wo : World, wo = wr := ⟨_, rfl⟩
        rw [← hwo] at zrow hB ⊢
        have hbo := hB
        clear hrow hyr hwo hB
        go_wp2
        go_loopw [11, 71] (fun _ i wr => ∃ (q : Nat) (ys : List UInt8), q ≤ D.length ∧ i = .int .i64 (q : Int) ∧ ys.length = D.length ∧ wr.ownsRow w2.heap.size 5 1 (.slice Y D.length cy) D.length (Go.Proofs.Ytagcdgfdflnphaa.Oct.vals ys) ∧ Below w1.heap.size wo wr) (fun _ i _ => D.length - (intOf i).toNat)
        case atStart => exact ⟨0, _, Nat.zero_le _, rfl, rfl, zrow.out, Below.refl _ _⟩
        case round =>
          obtain ⟨q, ys, hq, rfl, hyl, hrow, hB⟩ := hrel
          by_cases hlt : q < D.length
          · obtain ⟨g, cg, hX, hgb, hgl, hgc, hgcell, hgf⟩ := own_form hyl (by omega) hrow
            rw [hyl] at hX
            have hcq := hgcell q (by omega)
            rw [Nat.zero_add] at hcq
            have hfq := hgf q
            obtain ⟨y, hy⟩ : ∃ y, ys[q]'(by omega) = y := ⟨_, rfl⟩
            rw [hy] at hcq
            have hub := UInt8.toNat_lt y
            obtain ⟨y2, hy2⟩ : ∃ y2 : UInt8, y + 1 = y2 := ⟨_, rfl⟩
            have ey : ((y.toNat : Int) + 1) % 256 = (y2.toNat : Int) := by
              rw [← hy2, UInt8.toNat_add]
              simp
            have HX := Lib.hid hX
            rw [hX] at hrow ⊢
            have HS := Lib.hid (own_store hrow q y2)
            have HL := Lib.hid (show (ys.set q y2).length = D.length by rw [List.length_set]; exact hyl)
            have HB := Lib.hid (hB.setCell (p := ⟨g, q, none⟩) (by have := hgb; have := zbase.out; simp only; omega) (.int .u8 (y2.toNat : Int)))
            clear hgcell hgf hy hy2 hrow hyl hX
            go_wp2
            refine ⟨⟨q + 1, ys.set q y2, by omega, by go_num, HL.out, HS.out, HB.out⟩, ?_⟩
            simp [intOf]
            omega
          · obtain rfl : q = D.length := by omega
            have HBZ := Lib.hid (HBF.out.trans ((hbo.trans hB).mono (Nat.le_trans n0 n1)))
            have hs1 := str_of (HO5.out.below (hbo.trans hB) (Nat.le_refl _)) co
            rw [List.length_append, List.length_singleton] at hs1
            have hs2 := str_of (H.out.below HBZ.out (Nat.le_refl _)) c
            have hsa : (⟨bs.toArray⟩ : ByteArray) ++ ⟨#[9]⟩ = ⟨(bs ++ [9]).toArray⟩ := by
              apply ByteArray.ext
              simp
            go_wp2
            go_ret
            exact ⟨rfl, HBZ.out⟩

theorem marks_all (bs : List UInt8) (A : Option Addr) (c : Nat) (w : World) (h : Holds8 w.heap.size w A bs) (hA : A = none → c = 0) (hc : bs.length ≤ c) :
    Calls Try.prog 4 #[.slice A bs.length c] w fun e w' => e = .returned (.bool true) ∧ Below w.heap.size w w' := by
  by_cases hl : bs.length ≤ 10000
  · exact marks_walk bs A c w h hA hc hl
  · have d1 : (10000 : Int) < (bs.length : Int) := by omega
    clear hl h
    go_enter Try.func4, Try.ntmps4
    go_wp2
    go_ret
    exact ⟨rfl, Below.refl _ _⟩

set_option maxRecDepth 100000 in
theorem marks_lifted (os : Os) (started : os.Started) (H : Type) (enc : TypeId × Value → H) :
    ReturnsInHanded {} Try.checked os 4 .any (Rows.crcMarksSpec.pre6 enc Try.prog Try.f4 Rows.crcMarksRow.domain false) (Rows.crcMarksSpec.post enc Try.prog Try.f4 false true false false) := by
  refine returnsInHanded_of_change (C := Try.checked) own started (by kernel_rfl) Try.func4
    (ChangeSpec.witness6 (enc := enc) (C := Try.checked) false ⟨#[], #[.slice none 0 0], []⟩ 8 (by kernel_rfl) (by kernel_rfl) (by kernel_rfl) (by kernel_rfl)) ?_
  intro W base args ds gs before hval0 hW hcnd _
  have hval : ∀ (j : Nat) t v, Try.f4.params[j]? = some t → args[j]? = some v → Value.okWide Try.prog W .any base t v := hval0
  have hW' := hW
  obtain ⟨p, q, hA0, hV, rfl, hfz, hnd⟩ := hW
  have hA : DataW.TrodAll enc Try.prog W 0 (fun _ => true) true Try.f4.params.toList args.toList ds p := hA0
  rw [Try.params4] at hA hval
  obtain ⟨v0, vs0, d0, ds0, p0, q0, hargs, rfl, rfl, h0, r0⟩ := trodAll_cons hA
  obtain ⟨rfl, rfl, rfl⟩ := trodAll_nil r0
  obtain rfl : args = #[v0] := by cases args; simp_all
  obtain ⟨rfl, rfl⟩ := trodVars_none hV
  have k0 := h0
  have lt0 : ∀ x ∈ p0, x.block < W.heap.size := by obtain ⟨m, hm⟩ := k0; exact DataW.trod_lt m _ _ _ hm
  obtain ⟨A0, bs0, cap0, rfl, hh0, hlen0, hcap0⟩ := open8n (hval 0 22 v0 rfl rfl) k0
  clear hA0 hval0
  refine (marks_all bs0 A0 cap0 W hh0 hcap0.2 hlen0).mono fun e W' ⟨he, bel⟩ => ?_
  subst he
  exact ⟨_, rfl, _, _, _, [], _, [], hW', trodAll_mk1 (shut_bool Try.underlying4 _), (trodAll_cons_mk (Below.trod laidOut (by kernel_rfl) (of_decide_eq_true (by kernel_rfl)) k0 bel lt0) trodAll_mk0), rfl, bel.frame _, fun h => by cases h⟩

theorem marks_over : Rows.crcMarksRow.holds Try.pinned (OpenSpec.ofChange Rows.crcMarksSpec) :=
  OpenClaim.holds_of_wide 4 Try.f4 rfl rfl rfl rfl rfl rfl rfl ⟨rfl, rfl, rfl, rfl, rfl⟩ rfl rfl rfl rfl rfl (by kernel_rfl) Try.func4 (by kernel_rfl)
    (of_decide_eq_true (by kernel_rfl)) (by unfold Func.isWrapper; first | (rw [if_pos (by decide +kernel)]; kernel_rfl) | (rw [if_neg (by decide +kernel)]; exact ⟨rfl, rfl⟩))
    (fun os started H enc _ => marks_lifted os started H enc)

/-- What is marked, and what is bare, is what the document says: whatever bytes come in. No condition. -/
theorem marks_proved : Rows.CrcMarksSaid := marks_over
#print axioms marks_proved
end Go.Proofs.Ytagcdgfdflnphaa.Oct
