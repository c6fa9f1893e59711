/- OctetShort, walked. No condition. -/
import Derived.Test.YtngkckngjobojaaOctL
import Derived.Test.YtngkckngjobojaaReg3
namespace Go.Proofs.Ytngkckngjobojaa.Oct
open Go.Proofs.Ytngkckngjobojaa Go.RowKit Go.Shelf

set_option maxRecDepth 100000 in
set_option maxHeartbeats 4000000 in
theorem short_no (bs : List UInt8) (A : Option Addr) (c : Nat) (most : Int) (hm : most ≤ 9223372036854775807) (w : World) (hh : Holds8 w.heap.size w A bs) (hA : A = none → c = 0) (hc : bs.length ≤ c) (hl : bs.length ≤ 20000)
    (N : Nat) (xs rest1 rest2 O1 O2 : List UInt8) (hN : N < 18446744073709551616) (hR1 : eyeSizeR bs = (N, 10, rest1)) (hR2 : bytesR bs most = (xs, 10, rest2)) (hx : xs.length ≤ 20000) (h1 : rest1.length ≤ bs.length) (h2 : rest2.length ≤ bs.length)
    (hO1 : O1 = []) (hO2 : O2 = []) (ho1 : O1 = bs.take (bs.length - rest1.length)) (ho2 : O2 = bs.take (bs.length - rest2.length)) (hk1 : O1.length ≤ 50000) (hk2 : O2.length ≤ 50000) :
    Calls Try.prog 7 #[.slice A bs.length c, .int .i64 most] w fun e w' => e = .returned (.bool true) ∧ Below w.heap.size w w' := by
  have hlook := fun W (hW : Holds8 w.heap.size W A bs) hn => look_any bs A c w.heap.size hA W hW hn (by omega)
  have HLOOK := Lib.hid hlook
  have HSZ := Lib.hid (fun base hi r W (hW : EyeAt base hi W r bs) => by have h := eyeSize_any base hi r bs W hW (by omega); rw [hR1] at h; exact h)
  have HBY := Lib.hid (fun base hi r W (hW : EyeAt base hi W r bs) hb => by have h := eyeBytes_any base hi r bs most hm W hW (by omega) hb; rw [hR2] at h; exact h)
  have HH := Lib.hid hh
  have HO1 := Lib.hid hO1
  have HO2 := Lib.hid hO2
  have Ho1 := Lib.hid ho1
  have Ho2 := Lib.hid ho2
  have d1 : decide ((20000 : Int) < (bs.length : Int)) = false := by simp; omega
  clear hlook hR1 hR2 hO1 hO2 ho1 ho2 hh
  have tok2 : True := trivial
  have tok : True := trivial
  go_enter Try.func7, Try.ntmps7
  go_wp2_with (first
    | (go_at_call 31; refine (alive_any _).mono ?_; rintro e w1 ⟨rfl, hb1⟩)
    | (go_at_call 16; have _t := tok; clear tok; (with_reducible refine (HLOOK.out _ (HH.out.below hb1 (Nat.le_refl _)) hb1.size).mono ?_); rintro e w2 ⟨r, rfl, he2, hb2⟩; have q2 := he2.1)
    | (go_at_call 16; (with_reducible refine (HLOOK.out _ (HH.out.below (hb1.trans (hb2.mono hb1.size)) (Nat.le_refl _)) (Nat.le_trans hb1.size hb2.size)).mono ?_); rintro e w3 ⟨s, rfl, he3, hb3⟩; have q3 := he3.1)
    | (go_at_call 19; (with_reducible refine (HSZ.out _ _ _ _ (he2.below hb3)).mono ?_); rintro e w4 ⟨rfl, he4, hs4⟩)
    | (go_at_call 22; (with_reducible refine (HBY.out _ _ _ _ (he3.other hs4 (.inl q2.2)) (by have := hb3.size; have := hs4.size; omega)).mono ?_); rintro e w5 ⟨v, rfl, hr5, he5, hs5⟩; obtain ⟨X, cx, rfl, hx5, hcx, _, hax⟩ := own_open hr5; have hl5 := hs5.size; have hr5b := he4.other hs5 (.inr q3.1); have hp5 := Blank.new w5; have hq5 := Blank.new (w5.alloc (.cells #[.slice none 0 0] 27)); rw [World.size_alloc] at hq5; have HP5 := Lib.hid (hp5.below ((Below.refl _ _).alloc (Nat.le_refl _) (.cells #[.slice none 0 0] 27))); have HQ5 := Lib.hid hq5; clear hp5 hq5; have hne5 : w5.heap.size ≠ w5.heap.size + 1 := by omega)
    | (go_at_call 12; have _t := tok2; clear tok2; have hpp := (show PenAt w5.heap.size _ _ O1 by rw [HO1.out]; exact (HP5.out.pen (base := w5.heap.size) (Nat.le_refl _))); have hqq := (show PenAt w5.heap.size _ _ O2 by rw [HO2.out]; exact (HQ5.out.pen (base := w5.heap.size) (Nat.le_succ _))); (with_reducible refine (penAll_any _ _ O1 _ hpp (by omega)).mono ?_); rintro e w8 ⟨v, rfl, hr8, hb8⟩; obtain ⟨Y, cy, rfl, hy8, hcy, _, _⟩ := own_open hr8; have hq8 := Lib.hid (hqq.below hb8))
    | (go_at_call 12; (with_reducible refine (penAll_any _ _ O2 _ hq8.out (by omega)).mono ?_); rintro e w9 ⟨v, rfl, hr9, hb9⟩; obtain ⟨Z, cz, rfl, hz9, hcz, _, _⟩ := own_open hr9)
    | fail)
  have n5 : w2.heap.size ≤ w5.heap.size ∧ w3.heap.size ≤ w5.heap.size ∧ w.heap.size ≤ w5.heap.size := by
    have := hb1.size; have := hb2.size; have := hb3.size; have := hs4.size; have := hl5; omega
  have np : w5.heap.size ≤ (((w5.alloc (.cells #[.slice none 0 0] 27)).alloc (.cells #[.slice none 0 0] 27))).heap.size := by simp <;> omega
  have b59 : Below w5.heap.size w5 w9 := ((((((Below.refl _ w5).alloc (Nat.le_refl _) _).alloc (by simp) _).trans (Below.refl w5.heap.size _)).trans (hb8.mono np)).trans (hb9.mono (Nat.le_trans np hb8.size)))
  have b05 : Below w.heap.size w w5 := ((((hb1.trans (hb2.mono hb1.size)).trans (hb3.mono (Nat.le_trans hb1.size hb2.size))).trans ((hs4.below (he2.below hb3) (Nat.le_trans hb2.size hb3.size)).mono hb1.size)).trans ((hs5.below (he3.other hs4 (.inl q2.2)) (Nat.le_trans hb3.size hs4.size)).mono (Nat.le_trans hb1.size hb2.size)))
  have HB9 := Lib.hid (b05.trans (b59.mono n5.2.2))
  have HA9 := Lib.hid (HH.out.below HB9.out (Nat.le_refl _))
  have HR9 := Lib.hid (hr5b.low b59 n5.1)
  have HS9 := Lib.hid (he5.low b59 n5.2.1)
  have HY := Lib.hid (hy8.later hb9)
  have HZ := Lib.hid hz9
  have HW := Lib.hid HH.out.where_
  obtain ⟨k1, hk1e⟩ : ∃ k, bs.length - rest1.length = k := ⟨_, rfl⟩
  obtain ⟨k2, hk2e⟩ : ∃ k, bs.length - rest2.length = k := ⟨_, rfl⟩
  have HK1 := Lib.hid (show (bs.length : Int) - (rest1.length : Int) = (k1 : Int) by omega)
  have HK2 := Lib.hid (show (bs.length : Int) - (rest2.length : Int) = (k2 : Int) by omega)
  have kl1 : k1 ≤ bs.length := by omega
  have kl2 : k2 ≤ bs.length := by omega
  have HT1 := Lib.hid (show k1 = (bs.take k1).length by rw [List.length_take]; omega)
  have HT2 := Lib.hid (show k2 = (bs.take k2).length by rw [List.length_take]; omega)
  have Ho1k := Lib.hid (show O1 = bs.take k1 by rw [← hk1e]; exact Ho1.out)
  have Ho2k := Lib.hid (show O2 = bs.take k2 by rw [← hk2e]; exact Ho2.out)
  clear hk1e hk2e hb1 hb2 hb3 hb8 hb9 hs4 hs5 b05 b59 hy8 hz9 hr5b
  refine wp_region_phased 109 rfl (fun _ _ _ _ => True) (fun _ W' => Below w9.heap.size w9 W') [.is (.bool true), .is (.bool true), .is (.slice Y O1.length cy), .is (.string ⟨O1.toArray⟩), .is (.slice A bs.length c), .is (.slice A bs.length c), .is (.int .i64 (bs.length : Int)), .is (.pointer (some ⟨r, 0, none⟩)), .is (.int .i64 (rest1.length : Int)), .is (.int .i64 (k1 : Int)), .is (.slice A k1 c), .is (.string ⟨O1.toArray⟩), .is (.bool true), .is (.bool true), .is (.bool true), .is (.slice Z O2.length cz), .is (.string ⟨O2.toArray⟩), .is (.slice A bs.length c), .is (.slice A bs.length c), .is (.int .i64 (bs.length : Int)), .is (.pointer (some ⟨s, 0, none⟩)), .is (.int .i64 (rest2.length : Int)), .is (.int .i64 (k2 : Int)), .is (.slice A k2 c), .is (.string ⟨O2.toArray⟩), .is (.bool true), .is (.bool true), .is (.bool true), .is (.int .i64 10), .is (.bool true), .is (.bool true), .is undef, .is undef, .is undef, .is undef, .is undef, .is undef, .is undef, .is undef, .is undef, .is undef, .is undef, .is undef, .is undef, .is undef, .is undef, .is (.bool true), .is (.bool true), .is (.bool true), .is (.int .i64 10), .is (.bool true), .is (.bool true), .is undef, .is undef, .is undef, .is undef, .is undef, .is (.bool true), .is (.bool true), .is (.bool true)] [] [0, 0, 0, 0, 0, 0, 0, 0, 0, 0, 0, 0, 0, 0, 0, 0, 0, 0, 0, 0, 0, 0, 0, 0, 0, 0, 0, 0, 0, 0, 0, 0, 0, 0, 0, 0, 0, 0, 0, 0, 0, 0, 0, 0, 0, 0, 0, 0, 0, 0, 0, 0, 0, 0, 0, 0, 0, 0, 0, 0] [0, 0, 0, 0, 0, 0, 0, 0, 0, 0, 0, 0, 0, 0, 0, 0, 0, 0, 0, 0, 0, 0, 0, 0, 0, 0, 0, 0, 0, 0, 0, 0, 0, 0, 0, 0, 0, 0, 0, 0, 0, 0, 0, 0, 0, 0, 0, 0, 0, 0, 0, 0, 0, 0, 0, 0, 0, 0, 0, 0] (by kernel_rfl) (by kernel_rfl) (by kernel_rfl) (fun _ _ _ => trivial) ((Below.refl _ _).drew) ⟨?ob0, ?ob1, ?ob2, ?ob3, ?ob4, ?ob5, ?ob6, ?ob7, ?ob8, ?ob9, ?ob10, ?ob11, ?ob12, ?ob13, ?ob14, ?ob15, ?ob16, ?ob17, ?ob18, ?ob19, ?ob20, ?ob21, ?ob22, ?ob23, ?ob24, ?ob25, ?ob26, ?ob27, ?ob28, ?ob29, ?ob30, ?ob31, ?ob32, ?ob33, ?ob34, ?ob35, ?ob36, ?ob37, ?ob38, ?ob39, ?ob40, ?ob41, ?ob42, ?ob43, ?ob44, ?ob45, ?ob46, ?ob47, ?ob48, ?ob49, ?ob50, ?ob51, ?ob52, ?ob53, ?ob54, ?ob55, ?ob56, ?ob57, ?ob58, ?ob59, trivial⟩ ?obend
  case ob0 =>
    intro p vals W1 F hF hlo hhi hI hd
    have hp : p = 0 := Nat.le_antisymm hhi hlo
    subst hp
    clear hlo hhi
    have E5 : F.eval (.tmp 5) = .bool true := hF.out_ (by kernel_rfl) rfl
    refine .inr ⟨wanted_none rfl, .inl ⟨.bool true, ?_, hI, TyP.of_is rfl⟩⟩
    simp only [execOp, E5, Sem.run_pure]
  case ob1 =>
    intro p vals W1 F hF hlo hhi hI hd
    have hp : p = 0 := Nat.le_antisymm hhi hlo
    subst hp
    clear hlo hhi
    have d0 : vals 0 = .bool true := hd ⟨0, .data⟩ (Array.mem_of_getElem? (i := 0) rfl) rfl (show (0 : Nat) ≤ 1000 by decide)
    have E50 := eval_some (hF.own_ 0 rfl rfl (by kernel_rfl) (by decide)); rw [d0] at E50
    refine .inr ⟨wanted_none rfl, .inl ⟨.bool true, ?_, hI, TyP.of_is rfl⟩⟩
    simp only [execOp, E50, Sem.run_pure]
  case ob2 =>
    intro p vals W1 F hF hlo hhi hI hd
    have hp : p = 0 := Nat.le_antisymm hhi hlo
    subst hp
    clear hlo hhi
    have d1 : vals 1 = .bool true := hd ⟨1, .guard⟩ (Array.mem_of_getElem? (i := 0) rfl) rfl (show (0 : Nat) ≤ 1000 by decide)
    have E14 : F.eval (.tmp 14) = .slice Y O1.length cy := hF.out_ (by kernel_rfl) rfl
    have G := hF.own_ 1 rfl rfl (by kernel_rfl) (by decide); rw [d1] at G
    refine .inr ⟨wanted_yes rfl rfl rfl G, .inl ⟨.slice Y O1.length cy, ?_, hI, TyP.of_is rfl⟩⟩
    simp only [execOp, E14, Sem.run_pure]
  case ob3 =>
    intro p vals W1 F hF hlo hhi hI hd
    have hp : p = 0 := Nat.le_antisymm hhi hlo
    subst hp
    clear hlo hhi
    have d1 : vals 1 = .bool true := hd ⟨1, .guard⟩ (Array.mem_of_getElem? (i := 1) rfl) rfl (show (0 : Nat) ≤ 1000 by decide)
    have d2 : vals 2 = .slice Y O1.length cy := hd ⟨2, .data⟩ (Array.mem_of_getElem? (i := 0) rfl) rfl (show (0 : Nat) ≤ 1000 by decide)
    have E52 := eval_some (hF.own_ 2 rfl rfl (by kernel_rfl) (by decide)); rw [d2] at E52
    have G := hF.own_ 1 rfl rfl (by kernel_rfl) (by decide); rw [d1] at G
    refine .inr ⟨wanted_yes rfl rfl rfl G, ?_⟩
    exact .inl ⟨_, conv_str _ _ _ _ _ _ _ (HY.out.later hI) O1.length cy rfl E52, hI, TyP.of_is rfl⟩
  case ob4 =>
    intro p vals W1 F hF hlo hhi hI hd
    have hp : p = 0 := Nat.le_antisymm hhi hlo
    subst hp
    clear hlo hhi
    have d1 : vals 1 = .bool true := hd ⟨1, .guard⟩ (Array.mem_of_getElem? (i := 0) rfl) rfl (show (0 : Nat) ≤ 1000 by decide)
    have E0 : F.eval (.tmp 0) = .slice A bs.length c := hF.out_ (by kernel_rfl) rfl
    have G := hF.own_ 1 rfl rfl (by kernel_rfl) (by decide); rw [d1] at G
    refine .inr ⟨wanted_yes rfl rfl rfl G, .inl ⟨.slice A bs.length c, ?_, hI, TyP.of_is rfl⟩⟩
    simp only [execOp, E0, Sem.run_pure]
  case ob5 =>
    intro p vals W1 F hF hlo hhi hI hd
    have hp : p = 0 := Nat.le_antisymm hhi hlo
    subst hp
    clear hlo hhi
    have d1 : vals 1 = .bool true := hd ⟨1, .guard⟩ (Array.mem_of_getElem? (i := 0) rfl) rfl (show (0 : Nat) ≤ 1000 by decide)
    have E0 : F.eval (.tmp 0) = .slice A bs.length c := hF.out_ (by kernel_rfl) rfl
    have G := hF.own_ 1 rfl rfl (by kernel_rfl) (by decide); rw [d1] at G
    refine .inr ⟨wanted_yes rfl rfl rfl G, .inl ⟨.slice A bs.length c, ?_, hI, TyP.of_is rfl⟩⟩
    simp only [execOp, E0, Sem.run_pure]
  case ob6 =>
    intro p vals W1 F hF hlo hhi hI hd
    have hp : p = 0 := Nat.le_antisymm hhi hlo
    subst hp
    clear hlo hhi
    have d1 : vals 1 = .bool true := hd ⟨1, .guard⟩ (Array.mem_of_getElem? (i := 1) rfl) rfl (show (0 : Nat) ≤ 1000 by decide)
    have d5 : vals 5 = .slice A bs.length c := hd ⟨5, .data⟩ (Array.mem_of_getElem? (i := 0) rfl) rfl (show (0 : Nat) ≤ 1000 by decide)
    have E55 := eval_some (hF.own_ 5 rfl rfl (by kernel_rfl) (by decide)); rw [d5] at E55
    have G := hF.own_ 1 rfl rfl (by kernel_rfl) (by decide); rw [d1] at G
    refine .inr ⟨wanted_yes rfl rfl rfl G, .inl ⟨.int .i64 (bs.length : Int), ?_, hI, TyP.of_is rfl⟩⟩
    have Ec : ∀ v, F.eval (.const v) = v := fun _ => rfl; have Ef : ∀ f, F.eval (.func f) = .func (.func f) #[] #[] := fun _ => rfl; clear hF hd; generalize F.eval = ρ at E55 Ec Ef ⊢
    simp [execOp, go_sem, Ec, E55]
  case ob7 =>
    intro p vals W1 F hF hlo hhi hI hd
    have hp : p = 0 := Nat.le_antisymm hhi hlo
    subst hp
    clear hlo hhi
    have d1 : vals 1 = .bool true := hd ⟨1, .guard⟩ (Array.mem_of_getElem? (i := 0) rfl) rfl (show (0 : Nat) ≤ 1000 by decide)
    have E6 : F.eval (.tmp 6) = .pointer (some ⟨r, 0, none⟩) := hF.out_ (by kernel_rfl) rfl
    have G := hF.own_ 1 rfl rfl (by kernel_rfl) (by decide); rw [d1] at G
    refine .inr ⟨wanted_yes rfl rfl rfl G, .inl ⟨.pointer (some ⟨r, 0, none⟩), ?_, hI, TyP.of_is rfl⟩⟩
    simp only [execOp, E6, Sem.run_pure]
  case ob8 =>
    intro p vals W1 F hF hlo hhi hI hd
    have hp : p = 0 := Nat.le_antisymm hhi hlo
    subst hp
    clear hlo hhi
    have d1 : vals 1 = .bool true := hd ⟨1, .chain⟩ (Array.mem_of_getElem? (i := 1) rfl) rfl (show (0 : Nat) ≤ 1000 by decide)
    have d7 : vals 7 = .pointer (some ⟨r, 0, none⟩) := hd ⟨7, .data⟩ (Array.mem_of_getElem? (i := 0) rfl) rfl (show (0 : Nat) ≤ 1000 by decide)
    have E57 := eval_some (hF.own_ 7 rfl rfl (by kernel_rfl) (by decide)); rw [d7] at E57
    have G := hF.own_ 1 rfl rfl (by kernel_rfl) (by decide); rw [d1] at G
    refine .inr ⟨wanted_yes rfl rfl rfl G, ?_⟩
    refine .inr (.inr (.inl ⟨25, #[.pointer (some ⟨r, 0, none⟩)], ?_, (eyeLeft_any _ _ _ _ _ (HR9.out.below hI)).mono ?_⟩))
    · have Ec : ∀ v, F.eval (.const v) = v := fun _ => rfl; have Ef : ∀ f, F.eval (.func f) = .func (.func f) #[] #[] := fun _ => rfl; clear hF hd; generalize F.eval = ρ at E57 Ec Ef ⊢
      simp [execOp, go_sem, Ec, Ef, E57]
    rintro e W2 ⟨rfl, rfl⟩
    exact ⟨_, rfl, trivial, hI, TyP.of_is rfl⟩
  case ob9 =>
    intro p vals W1 F hF hlo hhi hI hd
    have hp : p = 0 := Nat.le_antisymm hhi hlo
    subst hp
    clear hlo hhi
    have d1 : vals 1 = .bool true := hd ⟨1, .guard⟩ (Array.mem_of_getElem? (i := 2) rfl) rfl (show (0 : Nat) ≤ 1000 by decide)
    have d6 : vals 6 = .int .i64 (bs.length : Int) := hd ⟨6, .data⟩ (Array.mem_of_getElem? (i := 0) rfl) rfl (show (0 : Nat) ≤ 1000 by decide)
    have d8 : vals 8 = .int .i64 (rest1.length : Int) := hd ⟨8, .data⟩ (Array.mem_of_getElem? (i := 1) rfl) rfl (show (0 : Nat) ≤ 1000 by decide)
    have E56 := eval_some (hF.own_ 6 rfl rfl (by kernel_rfl) (by decide)); rw [d6] at E56
    have E58 := eval_some (hF.own_ 8 rfl rfl (by kernel_rfl) (by decide)); rw [d8] at E58
    have G := hF.own_ 1 rfl rfl (by kernel_rfl) (by decide); rw [d1] at G
    have K1 := HK1.out
    have hw := IntWalk.i64_in (k1 : Int) (by omega)
    refine .inr ⟨wanted_yes rfl rfl rfl G, .inl ⟨.int .i64 (k1 : Int), ?_, hI, TyP.of_is rfl⟩⟩
    have Ec : ∀ v, F.eval (.const v) = v := fun _ => rfl; have Ef : ∀ f, F.eval (.func f) = .func (.func f) #[] #[] := fun _ => rfl; clear hF hd; generalize F.eval = ρ at E56 E58 Ec Ef ⊢
    simp [execOp, go_sem, Ec, E56, E58, K1, hw]
  case ob10 =>
    intro p vals W1 F hF hlo hhi hI hd
    have hp : p = 0 := Nat.le_antisymm hhi hlo
    subst hp
    clear hlo hhi
    have d1 : vals 1 = .bool true := hd ⟨1, .guard⟩ (Array.mem_of_getElem? (i := 2) rfl) rfl (show (0 : Nat) ≤ 1000 by decide)
    have d4 : vals 4 = .slice A bs.length c := hd ⟨4, .data⟩ (Array.mem_of_getElem? (i := 0) rfl) rfl (show (0 : Nat) ≤ 1000 by decide)
    have d9 : vals 9 = .int .i64 (k1 : Int) := hd ⟨9, .data⟩ (Array.mem_of_getElem? (i := 1) rfl) rfl (show (0 : Nat) ≤ 1000 by decide)
    have E54 := eval_some (hF.own_ 4 rfl rfl (by kernel_rfl) (by decide)); rw [d4] at E54
    have E59 := eval_some (hF.own_ 9 rfl rfl (by kernel_rfl) (by decide)); rw [d9] at E59
    have G := hF.own_ 1 rfl rfl (by kernel_rfl) (by decide); rw [d1] at G
    refine .inr ⟨wanted_yes rfl rfl rfl G, ?_⟩
    exact .inl ⟨_, slice_to _ _ _ _ _ _ _ _ A bs.length c k1 HW.out E54 E59 (by omega) hc W1, hI, TyP.of_is rfl⟩
  case ob11 =>
    intro p vals W1 F hF hlo hhi hI hd
    have hp : p = 0 := Nat.le_antisymm hhi hlo
    subst hp
    clear hlo hhi
    have d1 : vals 1 = .bool true := hd ⟨1, .guard⟩ (Array.mem_of_getElem? (i := 1) rfl) rfl (show (0 : Nat) ≤ 1000 by decide)
    have d10 : vals 10 = .slice A k1 c := hd ⟨10, .data⟩ (Array.mem_of_getElem? (i := 0) rfl) rfl (show (0 : Nat) ≤ 1000 by decide)
    have E60 := eval_some (hF.own_ 10 rfl rfl (by kernel_rfl) (by decide)); rw [d10] at E60
    have G := hF.own_ 1 rfl rfl (by kernel_rfl) (by decide); rw [d1] at G
    refine .inr ⟨wanted_yes rfl rfl rfl G, ?_⟩
    have hcs := conv_str F.eval (some 61) (.tmp 60) 9 "outright.go:134" #[{ on := 10, ground := Ground.data }, { on := 1, ground := Ground.guard }] (some (1, true)) ((HA9.out.below hI HB9.out.size).take_ k1) k1 c HT1.out E60
    rw [← Ho1k.out] at hcs
    exact .inl ⟨_, hcs, hI, TyP.of_is rfl⟩
  case ob12 =>
    intro p vals W1 F hF hlo hhi hI hd
    have hp : p = 0 := Nat.le_antisymm hhi hlo
    subst hp
    clear hlo hhi
    have d1 : vals 1 = .bool true := hd ⟨1, .guard⟩ (Array.mem_of_getElem? (i := 2) rfl) rfl (show (0 : Nat) ≤ 1000 by decide)
    have d3 : vals 3 = .string ⟨O1.toArray⟩ := hd ⟨3, .data⟩ (Array.mem_of_getElem? (i := 0) rfl) rfl (show (0 : Nat) ≤ 1000 by decide)
    have d11 : vals 11 = .string ⟨O1.toArray⟩ := hd ⟨11, .data⟩ (Array.mem_of_getElem? (i := 1) rfl) rfl (show (0 : Nat) ≤ 1000 by decide)
    have E53 := eval_some (hF.own_ 3 rfl rfl (by kernel_rfl) (by decide)); rw [d3] at E53
    have E61 := eval_some (hF.own_ 11 rfl rfl (by kernel_rfl) (by decide)); rw [d11] at E61
    have G := hF.own_ 1 rfl rfl (by kernel_rfl) (by decide); rw [d1] at G
    refine .inr ⟨wanted_yes rfl rfl rfl G, .inl ⟨.bool true, ?_, hI, TyP.of_is rfl⟩⟩
    have Ec : ∀ v, F.eval (.const v) = v := fun _ => rfl; have Ef : ∀ f, F.eval (.func f) = .func (.func f) #[] #[] := fun _ => rfl; clear hF hd; generalize F.eval = ρ at E53 E61 Ec Ef ⊢
    simp [execOp, go_sem, Ec, E53, E61]
  case ob13 =>
    intro p vals W1 F hF hlo hhi hI hd
    have hp : p = 0 := Nat.le_antisymm hhi hlo
    subst hp
    clear hlo hhi
    have d1 : vals 1 = .bool true := hd ⟨1, .data⟩ (Array.mem_of_getElem? (i := 0) rfl) rfl (show (0 : Nat) ≤ 1000 by decide)
    have d12 : vals 12 = .bool true := hd ⟨12, .data⟩ (Array.mem_of_getElem? (i := 1) rfl) rfl (show (0 : Nat) ≤ 1000 by decide)
    have E51 := eval_some (hF.own_ 1 rfl rfl (by kernel_rfl) (by decide)); rw [d1] at E51
    have E62 := eval_some (hF.own_ 12 rfl rfl (by kernel_rfl) (by decide)); rw [d12] at E62
    refine .inr ⟨wanted_none rfl, .inl ⟨.bool true, ?_, hI, TyP.of_is rfl⟩⟩
    have Ec : ∀ v, F.eval (.const v) = v := fun _ => rfl; have Ef : ∀ f, F.eval (.func f) = .func (.func f) #[] #[] := fun _ => rfl; clear hF hd; generalize F.eval = ρ at E51 E62 Ec Ef ⊢
    simp [execOp, go_sem, Ec, E51, E62]
  case ob14 =>
    intro p vals W1 F hF hlo hhi hI hd
    have hp : p = 0 := Nat.le_antisymm hhi hlo
    subst hp
    clear hlo hhi
    have d13 : vals 13 = .bool true := hd ⟨13, .data⟩ (Array.mem_of_getElem? (i := 0) rfl) rfl (show (0 : Nat) ≤ 1000 by decide)
    have E63 := eval_some (hF.own_ 13 rfl rfl (by kernel_rfl) (by decide)); rw [d13] at E63
    refine .inr ⟨wanted_none rfl, .inl ⟨.bool true, ?_, hI, TyP.of_is rfl⟩⟩
    simp only [execOp, E63, Sem.run_pure]
  case ob15 =>
    intro p vals W1 F hF hlo hhi hI hd
    have hp : p = 0 := Nat.le_antisymm hhi hlo
    subst hp
    clear hlo hhi
    have d14 : vals 14 = .bool true := hd ⟨14, .guard⟩ (Array.mem_of_getElem? (i := 0) rfl) rfl (show (0 : Nat) ≤ 1000 by decide)
    have E15 : F.eval (.tmp 15) = .slice Z O2.length cz := hF.out_ (by kernel_rfl) rfl
    have G := hF.own_ 14 rfl rfl (by kernel_rfl) (by decide); rw [d14] at G
    refine .inr ⟨wanted_yes rfl rfl rfl G, .inl ⟨.slice Z O2.length cz, ?_, hI, TyP.of_is rfl⟩⟩
    simp only [execOp, E15, Sem.run_pure]
  case ob16 =>
    intro p vals W1 F hF hlo hhi hI hd
    have hp : p = 0 := Nat.le_antisymm hhi hlo
    subst hp
    clear hlo hhi
    have d14 : vals 14 = .bool true := hd ⟨14, .guard⟩ (Array.mem_of_getElem? (i := 1) rfl) rfl (show (0 : Nat) ≤ 1000 by decide)
    have d15 : vals 15 = .slice Z O2.length cz := hd ⟨15, .data⟩ (Array.mem_of_getElem? (i := 0) rfl) rfl (show (0 : Nat) ≤ 1000 by decide)
    have E65 := eval_some (hF.own_ 15 rfl rfl (by kernel_rfl) (by decide)); rw [d15] at E65
    have G := hF.own_ 14 rfl rfl (by kernel_rfl) (by decide); rw [d14] at G
    refine .inr ⟨wanted_yes rfl rfl rfl G, ?_⟩
    exact .inl ⟨_, conv_str _ _ _ _ _ _ _ (HZ.out.later hI) O2.length cz rfl E65, hI, TyP.of_is rfl⟩
  case ob17 =>
    intro p vals W1 F hF hlo hhi hI hd
    have hp : p = 0 := Nat.le_antisymm hhi hlo
    subst hp
    clear hlo hhi
    have d14 : vals 14 = .bool true := hd ⟨14, .guard⟩ (Array.mem_of_getElem? (i := 0) rfl) rfl (show (0 : Nat) ≤ 1000 by decide)
    have E0 : F.eval (.tmp 0) = .slice A bs.length c := hF.out_ (by kernel_rfl) rfl
    have G := hF.own_ 14 rfl rfl (by kernel_rfl) (by decide); rw [d14] at G
    refine .inr ⟨wanted_yes rfl rfl rfl G, .inl ⟨.slice A bs.length c, ?_, hI, TyP.of_is rfl⟩⟩
    simp only [execOp, E0, Sem.run_pure]
  case ob18 =>
    intro p vals W1 F hF hlo hhi hI hd
    have hp : p = 0 := Nat.le_antisymm hhi hlo
    subst hp
    clear hlo hhi
    have d14 : vals 14 = .bool true := hd ⟨14, .guard⟩ (Array.mem_of_getElem? (i := 0) rfl) rfl (show (0 : Nat) ≤ 1000 by decide)
    have E0 : F.eval (.tmp 0) = .slice A bs.length c := hF.out_ (by kernel_rfl) rfl
    have G := hF.own_ 14 rfl rfl (by kernel_rfl) (by decide); rw [d14] at G
    refine .inr ⟨wanted_yes rfl rfl rfl G, .inl ⟨.slice A bs.length c, ?_, hI, TyP.of_is rfl⟩⟩
    simp only [execOp, E0, Sem.run_pure]
  case ob19 =>
    intro p vals W1 F hF hlo hhi hI hd
    have hp : p = 0 := Nat.le_antisymm hhi hlo
    subst hp
    clear hlo hhi
    have d14 : vals 14 = .bool true := hd ⟨14, .guard⟩ (Array.mem_of_getElem? (i := 1) rfl) rfl (show (0 : Nat) ≤ 1000 by decide)
    have d18 : vals 18 = .slice A bs.length c := hd ⟨18, .data⟩ (Array.mem_of_getElem? (i := 0) rfl) rfl (show (0 : Nat) ≤ 1000 by decide)
    have E68 := eval_some (hF.own_ 18 rfl rfl (by kernel_rfl) (by decide)); rw [d18] at E68
    have G := hF.own_ 14 rfl rfl (by kernel_rfl) (by decide); rw [d14] at G
    refine .inr ⟨wanted_yes rfl rfl rfl G, .inl ⟨.int .i64 (bs.length : Int), ?_, hI, TyP.of_is rfl⟩⟩
    have Ec : ∀ v, F.eval (.const v) = v := fun _ => rfl; have Ef : ∀ f, F.eval (.func f) = .func (.func f) #[] #[] := fun _ => rfl; clear hF hd; generalize F.eval = ρ at E68 Ec Ef ⊢
    simp [execOp, go_sem, Ec, E68]
  case ob20 =>
    intro p vals W1 F hF hlo hhi hI hd
    have hp : p = 0 := Nat.le_antisymm hhi hlo
    subst hp
    clear hlo hhi
    have d14 : vals 14 = .bool true := hd ⟨14, .guard⟩ (Array.mem_of_getElem? (i := 0) rfl) rfl (show (0 : Nat) ≤ 1000 by decide)
    have E7 : F.eval (.tmp 7) = .pointer (some ⟨s, 0, none⟩) := hF.out_ (by kernel_rfl) rfl
    have G := hF.own_ 14 rfl rfl (by kernel_rfl) (by decide); rw [d14] at G
    refine .inr ⟨wanted_yes rfl rfl rfl G, .inl ⟨.pointer (some ⟨s, 0, none⟩), ?_, hI, TyP.of_is rfl⟩⟩
    simp only [execOp, E7, Sem.run_pure]
  case ob21 =>
    intro p vals W1 F hF hlo hhi hI hd
    have hp : p = 0 := Nat.le_antisymm hhi hlo
    subst hp
    clear hlo hhi
    have d14 : vals 14 = .bool true := hd ⟨14, .chain⟩ (Array.mem_of_getElem? (i := 1) rfl) rfl (show (0 : Nat) ≤ 1000 by decide)
    have d20 : vals 20 = .pointer (some ⟨s, 0, none⟩) := hd ⟨20, .data⟩ (Array.mem_of_getElem? (i := 0) rfl) rfl (show (0 : Nat) ≤ 1000 by decide)
    have E70 := eval_some (hF.own_ 20 rfl rfl (by kernel_rfl) (by decide)); rw [d20] at E70
    have G := hF.own_ 14 rfl rfl (by kernel_rfl) (by decide); rw [d14] at G
    refine .inr ⟨wanted_yes rfl rfl rfl G, ?_⟩
    refine .inr (.inr (.inl ⟨25, #[.pointer (some ⟨s, 0, none⟩)], ?_, (eyeLeft_any _ _ _ _ _ (HS9.out.below hI)).mono ?_⟩))
    · have Ec : ∀ v, F.eval (.const v) = v := fun _ => rfl; have Ef : ∀ f, F.eval (.func f) = .func (.func f) #[] #[] := fun _ => rfl; clear hF hd; generalize F.eval = ρ at E70 Ec Ef ⊢
      simp [execOp, go_sem, Ec, Ef, E70]
    rintro e W2 ⟨rfl, rfl⟩
    exact ⟨_, rfl, trivial, hI, TyP.of_is rfl⟩
  case ob22 =>
    intro p vals W1 F hF hlo hhi hI hd
    have hp : p = 0 := Nat.le_antisymm hhi hlo
    subst hp
    clear hlo hhi
    have d14 : vals 14 = .bool true := hd ⟨14, .guard⟩ (Array.mem_of_getElem? (i := 2) rfl) rfl (show (0 : Nat) ≤ 1000 by decide)
    have d19 : vals 19 = .int .i64 (bs.length : Int) := hd ⟨19, .data⟩ (Array.mem_of_getElem? (i := 0) rfl) rfl (show (0 : Nat) ≤ 1000 by decide)
    have d21 : vals 21 = .int .i64 (rest2.length : Int) := hd ⟨21, .data⟩ (Array.mem_of_getElem? (i := 1) rfl) rfl (show (0 : Nat) ≤ 1000 by decide)
    have E69 := eval_some (hF.own_ 19 rfl rfl (by kernel_rfl) (by decide)); rw [d19] at E69
    have E71 := eval_some (hF.own_ 21 rfl rfl (by kernel_rfl) (by decide)); rw [d21] at E71
    have G := hF.own_ 14 rfl rfl (by kernel_rfl) (by decide); rw [d14] at G
    have K2 := HK2.out
    have hw := IntWalk.i64_in (k2 : Int) (by omega)
    refine .inr ⟨wanted_yes rfl rfl rfl G, .inl ⟨.int .i64 (k2 : Int), ?_, hI, TyP.of_is rfl⟩⟩
    have Ec : ∀ v, F.eval (.const v) = v := fun _ => rfl; have Ef : ∀ f, F.eval (.func f) = .func (.func f) #[] #[] := fun _ => rfl; clear hF hd; generalize F.eval = ρ at E69 E71 Ec Ef ⊢
    simp [execOp, go_sem, Ec, E69, E71, K2, hw]
  case ob23 =>
    intro p vals W1 F hF hlo hhi hI hd
    have hp : p = 0 := Nat.le_antisymm hhi hlo
    subst hp
    clear hlo hhi
    have d14 : vals 14 = .bool true := hd ⟨14, .guard⟩ (Array.mem_of_getElem? (i := 2) rfl) rfl (show (0 : Nat) ≤ 1000 by decide)
    have d17 : vals 17 = .slice A bs.length c := hd ⟨17, .data⟩ (Array.mem_of_getElem? (i := 0) rfl) rfl (show (0 : Nat) ≤ 1000 by decide)
    have d22 : vals 22 = .int .i64 (k2 : Int) := hd ⟨22, .data⟩ (Array.mem_of_getElem? (i := 1) rfl) rfl (show (0 : Nat) ≤ 1000 by decide)
    have E67 := eval_some (hF.own_ 17 rfl rfl (by kernel_rfl) (by decide)); rw [d17] at E67
    have E72 := eval_some (hF.own_ 22 rfl rfl (by kernel_rfl) (by decide)); rw [d22] at E72
    have G := hF.own_ 14 rfl rfl (by kernel_rfl) (by decide); rw [d14] at G
    refine .inr ⟨wanted_yes rfl rfl rfl G, ?_⟩
    exact .inl ⟨_, slice_to _ _ _ _ _ _ _ _ A bs.length c k2 HW.out E67 E72 (by omega) hc W1, hI, TyP.of_is rfl⟩
  case ob24 =>
    intro p vals W1 F hF hlo hhi hI hd
    have hp : p = 0 := Nat.le_antisymm hhi hlo
    subst hp
    clear hlo hhi
    have d14 : vals 14 = .bool true := hd ⟨14, .guard⟩ (Array.mem_of_getElem? (i := 1) rfl) rfl (show (0 : Nat) ≤ 1000 by decide)
    have d23 : vals 23 = .slice A k2 c := hd ⟨23, .data⟩ (Array.mem_of_getElem? (i := 0) rfl) rfl (show (0 : Nat) ≤ 1000 by decide)
    have E73 := eval_some (hF.own_ 23 rfl rfl (by kernel_rfl) (by decide)); rw [d23] at E73
    have G := hF.own_ 14 rfl rfl (by kernel_rfl) (by decide); rw [d14] at G
    refine .inr ⟨wanted_yes rfl rfl rfl G, ?_⟩
    have hcs := conv_str F.eval (some 74) (.tmp 73) 9 "outright.go:134" #[{ on := 23, ground := Ground.data }, { on := 14, ground := Ground.guard }] (some (14, true)) ((HA9.out.below hI HB9.out.size).take_ k2) k2 c HT2.out E73
    rw [← Ho2k.out] at hcs
    exact .inl ⟨_, hcs, hI, TyP.of_is rfl⟩
  case ob25 =>
    intro p vals W1 F hF hlo hhi hI hd
    have hp : p = 0 := Nat.le_antisymm hhi hlo
    subst hp
    clear hlo hhi
    have d14 : vals 14 = .bool true := hd ⟨14, .guard⟩ (Array.mem_of_getElem? (i := 2) rfl) rfl (show (0 : Nat) ≤ 1000 by decide)
    have d16 : vals 16 = .string ⟨O2.toArray⟩ := hd ⟨16, .data⟩ (Array.mem_of_getElem? (i := 0) rfl) rfl (show (0 : Nat) ≤ 1000 by decide)
    have d24 : vals 24 = .string ⟨O2.toArray⟩ := hd ⟨24, .data⟩ (Array.mem_of_getElem? (i := 1) rfl) rfl (show (0 : Nat) ≤ 1000 by decide)
    have E66 := eval_some (hF.own_ 16 rfl rfl (by kernel_rfl) (by decide)); rw [d16] at E66
    have E74 := eval_some (hF.own_ 24 rfl rfl (by kernel_rfl) (by decide)); rw [d24] at E74
    have G := hF.own_ 14 rfl rfl (by kernel_rfl) (by decide); rw [d14] at G
    refine .inr ⟨wanted_yes rfl rfl rfl G, .inl ⟨.bool true, ?_, hI, TyP.of_is rfl⟩⟩
    have Ec : ∀ v, F.eval (.const v) = v := fun _ => rfl; have Ef : ∀ f, F.eval (.func f) = .func (.func f) #[] #[] := fun _ => rfl; clear hF hd; generalize F.eval = ρ at E66 E74 Ec Ef ⊢
    simp [execOp, go_sem, Ec, E66, E74]
  case ob26 =>
    intro p vals W1 F hF hlo hhi hI hd
    have hp : p = 0 := Nat.le_antisymm hhi hlo
    subst hp
    clear hlo hhi
    have d14 : vals 14 = .bool true := hd ⟨14, .data⟩ (Array.mem_of_getElem? (i := 0) rfl) rfl (show (0 : Nat) ≤ 1000 by decide)
    have d25 : vals 25 = .bool true := hd ⟨25, .data⟩ (Array.mem_of_getElem? (i := 1) rfl) rfl (show (0 : Nat) ≤ 1000 by decide)
    have E64 := eval_some (hF.own_ 14 rfl rfl (by kernel_rfl) (by decide)); rw [d14] at E64
    have E75 := eval_some (hF.own_ 25 rfl rfl (by kernel_rfl) (by decide)); rw [d25] at E75
    refine .inr ⟨wanted_none rfl, .inl ⟨.bool true, ?_, hI, TyP.of_is rfl⟩⟩
    have Ec : ∀ v, F.eval (.const v) = v := fun _ => rfl; have Ef : ∀ f, F.eval (.func f) = .func (.func f) #[] #[] := fun _ => rfl; clear hF hd; generalize F.eval = ρ at E64 E75 Ec Ef ⊢
    simp [execOp, go_sem, Ec, E64, E75]
  case ob27 =>
    intro p vals W1 F hF hlo hhi hI hd
    have hp : p = 0 := Nat.le_antisymm hhi hlo
    subst hp
    clear hlo hhi
    have d26 : vals 26 = .bool true := hd ⟨26, .data⟩ (Array.mem_of_getElem? (i := 0) rfl) rfl (show (0 : Nat) ≤ 1000 by decide)
    have E76 := eval_some (hF.own_ 26 rfl rfl (by kernel_rfl) (by decide)); rw [d26] at E76
    refine .inr ⟨wanted_none rfl, .inl ⟨.bool true, ?_, hI, TyP.of_is rfl⟩⟩
    simp only [execOp, E76, Sem.run_pure]
  case ob28 =>
    intro p vals W1 F hF hlo hhi hI hd
    have hp : p = 0 := Nat.le_antisymm hhi hlo
    subst hp
    clear hlo hhi
    have d27 : vals 27 = .bool true := hd ⟨27, .guard⟩ (Array.mem_of_getElem? (i := 0) rfl) rfl (show (0 : Nat) ≤ 1000 by decide)
    have E11 : F.eval (.tmp 11) = .int .i64 10 := hF.out_ (by kernel_rfl) rfl
    have G := hF.own_ 27 rfl rfl (by kernel_rfl) (by decide); rw [d27] at G
    refine .inr ⟨wanted_yes rfl rfl rfl G, .inl ⟨.int .i64 10, ?_, hI, TyP.of_is rfl⟩⟩
    simp only [execOp, E11, Sem.run_pure]
  case ob29 =>
    intro p vals W1 F hF hlo hhi hI hd
    have hp : p = 0 := Nat.le_antisymm hhi hlo
    subst hp
    clear hlo hhi
    have d27 : vals 27 = .bool true := hd ⟨27, .guard⟩ (Array.mem_of_getElem? (i := 1) rfl) rfl (show (0 : Nat) ≤ 1000 by decide)
    have d28 : vals 28 = .int .i64 10 := hd ⟨28, .data⟩ (Array.mem_of_getElem? (i := 0) rfl) rfl (show (0 : Nat) ≤ 1000 by decide)
    have E78 := eval_some (hF.own_ 28 rfl rfl (by kernel_rfl) (by decide)); rw [d28] at E78
    have G := hF.own_ 27 rfl rfl (by kernel_rfl) (by decide); rw [d27] at G
    refine .inr ⟨wanted_yes rfl rfl rfl G, .inl ⟨.bool true, ?_, hI, TyP.of_is rfl⟩⟩
    have Ec : ∀ v, F.eval (.const v) = v := fun _ => rfl; have Ef : ∀ f, F.eval (.func f) = .func (.func f) #[] #[] := fun _ => rfl; clear hF hd; generalize F.eval = ρ at E78 Ec Ef ⊢
    simp [execOp, go_sem, Ec, E78]
  case ob30 =>
    intro p vals W1 F hF hlo hhi hI hd
    have hp : p = 0 := Nat.le_antisymm hhi hlo
    subst hp
    clear hlo hhi
    have d27 : vals 27 = .bool true := hd ⟨27, .chain⟩ (Array.mem_of_getElem? (i := 1) rfl) rfl (show (0 : Nat) ≤ 1000 by decide)
    have d29 : vals 29 = .bool true := hd ⟨29, .data⟩ (Array.mem_of_getElem? (i := 0) rfl) rfl (show (0 : Nat) ≤ 1000 by decide)
    have E79 := eval_some (hF.own_ 29 rfl rfl (by kernel_rfl) (by decide)); rw [d29] at E79
    have G := hF.own_ 27 rfl rfl (by kernel_rfl) (by decide); rw [d27] at G
    refine .inr ⟨wanted_yes rfl rfl rfl G, .inl ⟨.bool true, ?_, hI, TyP.of_is rfl⟩⟩
    simp only [execOp, E79, Sem.run_pure]
  case ob31 =>
    intro p vals W1 F hF hlo hhi hI hd
    have hp : p = 0 := Nat.le_antisymm hhi hlo
    subst hp
    clear hlo hhi
    have d30 : vals 30 = .bool true := hd ⟨30, .guard⟩ (Array.mem_of_getElem? (i := 0) rfl) rfl (show (0 : Nat) ≤ 1000 by decide)
    have G := hF.own_ 30 rfl rfl (by kernel_rfl) (by decide); rw [d30] at G
    exact .inl ⟨wanted_no rfl rfl rfl G rfl, hI, TyP.of_is rfl⟩
  case ob32 =>
    intro p vals W1 F hF hlo hhi hI hd
    have hp : p = 0 := Nat.le_antisymm hhi hlo
    subst hp
    clear hlo hhi
    have d30 : vals 30 = .bool true := hd ⟨30, .guard⟩ (Array.mem_of_getElem? (i := 1) rfl) rfl (show (0 : Nat) ≤ 1000 by decide)
    have G := hF.own_ 30 rfl rfl (by kernel_rfl) (by decide); rw [d30] at G
    exact .inl ⟨wanted_no rfl rfl rfl G rfl, hI, TyP.of_is rfl⟩
  case ob33 =>
    intro p vals W1 F hF hlo hhi hI hd
    have hp : p = 0 := Nat.le_antisymm hhi hlo
    subst hp
    clear hlo hhi
    have d30 : vals 30 = .bool true := hd ⟨30, .chain⟩ (Array.mem_of_getElem? (i := 1) rfl) rfl (show (0 : Nat) ≤ 1000 by decide)
    have G := hF.own_ 30 rfl rfl (by kernel_rfl) (by decide); rw [d30] at G
    exact .inl ⟨wanted_no rfl rfl rfl G rfl, hI, TyP.of_is rfl⟩
  case ob34 =>
    intro p vals W1 F hF hlo hhi hI hd
    have hp : p = 0 := Nat.le_antisymm hhi hlo
    subst hp
    clear hlo hhi
    have d33 : vals 33 = undef := hd ⟨33, .guard⟩ (Array.mem_of_getElem? (i := 0) rfl) rfl (show (0 : Nat) ≤ 1000 by decide)
    have G := hF.own_ 33 rfl rfl (by kernel_rfl) (by decide); rw [d33] at G
    exact .inl ⟨wanted_un rfl rfl rfl G, hI, TyP.of_is rfl⟩
  case ob35 =>
    intro p vals W1 F hF hlo hhi hI hd
    have hp : p = 0 := Nat.le_antisymm hhi hlo
    subst hp
    clear hlo hhi
    have d33 : vals 33 = undef := hd ⟨33, .guard⟩ (Array.mem_of_getElem? (i := 0) rfl) rfl (show (0 : Nat) ≤ 1000 by decide)
    have G := hF.own_ 33 rfl rfl (by kernel_rfl) (by decide); rw [d33] at G
    exact .inl ⟨wanted_un rfl rfl rfl G, hI, TyP.of_is rfl⟩
  case ob36 =>
    intro p vals W1 F hF hlo hhi hI hd
    have hp : p = 0 := Nat.le_antisymm hhi hlo
    subst hp
    clear hlo hhi
    have d33 : vals 33 = undef := hd ⟨33, .guard⟩ (Array.mem_of_getElem? (i := 1) rfl) rfl (show (0 : Nat) ≤ 1000 by decide)
    have G := hF.own_ 33 rfl rfl (by kernel_rfl) (by decide); rw [d33] at G
    exact .inl ⟨wanted_un rfl rfl rfl G, hI, TyP.of_is rfl⟩
  case ob37 =>
    intro p vals W1 F hF hlo hhi hI hd
    have hp : p = 0 := Nat.le_antisymm hhi hlo
    subst hp
    clear hlo hhi
    have d33 : vals 33 = undef := hd ⟨33, .guard⟩ (Array.mem_of_getElem? (i := 1) rfl) rfl (show (0 : Nat) ≤ 1000 by decide)
    have G := hF.own_ 33 rfl rfl (by kernel_rfl) (by decide); rw [d33] at G
    exact .inl ⟨wanted_un rfl rfl rfl G, hI, TyP.of_is rfl⟩
  case ob38 =>
    intro p vals W1 F hF hlo hhi hI hd
    have hp : p = 0 := Nat.le_antisymm hhi hlo
    subst hp
    clear hlo hhi
    have d33 : vals 33 = undef := hd ⟨33, .guard⟩ (Array.mem_of_getElem? (i := 2) rfl) rfl (show (0 : Nat) ≤ 1000 by decide)
    have G := hF.own_ 33 rfl rfl (by kernel_rfl) (by decide); rw [d33] at G
    exact .inl ⟨wanted_un rfl rfl rfl G, hI, TyP.of_is rfl⟩
  case ob39 =>
    intro p vals W1 F hF hlo hhi hI hd
    have hp : p = 0 := Nat.le_antisymm hhi hlo
    subst hp
    clear hlo hhi
    have d30 : vals 30 = .bool true := hd ⟨30, .guard⟩ (Array.mem_of_getElem? (i := 2) rfl) rfl (show (0 : Nat) ≤ 1000 by decide)
    have G := hF.own_ 30 rfl rfl (by kernel_rfl) (by decide); rw [d30] at G
    exact .inl ⟨wanted_no rfl rfl rfl G rfl, hI, TyP.of_is rfl⟩
  case ob40 =>
    intro p vals W1 F hF hlo hhi hI hd
    have hp : p = 0 := Nat.le_antisymm hhi hlo
    subst hp
    clear hlo hhi
    have d30 : vals 30 = .bool true := hd ⟨30, .guard⟩ (Array.mem_of_getElem? (i := 2) rfl) rfl (show (0 : Nat) ≤ 1000 by decide)
    have G := hF.own_ 30 rfl rfl (by kernel_rfl) (by decide); rw [d30] at G
    exact .inl ⟨wanted_no rfl rfl rfl G rfl, hI, TyP.of_is rfl⟩
  case ob41 =>
    intro p vals W1 F hF hlo hhi hI hd
    have hp : p = 0 := Nat.le_antisymm hhi hlo
    subst hp
    clear hlo hhi
    have d40 : vals 40 = undef := hd ⟨40, .guard⟩ (Array.mem_of_getElem? (i := 0) rfl) rfl (show (0 : Nat) ≤ 1000 by decide)
    have G := hF.own_ 40 rfl rfl (by kernel_rfl) (by decide); rw [d40] at G
    exact .inl ⟨wanted_un rfl rfl rfl G, hI, TyP.of_is rfl⟩
  case ob42 =>
    intro p vals W1 F hF hlo hhi hI hd
    have hp : p = 0 := Nat.le_antisymm hhi hlo
    subst hp
    clear hlo hhi
    have d40 : vals 40 = undef := hd ⟨40, .guard⟩ (Array.mem_of_getElem? (i := 1) rfl) rfl (show (0 : Nat) ≤ 1000 by decide)
    have G := hF.own_ 40 rfl rfl (by kernel_rfl) (by decide); rw [d40] at G
    exact .inl ⟨wanted_un rfl rfl rfl G, hI, TyP.of_is rfl⟩
  case ob43 =>
    intro p vals W1 F hF hlo hhi hI hd
    have hp : p = 0 := Nat.le_antisymm hhi hlo
    subst hp
    clear hlo hhi
    have d40 : vals 40 = undef := hd ⟨40, .guard⟩ (Array.mem_of_getElem? (i := 0) rfl) rfl (show (0 : Nat) ≤ 1000 by decide)
    have G := hF.own_ 40 rfl rfl (by kernel_rfl) (by decide); rw [d40] at G
    exact .inl ⟨wanted_un rfl rfl rfl G, hI, TyP.of_is rfl⟩
  case ob44 =>
    intro p vals W1 F hF hlo hhi hI hd
    have hp : p = 0 := Nat.le_antisymm hhi hlo
    subst hp
    clear hlo hhi
    have d40 : vals 40 = undef := hd ⟨40, .guard⟩ (Array.mem_of_getElem? (i := 2) rfl) rfl (show (0 : Nat) ≤ 1000 by decide)
    have G := hF.own_ 40 rfl rfl (by kernel_rfl) (by decide); rw [d40] at G
    exact .inl ⟨wanted_un rfl rfl rfl G, hI, TyP.of_is rfl⟩
  case ob45 =>
    intro p vals W1 F hF hlo hhi hI hd
    have hp : p = 0 := Nat.le_antisymm hhi hlo
    subst hp
    clear hlo hhi
    have d30 : vals 30 = .bool true := hd ⟨30, .guard⟩ (Array.mem_of_getElem? (i := 2) rfl) rfl (show (0 : Nat) ≤ 1000 by decide)
    have G := hF.own_ 30 rfl rfl (by kernel_rfl) (by decide); rw [d30] at G
    exact .inl ⟨wanted_no rfl rfl rfl G rfl, hI, TyP.of_is rfl⟩
  case ob46 =>
    intro p vals W1 F hF hlo hhi hI hd
    have hp : p = 0 := Nat.le_antisymm hhi hlo
    subst hp
    clear hlo hhi
    have d27 : vals 27 = .bool true := hd ⟨27, .guard⟩ (Array.mem_of_getElem? (i := 2) rfl) rfl (show (0 : Nat) ≤ 1000 by decide)
    have d30 : vals 30 = .bool true := hd ⟨30, .data⟩ (Array.mem_of_getElem? (i := 0) rfl) rfl (show (0 : Nat) ≤ 1000 by decide)
    have d45 : vals 45 = undef := hd ⟨45, .data⟩ (Array.mem_of_getElem? (i := 1) rfl) rfl (show (0 : Nat) ≤ 1000 by decide)
    have E80 := eval_some (hF.own_ 30 rfl rfl (by kernel_rfl) (by decide)); rw [d30] at E80
    have E95 := eval_some (hF.own_ 45 rfl rfl (by kernel_rfl) (by decide)); rw [d45] at E95
    have G := hF.own_ 27 rfl rfl (by kernel_rfl) (by decide); rw [d27] at G
    refine .inr ⟨wanted_yes rfl rfl rfl G, .inl ⟨.bool true, ?_, hI, TyP.of_is rfl⟩⟩
    have Ec : ∀ v, F.eval (.const v) = v := fun _ => rfl; have Ef : ∀ f, F.eval (.func f) = .func (.func f) #[] #[] := fun _ => rfl; clear hF hd; generalize F.eval = ρ at E80 E95 Ec Ef ⊢
    simp [execOp, go_sem, Ec, E80, E95]
  case ob47 =>
    intro p vals W1 F hF hlo hhi hI hd
    have hp : p = 0 := Nat.le_antisymm hhi hlo
    subst hp
    clear hlo hhi
    have d27 : vals 27 = .bool true := hd ⟨27, .data⟩ (Array.mem_of_getElem? (i := 0) rfl) rfl (show (0 : Nat) ≤ 1000 by decide)
    have d46 : vals 46 = .bool true := hd ⟨46, .data⟩ (Array.mem_of_getElem? (i := 1) rfl) rfl (show (0 : Nat) ≤ 1000 by decide)
    have E77 := eval_some (hF.own_ 27 rfl rfl (by kernel_rfl) (by decide)); rw [d27] at E77
    have E96 := eval_some (hF.own_ 46 rfl rfl (by kernel_rfl) (by decide)); rw [d46] at E96
    refine .inr ⟨wanted_none rfl, .inl ⟨.bool true, ?_, hI, TyP.of_is rfl⟩⟩
    have Ec : ∀ v, F.eval (.const v) = v := fun _ => rfl; have Ef : ∀ f, F.eval (.func f) = .func (.func f) #[] #[] := fun _ => rfl; clear hF hd; generalize F.eval = ρ at E77 E96 Ec Ef ⊢
    simp [execOp, go_sem, Ec, E77, E96]
  case ob48 =>
    intro p vals W1 F hF hlo hhi hI hd
    have hp : p = 0 := Nat.le_antisymm hhi hlo
    subst hp
    clear hlo hhi
    have d47 : vals 47 = .bool true := hd ⟨47, .data⟩ (Array.mem_of_getElem? (i := 0) rfl) rfl (show (0 : Nat) ≤ 1000 by decide)
    have E97 := eval_some (hF.own_ 47 rfl rfl (by kernel_rfl) (by decide)); rw [d47] at E97
    refine .inr ⟨wanted_none rfl, .inl ⟨.bool true, ?_, hI, TyP.of_is rfl⟩⟩
    simp only [execOp, E97, Sem.run_pure]
  case ob49 =>
    intro p vals W1 F hF hlo hhi hI hd
    have hp : p = 0 := Nat.le_antisymm hhi hlo
    subst hp
    clear hlo hhi
    have d48 : vals 48 = .bool true := hd ⟨48, .guard⟩ (Array.mem_of_getElem? (i := 0) rfl) rfl (show (0 : Nat) ≤ 1000 by decide)
    have E9 : F.eval (.tmp 9) = .int .i64 10 := hF.out_ (by kernel_rfl) rfl
    have G := hF.own_ 48 rfl rfl (by kernel_rfl) (by decide); rw [d48] at G
    refine .inr ⟨wanted_yes rfl rfl rfl G, .inl ⟨.int .i64 10, ?_, hI, TyP.of_is rfl⟩⟩
    simp only [execOp, E9, Sem.run_pure]
  case ob50 =>
    intro p vals W1 F hF hlo hhi hI hd
    have hp : p = 0 := Nat.le_antisymm hhi hlo
    subst hp
    clear hlo hhi
    have d48 : vals 48 = .bool true := hd ⟨48, .guard⟩ (Array.mem_of_getElem? (i := 1) rfl) rfl (show (0 : Nat) ≤ 1000 by decide)
    have d49 : vals 49 = .int .i64 10 := hd ⟨49, .data⟩ (Array.mem_of_getElem? (i := 0) rfl) rfl (show (0 : Nat) ≤ 1000 by decide)
    have E99 := eval_some (hF.own_ 49 rfl rfl (by kernel_rfl) (by decide)); rw [d49] at E99
    have G := hF.own_ 48 rfl rfl (by kernel_rfl) (by decide); rw [d48] at G
    refine .inr ⟨wanted_yes rfl rfl rfl G, .inl ⟨.bool true, ?_, hI, TyP.of_is rfl⟩⟩
    have Ec : ∀ v, F.eval (.const v) = v := fun _ => rfl; have Ef : ∀ f, F.eval (.func f) = .func (.func f) #[] #[] := fun _ => rfl; clear hF hd; generalize F.eval = ρ at E99 Ec Ef ⊢
    simp [execOp, go_sem, Ec, E99]
  case ob51 =>
    intro p vals W1 F hF hlo hhi hI hd
    have hp : p = 0 := Nat.le_antisymm hhi hlo
    subst hp
    clear hlo hhi
    have d48 : vals 48 = .bool true := hd ⟨48, .chain⟩ (Array.mem_of_getElem? (i := 1) rfl) rfl (show (0 : Nat) ≤ 1000 by decide)
    have d50 : vals 50 = .bool true := hd ⟨50, .data⟩ (Array.mem_of_getElem? (i := 0) rfl) rfl (show (0 : Nat) ≤ 1000 by decide)
    have E100 := eval_some (hF.own_ 50 rfl rfl (by kernel_rfl) (by decide)); rw [d50] at E100
    have G := hF.own_ 48 rfl rfl (by kernel_rfl) (by decide); rw [d48] at G
    refine .inr ⟨wanted_yes rfl rfl rfl G, .inl ⟨.bool true, ?_, hI, TyP.of_is rfl⟩⟩
    simp only [execOp, E100, Sem.run_pure]
  case ob52 =>
    intro p vals W1 F hF hlo hhi hI hd
    have hp : p = 0 := Nat.le_antisymm hhi hlo
    subst hp
    clear hlo hhi
    have d51 : vals 51 = .bool true := hd ⟨51, .guard⟩ (Array.mem_of_getElem? (i := 0) rfl) rfl (show (0 : Nat) ≤ 1000 by decide)
    have G := hF.own_ 51 rfl rfl (by kernel_rfl) (by decide); rw [d51] at G
    exact .inl ⟨wanted_no rfl rfl rfl G rfl, hI, TyP.of_is rfl⟩
  case ob53 =>
    intro p vals W1 F hF hlo hhi hI hd
    have hp : p = 0 := Nat.le_antisymm hhi hlo
    subst hp
    clear hlo hhi
    have d51 : vals 51 = .bool true := hd ⟨51, .guard⟩ (Array.mem_of_getElem? (i := 1) rfl) rfl (show (0 : Nat) ≤ 1000 by decide)
    have G := hF.own_ 51 rfl rfl (by kernel_rfl) (by decide); rw [d51] at G
    exact .inl ⟨wanted_no rfl rfl rfl G rfl, hI, TyP.of_is rfl⟩
  case ob54 =>
    intro p vals W1 F hF hlo hhi hI hd
    have hp : p = 0 := Nat.le_antisymm hhi hlo
    subst hp
    clear hlo hhi
    have d51 : vals 51 = .bool true := hd ⟨51, .guard⟩ (Array.mem_of_getElem? (i := 0) rfl) rfl (show (0 : Nat) ≤ 1000 by decide)
    have G := hF.own_ 51 rfl rfl (by kernel_rfl) (by decide); rw [d51] at G
    exact .inl ⟨wanted_no rfl rfl rfl G rfl, hI, TyP.of_is rfl⟩
  case ob55 =>
    intro p vals W1 F hF hlo hhi hI hd
    have hp : p = 0 := Nat.le_antisymm hhi hlo
    subst hp
    clear hlo hhi
    have d51 : vals 51 = .bool true := hd ⟨51, .chain⟩ (Array.mem_of_getElem? (i := 1) rfl) rfl (show (0 : Nat) ≤ 1000 by decide)
    have G := hF.own_ 51 rfl rfl (by kernel_rfl) (by decide); rw [d51] at G
    exact .inl ⟨wanted_no rfl rfl rfl G rfl, hI, TyP.of_is rfl⟩
  case ob56 =>
    intro p vals W1 F hF hlo hhi hI hd
    have hp : p = 0 := Nat.le_antisymm hhi hlo
    subst hp
    clear hlo hhi
    have d51 : vals 51 = .bool true := hd ⟨51, .guard⟩ (Array.mem_of_getElem? (i := 2) rfl) rfl (show (0 : Nat) ≤ 1000 by decide)
    have G := hF.own_ 51 rfl rfl (by kernel_rfl) (by decide); rw [d51] at G
    exact .inl ⟨wanted_no rfl rfl rfl G rfl, hI, TyP.of_is rfl⟩
  case ob57 =>
    intro p vals W1 F hF hlo hhi hI hd
    have hp : p = 0 := Nat.le_antisymm hhi hlo
    subst hp
    clear hlo hhi
    have d48 : vals 48 = .bool true := hd ⟨48, .guard⟩ (Array.mem_of_getElem? (i := 2) rfl) rfl (show (0 : Nat) ≤ 1000 by decide)
    have d51 : vals 51 = .bool true := hd ⟨51, .data⟩ (Array.mem_of_getElem? (i := 0) rfl) rfl (show (0 : Nat) ≤ 1000 by decide)
    have d56 : vals 56 = undef := hd ⟨56, .data⟩ (Array.mem_of_getElem? (i := 1) rfl) rfl (show (0 : Nat) ≤ 1000 by decide)
    have E101 := eval_some (hF.own_ 51 rfl rfl (by kernel_rfl) (by decide)); rw [d51] at E101
    have E106 := eval_some (hF.own_ 56 rfl rfl (by kernel_rfl) (by decide)); rw [d56] at E106
    have G := hF.own_ 48 rfl rfl (by kernel_rfl) (by decide); rw [d48] at G
    refine .inr ⟨wanted_yes rfl rfl rfl G, .inl ⟨.bool true, ?_, hI, TyP.of_is rfl⟩⟩
    have Ec : ∀ v, F.eval (.const v) = v := fun _ => rfl; have Ef : ∀ f, F.eval (.func f) = .func (.func f) #[] #[] := fun _ => rfl; clear hF hd; generalize F.eval = ρ at E101 E106 Ec Ef ⊢
    simp [execOp, go_sem, Ec, E101, E106]
  case ob58 =>
    intro p vals W1 F hF hlo hhi hI hd
    have hp : p = 0 := Nat.le_antisymm hhi hlo
    subst hp
    clear hlo hhi
    have d48 : vals 48 = .bool true := hd ⟨48, .data⟩ (Array.mem_of_getElem? (i := 0) rfl) rfl (show (0 : Nat) ≤ 1000 by decide)
    have d57 : vals 57 = .bool true := hd ⟨57, .data⟩ (Array.mem_of_getElem? (i := 1) rfl) rfl (show (0 : Nat) ≤ 1000 by decide)
    have E98 := eval_some (hF.own_ 48 rfl rfl (by kernel_rfl) (by decide)); rw [d48] at E98
    have E107 := eval_some (hF.own_ 57 rfl rfl (by kernel_rfl) (by decide)); rw [d57] at E107
    refine .inr ⟨wanted_none rfl, .inl ⟨.bool true, ?_, hI, TyP.of_is rfl⟩⟩
    have Ec : ∀ v, F.eval (.const v) = v := fun _ => rfl; have Ef : ∀ f, F.eval (.func f) = .func (.func f) #[] #[] := fun _ => rfl; clear hF hd; generalize F.eval = ρ at E98 E107 Ec Ef ⊢
    simp [execOp, go_sem, Ec, E98, E107]
  case ob59 =>
    intro p vals W1 F hF hlo hhi hI hd
    have hp : p = 0 := Nat.le_antisymm hhi hlo
    subst hp
    clear hlo hhi
    have d58 : vals 58 = .bool true := hd ⟨58, .data⟩ (Array.mem_of_getElem? (i := 0) rfl) rfl (show (0 : Nat) ≤ 1000 by decide)
    have E108 := eval_some (hF.own_ 58 rfl rfl (by kernel_rfl) (by decide)); rw [d58] at E108
    refine .inr ⟨wanted_none rfl, .inl ⟨.bool true, ?_, hI, TyP.of_is rfl⟩⟩
    simp only [execOp, E108, Sem.run_pure]
  case obend =>
    intro vals W1 F hF hdef hI hT
    have d59 : vals 59 = .bool true := hT 59 (by decide) (show (0 : Nat) ≤ 1000 by decide)
    have e6 := hF.own_ 59 rfl rfl (by decide)
    rw [d59] at e6
    rename_i K hK
    refine hK _ _ (wp_ret (bodyPost_ret (results_tmp rfl _ _ _) hdef ?_))
    refine ⟨?_, HB9.out.trans (hI.mono HB9.out.size)⟩
    show Ending.returned (F.tmps.getD 4 undef) = _
    rw [Array.getD_eq_getD_getElem?, e6]
    rfl
end Go.Proofs.Ytngkckngjobojaa.Oct
