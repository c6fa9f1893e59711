/- The contract of purserref01.GetSize. No condition beyond the memory's reach. -/
import Derived.Test.YtngkckngjobojaaOctEE
import Derived.Test.YtngkckngjobojaaReg3
namespace Go.Proofs.Ytngkckngjobojaa.Oct
open Go.Proofs.Ytngkckngjobojaa Go.RowKit Go.Shelf
set_option maxRecDepth 100000 in
set_option maxHeartbeats 2000000 in
theorem getSize_one_eq (bs : List UInt8) (A : Option Addr) (c n₀ k m : Nat) (hm : m < 18446744073709551616) (x : UInt8) (n3 : ((x.toNat : Int) == 253) = false) (n4 : ((x.toNat : Int) == 254) = false) (n5 : ((x.toNat : Int) == 255) = false) (hk : k < bs.length) (hxx : bs[k] = x) (hl : bs.length ≤ 20000) (w : World) (hh : Holds8 n₀ w A bs) (hn : n₀ ≤ w.heap.size) (hc : bs.length ≤ c) (hcm : c ≤ 9223372036854775807) (hR : fixedR (bs.drop (k)) 1 = (m, 0, (bs.drop (k)).drop 1)) (hq : sizeB m = (bs.drop k).take 1) (hT : k + 1 ≤ bs.length) :
    Calls Try.prog 20 #[.slice A bs.length c, .int .i64 (k : Int)] w fun e w' => e = .returned (.tuple #[.int .u64 (m : Int), .int .i64 (k + 1 : Nat), .int .i64 0]) ∧ Below w.heap.size w w' := by
  have HGF := Lib.hid (show Calls Try.prog 18 #[.slice A bs.length c, .int .i64 ((k : Int)), .int .i64 1] w fun e w' => e = .returned (.tuple #[.int .u64 (m : Int), .int .i64 ((k + 1 : Nat) : Int), .int .i64 0]) ∧ Below w.heap.size w w' from by
    have h := getFixed_any bs A c n₀ (k) (by omega) hl 1 w hh hn hc hcm
    rw [hR] at h
    skip
    refine h.mono fun e w' hq => ?_
    obtain ⟨h1, h2⟩ := hq
    refine ⟨?_, h2⟩
    rw [h1]
    simp only
    rw [got_more bs (k) 1 (by omega)]
    skip)
  obtain ⟨b, off, rfl, hb, hcx⟩ := hh.at_ hk
  rw [hxx] at hcx
  have hck : ¬ c = k := by omega
  have hki : (k : Int) < (bs.length : Int) := by omega
  have h9 := (hh.drop_ k c (by omega) hc).take_ 1
  rw [← cut_ne hck] at h9
  have htl : ((bs.drop k).take 1).length = 1 := by rw [List.length_take, List.length_drop]; omega
  have hT2 : k + 1 ≤ c := by omega
  obtain ⟨T, hTe⟩ : ∃ T, k + 1 = T := ⟨_, rfl⟩
  rw [hTe] at HGF ⊢
  have hTk : T - k = 1 := by omega
  have hTI : (T : Int) - (k : Int) = 1 := by omega
  have hTc : T ≤ c := by omega
  have hkT : k ≤ T := by omega
  have hTn : (T : Int) ≤ (c : Int) := by omega
  have hkTI : (k : Int) ≤ (T : Int) := by omega
  obtain ⟨L, hL⟩ : ∃ L, (bs.drop k).take 1 = L := ⟨_, rfl⟩
  rw [hL] at h9 htl hq
  have HSZ := Lib.hid (fun W => refSize_any m hm W)
  obtain ⟨Z, hZ⟩ : ∃ Z, sizeB m = Z := ⟨_, rfl⟩
  rw [hZ] at HSZ hq
  have H9 := Lib.hid h9
  have HTL := Lib.hid htl
  have HTK := Lib.hid hTk
  clear h9 htl hL hZ hTe hT hTk
  subst hq
  clear hh hR hxx
  go_enter Try.func20, Try.ntmps20
  go_wp2_with (go_at_call 18; refine HGF.out.mono ?_; rintro e w1 ⟨rfl, hb1⟩)
  refine wp_region_phased 54 rfl (fun _ _ W W' => Below W.heap.size W W') (fun _ W' => Below w1.heap.size w1 W') [.is (.int .i64 0), .is (.bool false), .is (.bool false), .is (.int .u64 (m : Int)), ⟨0, 1000, fun v W => ∃ B cb, v = .slice B Z.length cb ∧ Holds8 W.heap.size W B Z, fun k d v W W' _ _ ⟨B, cb, e, h⟩ hr => ⟨B, cb, e, h.later hr⟩⟩, .is (.string ⟨Z.toArray⟩), .is (.slice (some ⟨b, off, none⟩) bs.length c), .is (.int .i64 (k : Int)), .is (.int .i64 (T : Int)), .is (.slice (some ⟨b, off + k, none⟩) 1 (c - k)), .is (.string ⟨Z.toArray⟩), .is (.bool false), .is (.bool false)] [] [0, 0, 0, 0, 0, 0, 0, 0, 0, 0, 0, 0, 0] [0, 0, 0, 0, 0, 0, 0, 0, 0, 0, 0, 0, 0] (by kernel_rfl) (by kernel_rfl) (by kernel_rfl) (fun _ _ _ => Below.refl _ _) ((Below.refl _ _).drew) ⟨?ob0, ?ob1, ?ob2, ?ob3, ?ob4, ?ob5, ?ob6, ?ob7, ?ob8, ?ob9, ?ob10, ?ob11, ?ob12, trivial⟩ ?obend
  case ob0 =>
    intro p vals W1 F hF hlo hhi hI hd
    have hp : p = 0 := Nat.le_antisymm hhi hlo
    subst hp
    clear hlo hhi
    have E11 : F.eval (.tmp 11) = .int .i64 0 := hF.out_ (by kernel_rfl) rfl
    refine .inr ⟨wanted_none rfl, .inl ⟨.int .i64 0, ?_, hI, TyP.of_is rfl⟩⟩
    simp only [execOp, E11, Sem.run_pure]
  case ob1 =>
    intro p vals W1 F hF hlo hhi hI hd
    have hp : p = 0 := Nat.le_antisymm hhi hlo
    subst hp
    clear hlo hhi
    have d0 : vals 0 = .int .i64 0 := hd ⟨0, .data⟩ (Array.mem_of_getElem? (i := 0) rfl) rfl (show (0 : Nat) ≤ 1000 by decide)
    have E38 := eval_some (hF.own_ 0 rfl rfl (by kernel_rfl) (by decide)); rw [d0] at E38
    refine .inr ⟨wanted_none rfl, .inl ⟨.bool false, ?_, hI, TyP.of_is rfl⟩⟩
    have Ec : ∀ v, F.eval (.const v) = v := fun _ => rfl; have Ef : ∀ f, F.eval (.func f) = .func (.func f) #[] #[] := fun _ => rfl; clear hF hd; generalize F.eval = ρ at E38 Ec Ef ⊢
    simp [execOp, go_sem, Ec, E38]
  case ob2 =>
    intro p vals W1 F hF hlo hhi hI hd
    have hp : p = 0 := Nat.le_antisymm hhi hlo
    subst hp
    clear hlo hhi
    have d1 : vals 1 = .bool false := hd ⟨1, .data⟩ (Array.mem_of_getElem? (i := 0) rfl) rfl (show (0 : Nat) ≤ 1000 by decide)
    have E39 := eval_some (hF.own_ 1 rfl rfl (by kernel_rfl) (by decide)); rw [d1] at E39
    refine .inr ⟨wanted_none rfl, .inl ⟨.bool false, ?_, hI, TyP.of_is rfl⟩⟩
    simp only [execOp, E39, Sem.run_pure]
  case ob3 =>
    intro p vals W1 F hF hlo hhi hI hd
    have hp : p = 0 := Nat.le_antisymm hhi hlo
    subst hp
    clear hlo hhi
    have d2 : vals 2 = .bool false := hd ⟨2, .guard⟩ (Array.mem_of_getElem? (i := 0) rfl) rfl (show (0 : Nat) ≤ 1000 by decide)
    have E9 : F.eval (.tmp 9) = .int .u64 (m : Int) := hF.out_ (by kernel_rfl) rfl
    have G := hF.own_ 2 rfl rfl (by kernel_rfl) (by decide); rw [d2] at G
    refine .inr ⟨wanted_yes rfl rfl rfl G, .inl ⟨.int .u64 (m : Int), ?_, hI, TyP.of_is rfl⟩⟩
    simp only [execOp, E9, Sem.run_pure]
  case ob4 =>
    intro p vals W1 F hF hlo hhi hI hd
    have hp : p = 0 := Nat.le_antisymm hhi hlo
    subst hp
    clear hlo hhi
    have d2 : vals 2 = .bool false := hd ⟨2, .chain⟩ (Array.mem_of_getElem? (i := 1) rfl) rfl (show (0 : Nat) ≤ 1000 by decide)
    have d3 : vals 3 = .int .u64 (m : Int) := hd ⟨3, .data⟩ (Array.mem_of_getElem? (i := 0) rfl) rfl (show (0 : Nat) ≤ 1000 by decide)
    have E41 := eval_some (hF.own_ 3 rfl rfl (by kernel_rfl) (by decide)); rw [d3] at E41
    have G := hF.own_ 2 rfl rfl (by kernel_rfl) (by decide); rw [d2] at G
    refine .inr ⟨wanted_yes rfl rfl rfl G, ?_⟩
    refine .inr (.inr (.inl ⟨14, #[.int .u64 (m : Int)], ?_, (HSZ.out _).mono ?_⟩))
    · have Ec : ∀ v, F.eval (.const v) = v := fun _ => rfl; have Ef : ∀ f, F.eval (.func f) = .func (.func f) #[] #[] := fun _ => rfl; clear hF hd; generalize F.eval = ρ at E41 Ec Ef ⊢
      simp [execOp, go_sem, Ec, Ef, E41]
    rintro e W2 ⟨v, rfl, hr2, hb2⟩
    obtain ⟨B, cb, rfl, hh2, _⟩ := own_open hr2
    exact ⟨_, rfl, hb2, hI.trans (hb2.mono hI.size), B, cb, rfl, hh2⟩
  case ob5 =>
    intro p vals W1 F hF hlo hhi hI hd
    have hp : p = 0 := Nat.le_antisymm hhi hlo
    subst hp
    clear hlo hhi
    have d2 : vals 2 = .bool false := hd ⟨2, .guard⟩ (Array.mem_of_getElem? (i := 1) rfl) rfl (show (0 : Nat) ≤ 1000 by decide)
    obtain ⟨B4, c4, hspec4, hh4⟩ := hd ⟨4, .data⟩ (Array.mem_of_getElem? (i := 0) rfl) rfl (show (0 : Nat) ≤ 1000 by decide)
    have d4 : vals 4 = .slice B4 Z.length c4 := hspec4
    have E42 := eval_some (hF.own_ 4 rfl rfl (by kernel_rfl) (by decide)); rw [d4] at E42
    have G := hF.own_ 2 rfl rfl (by kernel_rfl) (by decide); rw [d2] at G
    refine .inr ⟨wanted_yes rfl rfl rfl G, ?_⟩
    have hst := str_of hh4 c4
    refine .inl ⟨_, ?_, hI, TyP.of_is rfl⟩
    have Ec : ∀ v, F.eval (.const v) = v := fun _ => rfl; have Ef : ∀ f, F.eval (.func f) = .func (.func f) #[] #[] := fun _ => rfl; clear hF hd; generalize F.eval = ρ at E42 Ec Ef ⊢
    simp [execOp, go_sem, Ec, E42, hst]
  case ob6 =>
    intro p vals W1 F hF hlo hhi hI hd
    have hp : p = 0 := Nat.le_antisymm hhi hlo
    subst hp
    clear hlo hhi
    have d2 : vals 2 = .bool false := hd ⟨2, .guard⟩ (Array.mem_of_getElem? (i := 0) rfl) rfl (show (0 : Nat) ≤ 1000 by decide)
    have E0 : F.eval (.tmp 0) = .slice (some ⟨b, off, none⟩) bs.length c := hF.out_ (by kernel_rfl) rfl
    have G := hF.own_ 2 rfl rfl (by kernel_rfl) (by decide); rw [d2] at G
    refine .inr ⟨wanted_yes rfl rfl rfl G, .inl ⟨.slice (some ⟨b, off, none⟩) bs.length c, ?_, hI, TyP.of_is rfl⟩⟩
    simp only [execOp, E0, Sem.run_pure]
  case ob7 =>
    intro p vals W1 F hF hlo hhi hI hd
    have hp : p = 0 := Nat.le_antisymm hhi hlo
    subst hp
    clear hlo hhi
    have d2 : vals 2 = .bool false := hd ⟨2, .guard⟩ (Array.mem_of_getElem? (i := 0) rfl) rfl (show (0 : Nat) ≤ 1000 by decide)
    have E1 : F.eval (.tmp 1) = .int .i64 (k : Int) := hF.out_ (by kernel_rfl) rfl
    have G := hF.own_ 2 rfl rfl (by kernel_rfl) (by decide); rw [d2] at G
    refine .inr ⟨wanted_yes rfl rfl rfl G, .inl ⟨.int .i64 (k : Int), ?_, hI, TyP.of_is rfl⟩⟩
    simp only [execOp, E1, Sem.run_pure]
  case ob8 =>
    intro p vals W1 F hF hlo hhi hI hd
    have hp : p = 0 := Nat.le_antisymm hhi hlo
    subst hp
    clear hlo hhi
    have d2 : vals 2 = .bool false := hd ⟨2, .guard⟩ (Array.mem_of_getElem? (i := 0) rfl) rfl (show (0 : Nat) ≤ 1000 by decide)
    have E10 : F.eval (.tmp 10) = .int .i64 (T : Int) := hF.out_ (by kernel_rfl) rfl
    have G := hF.own_ 2 rfl rfl (by kernel_rfl) (by decide); rw [d2] at G
    refine .inr ⟨wanted_yes rfl rfl rfl G, .inl ⟨.int .i64 (T : Int), ?_, hI, TyP.of_is rfl⟩⟩
    simp only [execOp, E10, Sem.run_pure]
  case ob9 =>
    intro p vals W1 F hF hlo hhi hI hd
    have hp : p = 0 := Nat.le_antisymm hhi hlo
    subst hp
    clear hlo hhi
    have d2 : vals 2 = .bool false := hd ⟨2, .guard⟩ (Array.mem_of_getElem? (i := 3) rfl) rfl (show (0 : Nat) ≤ 1000 by decide)
    have d6 : vals 6 = .slice (some ⟨b, off, none⟩) bs.length c := hd ⟨6, .data⟩ (Array.mem_of_getElem? (i := 0) rfl) rfl (show (0 : Nat) ≤ 1000 by decide)
    have d7 : vals 7 = .int .i64 (k : Int) := hd ⟨7, .data⟩ (Array.mem_of_getElem? (i := 1) rfl) rfl (show (0 : Nat) ≤ 1000 by decide)
    have d8 : vals 8 = .int .i64 (T : Int) := hd ⟨8, .data⟩ (Array.mem_of_getElem? (i := 2) rfl) rfl (show (0 : Nat) ≤ 1000 by decide)
    have E44 := eval_some (hF.own_ 6 rfl rfl (by kernel_rfl) (by decide)); rw [d6] at E44
    have E45 := eval_some (hF.own_ 7 rfl rfl (by kernel_rfl) (by decide)); rw [d7] at E45
    have E46 := eval_some (hF.own_ 8 rfl rfl (by kernel_rfl) (by decide)); rw [d8] at E46
    have G := hF.own_ 2 rfl rfl (by kernel_rfl) (by decide); rw [d2] at G
    refine .inr ⟨wanted_yes rfl rfl rfl G, ?_⟩
    refine .inl ⟨.slice (some ⟨b, off + k, none⟩) 1 (c - k), ?_, hI, TyP.of_is rfl⟩
    have htk := HTK.out
    have Ec : ∀ v, F.eval (.const v) = v := fun _ => rfl; have Ef : ∀ f, F.eval (.func f) = .func (.func f) #[] #[] := fun _ => rfl; clear hF hd; generalize F.eval = ρ at E44 E45 E46 Ec Ef ⊢
    simp [execOp, go_sem, Ec, E44, E45, E46, hkT, hTc, hck, htk]
  case ob10 =>
    intro p vals W1 F hF hlo hhi hI hd
    have hp : p = 0 := Nat.le_antisymm hhi hlo
    subst hp
    clear hlo hhi
    have d2 : vals 2 = .bool false := hd ⟨2, .guard⟩ (Array.mem_of_getElem? (i := 1) rfl) rfl (show (0 : Nat) ≤ 1000 by decide)
    have d9 : vals 9 = .slice (some ⟨b, off + k, none⟩) 1 (c - k) := hd ⟨9, .data⟩ (Array.mem_of_getElem? (i := 0) rfl) rfl (show (0 : Nat) ≤ 1000 by decide)
    have E47 := eval_some (hF.own_ 9 rfl rfl (by kernel_rfl) (by decide)); rw [d9] at E47
    have G := hF.own_ 2 rfl rfl (by kernel_rfl) (by decide); rw [d2] at G
    refine .inr ⟨wanted_yes rfl rfl rfl G, ?_⟩
    have hst := str_of (((H9.out.below hb1 hn).more (Nat.le_trans hn hb1.size)).later hI) (c - k)
    rw [HTL.out] at hst
    refine .inl ⟨_, ?_, hI, TyP.of_is rfl⟩
    have Ec : ∀ v, F.eval (.const v) = v := fun _ => rfl; have Ef : ∀ f, F.eval (.func f) = .func (.func f) #[] #[] := fun _ => rfl; clear hF hd; generalize F.eval = ρ at E47 Ec Ef ⊢
    simp [execOp, go_sem, Ec, E47, hst]
  case ob11 =>
    intro p vals W1 F hF hlo hhi hI hd
    have hp : p = 0 := Nat.le_antisymm hhi hlo
    subst hp
    clear hlo hhi
    have d2 : vals 2 = .bool false := hd ⟨2, .guard⟩ (Array.mem_of_getElem? (i := 2) rfl) rfl (show (0 : Nat) ≤ 1000 by decide)
    have d5 : vals 5 = .string ⟨Z.toArray⟩ := hd ⟨5, .data⟩ (Array.mem_of_getElem? (i := 0) rfl) rfl (show (0 : Nat) ≤ 1000 by decide)
    have d10 : vals 10 = .string ⟨Z.toArray⟩ := hd ⟨10, .data⟩ (Array.mem_of_getElem? (i := 1) rfl) rfl (show (0 : Nat) ≤ 1000 by decide)
    have E43 := eval_some (hF.own_ 5 rfl rfl (by kernel_rfl) (by decide)); rw [d5] at E43
    have E48 := eval_some (hF.own_ 10 rfl rfl (by kernel_rfl) (by decide)); rw [d10] at E48
    have G := hF.own_ 2 rfl rfl (by kernel_rfl) (by decide); rw [d2] at G
    refine .inr ⟨wanted_yes rfl rfl rfl G, .inl ⟨.bool false, ?_, hI, TyP.of_is rfl⟩⟩
    have Ec : ∀ v, F.eval (.const v) = v := fun _ => rfl; have Ef : ∀ f, F.eval (.func f) = .func (.func f) #[] #[] := fun _ => rfl; clear hF hd; generalize F.eval = ρ at E43 E48 Ec Ef ⊢
    simp [execOp, go_sem, Ec, E43, E48]
  case ob12 =>
    intro p vals W1 F hF hlo hhi hI hd
    have hp : p = 0 := Nat.le_antisymm hhi hlo
    subst hp
    clear hlo hhi
    have d2 : vals 2 = .bool false := hd ⟨2, .data⟩ (Array.mem_of_getElem? (i := 0) rfl) rfl (show (0 : Nat) ≤ 1000 by decide)
    have d11 : vals 11 = .bool false := hd ⟨11, .data⟩ (Array.mem_of_getElem? (i := 1) rfl) rfl (show (0 : Nat) ≤ 1000 by decide)
    have E40 := eval_some (hF.own_ 2 rfl rfl (by kernel_rfl) (by decide)); rw [d2] at E40
    have E49 := eval_some (hF.own_ 11 rfl rfl (by kernel_rfl) (by decide)); rw [d11] at E49
    refine .inr ⟨wanted_none rfl, .inl ⟨.bool false, ?_, hI, TyP.of_is rfl⟩⟩
    have Ec : ∀ v, F.eval (.const v) = v := fun _ => rfl; have Ef : ∀ f, F.eval (.func f) = .func (.func f) #[] #[] := fun _ => rfl; clear hF hd; generalize F.eval = ρ at E40 E49 Ec Ef ⊢
    simp [execOp, go_sem, Ec, E40, E49]
  case obend =>
    intro vals W1 F hF hdef hI hT
    rename_i K hK
    refine hK _ _ ?_
    have dl : vals 12 = .bool false := hT 12 (by decide) (show (0 : Nat) ≤ 1000 by decide)
    rw [hF.act]
    simp only [fin, Act.put, List.setIfInBounds_toArray, List.set_cons_succ, List.set_cons_zero, dl]
    clear hF hT dl
    have HBB := Lib.hid (hb1.trans (hI.mono hb1.size))
    clear hI
    go_wp2
    go_ret3
    exact ⟨rfl, HBB.out⟩
set_option maxRecDepth 100000 in
set_option maxHeartbeats 2000000 in
theorem getSize_x253_bad (bs : List UInt8) (A : Option Addr) (c n₀ k m : Nat) (hm : m < 18446744073709551616)  (hk : k < bs.length) (hxx : bs[k] = (253 : UInt8)) (hl : bs.length ≤ 20000) (w : World) (hh : Holds8 n₀ w A bs) (hn : n₀ ≤ w.heap.size) (hc : bs.length ≤ c) (hcm : c ≤ 9223372036854775807) (hR : fixedR (bs.drop (k + 1)) 2 = (0, 10, bs.drop (k + 1))) :
    Calls Try.prog 20 #[.slice A bs.length c, .int .i64 (k : Int)] w fun e w' => e = .returned (.tuple #[.int .u64 0, .int .i64 (k : Int), .int .i64 10]) ∧ Below w.heap.size w w' := by
  have HGF := Lib.hid (show Calls Try.prog 18 #[.slice A bs.length c, .int .i64 ((k : Int) + 1), .int .i64 2] w fun e w' => e = .returned (.tuple #[.int .u64 0, .int .i64 ((k + 1 : Nat) : Int), .int .i64 10]) ∧ Below w.heap.size w w' from by
    have h := getFixed_any bs A c n₀ (k + 1) (by omega) hl 2 w hh hn hc hcm
    rw [hR] at h
    rw [show ((k + 1 : Nat) : Int) = (k : Int) + 1 by omega] at h
    refine h.mono fun e w' hq => ?_
    obtain ⟨h1, h2⟩ := hq
    refine ⟨?_, h2⟩
    rw [h1]
    simp only
    rw [got_at bs (k + 1) (by omega)]
    rfl)
  obtain ⟨b, off, rfl, hb, hcx⟩ := hh.at_ hk
  rw [hxx] at hcx
  have hck : ¬ c = k := by omega
  have hki : (k : Int) < (bs.length : Int) := by omega
  clear hh hR hxx
  go_enter Try.func20, Try.ntmps20
  go_wp2_with (go_at_call 18; refine HGF.out.mono ?_; rintro e w1 ⟨rfl, hb1⟩)
  refine wp_region_phased 54 rfl (fun _ _ W W' => Below W.heap.size W W') (fun _ W' => Below w1.heap.size w1 W') [.is (.int .i64 10), .is (.bool true), .is (.bool true), .is undef, .is undef, .is undef, .is undef, .is undef, .is undef, .is undef, .is undef, .is undef, .is (.bool true)] [] [0, 0, 0, 0, 0, 0, 0, 0, 0, 0, 0, 0, 0] [0, 0, 0, 0, 0, 0, 0, 0, 0, 0, 0, 0, 0] (by kernel_rfl) (by kernel_rfl) (by kernel_rfl) (fun _ _ _ => Below.refl _ _) ((Below.refl _ _).drew) ⟨?ob0, ?ob1, ?ob2, ?ob3, ?ob4, ?ob5, ?ob6, ?ob7, ?ob8, ?ob9, ?ob10, ?ob11, ?ob12, trivial⟩ ?obend
  case ob0 =>
    intro p vals W1 F hF hlo hhi hI hd
    have hp : p = 0 := Nat.le_antisymm hhi hlo
    subst hp
    clear hlo hhi
    have E11 : F.eval (.tmp 11) = .int .i64 10 := hF.out_ (by kernel_rfl) rfl
    refine .inr ⟨wanted_none rfl, .inl ⟨.int .i64 10, ?_, hI, TyP.of_is rfl⟩⟩
    simp only [execOp, E11, Sem.run_pure]
  case ob1 =>
    intro p vals W1 F hF hlo hhi hI hd
    have hp : p = 0 := Nat.le_antisymm hhi hlo
    subst hp
    clear hlo hhi
    have d0 : vals 0 = .int .i64 10 := hd ⟨0, .data⟩ (Array.mem_of_getElem? (i := 0) rfl) rfl (show (0 : Nat) ≤ 1000 by decide)
    have E38 := eval_some (hF.own_ 0 rfl rfl (by kernel_rfl) (by decide)); rw [d0] at E38
    refine .inr ⟨wanted_none rfl, .inl ⟨.bool true, ?_, hI, TyP.of_is rfl⟩⟩
    have Ec : ∀ v, F.eval (.const v) = v := fun _ => rfl; have Ef : ∀ f, F.eval (.func f) = .func (.func f) #[] #[] := fun _ => rfl; clear hF hd; generalize F.eval = ρ at E38 Ec Ef ⊢
    simp [execOp, go_sem, Ec, E38]
  case ob2 =>
    intro p vals W1 F hF hlo hhi hI hd
    have hp : p = 0 := Nat.le_antisymm hhi hlo
    subst hp
    clear hlo hhi
    have d1 : vals 1 = .bool true := hd ⟨1, .data⟩ (Array.mem_of_getElem? (i := 0) rfl) rfl (show (0 : Nat) ≤ 1000 by decide)
    have E39 := eval_some (hF.own_ 1 rfl rfl (by kernel_rfl) (by decide)); rw [d1] at E39
    refine .inr ⟨wanted_none rfl, .inl ⟨.bool true, ?_, hI, TyP.of_is rfl⟩⟩
    simp only [execOp, E39, Sem.run_pure]
  case ob3 =>
    intro p vals W1 F hF hlo hhi hI hd
    have hp : p = 0 := Nat.le_antisymm hhi hlo
    subst hp
    clear hlo hhi
    have d2 : vals 2 = .bool true := hd ⟨2, .guard⟩ (Array.mem_of_getElem? (i := 0) rfl) rfl (show (0 : Nat) ≤ 1000 by decide)
    have G := hF.own_ 2 rfl rfl (by kernel_rfl) (by decide); rw [d2] at G
    exact .inl ⟨wanted_no rfl rfl rfl G rfl, hI, TyP.of_is rfl⟩
  case ob4 =>
    intro p vals W1 F hF hlo hhi hI hd
    have hp : p = 0 := Nat.le_antisymm hhi hlo
    subst hp
    clear hlo hhi
    have d2 : vals 2 = .bool true := hd ⟨2, .chain⟩ (Array.mem_of_getElem? (i := 1) rfl) rfl (show (0 : Nat) ≤ 1000 by decide)
    have G := hF.own_ 2 rfl rfl (by kernel_rfl) (by decide); rw [d2] at G
    exact .inl ⟨wanted_no rfl rfl rfl G rfl, hI, TyP.of_is rfl⟩
  case ob5 =>
    intro p vals W1 F hF hlo hhi hI hd
    have hp : p = 0 := Nat.le_antisymm hhi hlo
    subst hp
    clear hlo hhi
    have d2 : vals 2 = .bool true := hd ⟨2, .guard⟩ (Array.mem_of_getElem? (i := 1) rfl) rfl (show (0 : Nat) ≤ 1000 by decide)
    have G := hF.own_ 2 rfl rfl (by kernel_rfl) (by decide); rw [d2] at G
    exact .inl ⟨wanted_no rfl rfl rfl G rfl, hI, TyP.of_is rfl⟩
  case ob6 =>
    intro p vals W1 F hF hlo hhi hI hd
    have hp : p = 0 := Nat.le_antisymm hhi hlo
    subst hp
    clear hlo hhi
    have d2 : vals 2 = .bool true := hd ⟨2, .guard⟩ (Array.mem_of_getElem? (i := 0) rfl) rfl (show (0 : Nat) ≤ 1000 by decide)
    have G := hF.own_ 2 rfl rfl (by kernel_rfl) (by decide); rw [d2] at G
    exact .inl ⟨wanted_no rfl rfl rfl G rfl, hI, TyP.of_is rfl⟩
  case ob7 =>
    intro p vals W1 F hF hlo hhi hI hd
    have hp : p = 0 := Nat.le_antisymm hhi hlo
    subst hp
    clear hlo hhi
    have d2 : vals 2 = .bool true := hd ⟨2, .guard⟩ (Array.mem_of_getElem? (i := 0) rfl) rfl (show (0 : Nat) ≤ 1000 by decide)
    have G := hF.own_ 2 rfl rfl (by kernel_rfl) (by decide); rw [d2] at G
    exact .inl ⟨wanted_no rfl rfl rfl G rfl, hI, TyP.of_is rfl⟩
  case ob8 =>
    intro p vals W1 F hF hlo hhi hI hd
    have hp : p = 0 := Nat.le_antisymm hhi hlo
    subst hp
    clear hlo hhi
    have d2 : vals 2 = .bool true := hd ⟨2, .guard⟩ (Array.mem_of_getElem? (i := 0) rfl) rfl (show (0 : Nat) ≤ 1000 by decide)
    have G := hF.own_ 2 rfl rfl (by kernel_rfl) (by decide); rw [d2] at G
    exact .inl ⟨wanted_no rfl rfl rfl G rfl, hI, TyP.of_is rfl⟩
  case ob9 =>
    intro p vals W1 F hF hlo hhi hI hd
    have hp : p = 0 := Nat.le_antisymm hhi hlo
    subst hp
    clear hlo hhi
    have d2 : vals 2 = .bool true := hd ⟨2, .guard⟩ (Array.mem_of_getElem? (i := 3) rfl) rfl (show (0 : Nat) ≤ 1000 by decide)
    have G := hF.own_ 2 rfl rfl (by kernel_rfl) (by decide); rw [d2] at G
    exact .inl ⟨wanted_no rfl rfl rfl G rfl, hI, TyP.of_is rfl⟩
  case ob10 =>
    intro p vals W1 F hF hlo hhi hI hd
    have hp : p = 0 := Nat.le_antisymm hhi hlo
    subst hp
    clear hlo hhi
    have d2 : vals 2 = .bool true := hd ⟨2, .guard⟩ (Array.mem_of_getElem? (i := 1) rfl) rfl (show (0 : Nat) ≤ 1000 by decide)
    have G := hF.own_ 2 rfl rfl (by kernel_rfl) (by decide); rw [d2] at G
    exact .inl ⟨wanted_no rfl rfl rfl G rfl, hI, TyP.of_is rfl⟩
  case ob11 =>
    intro p vals W1 F hF hlo hhi hI hd
    have hp : p = 0 := Nat.le_antisymm hhi hlo
    subst hp
    clear hlo hhi
    have d2 : vals 2 = .bool true := hd ⟨2, .guard⟩ (Array.mem_of_getElem? (i := 2) rfl) rfl (show (0 : Nat) ≤ 1000 by decide)
    have G := hF.own_ 2 rfl rfl (by kernel_rfl) (by decide); rw [d2] at G
    exact .inl ⟨wanted_no rfl rfl rfl G rfl, hI, TyP.of_is rfl⟩
  case ob12 =>
    intro p vals W1 F hF hlo hhi hI hd
    have hp : p = 0 := Nat.le_antisymm hhi hlo
    subst hp
    clear hlo hhi
    have d2 : vals 2 = .bool true := hd ⟨2, .data⟩ (Array.mem_of_getElem? (i := 0) rfl) rfl (show (0 : Nat) ≤ 1000 by decide)
    have d11 : vals 11 = undef := hd ⟨11, .data⟩ (Array.mem_of_getElem? (i := 1) rfl) rfl (show (0 : Nat) ≤ 1000 by decide)
    have E40 := eval_some (hF.own_ 2 rfl rfl (by kernel_rfl) (by decide)); rw [d2] at E40
    have E49 := eval_some (hF.own_ 11 rfl rfl (by kernel_rfl) (by decide)); rw [d11] at E49
    refine .inr ⟨wanted_none rfl, .inl ⟨.bool true, ?_, hI, TyP.of_is rfl⟩⟩
    have Ec : ∀ v, F.eval (.const v) = v := fun _ => rfl; have Ef : ∀ f, F.eval (.func f) = .func (.func f) #[] #[] := fun _ => rfl; clear hF hd; generalize F.eval = ρ at E40 E49 Ec Ef ⊢
    simp [execOp, go_sem, Ec, E40, E49]
  case obend =>
    intro vals W1 F hF hdef hI hT
    rename_i K hK
    refine hK _ _ ?_
    have dl : vals 12 = .bool true := hT 12 (by decide) (show (0 : Nat) ≤ 1000 by decide)
    rw [hF.act]
    simp only [fin, Act.put, List.setIfInBounds_toArray, List.set_cons_succ, List.set_cons_zero, dl]
    clear hF hT dl
    have HBB := Lib.hid (hb1.trans (hI.mono hb1.size))
    clear hI
    go_wp2
    go_ret3
    exact ⟨rfl, HBB.out⟩
set_option maxRecDepth 100000 in
set_option maxHeartbeats 2000000 in
theorem getSize_x253_eq (bs : List UInt8) (A : Option Addr) (c n₀ k m : Nat) (hm : m < 18446744073709551616)  (hk : k < bs.length) (hxx : bs[k] = (253 : UInt8)) (hl : bs.length ≤ 20000) (w : World) (hh : Holds8 n₀ w A bs) (hn : n₀ ≤ w.heap.size) (hc : bs.length ≤ c) (hcm : c ≤ 9223372036854775807) (hR : fixedR (bs.drop (k + 1)) 2 = (m, 0, (bs.drop (k + 1)).drop 2)) (hq : sizeB m = (bs.drop k).take 3) (hT : k + 3 ≤ bs.length) :
    Calls Try.prog 20 #[.slice A bs.length c, .int .i64 (k : Int)] w fun e w' => e = .returned (.tuple #[.int .u64 (m : Int), .int .i64 (k + 3 : Nat), .int .i64 0]) ∧ Below w.heap.size w w' := by
  have HGF := Lib.hid (show Calls Try.prog 18 #[.slice A bs.length c, .int .i64 ((k : Int) + 1), .int .i64 2] w fun e w' => e = .returned (.tuple #[.int .u64 (m : Int), .int .i64 ((k + 3 : Nat) : Int), .int .i64 0]) ∧ Below w.heap.size w w' from by
    have h := getFixed_any bs A c n₀ (k + 1) (by omega) hl 2 w hh hn hc hcm
    rw [hR] at h
    rw [show ((k + 1 : Nat) : Int) = (k : Int) + 1 by omega] at h
    refine h.mono fun e w' hq => ?_
    obtain ⟨h1, h2⟩ := hq
    refine ⟨?_, h2⟩
    rw [h1]
    simp only
    rw [got_more bs (k + 1) 2 (by omega)]
    skip)
  obtain ⟨b, off, rfl, hb, hcx⟩ := hh.at_ hk
  rw [hxx] at hcx
  have hck : ¬ c = k := by omega
  have hki : (k : Int) < (bs.length : Int) := by omega
  have h9 := (hh.drop_ k c (by omega) hc).take_ 3
  rw [← cut_ne hck] at h9
  have htl : ((bs.drop k).take 3).length = 3 := by rw [List.length_take, List.length_drop]; omega
  have hT2 : k + 3 ≤ c := by omega
  obtain ⟨T, hTe⟩ : ∃ T, k + 3 = T := ⟨_, rfl⟩
  rw [hTe] at HGF ⊢
  have hTk : T - k = 3 := by omega
  have hTI : (T : Int) - (k : Int) = 3 := by omega
  have hTc : T ≤ c := by omega
  have hkT : k ≤ T := by omega
  have hTn : (T : Int) ≤ (c : Int) := by omega
  have hkTI : (k : Int) ≤ (T : Int) := by omega
  obtain ⟨L, hL⟩ : ∃ L, (bs.drop k).take 3 = L := ⟨_, rfl⟩
  rw [hL] at h9 htl hq
  have HSZ := Lib.hid (fun W => refSize_any m hm W)
  obtain ⟨Z, hZ⟩ : ∃ Z, sizeB m = Z := ⟨_, rfl⟩
  rw [hZ] at HSZ hq
  have H9 := Lib.hid h9
  have HTL := Lib.hid htl
  have HTK := Lib.hid hTk
  clear h9 htl hL hZ hTe hT hTk
  subst hq
  clear hh hR hxx
  go_enter Try.func20, Try.ntmps20
  go_wp2_with (go_at_call 18; refine HGF.out.mono ?_; rintro e w1 ⟨rfl, hb1⟩)
  refine wp_region_phased 54 rfl (fun _ _ W W' => Below W.heap.size W W') (fun _ W' => Below w1.heap.size w1 W') [.is (.int .i64 0), .is (.bool false), .is (.bool false), .is (.int .u64 (m : Int)), ⟨0, 1000, fun v W => ∃ B cb, v = .slice B Z.length cb ∧ Holds8 W.heap.size W B Z, fun k d v W W' _ _ ⟨B, cb, e, h⟩ hr => ⟨B, cb, e, h.later hr⟩⟩, .is (.string ⟨Z.toArray⟩), .is (.slice (some ⟨b, off, none⟩) bs.length c), .is (.int .i64 (k : Int)), .is (.int .i64 (T : Int)), .is (.slice (some ⟨b, off + k, none⟩) 3 (c - k)), .is (.string ⟨Z.toArray⟩), .is (.bool false), .is (.bool false)] [] [0, 0, 0, 0, 0, 0, 0, 0, 0, 0, 0, 0, 0] [0, 0, 0, 0, 0, 0, 0, 0, 0, 0, 0, 0, 0] (by kernel_rfl) (by kernel_rfl) (by kernel_rfl) (fun _ _ _ => Below.refl _ _) ((Below.refl _ _).drew) ⟨?ob0, ?ob1, ?ob2, ?ob3, ?ob4, ?ob5, ?ob6, ?ob7, ?ob8, ?ob9, ?ob10, ?ob11, ?ob12, trivial⟩ ?obend
  case ob0 =>
    intro p vals W1 F hF hlo hhi hI hd
    have hp : p = 0 := Nat.le_antisymm hhi hlo
    subst hp
    clear hlo hhi
    have E11 : F.eval (.tmp 11) = .int .i64 0 := hF.out_ (by kernel_rfl) rfl
    refine .inr ⟨wanted_none rfl, .inl ⟨.int .i64 0, ?_, hI, TyP.of_is rfl⟩⟩
    simp only [execOp, E11, Sem.run_pure]
  case ob1 =>
    intro p vals W1 F hF hlo hhi hI hd
    have hp : p = 0 := Nat.le_antisymm hhi hlo
    subst hp
    clear hlo hhi
    have d0 : vals 0 = .int .i64 0 := hd ⟨0, .data⟩ (Array.mem_of_getElem? (i := 0) rfl) rfl (show (0 : Nat) ≤ 1000 by decide)
    have E38 := eval_some (hF.own_ 0 rfl rfl (by kernel_rfl) (by decide)); rw [d0] at E38
    refine .inr ⟨wanted_none rfl, .inl ⟨.bool false, ?_, hI, TyP.of_is rfl⟩⟩
    have Ec : ∀ v, F.eval (.const v) = v := fun _ => rfl; have Ef : ∀ f, F.eval (.func f) = .func (.func f) #[] #[] := fun _ => rfl; clear hF hd; generalize F.eval = ρ at E38 Ec Ef ⊢
    simp [execOp, go_sem, Ec, E38]
  case ob2 =>
    intro p vals W1 F hF hlo hhi hI hd
    have hp : p = 0 := Nat.le_antisymm hhi hlo
    subst hp
    clear hlo hhi
    have d1 : vals 1 = .bool false := hd ⟨1, .data⟩ (Array.mem_of_getElem? (i := 0) rfl) rfl (show (0 : Nat) ≤ 1000 by decide)
    have E39 := eval_some (hF.own_ 1 rfl rfl (by kernel_rfl) (by decide)); rw [d1] at E39
    refine .inr ⟨wanted_none rfl, .inl ⟨.bool false, ?_, hI, TyP.of_is rfl⟩⟩
    simp only [execOp, E39, Sem.run_pure]
  case ob3 =>
    intro p vals W1 F hF hlo hhi hI hd
    have hp : p = 0 := Nat.le_antisymm hhi hlo
    subst hp
    clear hlo hhi
    have d2 : vals 2 = .bool false := hd ⟨2, .guard⟩ (Array.mem_of_getElem? (i := 0) rfl) rfl (show (0 : Nat) ≤ 1000 by decide)
    have E9 : F.eval (.tmp 9) = .int .u64 (m : Int) := hF.out_ (by kernel_rfl) rfl
    have G := hF.own_ 2 rfl rfl (by kernel_rfl) (by decide); rw [d2] at G
    refine .inr ⟨wanted_yes rfl rfl rfl G, .inl ⟨.int .u64 (m : Int), ?_, hI, TyP.of_is rfl⟩⟩
    simp only [execOp, E9, Sem.run_pure]
  case ob4 =>
    intro p vals W1 F hF hlo hhi hI hd
    have hp : p = 0 := Nat.le_antisymm hhi hlo
    subst hp
    clear hlo hhi
    have d2 : vals 2 = .bool false := hd ⟨2, .chain⟩ (Array.mem_of_getElem? (i := 1) rfl) rfl (show (0 : Nat) ≤ 1000 by decide)
    have d3 : vals 3 = .int .u64 (m : Int) := hd ⟨3, .data⟩ (Array.mem_of_getElem? (i := 0) rfl) rfl (show (0 : Nat) ≤ 1000 by decide)
    have E41 := eval_some (hF.own_ 3 rfl rfl (by kernel_rfl) (by decide)); rw [d3] at E41
    have G := hF.own_ 2 rfl rfl (by kernel_rfl) (by decide); rw [d2] at G
    refine .inr ⟨wanted_yes rfl rfl rfl G, ?_⟩
    refine .inr (.inr (.inl ⟨14, #[.int .u64 (m : Int)], ?_, (HSZ.out _).mono ?_⟩))
    · have Ec : ∀ v, F.eval (.const v) = v := fun _ => rfl; have Ef : ∀ f, F.eval (.func f) = .func (.func f) #[] #[] := fun _ => rfl; clear hF hd; generalize F.eval = ρ at E41 Ec Ef ⊢
      simp [execOp, go_sem, Ec, Ef, E41]
    rintro e W2 ⟨v, rfl, hr2, hb2⟩
    obtain ⟨B, cb, rfl, hh2, _⟩ := own_open hr2
    exact ⟨_, rfl, hb2, hI.trans (hb2.mono hI.size), B, cb, rfl, hh2⟩
  case ob5 =>
    intro p vals W1 F hF hlo hhi hI hd
    have hp : p = 0 := Nat.le_antisymm hhi hlo
    subst hp
    clear hlo hhi
    have d2 : vals 2 = .bool false := hd ⟨2, .guard⟩ (Array.mem_of_getElem? (i := 1) rfl) rfl (show (0 : Nat) ≤ 1000 by decide)
    obtain ⟨B4, c4, hspec4, hh4⟩ := hd ⟨4, .data⟩ (Array.mem_of_getElem? (i := 0) rfl) rfl (show (0 : Nat) ≤ 1000 by decide)
    have d4 : vals 4 = .slice B4 Z.length c4 := hspec4
    have E42 := eval_some (hF.own_ 4 rfl rfl (by kernel_rfl) (by decide)); rw [d4] at E42
    have G := hF.own_ 2 rfl rfl (by kernel_rfl) (by decide); rw [d2] at G
    refine .inr ⟨wanted_yes rfl rfl rfl G, ?_⟩
    have hst := str_of hh4 c4
    refine .inl ⟨_, ?_, hI, TyP.of_is rfl⟩
    have Ec : ∀ v, F.eval (.const v) = v := fun _ => rfl; have Ef : ∀ f, F.eval (.func f) = .func (.func f) #[] #[] := fun _ => rfl; clear hF hd; generalize F.eval = ρ at E42 Ec Ef ⊢
    simp [execOp, go_sem, Ec, E42, hst]
  case ob6 =>
    intro p vals W1 F hF hlo hhi hI hd
    have hp : p = 0 := Nat.le_antisymm hhi hlo
    subst hp
    clear hlo hhi
    have d2 : vals 2 = .bool false := hd ⟨2, .guard⟩ (Array.mem_of_getElem? (i := 0) rfl) rfl (show (0 : Nat) ≤ 1000 by decide)
    have E0 : F.eval (.tmp 0) = .slice (some ⟨b, off, none⟩) bs.length c := hF.out_ (by kernel_rfl) rfl
    have G := hF.own_ 2 rfl rfl (by kernel_rfl) (by decide); rw [d2] at G
    refine .inr ⟨wanted_yes rfl rfl rfl G, .inl ⟨.slice (some ⟨b, off, none⟩) bs.length c, ?_, hI, TyP.of_is rfl⟩⟩
    simp only [execOp, E0, Sem.run_pure]
  case ob7 =>
    intro p vals W1 F hF hlo hhi hI hd
    have hp : p = 0 := Nat.le_antisymm hhi hlo
    subst hp
    clear hlo hhi
    have d2 : vals 2 = .bool false := hd ⟨2, .guard⟩ (Array.mem_of_getElem? (i := 0) rfl) rfl (show (0 : Nat) ≤ 1000 by decide)
    have E1 : F.eval (.tmp 1) = .int .i64 (k : Int) := hF.out_ (by kernel_rfl) rfl
    have G := hF.own_ 2 rfl rfl (by kernel_rfl) (by decide); rw [d2] at G
    refine .inr ⟨wanted_yes rfl rfl rfl G, .inl ⟨.int .i64 (k : Int), ?_, hI, TyP.of_is rfl⟩⟩
    simp only [execOp, E1, Sem.run_pure]
  case ob8 =>
    intro p vals W1 F hF hlo hhi hI hd
    have hp : p = 0 := Nat.le_antisymm hhi hlo
    subst hp
    clear hlo hhi
    have d2 : vals 2 = .bool false := hd ⟨2, .guard⟩ (Array.mem_of_getElem? (i := 0) rfl) rfl (show (0 : Nat) ≤ 1000 by decide)
    have E10 : F.eval (.tmp 10) = .int .i64 (T : Int) := hF.out_ (by kernel_rfl) rfl
    have G := hF.own_ 2 rfl rfl (by kernel_rfl) (by decide); rw [d2] at G
    refine .inr ⟨wanted_yes rfl rfl rfl G, .inl ⟨.int .i64 (T : Int), ?_, hI, TyP.of_is rfl⟩⟩
    simp only [execOp, E10, Sem.run_pure]
  case ob9 =>
    intro p vals W1 F hF hlo hhi hI hd
    have hp : p = 0 := Nat.le_antisymm hhi hlo
    subst hp
    clear hlo hhi
    have d2 : vals 2 = .bool false := hd ⟨2, .guard⟩ (Array.mem_of_getElem? (i := 3) rfl) rfl (show (0 : Nat) ≤ 1000 by decide)
    have d6 : vals 6 = .slice (some ⟨b, off, none⟩) bs.length c := hd ⟨6, .data⟩ (Array.mem_of_getElem? (i := 0) rfl) rfl (show (0 : Nat) ≤ 1000 by decide)
    have d7 : vals 7 = .int .i64 (k : Int) := hd ⟨7, .data⟩ (Array.mem_of_getElem? (i := 1) rfl) rfl (show (0 : Nat) ≤ 1000 by decide)
    have d8 : vals 8 = .int .i64 (T : Int) := hd ⟨8, .data⟩ (Array.mem_of_getElem? (i := 2) rfl) rfl (show (0 : Nat) ≤ 1000 by decide)
    have E44 := eval_some (hF.own_ 6 rfl rfl (by kernel_rfl) (by decide)); rw [d6] at E44
    have E45 := eval_some (hF.own_ 7 rfl rfl (by kernel_rfl) (by decide)); rw [d7] at E45
    have E46 := eval_some (hF.own_ 8 rfl rfl (by kernel_rfl) (by decide)); rw [d8] at E46
    have G := hF.own_ 2 rfl rfl (by kernel_rfl) (by decide); rw [d2] at G
    refine .inr ⟨wanted_yes rfl rfl rfl G, ?_⟩
    refine .inl ⟨.slice (some ⟨b, off + k, none⟩) 3 (c - k), ?_, hI, TyP.of_is rfl⟩
    have htk := HTK.out
    have Ec : ∀ v, F.eval (.const v) = v := fun _ => rfl; have Ef : ∀ f, F.eval (.func f) = .func (.func f) #[] #[] := fun _ => rfl; clear hF hd; generalize F.eval = ρ at E44 E45 E46 Ec Ef ⊢
    simp [execOp, go_sem, Ec, E44, E45, E46, hkT, hTc, hck, htk]
  case ob10 =>
    intro p vals W1 F hF hlo hhi hI hd
    have hp : p = 0 := Nat.le_antisymm hhi hlo
    subst hp
    clear hlo hhi
    have d2 : vals 2 = .bool false := hd ⟨2, .guard⟩ (Array.mem_of_getElem? (i := 1) rfl) rfl (show (0 : Nat) ≤ 1000 by decide)
    have d9 : vals 9 = .slice (some ⟨b, off + k, none⟩) 3 (c - k) := hd ⟨9, .data⟩ (Array.mem_of_getElem? (i := 0) rfl) rfl (show (0 : Nat) ≤ 1000 by decide)
    have E47 := eval_some (hF.own_ 9 rfl rfl (by kernel_rfl) (by decide)); rw [d9] at E47
    have G := hF.own_ 2 rfl rfl (by kernel_rfl) (by decide); rw [d2] at G
    refine .inr ⟨wanted_yes rfl rfl rfl G, ?_⟩
    have hst := str_of (((H9.out.below hb1 hn).more (Nat.le_trans hn hb1.size)).later hI) (c - k)
    rw [HTL.out] at hst
    refine .inl ⟨_, ?_, hI, TyP.of_is rfl⟩
    have Ec : ∀ v, F.eval (.const v) = v := fun _ => rfl; have Ef : ∀ f, F.eval (.func f) = .func (.func f) #[] #[] := fun _ => rfl; clear hF hd; generalize F.eval = ρ at E47 Ec Ef ⊢
    simp [execOp, go_sem, Ec, E47, hst]
  case ob11 =>
    intro p vals W1 F hF hlo hhi hI hd
    have hp : p = 0 := Nat.le_antisymm hhi hlo
    subst hp
    clear hlo hhi
    have d2 : vals 2 = .bool false := hd ⟨2, .guard⟩ (Array.mem_of_getElem? (i := 2) rfl) rfl (show (0 : Nat) ≤ 1000 by decide)
    have d5 : vals 5 = .string ⟨Z.toArray⟩ := hd ⟨5, .data⟩ (Array.mem_of_getElem? (i := 0) rfl) rfl (show (0 : Nat) ≤ 1000 by decide)
    have d10 : vals 10 = .string ⟨Z.toArray⟩ := hd ⟨10, .data⟩ (Array.mem_of_getElem? (i := 1) rfl) rfl (show (0 : Nat) ≤ 1000 by decide)
    have E43 := eval_some (hF.own_ 5 rfl rfl (by kernel_rfl) (by decide)); rw [d5] at E43
    have E48 := eval_some (hF.own_ 10 rfl rfl (by kernel_rfl) (by decide)); rw [d10] at E48
    have G := hF.own_ 2 rfl rfl (by kernel_rfl) (by decide); rw [d2] at G
    refine .inr ⟨wanted_yes rfl rfl rfl G, .inl ⟨.bool false, ?_, hI, TyP.of_is rfl⟩⟩
    have Ec : ∀ v, F.eval (.const v) = v := fun _ => rfl; have Ef : ∀ f, F.eval (.func f) = .func (.func f) #[] #[] := fun _ => rfl; clear hF hd; generalize F.eval = ρ at E43 E48 Ec Ef ⊢
    simp [execOp, go_sem, Ec, E43, E48]
  case ob12 =>
    intro p vals W1 F hF hlo hhi hI hd
    have hp : p = 0 := Nat.le_antisymm hhi hlo
    subst hp
    clear hlo hhi
    have d2 : vals 2 = .bool false := hd ⟨2, .data⟩ (Array.mem_of_getElem? (i := 0) rfl) rfl (show (0 : Nat) ≤ 1000 by decide)
    have d11 : vals 11 = .bool false := hd ⟨11, .data⟩ (Array.mem_of_getElem? (i := 1) rfl) rfl (show (0 : Nat) ≤ 1000 by decide)
    have E40 := eval_some (hF.own_ 2 rfl rfl (by kernel_rfl) (by decide)); rw [d2] at E40
    have E49 := eval_some (hF.own_ 11 rfl rfl (by kernel_rfl) (by decide)); rw [d11] at E49
    refine .inr ⟨wanted_none rfl, .inl ⟨.bool false, ?_, hI, TyP.of_is rfl⟩⟩
    have Ec : ∀ v, F.eval (.const v) = v := fun _ => rfl; have Ef : ∀ f, F.eval (.func f) = .func (.func f) #[] #[] := fun _ => rfl; clear hF hd; generalize F.eval = ρ at E40 E49 Ec Ef ⊢
    simp [execOp, go_sem, Ec, E40, E49]
  case obend =>
    intro vals W1 F hF hdef hI hT
    rename_i K hK
    refine hK _ _ ?_
    have dl : vals 12 = .bool false := hT 12 (by decide) (show (0 : Nat) ≤ 1000 by decide)
    rw [hF.act]
    simp only [fin, Act.put, List.setIfInBounds_toArray, List.set_cons_succ, List.set_cons_zero, dl]
    clear hF hT dl
    have HBB := Lib.hid (hb1.trans (hI.mono hb1.size))
    clear hI
    go_wp2
    go_ret3
    exact ⟨rfl, HBB.out⟩
set_option maxRecDepth 100000 in
set_option maxHeartbeats 2000000 in
theorem getSize_x253_ne (bs : List UInt8) (A : Option Addr) (c n₀ k m : Nat) (hm : m < 18446744073709551616)  (hk : k < bs.length) (hxx : bs[k] = (253 : UInt8)) (hl : bs.length ≤ 20000) (w : World) (hh : Holds8 n₀ w A bs) (hn : n₀ ≤ w.heap.size) (hc : bs.length ≤ c) (hcm : c ≤ 9223372036854775807) (hR : fixedR (bs.drop (k + 1)) 2 = (m, 0, (bs.drop (k + 1)).drop 2)) (hq : ¬ sizeB m = (bs.drop k).take 3) (hT : k + 3 ≤ bs.length) :
    Calls Try.prog 20 #[.slice A bs.length c, .int .i64 (k : Int)] w fun e w' => e = .returned (.tuple #[.int .u64 0, .int .i64 (k : Int), .int .i64 10]) ∧ Below w.heap.size w w' := by
  have HGF := Lib.hid (show Calls Try.prog 18 #[.slice A bs.length c, .int .i64 ((k : Int) + 1), .int .i64 2] w fun e w' => e = .returned (.tuple #[.int .u64 (m : Int), .int .i64 ((k + 3 : Nat) : Int), .int .i64 0]) ∧ Below w.heap.size w w' from by
    have h := getFixed_any bs A c n₀ (k + 1) (by omega) hl 2 w hh hn hc hcm
    rw [hR] at h
    rw [show ((k + 1 : Nat) : Int) = (k : Int) + 1 by omega] at h
    refine h.mono fun e w' hq => ?_
    obtain ⟨h1, h2⟩ := hq
    refine ⟨?_, h2⟩
    rw [h1]
    simp only
    rw [got_more bs (k + 1) 2 (by omega)]
    skip)
  obtain ⟨b, off, rfl, hb, hcx⟩ := hh.at_ hk
  rw [hxx] at hcx
  have hck : ¬ c = k := by omega
  have hki : (k : Int) < (bs.length : Int) := by omega
  have h9 := (hh.drop_ k c (by omega) hc).take_ 3
  rw [← cut_ne hck] at h9
  have htl : ((bs.drop k).take 3).length = 3 := by rw [List.length_take, List.length_drop]; omega
  have hT2 : k + 3 ≤ c := by omega
  obtain ⟨T, hTe⟩ : ∃ T, k + 3 = T := ⟨_, rfl⟩
  rw [hTe] at HGF 
  have hTk : T - k = 3 := by omega
  have hTI : (T : Int) - (k : Int) = 3 := by omega
  have hTc : T ≤ c := by omega
  have hkT : k ≤ T := by omega
  have hTn : (T : Int) ≤ (c : Int) := by omega
  have hkTI : (k : Int) ≤ (T : Int) := by omega
  obtain ⟨L, hL⟩ : ∃ L, (bs.drop k).take 3 = L := ⟨_, rfl⟩
  rw [hL] at h9 htl hq
  have HSZ := Lib.hid (fun W => refSize_any m hm W)
  obtain ⟨Z, hZ⟩ : ∃ Z, sizeB m = Z := ⟨_, rfl⟩
  rw [hZ] at HSZ hq
  have H9 := Lib.hid h9
  have HTL := Lib.hid htl
  have HTK := Lib.hid hTk
  clear h9 htl hL hZ hTe hT hTk
  have HQE := Lib.hid (show ¬ Z = L from hq)
  clear hq
  clear hh hR hxx
  go_enter Try.func20, Try.ntmps20
  go_wp2_with (go_at_call 18; refine HGF.out.mono ?_; rintro e w1 ⟨rfl, hb1⟩)
  refine wp_region_phased 54 rfl (fun _ _ W W' => Below W.heap.size W W') (fun _ W' => Below w1.heap.size w1 W') [.is (.int .i64 0), .is (.bool false), .is (.bool false), .is (.int .u64 (m : Int)), ⟨0, 1000, fun v W => ∃ B cb, v = .slice B Z.length cb ∧ Holds8 W.heap.size W B Z, fun k d v W W' _ _ ⟨B, cb, e, h⟩ hr => ⟨B, cb, e, h.later hr⟩⟩, .is (.string ⟨Z.toArray⟩), .is (.slice (some ⟨b, off, none⟩) bs.length c), .is (.int .i64 (k : Int)), .is (.int .i64 (T : Int)), .is (.slice (some ⟨b, off + k, none⟩) 3 (c - k)), .is (.string ⟨L.toArray⟩), .is (.bool true), .is (.bool true)] [] [0, 0, 0, 0, 0, 0, 0, 0, 0, 0, 0, 0, 0] [0, 0, 0, 0, 0, 0, 0, 0, 0, 0, 0, 0, 0] (by kernel_rfl) (by kernel_rfl) (by kernel_rfl) (fun _ _ _ => Below.refl _ _) ((Below.refl _ _).drew) ⟨?ob0, ?ob1, ?ob2, ?ob3, ?ob4, ?ob5, ?ob6, ?ob7, ?ob8, ?ob9, ?ob10, ?ob11, ?ob12, trivial⟩ ?obend
  case ob0 =>
    intro p vals W1 F hF hlo hhi hI hd
    have hp : p = 0 := Nat.le_antisymm hhi hlo
    subst hp
    clear hlo hhi
    have E11 : F.eval (.tmp 11) = .int .i64 0 := hF.out_ (by kernel_rfl) rfl
    refine .inr ⟨wanted_none rfl, .inl ⟨.int .i64 0, ?_, hI, TyP.of_is rfl⟩⟩
    simp only [execOp, E11, Sem.run_pure]
  case ob1 =>
    intro p vals W1 F hF hlo hhi hI hd
    have hp : p = 0 := Nat.le_antisymm hhi hlo
    subst hp
    clear hlo hhi
    have d0 : vals 0 = .int .i64 0 := hd ⟨0, .data⟩ (Array.mem_of_getElem? (i := 0) rfl) rfl (show (0 : Nat) ≤ 1000 by decide)
    have E38 := eval_some (hF.own_ 0 rfl rfl (by kernel_rfl) (by decide)); rw [d0] at E38
    refine .inr ⟨wanted_none rfl, .inl ⟨.bool false, ?_, hI, TyP.of_is rfl⟩⟩
    have Ec : ∀ v, F.eval (.const v) = v := fun _ => rfl; have Ef : ∀ f, F.eval (.func f) = .func (.func f) #[] #[] := fun _ => rfl; clear hF hd; generalize F.eval = ρ at E38 Ec Ef ⊢
    simp [execOp, go_sem, Ec, E38]
  case ob2 =>
    intro p vals W1 F hF hlo hhi hI hd
    have hp : p = 0 := Nat.le_antisymm hhi hlo
    subst hp
    clear hlo hhi
    have d1 : vals 1 = .bool false := hd ⟨1, .data⟩ (Array.mem_of_getElem? (i := 0) rfl) rfl (show (0 : Nat) ≤ 1000 by decide)
    have E39 := eval_some (hF.own_ 1 rfl rfl (by kernel_rfl) (by decide)); rw [d1] at E39
    refine .inr ⟨wanted_none rfl, .inl ⟨.bool false, ?_, hI, TyP.of_is rfl⟩⟩
    simp only [execOp, E39, Sem.run_pure]
  case ob3 =>
    intro p vals W1 F hF hlo hhi hI hd
    have hp : p = 0 := Nat.le_antisymm hhi hlo
    subst hp
    clear hlo hhi
    have d2 : vals 2 = .bool false := hd ⟨2, .guard⟩ (Array.mem_of_getElem? (i := 0) rfl) rfl (show (0 : Nat) ≤ 1000 by decide)
    have E9 : F.eval (.tmp 9) = .int .u64 (m : Int) := hF.out_ (by kernel_rfl) rfl
    have G := hF.own_ 2 rfl rfl (by kernel_rfl) (by decide); rw [d2] at G
    refine .inr ⟨wanted_yes rfl rfl rfl G, .inl ⟨.int .u64 (m : Int), ?_, hI, TyP.of_is rfl⟩⟩
    simp only [execOp, E9, Sem.run_pure]
  case ob4 =>
    intro p vals W1 F hF hlo hhi hI hd
    have hp : p = 0 := Nat.le_antisymm hhi hlo
    subst hp
    clear hlo hhi
    have d2 : vals 2 = .bool false := hd ⟨2, .chain⟩ (Array.mem_of_getElem? (i := 1) rfl) rfl (show (0 : Nat) ≤ 1000 by decide)
    have d3 : vals 3 = .int .u64 (m : Int) := hd ⟨3, .data⟩ (Array.mem_of_getElem? (i := 0) rfl) rfl (show (0 : Nat) ≤ 1000 by decide)
    have E41 := eval_some (hF.own_ 3 rfl rfl (by kernel_rfl) (by decide)); rw [d3] at E41
    have G := hF.own_ 2 rfl rfl (by kernel_rfl) (by decide); rw [d2] at G
    refine .inr ⟨wanted_yes rfl rfl rfl G, ?_⟩
    refine .inr (.inr (.inl ⟨14, #[.int .u64 (m : Int)], ?_, (HSZ.out _).mono ?_⟩))
    · have Ec : ∀ v, F.eval (.const v) = v := fun _ => rfl; have Ef : ∀ f, F.eval (.func f) = .func (.func f) #[] #[] := fun _ => rfl; clear hF hd; generalize F.eval = ρ at E41 Ec Ef ⊢
      simp [execOp, go_sem, Ec, Ef, E41]
    rintro e W2 ⟨v, rfl, hr2, hb2⟩
    obtain ⟨B, cb, rfl, hh2, _⟩ := own_open hr2
    exact ⟨_, rfl, hb2, hI.trans (hb2.mono hI.size), B, cb, rfl, hh2⟩
  case ob5 =>
    intro p vals W1 F hF hlo hhi hI hd
    have hp : p = 0 := Nat.le_antisymm hhi hlo
    subst hp
    clear hlo hhi
    have d2 : vals 2 = .bool false := hd ⟨2, .guard⟩ (Array.mem_of_getElem? (i := 1) rfl) rfl (show (0 : Nat) ≤ 1000 by decide)
    obtain ⟨B4, c4, hspec4, hh4⟩ := hd ⟨4, .data⟩ (Array.mem_of_getElem? (i := 0) rfl) rfl (show (0 : Nat) ≤ 1000 by decide)
    have d4 : vals 4 = .slice B4 Z.length c4 := hspec4
    have E42 := eval_some (hF.own_ 4 rfl rfl (by kernel_rfl) (by decide)); rw [d4] at E42
    have G := hF.own_ 2 rfl rfl (by kernel_rfl) (by decide); rw [d2] at G
    refine .inr ⟨wanted_yes rfl rfl rfl G, ?_⟩
    have hst := str_of hh4 c4
    refine .inl ⟨_, ?_, hI, TyP.of_is rfl⟩
    have Ec : ∀ v, F.eval (.const v) = v := fun _ => rfl; have Ef : ∀ f, F.eval (.func f) = .func (.func f) #[] #[] := fun _ => rfl; clear hF hd; generalize F.eval = ρ at E42 Ec Ef ⊢
    simp [execOp, go_sem, Ec, E42, hst]
  case ob6 =>
    intro p vals W1 F hF hlo hhi hI hd
    have hp : p = 0 := Nat.le_antisymm hhi hlo
    subst hp
    clear hlo hhi
    have d2 : vals 2 = .bool false := hd ⟨2, .guard⟩ (Array.mem_of_getElem? (i := 0) rfl) rfl (show (0 : Nat) ≤ 1000 by decide)
    have E0 : F.eval (.tmp 0) = .slice (some ⟨b, off, none⟩) bs.length c := hF.out_ (by kernel_rfl) rfl
    have G := hF.own_ 2 rfl rfl (by kernel_rfl) (by decide); rw [d2] at G
    refine .inr ⟨wanted_yes rfl rfl rfl G, .inl ⟨.slice (some ⟨b, off, none⟩) bs.length c, ?_, hI, TyP.of_is rfl⟩⟩
    simp only [execOp, E0, Sem.run_pure]
  case ob7 =>
    intro p vals W1 F hF hlo hhi hI hd
    have hp : p = 0 := Nat.le_antisymm hhi hlo
    subst hp
    clear hlo hhi
    have d2 : vals 2 = .bool false := hd ⟨2, .guard⟩ (Array.mem_of_getElem? (i := 0) rfl) rfl (show (0 : Nat) ≤ 1000 by decide)
    have E1 : F.eval (.tmp 1) = .int .i64 (k : Int) := hF.out_ (by kernel_rfl) rfl
    have G := hF.own_ 2 rfl rfl (by kernel_rfl) (by decide); rw [d2] at G
    refine .inr ⟨wanted_yes rfl rfl rfl G, .inl ⟨.int .i64 (k : Int), ?_, hI, TyP.of_is rfl⟩⟩
    simp only [execOp, E1, Sem.run_pure]
  case ob8 =>
    intro p vals W1 F hF hlo hhi hI hd
    have hp : p = 0 := Nat.le_antisymm hhi hlo
    subst hp
    clear hlo hhi
    have d2 : vals 2 = .bool false := hd ⟨2, .guard⟩ (Array.mem_of_getElem? (i := 0) rfl) rfl (show (0 : Nat) ≤ 1000 by decide)
    have E10 : F.eval (.tmp 10) = .int .i64 (T : Int) := hF.out_ (by kernel_rfl) rfl
    have G := hF.own_ 2 rfl rfl (by kernel_rfl) (by decide); rw [d2] at G
    refine .inr ⟨wanted_yes rfl rfl rfl G, .inl ⟨.int .i64 (T : Int), ?_, hI, TyP.of_is rfl⟩⟩
    simp only [execOp, E10, Sem.run_pure]
  case ob9 =>
    intro p vals W1 F hF hlo hhi hI hd
    have hp : p = 0 := Nat.le_antisymm hhi hlo
    subst hp
    clear hlo hhi
    have d2 : vals 2 = .bool false := hd ⟨2, .guard⟩ (Array.mem_of_getElem? (i := 3) rfl) rfl (show (0 : Nat) ≤ 1000 by decide)
    have d6 : vals 6 = .slice (some ⟨b, off, none⟩) bs.length c := hd ⟨6, .data⟩ (Array.mem_of_getElem? (i := 0) rfl) rfl (show (0 : Nat) ≤ 1000 by decide)
    have d7 : vals 7 = .int .i64 (k : Int) := hd ⟨7, .data⟩ (Array.mem_of_getElem? (i := 1) rfl) rfl (show (0 : Nat) ≤ 1000 by decide)
    have d8 : vals 8 = .int .i64 (T : Int) := hd ⟨8, .data⟩ (Array.mem_of_getElem? (i := 2) rfl) rfl (show (0 : Nat) ≤ 1000 by decide)
    have E44 := eval_some (hF.own_ 6 rfl rfl (by kernel_rfl) (by decide)); rw [d6] at E44
    have E45 := eval_some (hF.own_ 7 rfl rfl (by kernel_rfl) (by decide)); rw [d7] at E45
    have E46 := eval_some (hF.own_ 8 rfl rfl (by kernel_rfl) (by decide)); rw [d8] at E46
    have G := hF.own_ 2 rfl rfl (by kernel_rfl) (by decide); rw [d2] at G
    refine .inr ⟨wanted_yes rfl rfl rfl G, ?_⟩
    refine .inl ⟨.slice (some ⟨b, off + k, none⟩) 3 (c - k), ?_, hI, TyP.of_is rfl⟩
    have htk := HTK.out
    have Ec : ∀ v, F.eval (.const v) = v := fun _ => rfl; have Ef : ∀ f, F.eval (.func f) = .func (.func f) #[] #[] := fun _ => rfl; clear hF hd; generalize F.eval = ρ at E44 E45 E46 Ec Ef ⊢
    simp [execOp, go_sem, Ec, E44, E45, E46, hkT, hTc, hck, htk]
  case ob10 =>
    intro p vals W1 F hF hlo hhi hI hd
    have hp : p = 0 := Nat.le_antisymm hhi hlo
    subst hp
    clear hlo hhi
    have d2 : vals 2 = .bool false := hd ⟨2, .guard⟩ (Array.mem_of_getElem? (i := 1) rfl) rfl (show (0 : Nat) ≤ 1000 by decide)
    have d9 : vals 9 = .slice (some ⟨b, off + k, none⟩) 3 (c - k) := hd ⟨9, .data⟩ (Array.mem_of_getElem? (i := 0) rfl) rfl (show (0 : Nat) ≤ 1000 by decide)
    have E47 := eval_some (hF.own_ 9 rfl rfl (by kernel_rfl) (by decide)); rw [d9] at E47
    have G := hF.own_ 2 rfl rfl (by kernel_rfl) (by decide); rw [d2] at G
    refine .inr ⟨wanted_yes rfl rfl rfl G, ?_⟩
    have hst := str_of (((H9.out.below hb1 hn).more (Nat.le_trans hn hb1.size)).later hI) (c - k)
    rw [HTL.out] at hst
    refine .inl ⟨_, ?_, hI, TyP.of_is rfl⟩
    have Ec : ∀ v, F.eval (.const v) = v := fun _ => rfl; have Ef : ∀ f, F.eval (.func f) = .func (.func f) #[] #[] := fun _ => rfl; clear hF hd; generalize F.eval = ρ at E47 Ec Ef ⊢
    simp [execOp, go_sem, Ec, E47, hst]
  case ob11 =>
    intro p vals W1 F hF hlo hhi hI hd
    have hp : p = 0 := Nat.le_antisymm hhi hlo
    subst hp
    clear hlo hhi
    have d2 : vals 2 = .bool false := hd ⟨2, .guard⟩ (Array.mem_of_getElem? (i := 2) rfl) rfl (show (0 : Nat) ≤ 1000 by decide)
    have d5 : vals 5 = .string ⟨Z.toArray⟩ := hd ⟨5, .data⟩ (Array.mem_of_getElem? (i := 0) rfl) rfl (show (0 : Nat) ≤ 1000 by decide)
    have d10 : vals 10 = .string ⟨L.toArray⟩ := hd ⟨10, .data⟩ (Array.mem_of_getElem? (i := 1) rfl) rfl (show (0 : Nat) ≤ 1000 by decide)
    have E43 := eval_some (hF.own_ 5 rfl rfl (by kernel_rfl) (by decide)); rw [d5] at E43
    have E48 := eval_some (hF.own_ 10 rfl rfl (by kernel_rfl) (by decide)); rw [d10] at E48
    have G := hF.own_ 2 rfl rfl (by kernel_rfl) (by decide); rw [d2] at G
    refine .inr ⟨wanted_yes rfl rfl rfl G, ?_⟩
    have hqe := HQE.out
    refine .inl ⟨.bool true, ?_, hI, TyP.of_is rfl⟩
    have Ec : ∀ v, F.eval (.const v) = v := fun _ => rfl; have Ef : ∀ f, F.eval (.func f) = .func (.func f) #[] #[] := fun _ => rfl; clear hF hd; generalize F.eval = ρ at E43 E48 Ec Ef ⊢
    simp [execOp, go_sem, Ec, E43, E48, hqe]
  case ob12 =>
    intro p vals W1 F hF hlo hhi hI hd
    have hp : p = 0 := Nat.le_antisymm hhi hlo
    subst hp
    clear hlo hhi
    have d2 : vals 2 = .bool false := hd ⟨2, .data⟩ (Array.mem_of_getElem? (i := 0) rfl) rfl (show (0 : Nat) ≤ 1000 by decide)
    have d11 : vals 11 = .bool true := hd ⟨11, .data⟩ (Array.mem_of_getElem? (i := 1) rfl) rfl (show (0 : Nat) ≤ 1000 by decide)
    have E40 := eval_some (hF.own_ 2 rfl rfl (by kernel_rfl) (by decide)); rw [d2] at E40
    have E49 := eval_some (hF.own_ 11 rfl rfl (by kernel_rfl) (by decide)); rw [d11] at E49
    refine .inr ⟨wanted_none rfl, .inl ⟨.bool true, ?_, hI, TyP.of_is rfl⟩⟩
    have Ec : ∀ v, F.eval (.const v) = v := fun _ => rfl; have Ef : ∀ f, F.eval (.func f) = .func (.func f) #[] #[] := fun _ => rfl; clear hF hd; generalize F.eval = ρ at E40 E49 Ec Ef ⊢
    simp [execOp, go_sem, Ec, E40, E49]
  case obend =>
    intro vals W1 F hF hdef hI hT
    rename_i K hK
    refine hK _ _ ?_
    have dl : vals 12 = .bool true := hT 12 (by decide) (show (0 : Nat) ≤ 1000 by decide)
    rw [hF.act]
    simp only [fin, Act.put, List.setIfInBounds_toArray, List.set_cons_succ, List.set_cons_zero, dl]
    clear hF hT dl
    have HBB := Lib.hid (hb1.trans (hI.mono hb1.size))
    clear hI
    go_wp2
    go_ret3
    exact ⟨rfl, HBB.out⟩
set_option maxRecDepth 100000 in
set_option maxHeartbeats 2000000 in
theorem getSize_x254_bad (bs : List UInt8) (A : Option Addr) (c n₀ k m : Nat) (hm : m < 18446744073709551616)  (hk : k < bs.length) (hxx : bs[k] = (254 : UInt8)) (hl : bs.length ≤ 20000) (w : World) (hh : Holds8 n₀ w A bs) (hn : n₀ ≤ w.heap.size) (hc : bs.length ≤ c) (hcm : c ≤ 9223372036854775807) (hR : fixedR (bs.drop (k + 1)) 4 = (0, 10, bs.drop (k + 1))) :
    Calls Try.prog 20 #[.slice A bs.length c, .int .i64 (k : Int)] w fun e w' => e = .returned (.tuple #[.int .u64 0, .int .i64 (k : Int), .int .i64 10]) ∧ Below w.heap.size w w' := by
  have HGF := Lib.hid (show Calls Try.prog 18 #[.slice A bs.length c, .int .i64 ((k : Int) + 1), .int .i64 4] w fun e w' => e = .returned (.tuple #[.int .u64 0, .int .i64 ((k + 1 : Nat) : Int), .int .i64 10]) ∧ Below w.heap.size w w' from by
    have h := getFixed_any bs A c n₀ (k + 1) (by omega) hl 4 w hh hn hc hcm
    rw [hR] at h
    rw [show ((k + 1 : Nat) : Int) = (k : Int) + 1 by omega] at h
    refine h.mono fun e w' hq => ?_
    obtain ⟨h1, h2⟩ := hq
    refine ⟨?_, h2⟩
    rw [h1]
    simp only
    rw [got_at bs (k + 1) (by omega)]
    rfl)
  obtain ⟨b, off, rfl, hb, hcx⟩ := hh.at_ hk
  rw [hxx] at hcx
  have hck : ¬ c = k := by omega
  have hki : (k : Int) < (bs.length : Int) := by omega
  clear hh hR hxx
  go_enter Try.func20, Try.ntmps20
  go_wp2_with (go_at_call 18; refine HGF.out.mono ?_; rintro e w1 ⟨rfl, hb1⟩)
  refine wp_region_phased 54 rfl (fun _ _ W W' => Below W.heap.size W W') (fun _ W' => Below w1.heap.size w1 W') [.is (.int .i64 10), .is (.bool true), .is (.bool true), .is undef, .is undef, .is undef, .is undef, .is undef, .is undef, .is undef, .is undef, .is undef, .is (.bool true)] [] [0, 0, 0, 0, 0, 0, 0, 0, 0, 0, 0, 0, 0] [0, 0, 0, 0, 0, 0, 0, 0, 0, 0, 0, 0, 0] (by kernel_rfl) (by kernel_rfl) (by kernel_rfl) (fun _ _ _ => Below.refl _ _) ((Below.refl _ _).drew) ⟨?ob0, ?ob1, ?ob2, ?ob3, ?ob4, ?ob5, ?ob6, ?ob7, ?ob8, ?ob9, ?ob10, ?ob11, ?ob12, trivial⟩ ?obend
  case ob0 =>
    intro p vals W1 F hF hlo hhi hI hd
    have hp : p = 0 := Nat.le_antisymm hhi hlo
    subst hp
    clear hlo hhi
    have E11 : F.eval (.tmp 11) = .int .i64 10 := hF.out_ (by kernel_rfl) rfl
    refine .inr ⟨wanted_none rfl, .inl ⟨.int .i64 10, ?_, hI, TyP.of_is rfl⟩⟩
    simp only [execOp, E11, Sem.run_pure]
  case ob1 =>
    intro p vals W1 F hF hlo hhi hI hd
    have hp : p = 0 := Nat.le_antisymm hhi hlo
    subst hp
    clear hlo hhi
    have d0 : vals 0 = .int .i64 10 := hd ⟨0, .data⟩ (Array.mem_of_getElem? (i := 0) rfl) rfl (show (0 : Nat) ≤ 1000 by decide)
    have E38 := eval_some (hF.own_ 0 rfl rfl (by kernel_rfl) (by decide)); rw [d0] at E38
    refine .inr ⟨wanted_none rfl, .inl ⟨.bool true, ?_, hI, TyP.of_is rfl⟩⟩
    have Ec : ∀ v, F.eval (.const v) = v := fun _ => rfl; have Ef : ∀ f, F.eval (.func f) = .func (.func f) #[] #[] := fun _ => rfl; clear hF hd; generalize F.eval = ρ at E38 Ec Ef ⊢
    simp [execOp, go_sem, Ec, E38]
  case ob2 =>
    intro p vals W1 F hF hlo hhi hI hd
    have hp : p = 0 := Nat.le_antisymm hhi hlo
    subst hp
    clear hlo hhi
    have d1 : vals 1 = .bool true := hd ⟨1, .data⟩ (Array.mem_of_getElem? (i := 0) rfl) rfl (show (0 : Nat) ≤ 1000 by decide)
    have E39 := eval_some (hF.own_ 1 rfl rfl (by kernel_rfl) (by decide)); rw [d1] at E39
    refine .inr ⟨wanted_none rfl, .inl ⟨.bool true, ?_, hI, TyP.of_is rfl⟩⟩
    simp only [execOp, E39, Sem.run_pure]
  case ob3 =>
    intro p vals W1 F hF hlo hhi hI hd
    have hp : p = 0 := Nat.le_antisymm hhi hlo
    subst hp
    clear hlo hhi
    have d2 : vals 2 = .bool true := hd ⟨2, .guard⟩ (Array.mem_of_getElem? (i := 0) rfl) rfl (show (0 : Nat) ≤ 1000 by decide)
    have G := hF.own_ 2 rfl rfl (by kernel_rfl) (by decide); rw [d2] at G
    exact .inl ⟨wanted_no rfl rfl rfl G rfl, hI, TyP.of_is rfl⟩
  case ob4 =>
    intro p vals W1 F hF hlo hhi hI hd
    have hp : p = 0 := Nat.le_antisymm hhi hlo
    subst hp
    clear hlo hhi
    have d2 : vals 2 = .bool true := hd ⟨2, .chain⟩ (Array.mem_of_getElem? (i := 1) rfl) rfl (show (0 : Nat) ≤ 1000 by decide)
    have G := hF.own_ 2 rfl rfl (by kernel_rfl) (by decide); rw [d2] at G
    exact .inl ⟨wanted_no rfl rfl rfl G rfl, hI, TyP.of_is rfl⟩
  case ob5 =>
    intro p vals W1 F hF hlo hhi hI hd
    have hp : p = 0 := Nat.le_antisymm hhi hlo
    subst hp
    clear hlo hhi
    have d2 : vals 2 = .bool true := hd ⟨2, .guard⟩ (Array.mem_of_getElem? (i := 1) rfl) rfl (show (0 : Nat) ≤ 1000 by decide)
    have G := hF.own_ 2 rfl rfl (by kernel_rfl) (by decide); rw [d2] at G
    exact .inl ⟨wanted_no rfl rfl rfl G rfl, hI, TyP.of_is rfl⟩
  case ob6 =>
    intro p vals W1 F hF hlo hhi hI hd
    have hp : p = 0 := Nat.le_antisymm hhi hlo
    subst hp
    clear hlo hhi
    have d2 : vals 2 = .bool true := hd ⟨2, .guard⟩ (Array.mem_of_getElem? (i := 0) rfl) rfl (show (0 : Nat) ≤ 1000 by decide)
    have G := hF.own_ 2 rfl rfl (by kernel_rfl) (by decide); rw [d2] at G
    exact .inl ⟨wanted_no rfl rfl rfl G rfl, hI, TyP.of_is rfl⟩
  case ob7 =>
    intro p vals W1 F hF hlo hhi hI hd
    have hp : p = 0 := Nat.le_antisymm hhi hlo
    subst hp
    clear hlo hhi
    have d2 : vals 2 = .bool true := hd ⟨2, .guard⟩ (Array.mem_of_getElem? (i := 0) rfl) rfl (show (0 : Nat) ≤ 1000 by decide)
    have G := hF.own_ 2 rfl rfl (by kernel_rfl) (by decide); rw [d2] at G
    exact .inl ⟨wanted_no rfl rfl rfl G rfl, hI, TyP.of_is rfl⟩
  case ob8 =>
    intro p vals W1 F hF hlo hhi hI hd
    have hp : p = 0 := Nat.le_antisymm hhi hlo
    subst hp
    clear hlo hhi
    have d2 : vals 2 = .bool true := hd ⟨2, .guard⟩ (Array.mem_of_getElem? (i := 0) rfl) rfl (show (0 : Nat) ≤ 1000 by decide)
    have G := hF.own_ 2 rfl rfl (by kernel_rfl) (by decide); rw [d2] at G
    exact .inl ⟨wanted_no rfl rfl rfl G rfl, hI, TyP.of_is rfl⟩
  case ob9 =>
    intro p vals W1 F hF hlo hhi hI hd
    have hp : p = 0 := Nat.le_antisymm hhi hlo
    subst hp
    clear hlo hhi
    have d2 : vals 2 = .bool true := hd ⟨2, .guard⟩ (Array.mem_of_getElem? (i := 3) rfl) rfl (show (0 : Nat) ≤ 1000 by decide)
    have G := hF.own_ 2 rfl rfl (by kernel_rfl) (by decide); rw [d2] at G
    exact .inl ⟨wanted_no rfl rfl rfl G rfl, hI, TyP.of_is rfl⟩
  case ob10 =>
    intro p vals W1 F hF hlo hhi hI hd
    have hp : p = 0 := Nat.le_antisymm hhi hlo
    subst hp
    clear hlo hhi
    have d2 : vals 2 = .bool true := hd ⟨2, .guard⟩ (Array.mem_of_getElem? (i := 1) rfl) rfl (show (0 : Nat) ≤ 1000 by decide)
    have G := hF.own_ 2 rfl rfl (by kernel_rfl) (by decide); rw [d2] at G
    exact .inl ⟨wanted_no rfl rfl rfl G rfl, hI, TyP.of_is rfl⟩
  case ob11 =>
    intro p vals W1 F hF hlo hhi hI hd
    have hp : p = 0 := Nat.le_antisymm hhi hlo
    subst hp
    clear hlo hhi
    have d2 : vals 2 = .bool true := hd ⟨2, .guard⟩ (Array.mem_of_getElem? (i := 2) rfl) rfl (show (0 : Nat) ≤ 1000 by decide)
    have G := hF.own_ 2 rfl rfl (by kernel_rfl) (by decide); rw [d2] at G
    exact .inl ⟨wanted_no rfl rfl rfl G rfl, hI, TyP.of_is rfl⟩
  case ob12 =>
    intro p vals W1 F hF hlo hhi hI hd
    have hp : p = 0 := Nat.le_antisymm hhi hlo
    subst hp
    clear hlo hhi
    have d2 : vals 2 = .bool true := hd ⟨2, .data⟩ (Array.mem_of_getElem? (i := 0) rfl) rfl (show (0 : Nat) ≤ 1000 by decide)
    have d11 : vals 11 = undef := hd ⟨11, .data⟩ (Array.mem_of_getElem? (i := 1) rfl) rfl (show (0 : Nat) ≤ 1000 by decide)
    have E40 := eval_some (hF.own_ 2 rfl rfl (by kernel_rfl) (by decide)); rw [d2] at E40
    have E49 := eval_some (hF.own_ 11 rfl rfl (by kernel_rfl) (by decide)); rw [d11] at E49
    refine .inr ⟨wanted_none rfl, .inl ⟨.bool true, ?_, hI, TyP.of_is rfl⟩⟩
    have Ec : ∀ v, F.eval (.const v) = v := fun _ => rfl; have Ef : ∀ f, F.eval (.func f) = .func (.func f) #[] #[] := fun _ => rfl; clear hF hd; generalize F.eval = ρ at E40 E49 Ec Ef ⊢
    simp [execOp, go_sem, Ec, E40, E49]
  case obend =>
    intro vals W1 F hF hdef hI hT
    rename_i K hK
    refine hK _ _ ?_
    have dl : vals 12 = .bool true := hT 12 (by decide) (show (0 : Nat) ≤ 1000 by decide)
    rw [hF.act]
    simp only [fin, Act.put, List.setIfInBounds_toArray, List.set_cons_succ, List.set_cons_zero, dl]
    clear hF hT dl
    have HBB := Lib.hid (hb1.trans (hI.mono hb1.size))
    clear hI
    go_wp2
    go_ret3
    exact ⟨rfl, HBB.out⟩
set_option maxRecDepth 100000 in
set_option maxHeartbeats 2000000 in
theorem getSize_x254_eq (bs : List UInt8) (A : Option Addr) (c n₀ k m : Nat) (hm : m < 18446744073709551616)  (hk : k < bs.length) (hxx : bs[k] = (254 : UInt8)) (hl : bs.length ≤ 20000) (w : World) (hh : Holds8 n₀ w A bs) (hn : n₀ ≤ w.heap.size) (hc : bs.length ≤ c) (hcm : c ≤ 9223372036854775807) (hR : fixedR (bs.drop (k + 1)) 4 = (m, 0, (bs.drop (k + 1)).drop 4)) (hq : sizeB m = (bs.drop k).take 5) (hT : k + 5 ≤ bs.length) :
    Calls Try.prog 20 #[.slice A bs.length c, .int .i64 (k : Int)] w fun e w' => e = .returned (.tuple #[.int .u64 (m : Int), .int .i64 (k + 5 : Nat), .int .i64 0]) ∧ Below w.heap.size w w' := by
  have HGF := Lib.hid (show Calls Try.prog 18 #[.slice A bs.length c, .int .i64 ((k : Int) + 1), .int .i64 4] w fun e w' => e = .returned (.tuple #[.int .u64 (m : Int), .int .i64 ((k + 5 : Nat) : Int), .int .i64 0]) ∧ Below w.heap.size w w' from by
    have h := getFixed_any bs A c n₀ (k + 1) (by omega) hl 4 w hh hn hc hcm
    rw [hR] at h
    rw [show ((k + 1 : Nat) : Int) = (k : Int) + 1 by omega] at h
    refine h.mono fun e w' hq => ?_
    obtain ⟨h1, h2⟩ := hq
    refine ⟨?_, h2⟩
    rw [h1]
    simp only
    rw [got_more bs (k + 1) 4 (by omega)]
    skip)
  obtain ⟨b, off, rfl, hb, hcx⟩ := hh.at_ hk
  rw [hxx] at hcx
  have hck : ¬ c = k := by omega
  have hki : (k : Int) < (bs.length : Int) := by omega
  have h9 := (hh.drop_ k c (by omega) hc).take_ 5
  rw [← cut_ne hck] at h9
  have htl : ((bs.drop k).take 5).length = 5 := by rw [List.length_take, List.length_drop]; omega
  have hT2 : k + 5 ≤ c := by omega
  obtain ⟨T, hTe⟩ : ∃ T, k + 5 = T := ⟨_, rfl⟩
  rw [hTe] at HGF ⊢
  have hTk : T - k = 5 := by omega
  have hTI : (T : Int) - (k : Int) = 5 := by omega
  have hTc : T ≤ c := by omega
  have hkT : k ≤ T := by omega
  have hTn : (T : Int) ≤ (c : Int) := by omega
  have hkTI : (k : Int) ≤ (T : Int) := by omega
  obtain ⟨L, hL⟩ : ∃ L, (bs.drop k).take 5 = L := ⟨_, rfl⟩
  rw [hL] at h9 htl hq
  have HSZ := Lib.hid (fun W => refSize_any m hm W)
  obtain ⟨Z, hZ⟩ : ∃ Z, sizeB m = Z := ⟨_, rfl⟩
  rw [hZ] at HSZ hq
  have H9 := Lib.hid h9
  have HTL := Lib.hid htl
  have HTK := Lib.hid hTk
  clear h9 htl hL hZ hTe hT hTk
  subst hq
  clear hh hR hxx
  go_enter Try.func20, Try.ntmps20
  go_wp2_with (go_at_call 18; refine HGF.out.mono ?_; rintro e w1 ⟨rfl, hb1⟩)
  refine wp_region_phased 54 rfl (fun _ _ W W' => Below W.heap.size W W') (fun _ W' => Below w1.heap.size w1 W') [.is (.int .i64 0), .is (.bool false), .is (.bool false), .is (.int .u64 (m : Int)), ⟨0, 1000, fun v W => ∃ B cb, v = .slice B Z.length cb ∧ Holds8 W.heap.size W B Z, fun k d v W W' _ _ ⟨B, cb, e, h⟩ hr => ⟨B, cb, e, h.later hr⟩⟩, .is (.string ⟨Z.toArray⟩), .is (.slice (some ⟨b, off, none⟩) bs.length c), .is (.int .i64 (k : Int)), .is (.int .i64 (T : Int)), .is (.slice (some ⟨b, off + k, none⟩) 5 (c - k)), .is (.string ⟨Z.toArray⟩), .is (.bool false), .is (.bool false)] [] [0, 0, 0, 0, 0, 0, 0, 0, 0, 0, 0, 0, 0] [0, 0, 0, 0, 0, 0, 0, 0, 0, 0, 0, 0, 0] (by kernel_rfl) (by kernel_rfl) (by kernel_rfl) (fun _ _ _ => Below.refl _ _) ((Below.refl _ _).drew) ⟨?ob0, ?ob1, ?ob2, ?ob3, ?ob4, ?ob5, ?ob6, ?ob7, ?ob8, ?ob9, ?ob10, ?ob11, ?ob12, trivial⟩ ?obend
  case ob0 =>
    intro p vals W1 F hF hlo hhi hI hd
    have hp : p = 0 := Nat.le_antisymm hhi hlo
    subst hp
    clear hlo hhi
    have E11 : F.eval (.tmp 11) = .int .i64 0 := hF.out_ (by kernel_rfl) rfl
    refine .inr ⟨wanted_none rfl, .inl ⟨.int .i64 0, ?_, hI, TyP.of_is rfl⟩⟩
    simp only [execOp, E11, Sem.run_pure]
  case ob1 =>
    intro p vals W1 F hF hlo hhi hI hd
    have hp : p = 0 := Nat.le_antisymm hhi hlo
    subst hp
    clear hlo hhi
    have d0 : vals 0 = .int .i64 0 := hd ⟨0, .data⟩ (Array.mem_of_getElem? (i := 0) rfl) rfl (show (0 : Nat) ≤ 1000 by decide)
    have E38 := eval_some (hF.own_ 0 rfl rfl (by kernel_rfl) (by decide)); rw [d0] at E38
    refine .inr ⟨wanted_none rfl, .inl ⟨.bool false, ?_, hI, TyP.of_is rfl⟩⟩
    have Ec : ∀ v, F.eval (.const v) = v := fun _ => rfl; have Ef : ∀ f, F.eval (.func f) = .func (.func f) #[] #[] := fun _ => rfl; clear hF hd; generalize F.eval = ρ at E38 Ec Ef ⊢
    simp [execOp, go_sem, Ec, E38]
  case ob2 =>
    intro p vals W1 F hF hlo hhi hI hd
    have hp : p = 0 := Nat.le_antisymm hhi hlo
    subst hp
    clear hlo hhi
    have d1 : vals 1 = .bool false := hd ⟨1, .data⟩ (Array.mem_of_getElem? (i := 0) rfl) rfl (show (0 : Nat) ≤ 1000 by decide)
    have E39 := eval_some (hF.own_ 1 rfl rfl (by kernel_rfl) (by decide)); rw [d1] at E39
    refine .inr ⟨wanted_none rfl, .inl ⟨.bool false, ?_, hI, TyP.of_is rfl⟩⟩
    simp only [execOp, E39, Sem.run_pure]
  case ob3 =>
    intro p vals W1 F hF hlo hhi hI hd
    have hp : p = 0 := Nat.le_antisymm hhi hlo
    subst hp
    clear hlo hhi
    have d2 : vals 2 = .bool false := hd ⟨2, .guard⟩ (Array.mem_of_getElem? (i := 0) rfl) rfl (show (0 : Nat) ≤ 1000 by decide)
    have E9 : F.eval (.tmp 9) = .int .u64 (m : Int) := hF.out_ (by kernel_rfl) rfl
    have G := hF.own_ 2 rfl rfl (by kernel_rfl) (by decide); rw [d2] at G
    refine .inr ⟨wanted_yes rfl rfl rfl G, .inl ⟨.int .u64 (m : Int), ?_, hI, TyP.of_is rfl⟩⟩
    simp only [execOp, E9, Sem.run_pure]
  case ob4 =>
    intro p vals W1 F hF hlo hhi hI hd
    have hp : p = 0 := Nat.le_antisymm hhi hlo
    subst hp
    clear hlo hhi
    have d2 : vals 2 = .bool false := hd ⟨2, .chain⟩ (Array.mem_of_getElem? (i := 1) rfl) rfl (show (0 : Nat) ≤ 1000 by decide)
    have d3 : vals 3 = .int .u64 (m : Int) := hd ⟨3, .data⟩ (Array.mem_of_getElem? (i := 0) rfl) rfl (show (0 : Nat) ≤ 1000 by decide)
    have E41 := eval_some (hF.own_ 3 rfl rfl (by kernel_rfl) (by decide)); rw [d3] at E41
    have G := hF.own_ 2 rfl rfl (by kernel_rfl) (by decide); rw [d2] at G
    refine .inr ⟨wanted_yes rfl rfl rfl G, ?_⟩
    refine .inr (.inr (.inl ⟨14, #[.int .u64 (m : Int)], ?_, (HSZ.out _).mono ?_⟩))
    · have Ec : ∀ v, F.eval (.const v) = v := fun _ => rfl; have Ef : ∀ f, F.eval (.func f) = .func (.func f) #[] #[] := fun _ => rfl; clear hF hd; generalize F.eval = ρ at E41 Ec Ef ⊢
      simp [execOp, go_sem, Ec, Ef, E41]
    rintro e W2 ⟨v, rfl, hr2, hb2⟩
    obtain ⟨B, cb, rfl, hh2, _⟩ := own_open hr2
    exact ⟨_, rfl, hb2, hI.trans (hb2.mono hI.size), B, cb, rfl, hh2⟩
  case ob5 =>
    intro p vals W1 F hF hlo hhi hI hd
    have hp : p = 0 := Nat.le_antisymm hhi hlo
    subst hp
    clear hlo hhi
    have d2 : vals 2 = .bool false := hd ⟨2, .guard⟩ (Array.mem_of_getElem? (i := 1) rfl) rfl (show (0 : Nat) ≤ 1000 by decide)
    obtain ⟨B4, c4, hspec4, hh4⟩ := hd ⟨4, .data⟩ (Array.mem_of_getElem? (i := 0) rfl) rfl (show (0 : Nat) ≤ 1000 by decide)
    have d4 : vals 4 = .slice B4 Z.length c4 := hspec4
    have E42 := eval_some (hF.own_ 4 rfl rfl (by kernel_rfl) (by decide)); rw [d4] at E42
    have G := hF.own_ 2 rfl rfl (by kernel_rfl) (by decide); rw [d2] at G
    refine .inr ⟨wanted_yes rfl rfl rfl G, ?_⟩
    have hst := str_of hh4 c4
    refine .inl ⟨_, ?_, hI, TyP.of_is rfl⟩
    have Ec : ∀ v, F.eval (.const v) = v := fun _ => rfl; have Ef : ∀ f, F.eval (.func f) = .func (.func f) #[] #[] := fun _ => rfl; clear hF hd; generalize F.eval = ρ at E42 Ec Ef ⊢
    simp [execOp, go_sem, Ec, E42, hst]
  case ob6 =>
    intro p vals W1 F hF hlo hhi hI hd
    have hp : p = 0 := Nat.le_antisymm hhi hlo
    subst hp
    clear hlo hhi
    have d2 : vals 2 = .bool false := hd ⟨2, .guard⟩ (Array.mem_of_getElem? (i := 0) rfl) rfl (show (0 : Nat) ≤ 1000 by decide)
    have E0 : F.eval (.tmp 0) = .slice (some ⟨b, off, none⟩) bs.length c := hF.out_ (by kernel_rfl) rfl
    have G := hF.own_ 2 rfl rfl (by kernel_rfl) (by decide); rw [d2] at G
    refine .inr ⟨wanted_yes rfl rfl rfl G, .inl ⟨.slice (some ⟨b, off, none⟩) bs.length c, ?_, hI, TyP.of_is rfl⟩⟩
    simp only [execOp, E0, Sem.run_pure]
  case ob7 =>
    intro p vals W1 F hF hlo hhi hI hd
    have hp : p = 0 := Nat.le_antisymm hhi hlo
    subst hp
    clear hlo hhi
    have d2 : vals 2 = .bool false := hd ⟨2, .guard⟩ (Array.mem_of_getElem? (i := 0) rfl) rfl (show (0 : Nat) ≤ 1000 by decide)
    have E1 : F.eval (.tmp 1) = .int .i64 (k : Int) := hF.out_ (by kernel_rfl) rfl
    have G := hF.own_ 2 rfl rfl (by kernel_rfl) (by decide); rw [d2] at G
    refine .inr ⟨wanted_yes rfl rfl rfl G, .inl ⟨.int .i64 (k : Int), ?_, hI, TyP.of_is rfl⟩⟩
    simp only [execOp, E1, Sem.run_pure]
  case ob8 =>
    intro p vals W1 F hF hlo hhi hI hd
    have hp : p = 0 := Nat.le_antisymm hhi hlo
    subst hp
    clear hlo hhi
    have d2 : vals 2 = .bool false := hd ⟨2, .guard⟩ (Array.mem_of_getElem? (i := 0) rfl) rfl (show (0 : Nat) ≤ 1000 by decide)
    have E10 : F.eval (.tmp 10) = .int .i64 (T : Int) := hF.out_ (by kernel_rfl) rfl
    have G := hF.own_ 2 rfl rfl (by kernel_rfl) (by decide); rw [d2] at G
    refine .inr ⟨wanted_yes rfl rfl rfl G, .inl ⟨.int .i64 (T : Int), ?_, hI, TyP.of_is rfl⟩⟩
    simp only [execOp, E10, Sem.run_pure]
  case ob9 =>
    intro p vals W1 F hF hlo hhi hI hd
    have hp : p = 0 := Nat.le_antisymm hhi hlo
    subst hp
    clear hlo hhi
    have d2 : vals 2 = .bool false := hd ⟨2, .guard⟩ (Array.mem_of_getElem? (i := 3) rfl) rfl (show (0 : Nat) ≤ 1000 by decide)
    have d6 : vals 6 = .slice (some ⟨b, off, none⟩) bs.length c := hd ⟨6, .data⟩ (Array.mem_of_getElem? (i := 0) rfl) rfl (show (0 : Nat) ≤ 1000 by decide)
    have d7 : vals 7 = .int .i64 (k : Int) := hd ⟨7, .data⟩ (Array.mem_of_getElem? (i := 1) rfl) rfl (show (0 : Nat) ≤ 1000 by decide)
    have d8 : vals 8 = .int .i64 (T : Int) := hd ⟨8, .data⟩ (Array.mem_of_getElem? (i := 2) rfl) rfl (show (0 : Nat) ≤ 1000 by decide)
    have E44 := eval_some (hF.own_ 6 rfl rfl (by kernel_rfl) (by decide)); rw [d6] at E44
    have E45 := eval_some (hF.own_ 7 rfl rfl (by kernel_rfl) (by decide)); rw [d7] at E45
    have E46 := eval_some (hF.own_ 8 rfl rfl (by kernel_rfl) (by decide)); rw [d8] at E46
    have G := hF.own_ 2 rfl rfl (by kernel_rfl) (by decide); rw [d2] at G
    refine .inr ⟨wanted_yes rfl rfl rfl G, ?_⟩
    refine .inl ⟨.slice (some ⟨b, off + k, none⟩) 5 (c - k), ?_, hI, TyP.of_is rfl⟩
    have htk := HTK.out
    have Ec : ∀ v, F.eval (.const v) = v := fun _ => rfl; have Ef : ∀ f, F.eval (.func f) = .func (.func f) #[] #[] := fun _ => rfl; clear hF hd; generalize F.eval = ρ at E44 E45 E46 Ec Ef ⊢
    simp [execOp, go_sem, Ec, E44, E45, E46, hkT, hTc, hck, htk]
  case ob10 =>
    intro p vals W1 F hF hlo hhi hI hd
    have hp : p = 0 := Nat.le_antisymm hhi hlo
    subst hp
    clear hlo hhi
    have d2 : vals 2 = .bool false := hd ⟨2, .guard⟩ (Array.mem_of_getElem? (i := 1) rfl) rfl (show (0 : Nat) ≤ 1000 by decide)
    have d9 : vals 9 = .slice (some ⟨b, off + k, none⟩) 5 (c - k) := hd ⟨9, .data⟩ (Array.mem_of_getElem? (i := 0) rfl) rfl (show (0 : Nat) ≤ 1000 by decide)
    have E47 := eval_some (hF.own_ 9 rfl rfl (by kernel_rfl) (by decide)); rw [d9] at E47
    have G := hF.own_ 2 rfl rfl (by kernel_rfl) (by decide); rw [d2] at G
    refine .inr ⟨wanted_yes rfl rfl rfl G, ?_⟩
    have hst := str_of (((H9.out.below hb1 hn).more (Nat.le_trans hn hb1.size)).later hI) (c - k)
    rw [HTL.out] at hst
    refine .inl ⟨_, ?_, hI, TyP.of_is rfl⟩
    have Ec : ∀ v, F.eval (.const v) = v := fun _ => rfl; have Ef : ∀ f, F.eval (.func f) = .func (.func f) #[] #[] := fun _ => rfl; clear hF hd; generalize F.eval = ρ at E47 Ec Ef ⊢
    simp [execOp, go_sem, Ec, E47, hst]
  case ob11 =>
    intro p vals W1 F hF hlo hhi hI hd
    have hp : p = 0 := Nat.le_antisymm hhi hlo
    subst hp
    clear hlo hhi
    have d2 : vals 2 = .bool false := hd ⟨2, .guard⟩ (Array.mem_of_getElem? (i := 2) rfl) rfl (show (0 : Nat) ≤ 1000 by decide)
    have d5 : vals 5 = .string ⟨Z.toArray⟩ := hd ⟨5, .data⟩ (Array.mem_of_getElem? (i := 0) rfl) rfl (show (0 : Nat) ≤ 1000 by decide)
    have d10 : vals 10 = .string ⟨Z.toArray⟩ := hd ⟨10, .data⟩ (Array.mem_of_getElem? (i := 1) rfl) rfl (show (0 : Nat) ≤ 1000 by decide)
    have E43 := eval_some (hF.own_ 5 rfl rfl (by kernel_rfl) (by decide)); rw [d5] at E43
    have E48 := eval_some (hF.own_ 10 rfl rfl (by kernel_rfl) (by decide)); rw [d10] at E48
    have G := hF.own_ 2 rfl rfl (by kernel_rfl) (by decide); rw [d2] at G
    refine .inr ⟨wanted_yes rfl rfl rfl G, .inl ⟨.bool false, ?_, hI, TyP.of_is rfl⟩⟩
    have Ec : ∀ v, F.eval (.const v) = v := fun _ => rfl; have Ef : ∀ f, F.eval (.func f) = .func (.func f) #[] #[] := fun _ => rfl; clear hF hd; generalize F.eval = ρ at E43 E48 Ec Ef ⊢
    simp [execOp, go_sem, Ec, E43, E48]
  case ob12 =>
    intro p vals W1 F hF hlo hhi hI hd
    have hp : p = 0 := Nat.le_antisymm hhi hlo
    subst hp
    clear hlo hhi
    have d2 : vals 2 = .bool false := hd ⟨2, .data⟩ (Array.mem_of_getElem? (i := 0) rfl) rfl (show (0 : Nat) ≤ 1000 by decide)
    have d11 : vals 11 = .bool false := hd ⟨11, .data⟩ (Array.mem_of_getElem? (i := 1) rfl) rfl (show (0 : Nat) ≤ 1000 by decide)
    have E40 := eval_some (hF.own_ 2 rfl rfl (by kernel_rfl) (by decide)); rw [d2] at E40
    have E49 := eval_some (hF.own_ 11 rfl rfl (by kernel_rfl) (by decide)); rw [d11] at E49
    refine .inr ⟨wanted_none rfl, .inl ⟨.bool false, ?_, hI, TyP.of_is rfl⟩⟩
    have Ec : ∀ v, F.eval (.const v) = v := fun _ => rfl; have Ef : ∀ f, F.eval (.func f) = .func (.func f) #[] #[] := fun _ => rfl; clear hF hd; generalize F.eval = ρ at E40 E49 Ec Ef ⊢
    simp [execOp, go_sem, Ec, E40, E49]
  case obend =>
    intro vals W1 F hF hdef hI hT
    rename_i K hK
    refine hK _ _ ?_
    have dl : vals 12 = .bool false := hT 12 (by decide) (show (0 : Nat) ≤ 1000 by decide)
    rw [hF.act]
    simp only [fin, Act.put, List.setIfInBounds_toArray, List.set_cons_succ, List.set_cons_zero, dl]
    clear hF hT dl
    have HBB := Lib.hid (hb1.trans (hI.mono hb1.size))
    clear hI
    go_wp2
    go_ret3
    exact ⟨rfl, HBB.out⟩
set_option maxRecDepth 100000 in
set_option maxHeartbeats 2000000 in
theorem getSize_x254_ne (bs : List UInt8) (A : Option Addr) (c n₀ k m : Nat) (hm : m < 18446744073709551616)  (hk : k < bs.length) (hxx : bs[k] = (254 : UInt8)) (hl : bs.length ≤ 20000) (w : World) (hh : Holds8 n₀ w A bs) (hn : n₀ ≤ w.heap.size) (hc : bs.length ≤ c) (hcm : c ≤ 9223372036854775807) (hR : fixedR (bs.drop (k + 1)) 4 = (m, 0, (bs.drop (k + 1)).drop 4)) (hq : ¬ sizeB m = (bs.drop k).take 5) (hT : k + 5 ≤ bs.length) :
    Calls Try.prog 20 #[.slice A bs.length c, .int .i64 (k : Int)] w fun e w' => e = .returned (.tuple #[.int .u64 0, .int .i64 (k : Int), .int .i64 10]) ∧ Below w.heap.size w w' := by
  have HGF := Lib.hid (show Calls Try.prog 18 #[.slice A bs.length c, .int .i64 ((k : Int) + 1), .int .i64 4] w fun e w' => e = .returned (.tuple #[.int .u64 (m : Int), .int .i64 ((k + 5 : Nat) : Int), .int .i64 0]) ∧ Below w.heap.size w w' from by
    have h := getFixed_any bs A c n₀ (k + 1) (by omega) hl 4 w hh hn hc hcm
    rw [hR] at h
    rw [show ((k + 1 : Nat) : Int) = (k : Int) + 1 by omega] at h
    refine h.mono fun e w' hq => ?_
    obtain ⟨h1, h2⟩ := hq
    refine ⟨?_, h2⟩
    rw [h1]
    simp only
    rw [got_more bs (k + 1) 4 (by omega)]
    skip)
  obtain ⟨b, off, rfl, hb, hcx⟩ := hh.at_ hk
  rw [hxx] at hcx
  have hck : ¬ c = k := by omega
  have hki : (k : Int) < (bs.length : Int) := by omega
  have h9 := (hh.drop_ k c (by omega) hc).take_ 5
  rw [← cut_ne hck] at h9
  have htl : ((bs.drop k).take 5).length = 5 := by rw [List.length_take, List.length_drop]; omega
  have hT2 : k + 5 ≤ c := by omega
  obtain ⟨T, hTe⟩ : ∃ T, k + 5 = T := ⟨_, rfl⟩
  rw [hTe] at HGF 
  have hTk : T - k = 5 := by omega
  have hTI : (T : Int) - (k : Int) = 5 := by omega
  have hTc : T ≤ c := by omega
  have hkT : k ≤ T := by omega
  have hTn : (T : Int) ≤ (c : Int) := by omega
  have hkTI : (k : Int) ≤ (T : Int) := by omega
  obtain ⟨L, hL⟩ : ∃ L, (bs.drop k).take 5 = L := ⟨_, rfl⟩
  rw [hL] at h9 htl hq
  have HSZ := Lib.hid (fun W => refSize_any m hm W)
  obtain ⟨Z, hZ⟩ : ∃ Z, sizeB m = Z := ⟨_, rfl⟩
  rw [hZ] at HSZ hq
  have H9 := Lib.hid h9
  have HTL := Lib.hid htl
  have HTK := Lib.hid hTk
  clear h9 htl hL hZ hTe hT hTk
  have HQE := Lib.hid (show ¬ Z = L from hq)
  clear hq
  clear hh hR hxx
  go_enter Try.func20, Try.ntmps20
  go_wp2_with (go_at_call 18; refine HGF.out.mono ?_; rintro e w1 ⟨rfl, hb1⟩)
  refine wp_region_phased 54 rfl (fun _ _ W W' => Below W.heap.size W W') (fun _ W' => Below w1.heap.size w1 W') [.is (.int .i64 0), .is (.bool false), .is (.bool false), .is (.int .u64 (m : Int)), ⟨0, 1000, fun v W => ∃ B cb, v = .slice B Z.length cb ∧ Holds8 W.heap.size W B Z, fun k d v W W' _ _ ⟨B, cb, e, h⟩ hr => ⟨B, cb, e, h.later hr⟩⟩, .is (.string ⟨Z.toArray⟩), .is (.slice (some ⟨b, off, none⟩) bs.length c), .is (.int .i64 (k : Int)), .is (.int .i64 (T : Int)), .is (.slice (some ⟨b, off + k, none⟩) 5 (c - k)), .is (.string ⟨L.toArray⟩), .is (.bool true), .is (.bool true)] [] [0, 0, 0, 0, 0, 0, 0, 0, 0, 0, 0, 0, 0] [0, 0, 0, 0, 0, 0, 0, 0, 0, 0, 0, 0, 0] (by kernel_rfl) (by kernel_rfl) (by kernel_rfl) (fun _ _ _ => Below.refl _ _) ((Below.refl _ _).drew) ⟨?ob0, ?ob1, ?ob2, ?ob3, ?ob4, ?ob5, ?ob6, ?ob7, ?ob8, ?ob9, ?ob10, ?ob11, ?ob12, trivial⟩ ?obend
  case ob0 =>
    intro p vals W1 F hF hlo hhi hI hd
    have hp : p = 0 := Nat.le_antisymm hhi hlo
    subst hp
    clear hlo hhi
    have E11 : F.eval (.tmp 11) = .int .i64 0 := hF.out_ (by kernel_rfl) rfl
    refine .inr ⟨wanted_none rfl, .inl ⟨.int .i64 0, ?_, hI, TyP.of_is rfl⟩⟩
    simp only [execOp, E11, Sem.run_pure]
  case ob1 =>
    intro p vals W1 F hF hlo hhi hI hd
    have hp : p = 0 := Nat.le_antisymm hhi hlo
    subst hp
    clear hlo hhi
    have d0 : vals 0 = .int .i64 0 := hd ⟨0, .data⟩ (Array.mem_of_getElem? (i := 0) rfl) rfl (show (0 : Nat) ≤ 1000 by decide)
    have E38 := eval_some (hF.own_ 0 rfl rfl (by kernel_rfl) (by decide)); rw [d0] at E38
    refine .inr ⟨wanted_none rfl, .inl ⟨.bool false, ?_, hI, TyP.of_is rfl⟩⟩
    have Ec : ∀ v, F.eval (.const v) = v := fun _ => rfl; have Ef : ∀ f, F.eval (.func f) = .func (.func f) #[] #[] := fun _ => rfl; clear hF hd; generalize F.eval = ρ at E38 Ec Ef ⊢
    simp [execOp, go_sem, Ec, E38]
  case ob2 =>
    intro p vals W1 F hF hlo hhi hI hd
    have hp : p = 0 := Nat.le_antisymm hhi hlo
    subst hp
    clear hlo hhi
    have d1 : vals 1 = .bool false := hd ⟨1, .data⟩ (Array.mem_of_getElem? (i := 0) rfl) rfl (show (0 : Nat) ≤ 1000 by decide)
    have E39 := eval_some (hF.own_ 1 rfl rfl (by kernel_rfl) (by decide)); rw [d1] at E39
    refine .inr ⟨wanted_none rfl, .inl ⟨.bool false, ?_, hI, TyP.of_is rfl⟩⟩
    simp only [execOp, E39, Sem.run_pure]
  case ob3 =>
    intro p vals W1 F hF hlo hhi hI hd
    have hp : p = 0 := Nat.le_antisymm hhi hlo
    subst hp
    clear hlo hhi
    have d2 : vals 2 = .bool false := hd ⟨2, .guard⟩ (Array.mem_of_getElem? (i := 0) rfl) rfl (show (0 : Nat) ≤ 1000 by decide)
    have E9 : F.eval (.tmp 9) = .int .u64 (m : Int) := hF.out_ (by kernel_rfl) rfl
    have G := hF.own_ 2 rfl rfl (by kernel_rfl) (by decide); rw [d2] at G
    refine .inr ⟨wanted_yes rfl rfl rfl G, .inl ⟨.int .u64 (m : Int), ?_, hI, TyP.of_is rfl⟩⟩
    simp only [execOp, E9, Sem.run_pure]
  case ob4 =>
    intro p vals W1 F hF hlo hhi hI hd
    have hp : p = 0 := Nat.le_antisymm hhi hlo
    subst hp
    clear hlo hhi
    have d2 : vals 2 = .bool false := hd ⟨2, .chain⟩ (Array.mem_of_getElem? (i := 1) rfl) rfl (show (0 : Nat) ≤ 1000 by decide)
    have d3 : vals 3 = .int .u64 (m : Int) := hd ⟨3, .data⟩ (Array.mem_of_getElem? (i := 0) rfl) rfl (show (0 : Nat) ≤ 1000 by decide)
    have E41 := eval_some (hF.own_ 3 rfl rfl (by kernel_rfl) (by decide)); rw [d3] at E41
    have G := hF.own_ 2 rfl rfl (by kernel_rfl) (by decide); rw [d2] at G
    refine .inr ⟨wanted_yes rfl rfl rfl G, ?_⟩
    refine .inr (.inr (.inl ⟨14, #[.int .u64 (m : Int)], ?_, (HSZ.out _).mono ?_⟩))
    · have Ec : ∀ v, F.eval (.const v) = v := fun _ => rfl; have Ef : ∀ f, F.eval (.func f) = .func (.func f) #[] #[] := fun _ => rfl; clear hF hd; generalize F.eval = ρ at E41 Ec Ef ⊢
      simp [execOp, go_sem, Ec, Ef, E41]
    rintro e W2 ⟨v, rfl, hr2, hb2⟩
    obtain ⟨B, cb, rfl, hh2, _⟩ := own_open hr2
    exact ⟨_, rfl, hb2, hI.trans (hb2.mono hI.size), B, cb, rfl, hh2⟩
  case ob5 =>
    intro p vals W1 F hF hlo hhi hI hd
    have hp : p = 0 := Nat.le_antisymm hhi hlo
    subst hp
    clear hlo hhi
    have d2 : vals 2 = .bool false := hd ⟨2, .guard⟩ (Array.mem_of_getElem? (i := 1) rfl) rfl (show (0 : Nat) ≤ 1000 by decide)
    obtain ⟨B4, c4, hspec4, hh4⟩ := hd ⟨4, .data⟩ (Array.mem_of_getElem? (i := 0) rfl) rfl (show (0 : Nat) ≤ 1000 by decide)
    have d4 : vals 4 = .slice B4 Z.length c4 := hspec4
    have E42 := eval_some (hF.own_ 4 rfl rfl (by kernel_rfl) (by decide)); rw [d4] at E42
    have G := hF.own_ 2 rfl rfl (by kernel_rfl) (by decide); rw [d2] at G
    refine .inr ⟨wanted_yes rfl rfl rfl G, ?_⟩
    have hst := str_of hh4 c4
    refine .inl ⟨_, ?_, hI, TyP.of_is rfl⟩
    have Ec : ∀ v, F.eval (.const v) = v := fun _ => rfl; have Ef : ∀ f, F.eval (.func f) = .func (.func f) #[] #[] := fun _ => rfl; clear hF hd; generalize F.eval = ρ at E42 Ec Ef ⊢
    simp [execOp, go_sem, Ec, E42, hst]
  case ob6 =>
    intro p vals W1 F hF hlo hhi hI hd
    have hp : p = 0 := Nat.le_antisymm hhi hlo
    subst hp
    clear hlo hhi
    have d2 : vals 2 = .bool false := hd ⟨2, .guard⟩ (Array.mem_of_getElem? (i := 0) rfl) rfl (show (0 : Nat) ≤ 1000 by decide)
    have E0 : F.eval (.tmp 0) = .slice (some ⟨b, off, none⟩) bs.length c := hF.out_ (by kernel_rfl) rfl
    have G := hF.own_ 2 rfl rfl (by kernel_rfl) (by decide); rw [d2] at G
    refine .inr ⟨wanted_yes rfl rfl rfl G, .inl ⟨.slice (some ⟨b, off, none⟩) bs.length c, ?_, hI, TyP.of_is rfl⟩⟩
    simp only [execOp, E0, Sem.run_pure]
  case ob7 =>
    intro p vals W1 F hF hlo hhi hI hd
    have hp : p = 0 := Nat.le_antisymm hhi hlo
    subst hp
    clear hlo hhi
    have d2 : vals 2 = .bool false := hd ⟨2, .guard⟩ (Array.mem_of_getElem? (i := 0) rfl) rfl (show (0 : Nat) ≤ 1000 by decide)
    have E1 : F.eval (.tmp 1) = .int .i64 (k : Int) := hF.out_ (by kernel_rfl) rfl
    have G := hF.own_ 2 rfl rfl (by kernel_rfl) (by decide); rw [d2] at G
    refine .inr ⟨wanted_yes rfl rfl rfl G, .inl ⟨.int .i64 (k : Int), ?_, hI, TyP.of_is rfl⟩⟩
    simp only [execOp, E1, Sem.run_pure]
  case ob8 =>
    intro p vals W1 F hF hlo hhi hI hd
    have hp : p = 0 := Nat.le_antisymm hhi hlo
    subst hp
    clear hlo hhi
    have d2 : vals 2 = .bool false := hd ⟨2, .guard⟩ (Array.mem_of_getElem? (i := 0) rfl) rfl (show (0 : Nat) ≤ 1000 by decide)
    have E10 : F.eval (.tmp 10) = .int .i64 (T : Int) := hF.out_ (by kernel_rfl) rfl
    have G := hF.own_ 2 rfl rfl (by kernel_rfl) (by decide); rw [d2] at G
    refine .inr ⟨wanted_yes rfl rfl rfl G, .inl ⟨.int .i64 (T : Int), ?_, hI, TyP.of_is rfl⟩⟩
    simp only [execOp, E10, Sem.run_pure]
  case ob9 =>
    intro p vals W1 F hF hlo hhi hI hd
    have hp : p = 0 := Nat.le_antisymm hhi hlo
    subst hp
    clear hlo hhi
    have d2 : vals 2 = .bool false := hd ⟨2, .guard⟩ (Array.mem_of_getElem? (i := 3) rfl) rfl (show (0 : Nat) ≤ 1000 by decide)
    have d6 : vals 6 = .slice (some ⟨b, off, none⟩) bs.length c := hd ⟨6, .data⟩ (Array.mem_of_getElem? (i := 0) rfl) rfl (show (0 : Nat) ≤ 1000 by decide)
    have d7 : vals 7 = .int .i64 (k : Int) := hd ⟨7, .data⟩ (Array.mem_of_getElem? (i := 1) rfl) rfl (show (0 : Nat) ≤ 1000 by decide)
    have d8 : vals 8 = .int .i64 (T : Int) := hd ⟨8, .data⟩ (Array.mem_of_getElem? (i := 2) rfl) rfl (show (0 : Nat) ≤ 1000 by decide)
    have E44 := eval_some (hF.own_ 6 rfl rfl (by kernel_rfl) (by decide)); rw [d6] at E44
    have E45 := eval_some (hF.own_ 7 rfl rfl (by kernel_rfl) (by decide)); rw [d7] at E45
    have E46 := eval_some (hF.own_ 8 rfl rfl (by kernel_rfl) (by decide)); rw [d8] at E46
    have G := hF.own_ 2 rfl rfl (by kernel_rfl) (by decide); rw [d2] at G
    refine .inr ⟨wanted_yes rfl rfl rfl G, ?_⟩
    refine .inl ⟨.slice (some ⟨b, off + k, none⟩) 5 (c - k), ?_, hI, TyP.of_is rfl⟩
    have htk := HTK.out
    have Ec : ∀ v, F.eval (.const v) = v := fun _ => rfl; have Ef : ∀ f, F.eval (.func f) = .func (.func f) #[] #[] := fun _ => rfl; clear hF hd; generalize F.eval = ρ at E44 E45 E46 Ec Ef ⊢
    simp [execOp, go_sem, Ec, E44, E45, E46, hkT, hTc, hck, htk]
  case ob10 =>
    intro p vals W1 F hF hlo hhi hI hd
    have hp : p = 0 := Nat.le_antisymm hhi hlo
    subst hp
    clear hlo hhi
    have d2 : vals 2 = .bool false := hd ⟨2, .guard⟩ (Array.mem_of_getElem? (i := 1) rfl) rfl (show (0 : Nat) ≤ 1000 by decide)
    have d9 : vals 9 = .slice (some ⟨b, off + k, none⟩) 5 (c - k) := hd ⟨9, .data⟩ (Array.mem_of_getElem? (i := 0) rfl) rfl (show (0 : Nat) ≤ 1000 by decide)
    have E47 := eval_some (hF.own_ 9 rfl rfl (by kernel_rfl) (by decide)); rw [d9] at E47
    have G := hF.own_ 2 rfl rfl (by kernel_rfl) (by decide); rw [d2] at G
    refine .inr ⟨wanted_yes rfl rfl rfl G, ?_⟩
    have hst := str_of (((H9.out.below hb1 hn).more (Nat.le_trans hn hb1.size)).later hI) (c - k)
    rw [HTL.out] at hst
    refine .inl ⟨_, ?_, hI, TyP.of_is rfl⟩
    have Ec : ∀ v, F.eval (.const v) = v := fun _ => rfl; have Ef : ∀ f, F.eval (.func f) = .func (.func f) #[] #[] := fun _ => rfl; clear hF hd; generalize F.eval = ρ at E47 Ec Ef ⊢
    simp [execOp, go_sem, Ec, E47, hst]
  case ob11 =>
    intro p vals W1 F hF hlo hhi hI hd
    have hp : p = 0 := Nat.le_antisymm hhi hlo
    subst hp
    clear hlo hhi
    have d2 : vals 2 = .bool false := hd ⟨2, .guard⟩ (Array.mem_of_getElem? (i := 2) rfl) rfl (show (0 : Nat) ≤ 1000 by decide)
    have d5 : vals 5 = .string ⟨Z.toArray⟩ := hd ⟨5, .data⟩ (Array.mem_of_getElem? (i := 0) rfl) rfl (show (0 : Nat) ≤ 1000 by decide)
    have d10 : vals 10 = .string ⟨L.toArray⟩ := hd ⟨10, .data⟩ (Array.mem_of_getElem? (i := 1) rfl) rfl (show (0 : Nat) ≤ 1000 by decide)
    have E43 := eval_some (hF.own_ 5 rfl rfl (by kernel_rfl) (by decide)); rw [d5] at E43
    have E48 := eval_some (hF.own_ 10 rfl rfl (by kernel_rfl) (by decide)); rw [d10] at E48
    have G := hF.own_ 2 rfl rfl (by kernel_rfl) (by decide); rw [d2] at G
    refine .inr ⟨wanted_yes rfl rfl rfl G, ?_⟩
    have hqe := HQE.out
    refine .inl ⟨.bool true, ?_, hI, TyP.of_is rfl⟩
    have Ec : ∀ v, F.eval (.const v) = v := fun _ => rfl; have Ef : ∀ f, F.eval (.func f) = .func (.func f) #[] #[] := fun _ => rfl; clear hF hd; generalize F.eval = ρ at E43 E48 Ec Ef ⊢
    simp [execOp, go_sem, Ec, E43, E48, hqe]
  case ob12 =>
    intro p vals W1 F hF hlo hhi hI hd
    have hp : p = 0 := Nat.le_antisymm hhi hlo
    subst hp
    clear hlo hhi
    have d2 : vals 2 = .bool false := hd ⟨2, .data⟩ (Array.mem_of_getElem? (i := 0) rfl) rfl (show (0 : Nat) ≤ 1000 by decide)
    have d11 : vals 11 = .bool true := hd ⟨11, .data⟩ (Array.mem_of_getElem? (i := 1) rfl) rfl (show (0 : Nat) ≤ 1000 by decide)
    have E40 := eval_some (hF.own_ 2 rfl rfl (by kernel_rfl) (by decide)); rw [d2] at E40
    have E49 := eval_some (hF.own_ 11 rfl rfl (by kernel_rfl) (by decide)); rw [d11] at E49
    refine .inr ⟨wanted_none rfl, .inl ⟨.bool true, ?_, hI, TyP.of_is rfl⟩⟩
    have Ec : ∀ v, F.eval (.const v) = v := fun _ => rfl; have Ef : ∀ f, F.eval (.func f) = .func (.func f) #[] #[] := fun _ => rfl; clear hF hd; generalize F.eval = ρ at E40 E49 Ec Ef ⊢
    simp [execOp, go_sem, Ec, E40, E49]
  case obend =>
    intro vals W1 F hF hdef hI hT
    rename_i K hK
    refine hK _ _ ?_
    have dl : vals 12 = .bool true := hT 12 (by decide) (show (0 : Nat) ≤ 1000 by decide)
    rw [hF.act]
    simp only [fin, Act.put, List.setIfInBounds_toArray, List.set_cons_succ, List.set_cons_zero, dl]
    clear hF hT dl
    have HBB := Lib.hid (hb1.trans (hI.mono hb1.size))
    clear hI
    go_wp2
    go_ret3
    exact ⟨rfl, HBB.out⟩
set_option maxRecDepth 100000 in
set_option maxHeartbeats 2000000 in
theorem getSize_x255_bad (bs : List UInt8) (A : Option Addr) (c n₀ k m : Nat) (hm : m < 18446744073709551616)  (hk : k < bs.length) (hxx : bs[k] = (255 : UInt8)) (hl : bs.length ≤ 20000) (w : World) (hh : Holds8 n₀ w A bs) (hn : n₀ ≤ w.heap.size) (hc : bs.length ≤ c) (hcm : c ≤ 9223372036854775807) (hR : fixedR (bs.drop (k + 1)) 8 = (0, 10, bs.drop (k + 1))) :
    Calls Try.prog 20 #[.slice A bs.length c, .int .i64 (k : Int)] w fun e w' => e = .returned (.tuple #[.int .u64 0, .int .i64 (k : Int), .int .i64 10]) ∧ Below w.heap.size w w' := by
  have HGF := Lib.hid (show Calls Try.prog 18 #[.slice A bs.length c, .int .i64 ((k : Int) + 1), .int .i64 8] w fun e w' => e = .returned (.tuple #[.int .u64 0, .int .i64 ((k + 1 : Nat) : Int), .int .i64 10]) ∧ Below w.heap.size w w' from by
    have h := getFixed_any bs A c n₀ (k + 1) (by omega) hl 8 w hh hn hc hcm
    rw [hR] at h
    rw [show ((k + 1 : Nat) : Int) = (k : Int) + 1 by omega] at h
    refine h.mono fun e w' hq => ?_
    obtain ⟨h1, h2⟩ := hq
    refine ⟨?_, h2⟩
    rw [h1]
    simp only
    rw [got_at bs (k + 1) (by omega)]
    rfl)
  obtain ⟨b, off, rfl, hb, hcx⟩ := hh.at_ hk
  rw [hxx] at hcx
  have hck : ¬ c = k := by omega
  have hki : (k : Int) < (bs.length : Int) := by omega
  clear hh hR hxx
  go_enter Try.func20, Try.ntmps20
  go_wp2_with (go_at_call 18; refine HGF.out.mono ?_; rintro e w1 ⟨rfl, hb1⟩)
  refine wp_region_phased 54 rfl (fun _ _ W W' => Below W.heap.size W W') (fun _ W' => Below w1.heap.size w1 W') [.is (.int .i64 10), .is (.bool true), .is (.bool true), .is undef, .is undef, .is undef, .is undef, .is undef, .is undef, .is undef, .is undef, .is undef, .is (.bool true)] [] [0, 0, 0, 0, 0, 0, 0, 0, 0, 0, 0, 0, 0] [0, 0, 0, 0, 0, 0, 0, 0, 0, 0, 0, 0, 0] (by kernel_rfl) (by kernel_rfl) (by kernel_rfl) (fun _ _ _ => Below.refl _ _) ((Below.refl _ _).drew) ⟨?ob0, ?ob1, ?ob2, ?ob3, ?ob4, ?ob5, ?ob6, ?ob7, ?ob8, ?ob9, ?ob10, ?ob11, ?ob12, trivial⟩ ?obend
  case ob0 =>
    intro p vals W1 F hF hlo hhi hI hd
    have hp : p = 0 := Nat.le_antisymm hhi hlo
    subst hp
    clear hlo hhi
    have E11 : F.eval (.tmp 11) = .int .i64 10 := hF.out_ (by kernel_rfl) rfl
    refine .inr ⟨wanted_none rfl, .inl ⟨.int .i64 10, ?_, hI, TyP.of_is rfl⟩⟩
    simp only [execOp, E11, Sem.run_pure]
  case ob1 =>
    intro p vals W1 F hF hlo hhi hI hd
    have hp : p = 0 := Nat.le_antisymm hhi hlo
    subst hp
    clear hlo hhi
    have d0 : vals 0 = .int .i64 10 := hd ⟨0, .data⟩ (Array.mem_of_getElem? (i := 0) rfl) rfl (show (0 : Nat) ≤ 1000 by decide)
    have E38 := eval_some (hF.own_ 0 rfl rfl (by kernel_rfl) (by decide)); rw [d0] at E38
    refine .inr ⟨wanted_none rfl, .inl ⟨.bool true, ?_, hI, TyP.of_is rfl⟩⟩
    have Ec : ∀ v, F.eval (.const v) = v := fun _ => rfl; have Ef : ∀ f, F.eval (.func f) = .func (.func f) #[] #[] := fun _ => rfl; clear hF hd; generalize F.eval = ρ at E38 Ec Ef ⊢
    simp [execOp, go_sem, Ec, E38]
  case ob2 =>
    intro p vals W1 F hF hlo hhi hI hd
    have hp : p = 0 := Nat.le_antisymm hhi hlo
    subst hp
    clear hlo hhi
    have d1 : vals 1 = .bool true := hd ⟨1, .data⟩ (Array.mem_of_getElem? (i := 0) rfl) rfl (show (0 : Nat) ≤ 1000 by decide)
    have E39 := eval_some (hF.own_ 1 rfl rfl (by kernel_rfl) (by decide)); rw [d1] at E39
    refine .inr ⟨wanted_none rfl, .inl ⟨.bool true, ?_, hI, TyP.of_is rfl⟩⟩
    simp only [execOp, E39, Sem.run_pure]
  case ob3 =>
    intro p vals W1 F hF hlo hhi hI hd
    have hp : p = 0 := Nat.le_antisymm hhi hlo
    subst hp
    clear hlo hhi
    have d2 : vals 2 = .bool true := hd ⟨2, .guard⟩ (Array.mem_of_getElem? (i := 0) rfl) rfl (show (0 : Nat) ≤ 1000 by decide)
    have G := hF.own_ 2 rfl rfl (by kernel_rfl) (by decide); rw [d2] at G
    exact .inl ⟨wanted_no rfl rfl rfl G rfl, hI, TyP.of_is rfl⟩
  case ob4 =>
    intro p vals W1 F hF hlo hhi hI hd
    have hp : p = 0 := Nat.le_antisymm hhi hlo
    subst hp
    clear hlo hhi
    have d2 : vals 2 = .bool true := hd ⟨2, .chain⟩ (Array.mem_of_getElem? (i := 1) rfl) rfl (show (0 : Nat) ≤ 1000 by decide)
    have G := hF.own_ 2 rfl rfl (by kernel_rfl) (by decide); rw [d2] at G
    exact .inl ⟨wanted_no rfl rfl rfl G rfl, hI, TyP.of_is rfl⟩
  case ob5 =>
    intro p vals W1 F hF hlo hhi hI hd
    have hp : p = 0 := Nat.le_antisymm hhi hlo
    subst hp
    clear hlo hhi
    have d2 : vals 2 = .bool true := hd ⟨2, .guard⟩ (Array.mem_of_getElem? (i := 1) rfl) rfl (show (0 : Nat) ≤ 1000 by decide)
    have G := hF.own_ 2 rfl rfl (by kernel_rfl) (by decide); rw [d2] at G
    exact .inl ⟨wanted_no rfl rfl rfl G rfl, hI, TyP.of_is rfl⟩
  case ob6 =>
    intro p vals W1 F hF hlo hhi hI hd
    have hp : p = 0 := Nat.le_antisymm hhi hlo
    subst hp
    clear hlo hhi
    have d2 : vals 2 = .bool true := hd ⟨2, .guard⟩ (Array.mem_of_getElem? (i := 0) rfl) rfl (show (0 : Nat) ≤ 1000 by decide)
    have G := hF.own_ 2 rfl rfl (by kernel_rfl) (by decide); rw [d2] at G
    exact .inl ⟨wanted_no rfl rfl rfl G rfl, hI, TyP.of_is rfl⟩
  case ob7 =>
    intro p vals W1 F hF hlo hhi hI hd
    have hp : p = 0 := Nat.le_antisymm hhi hlo
    subst hp
    clear hlo hhi
    have d2 : vals 2 = .bool true := hd ⟨2, .guard⟩ (Array.mem_of_getElem? (i := 0) rfl) rfl (show (0 : Nat) ≤ 1000 by decide)
    have G := hF.own_ 2 rfl rfl (by kernel_rfl) (by decide); rw [d2] at G
    exact .inl ⟨wanted_no rfl rfl rfl G rfl, hI, TyP.of_is rfl⟩
  case ob8 =>
    intro p vals W1 F hF hlo hhi hI hd
    have hp : p = 0 := Nat.le_antisymm hhi hlo
    subst hp
    clear hlo hhi
    have d2 : vals 2 = .bool true := hd ⟨2, .guard⟩ (Array.mem_of_getElem? (i := 0) rfl) rfl (show (0 : Nat) ≤ 1000 by decide)
    have G := hF.own_ 2 rfl rfl (by kernel_rfl) (by decide); rw [d2] at G
    exact .inl ⟨wanted_no rfl rfl rfl G rfl, hI, TyP.of_is rfl⟩
  case ob9 =>
    intro p vals W1 F hF hlo hhi hI hd
    have hp : p = 0 := Nat.le_antisymm hhi hlo
    subst hp
    clear hlo hhi
    have d2 : vals 2 = .bool true := hd ⟨2, .guard⟩ (Array.mem_of_getElem? (i := 3) rfl) rfl (show (0 : Nat) ≤ 1000 by decide)
    have G := hF.own_ 2 rfl rfl (by kernel_rfl) (by decide); rw [d2] at G
    exact .inl ⟨wanted_no rfl rfl rfl G rfl, hI, TyP.of_is rfl⟩
  case ob10 =>
    intro p vals W1 F hF hlo hhi hI hd
    have hp : p = 0 := Nat.le_antisymm hhi hlo
    subst hp
    clear hlo hhi
    have d2 : vals 2 = .bool true := hd ⟨2, .guard⟩ (Array.mem_of_getElem? (i := 1) rfl) rfl (show (0 : Nat) ≤ 1000 by decide)
    have G := hF.own_ 2 rfl rfl (by kernel_rfl) (by decide); rw [d2] at G
    exact .inl ⟨wanted_no rfl rfl rfl G rfl, hI, TyP.of_is rfl⟩
  case ob11 =>
    intro p vals W1 F hF hlo hhi hI hd
    have hp : p = 0 := Nat.le_antisymm hhi hlo
    subst hp
    clear hlo hhi
    have d2 : vals 2 = .bool true := hd ⟨2, .guard⟩ (Array.mem_of_getElem? (i := 2) rfl) rfl (show (0 : Nat) ≤ 1000 by decide)
    have G := hF.own_ 2 rfl rfl (by kernel_rfl) (by decide); rw [d2] at G
    exact .inl ⟨wanted_no rfl rfl rfl G rfl, hI, TyP.of_is rfl⟩
  case ob12 =>
    intro p vals W1 F hF hlo hhi hI hd
    have hp : p = 0 := Nat.le_antisymm hhi hlo
    subst hp
    clear hlo hhi
    have d2 : vals 2 = .bool true := hd ⟨2, .data⟩ (Array.mem_of_getElem? (i := 0) rfl) rfl (show (0 : Nat) ≤ 1000 by decide)
    have d11 : vals 11 = undef := hd ⟨11, .data⟩ (Array.mem_of_getElem? (i := 1) rfl) rfl (show (0 : Nat) ≤ 1000 by decide)
    have E40 := eval_some (hF.own_ 2 rfl rfl (by kernel_rfl) (by decide)); rw [d2] at E40
    have E49 := eval_some (hF.own_ 11 rfl rfl (by kernel_rfl) (by decide)); rw [d11] at E49
    refine .inr ⟨wanted_none rfl, .inl ⟨.bool true, ?_, hI, TyP.of_is rfl⟩⟩
    have Ec : ∀ v, F.eval (.const v) = v := fun _ => rfl; have Ef : ∀ f, F.eval (.func f) = .func (.func f) #[] #[] := fun _ => rfl; clear hF hd; generalize F.eval = ρ at E40 E49 Ec Ef ⊢
    simp [execOp, go_sem, Ec, E40, E49]
  case obend =>
    intro vals W1 F hF hdef hI hT
    rename_i K hK
    refine hK _ _ ?_
    have dl : vals 12 = .bool true := hT 12 (by decide) (show (0 : Nat) ≤ 1000 by decide)
    rw [hF.act]
    simp only [fin, Act.put, List.setIfInBounds_toArray, List.set_cons_succ, List.set_cons_zero, dl]
    clear hF hT dl
    have HBB := Lib.hid (hb1.trans (hI.mono hb1.size))
    clear hI
    go_wp2
    go_ret3
    exact ⟨rfl, HBB.out⟩
set_option maxRecDepth 100000 in
set_option maxHeartbeats 2000000 in
theorem getSize_x255_eq (bs : List UInt8) (A : Option Addr) (c n₀ k m : Nat) (hm : m < 18446744073709551616)  (hk : k < bs.length) (hxx : bs[k] = (255 : UInt8)) (hl : bs.length ≤ 20000) (w : World) (hh : Holds8 n₀ w A bs) (hn : n₀ ≤ w.heap.size) (hc : bs.length ≤ c) (hcm : c ≤ 9223372036854775807) (hR : fixedR (bs.drop (k + 1)) 8 = (m, 0, (bs.drop (k + 1)).drop 8)) (hq : sizeB m = (bs.drop k).take 9) (hT : k + 9 ≤ bs.length) :
    Calls Try.prog 20 #[.slice A bs.length c, .int .i64 (k : Int)] w fun e w' => e = .returned (.tuple #[.int .u64 (m : Int), .int .i64 (k + 9 : Nat), .int .i64 0]) ∧ Below w.heap.size w w' := by
  have HGF := Lib.hid (show Calls Try.prog 18 #[.slice A bs.length c, .int .i64 ((k : Int) + 1), .int .i64 8] w fun e w' => e = .returned (.tuple #[.int .u64 (m : Int), .int .i64 ((k + 9 : Nat) : Int), .int .i64 0]) ∧ Below w.heap.size w w' from by
    have h := getFixed_any bs A c n₀ (k + 1) (by omega) hl 8 w hh hn hc hcm
    rw [hR] at h
    rw [show ((k + 1 : Nat) : Int) = (k : Int) + 1 by omega] at h
    refine h.mono fun e w' hq => ?_
    obtain ⟨h1, h2⟩ := hq
    refine ⟨?_, h2⟩
    rw [h1]
    simp only
    rw [got_more bs (k + 1) 8 (by omega)]
    skip)
  obtain ⟨b, off, rfl, hb, hcx⟩ := hh.at_ hk
  rw [hxx] at hcx
  have hck : ¬ c = k := by omega
  have hki : (k : Int) < (bs.length : Int) := by omega
  have h9 := (hh.drop_ k c (by omega) hc).take_ 9
  rw [← cut_ne hck] at h9
  have htl : ((bs.drop k).take 9).length = 9 := by rw [List.length_take, List.length_drop]; omega
  have hT2 : k + 9 ≤ c := by omega
  obtain ⟨T, hTe⟩ : ∃ T, k + 9 = T := ⟨_, rfl⟩
  rw [hTe] at HGF ⊢
  have hTk : T - k = 9 := by omega
  have hTI : (T : Int) - (k : Int) = 9 := by omega
  have hTc : T ≤ c := by omega
  have hkT : k ≤ T := by omega
  have hTn : (T : Int) ≤ (c : Int) := by omega
  have hkTI : (k : Int) ≤ (T : Int) := by omega
  obtain ⟨L, hL⟩ : ∃ L, (bs.drop k).take 9 = L := ⟨_, rfl⟩
  rw [hL] at h9 htl hq
  have HSZ := Lib.hid (fun W => refSize_any m hm W)
  obtain ⟨Z, hZ⟩ : ∃ Z, sizeB m = Z := ⟨_, rfl⟩
  rw [hZ] at HSZ hq
  have H9 := Lib.hid h9
  have HTL := Lib.hid htl
  have HTK := Lib.hid hTk
  clear h9 htl hL hZ hTe hT hTk
  subst hq
  clear hh hR hxx
  go_enter Try.func20, Try.ntmps20
  go_wp2_with (go_at_call 18; refine HGF.out.mono ?_; rintro e w1 ⟨rfl, hb1⟩)
  refine wp_region_phased 54 rfl (fun _ _ W W' => Below W.heap.size W W') (fun _ W' => Below w1.heap.size w1 W') [.is (.int .i64 0), .is (.bool false), .is (.bool false), .is (.int .u64 (m : Int)), ⟨0, 1000, fun v W => ∃ B cb, v = .slice B Z.length cb ∧ Holds8 W.heap.size W B Z, fun k d v W W' _ _ ⟨B, cb, e, h⟩ hr => ⟨B, cb, e, h.later hr⟩⟩, .is (.string ⟨Z.toArray⟩), .is (.slice (some ⟨b, off, none⟩) bs.length c), .is (.int .i64 (k : Int)), .is (.int .i64 (T : Int)), .is (.slice (some ⟨b, off + k, none⟩) 9 (c - k)), .is (.string ⟨Z.toArray⟩), .is (.bool false), .is (.bool false)] [] [0, 0, 0, 0, 0, 0, 0, 0, 0, 0, 0, 0, 0] [0, 0, 0, 0, 0, 0, 0, 0, 0, 0, 0, 0, 0] (by kernel_rfl) (by kernel_rfl) (by kernel_rfl) (fun _ _ _ => Below.refl _ _) ((Below.refl _ _).drew) ⟨?ob0, ?ob1, ?ob2, ?ob3, ?ob4, ?ob5, ?ob6, ?ob7, ?ob8, ?ob9, ?ob10, ?ob11, ?ob12, trivial⟩ ?obend
  case ob0 =>
    intro p vals W1 F hF hlo hhi hI hd
    have hp : p = 0 := Nat.le_antisymm hhi hlo
    subst hp
    clear hlo hhi
    have E11 : F.eval (.tmp 11) = .int .i64 0 := hF.out_ (by kernel_rfl) rfl
    refine .inr ⟨wanted_none rfl, .inl ⟨.int .i64 0, ?_, hI, TyP.of_is rfl⟩⟩
    simp only [execOp, E11, Sem.run_pure]
  case ob1 =>
    intro p vals W1 F hF hlo hhi hI hd
    have hp : p = 0 := Nat.le_antisymm hhi hlo
    subst hp
    clear hlo hhi
    have d0 : vals 0 = .int .i64 0 := hd ⟨0, .data⟩ (Array.mem_of_getElem? (i := 0) rfl) rfl (show (0 : Nat) ≤ 1000 by decide)
    have E38 := eval_some (hF.own_ 0 rfl rfl (by kernel_rfl) (by decide)); rw [d0] at E38
    refine .inr ⟨wanted_none rfl, .inl ⟨.bool false, ?_, hI, TyP.of_is rfl⟩⟩
    have Ec : ∀ v, F.eval (.const v) = v := fun _ => rfl; have Ef : ∀ f, F.eval (.func f) = .func (.func f) #[] #[] := fun _ => rfl; clear hF hd; generalize F.eval = ρ at E38 Ec Ef ⊢
    simp [execOp, go_sem, Ec, E38]
  case ob2 =>
    intro p vals W1 F hF hlo hhi hI hd
    have hp : p = 0 := Nat.le_antisymm hhi hlo
    subst hp
    clear hlo hhi
    have d1 : vals 1 = .bool false := hd ⟨1, .data⟩ (Array.mem_of_getElem? (i := 0) rfl) rfl (show (0 : Nat) ≤ 1000 by decide)
    have E39 := eval_some (hF.own_ 1 rfl rfl (by kernel_rfl) (by decide)); rw [d1] at E39
    refine .inr ⟨wanted_none rfl, .inl ⟨.bool false, ?_, hI, TyP.of_is rfl⟩⟩
    simp only [execOp, E39, Sem.run_pure]
  case ob3 =>
    intro p vals W1 F hF hlo hhi hI hd
    have hp : p = 0 := Nat.le_antisymm hhi hlo
    subst hp
    clear hlo hhi
    have d2 : vals 2 = .bool false := hd ⟨2, .guard⟩ (Array.mem_of_getElem? (i := 0) rfl) rfl (show (0 : Nat) ≤ 1000 by decide)
    have E9 : F.eval (.tmp 9) = .int .u64 (m : Int) := hF.out_ (by kernel_rfl) rfl
    have G := hF.own_ 2 rfl rfl (by kernel_rfl) (by decide); rw [d2] at G
    refine .inr ⟨wanted_yes rfl rfl rfl G, .inl ⟨.int .u64 (m : Int), ?_, hI, TyP.of_is rfl⟩⟩
    simp only [execOp, E9, Sem.run_pure]
  case ob4 =>
    intro p vals W1 F hF hlo hhi hI hd
    have hp : p = 0 := Nat.le_antisymm hhi hlo
    subst hp
    clear hlo hhi
    have d2 : vals 2 = .bool false := hd ⟨2, .chain⟩ (Array.mem_of_getElem? (i := 1) rfl) rfl (show (0 : Nat) ≤ 1000 by decide)
    have d3 : vals 3 = .int .u64 (m : Int) := hd ⟨3, .data⟩ (Array.mem_of_getElem? (i := 0) rfl) rfl (show (0 : Nat) ≤ 1000 by decide)
    have E41 := eval_some (hF.own_ 3 rfl rfl (by kernel_rfl) (by decide)); rw [d3] at E41
    have G := hF.own_ 2 rfl rfl (by kernel_rfl) (by decide); rw [d2] at G
    refine .inr ⟨wanted_yes rfl rfl rfl G, ?_⟩
    refine .inr (.inr (.inl ⟨14, #[.int .u64 (m : Int)], ?_, (HSZ.out _).mono ?_⟩))
    · have Ec : ∀ v, F.eval (.const v) = v := fun _ => rfl; have Ef : ∀ f, F.eval (.func f) = .func (.func f) #[] #[] := fun _ => rfl; clear hF hd; generalize F.eval = ρ at E41 Ec Ef ⊢
      simp [execOp, go_sem, Ec, Ef, E41]
    rintro e W2 ⟨v, rfl, hr2, hb2⟩
    obtain ⟨B, cb, rfl, hh2, _⟩ := own_open hr2
    exact ⟨_, rfl, hb2, hI.trans (hb2.mono hI.size), B, cb, rfl, hh2⟩
  case ob5 =>
    intro p vals W1 F hF hlo hhi hI hd
    have hp : p = 0 := Nat.le_antisymm hhi hlo
    subst hp
    clear hlo hhi
    have d2 : vals 2 = .bool false := hd ⟨2, .guard⟩ (Array.mem_of_getElem? (i := 1) rfl) rfl (show (0 : Nat) ≤ 1000 by decide)
    obtain ⟨B4, c4, hspec4, hh4⟩ := hd ⟨4, .data⟩ (Array.mem_of_getElem? (i := 0) rfl) rfl (show (0 : Nat) ≤ 1000 by decide)
    have d4 : vals 4 = .slice B4 Z.length c4 := hspec4
    have E42 := eval_some (hF.own_ 4 rfl rfl (by kernel_rfl) (by decide)); rw [d4] at E42
    have G := hF.own_ 2 rfl rfl (by kernel_rfl) (by decide); rw [d2] at G
    refine .inr ⟨wanted_yes rfl rfl rfl G, ?_⟩
    have hst := str_of hh4 c4
    refine .inl ⟨_, ?_, hI, TyP.of_is rfl⟩
    have Ec : ∀ v, F.eval (.const v) = v := fun _ => rfl; have Ef : ∀ f, F.eval (.func f) = .func (.func f) #[] #[] := fun _ => rfl; clear hF hd; generalize F.eval = ρ at E42 Ec Ef ⊢
    simp [execOp, go_sem, Ec, E42, hst]
  case ob6 =>
    intro p vals W1 F hF hlo hhi hI hd
    have hp : p = 0 := Nat.le_antisymm hhi hlo
    subst hp
    clear hlo hhi
    have d2 : vals 2 = .bool false := hd ⟨2, .guard⟩ (Array.mem_of_getElem? (i := 0) rfl) rfl (show (0 : Nat) ≤ 1000 by decide)
    have E0 : F.eval (.tmp 0) = .slice (some ⟨b, off, none⟩) bs.length c := hF.out_ (by kernel_rfl) rfl
    have G := hF.own_ 2 rfl rfl (by kernel_rfl) (by decide); rw [d2] at G
    refine .inr ⟨wanted_yes rfl rfl rfl G, .inl ⟨.slice (some ⟨b, off, none⟩) bs.length c, ?_, hI, TyP.of_is rfl⟩⟩
    simp only [execOp, E0, Sem.run_pure]
  case ob7 =>
    intro p vals W1 F hF hlo hhi hI hd
    have hp : p = 0 := Nat.le_antisymm hhi hlo
    subst hp
    clear hlo hhi
    have d2 : vals 2 = .bool false := hd ⟨2, .guard⟩ (Array.mem_of_getElem? (i := 0) rfl) rfl (show (0 : Nat) ≤ 1000 by decide)
    have E1 : F.eval (.tmp 1) = .int .i64 (k : Int) := hF.out_ (by kernel_rfl) rfl
    have G := hF.own_ 2 rfl rfl (by kernel_rfl) (by decide); rw [d2] at G
    refine .inr ⟨wanted_yes rfl rfl rfl G, .inl ⟨.int .i64 (k : Int), ?_, hI, TyP.of_is rfl⟩⟩
    simp only [execOp, E1, Sem.run_pure]
  case ob8 =>
    intro p vals W1 F hF hlo hhi hI hd
    have hp : p = 0 := Nat.le_antisymm hhi hlo
    subst hp
    clear hlo hhi
    have d2 : vals 2 = .bool false := hd ⟨2, .guard⟩ (Array.mem_of_getElem? (i := 0) rfl) rfl (show (0 : Nat) ≤ 1000 by decide)
    have E10 : F.eval (.tmp 10) = .int .i64 (T : Int) := hF.out_ (by kernel_rfl) rfl
    have G := hF.own_ 2 rfl rfl (by kernel_rfl) (by decide); rw [d2] at G
    refine .inr ⟨wanted_yes rfl rfl rfl G, .inl ⟨.int .i64 (T : Int), ?_, hI, TyP.of_is rfl⟩⟩
    simp only [execOp, E10, Sem.run_pure]
  case ob9 =>
    intro p vals W1 F hF hlo hhi hI hd
    have hp : p = 0 := Nat.le_antisymm hhi hlo
    subst hp
    clear hlo hhi
    have d2 : vals 2 = .bool false := hd ⟨2, .guard⟩ (Array.mem_of_getElem? (i := 3) rfl) rfl (show (0 : Nat) ≤ 1000 by decide)
    have d6 : vals 6 = .slice (some ⟨b, off, none⟩) bs.length c := hd ⟨6, .data⟩ (Array.mem_of_getElem? (i := 0) rfl) rfl (show (0 : Nat) ≤ 1000 by decide)
    have d7 : vals 7 = .int .i64 (k : Int) := hd ⟨7, .data⟩ (Array.mem_of_getElem? (i := 1) rfl) rfl (show (0 : Nat) ≤ 1000 by decide)
    have d8 : vals 8 = .int .i64 (T : Int) := hd ⟨8, .data⟩ (Array.mem_of_getElem? (i := 2) rfl) rfl (show (0 : Nat) ≤ 1000 by decide)
    have E44 := eval_some (hF.own_ 6 rfl rfl (by kernel_rfl) (by decide)); rw [d6] at E44
    have E45 := eval_some (hF.own_ 7 rfl rfl (by kernel_rfl) (by decide)); rw [d7] at E45
    have E46 := eval_some (hF.own_ 8 rfl rfl (by kernel_rfl) (by decide)); rw [d8] at E46
    have G := hF.own_ 2 rfl rfl (by kernel_rfl) (by decide); rw [d2] at G
    refine .inr ⟨wanted_yes rfl rfl rfl G, ?_⟩
    refine .inl ⟨.slice (some ⟨b, off + k, none⟩) 9 (c - k), ?_, hI, TyP.of_is rfl⟩
    have htk := HTK.out
    have Ec : ∀ v, F.eval (.const v) = v := fun _ => rfl; have Ef : ∀ f, F.eval (.func f) = .func (.func f) #[] #[] := fun _ => rfl; clear hF hd; generalize F.eval = ρ at E44 E45 E46 Ec Ef ⊢
    simp [execOp, go_sem, Ec, E44, E45, E46, hkT, hTc, hck, htk]
  case ob10 =>
    intro p vals W1 F hF hlo hhi hI hd
    have hp : p = 0 := Nat.le_antisymm hhi hlo
    subst hp
    clear hlo hhi
    have d2 : vals 2 = .bool false := hd ⟨2, .guard⟩ (Array.mem_of_getElem? (i := 1) rfl) rfl (show (0 : Nat) ≤ 1000 by decide)
    have d9 : vals 9 = .slice (some ⟨b, off + k, none⟩) 9 (c - k) := hd ⟨9, .data⟩ (Array.mem_of_getElem? (i := 0) rfl) rfl (show (0 : Nat) ≤ 1000 by decide)
    have E47 := eval_some (hF.own_ 9 rfl rfl (by kernel_rfl) (by decide)); rw [d9] at E47
    have G := hF.own_ 2 rfl rfl (by kernel_rfl) (by decide); rw [d2] at G
    refine .inr ⟨wanted_yes rfl rfl rfl G, ?_⟩
    have hst := str_of (((H9.out.below hb1 hn).more (Nat.le_trans hn hb1.size)).later hI) (c - k)
    rw [HTL.out] at hst
    refine .inl ⟨_, ?_, hI, TyP.of_is rfl⟩
    have Ec : ∀ v, F.eval (.const v) = v := fun _ => rfl; have Ef : ∀ f, F.eval (.func f) = .func (.func f) #[] #[] := fun _ => rfl; clear hF hd; generalize F.eval = ρ at E47 Ec Ef ⊢
    simp [execOp, go_sem, Ec, E47, hst]
  case ob11 =>
    intro p vals W1 F hF hlo hhi hI hd
    have hp : p = 0 := Nat.le_antisymm hhi hlo
    subst hp
    clear hlo hhi
    have d2 : vals 2 = .bool false := hd ⟨2, .guard⟩ (Array.mem_of_getElem? (i := 2) rfl) rfl (show (0 : Nat) ≤ 1000 by decide)
    have d5 : vals 5 = .string ⟨Z.toArray⟩ := hd ⟨5, .data⟩ (Array.mem_of_getElem? (i := 0) rfl) rfl (show (0 : Nat) ≤ 1000 by decide)
    have d10 : vals 10 = .string ⟨Z.toArray⟩ := hd ⟨10, .data⟩ (Array.mem_of_getElem? (i := 1) rfl) rfl (show (0 : Nat) ≤ 1000 by decide)
    have E43 := eval_some (hF.own_ 5 rfl rfl (by kernel_rfl) (by decide)); rw [d5] at E43
    have E48 := eval_some (hF.own_ 10 rfl rfl (by kernel_rfl) (by decide)); rw [d10] at E48
    have G := hF.own_ 2 rfl rfl (by kernel_rfl) (by decide); rw [d2] at G
    refine .inr ⟨wanted_yes rfl rfl rfl G, .inl ⟨.bool false, ?_, hI, TyP.of_is rfl⟩⟩
    have Ec : ∀ v, F.eval (.const v) = v := fun _ => rfl; have Ef : ∀ f, F.eval (.func f) = .func (.func f) #[] #[] := fun _ => rfl; clear hF hd; generalize F.eval = ρ at E43 E48 Ec Ef ⊢
    simp [execOp, go_sem, Ec, E43, E48]
  case ob12 =>
    intro p vals W1 F hF hlo hhi hI hd
    have hp : p = 0 := Nat.le_antisymm hhi hlo
    subst hp
    clear hlo hhi
    have d2 : vals 2 = .bool false := hd ⟨2, .data⟩ (Array.mem_of_getElem? (i := 0) rfl) rfl (show (0 : Nat) ≤ 1000 by decide)
    have d11 : vals 11 = .bool false := hd ⟨11, .data⟩ (Array.mem_of_getElem? (i := 1) rfl) rfl (show (0 : Nat) ≤ 1000 by decide)
    have E40 := eval_some (hF.own_ 2 rfl rfl (by kernel_rfl) (by decide)); rw [d2] at E40
    have E49 := eval_some (hF.own_ 11 rfl rfl (by kernel_rfl) (by decide)); rw [d11] at E49
    refine .inr ⟨wanted_none rfl, .inl ⟨.bool false, ?_, hI, TyP.of_is rfl⟩⟩
    have Ec : ∀ v, F.eval (.const v) = v := fun _ => rfl; have Ef : ∀ f, F.eval (.func f) = .func (.func f) #[] #[] := fun _ => rfl; clear hF hd; generalize F.eval = ρ at E40 E49 Ec Ef ⊢
    simp [execOp, go_sem, Ec, E40, E49]
  case obend =>
    intro vals W1 F hF hdef hI hT
    rename_i K hK
    refine hK _ _ ?_
    have dl : vals 12 = .bool false := hT 12 (by decide) (show (0 : Nat) ≤ 1000 by decide)
    rw [hF.act]
    simp only [fin, Act.put, List.setIfInBounds_toArray, List.set_cons_succ, List.set_cons_zero, dl]
    clear hF hT dl
    have HBB := Lib.hid (hb1.trans (hI.mono hb1.size))
    clear hI
    go_wp2
    go_ret3
    exact ⟨rfl, HBB.out⟩
set_option maxRecDepth 100000 in
set_option maxHeartbeats 2000000 in
theorem getSize_x255_ne (bs : List UInt8) (A : Option Addr) (c n₀ k m : Nat) (hm : m < 18446744073709551616)  (hk : k < bs.length) (hxx : bs[k] = (255 : UInt8)) (hl : bs.length ≤ 20000) (w : World) (hh : Holds8 n₀ w A bs) (hn : n₀ ≤ w.heap.size) (hc : bs.length ≤ c) (hcm : c ≤ 9223372036854775807) (hR : fixedR (bs.drop (k + 1)) 8 = (m, 0, (bs.drop (k + 1)).drop 8)) (hq : ¬ sizeB m = (bs.drop k).take 9) (hT : k + 9 ≤ bs.length) :
    Calls Try.prog 20 #[.slice A bs.length c, .int .i64 (k : Int)] w fun e w' => e = .returned (.tuple #[.int .u64 0, .int .i64 (k : Int), .int .i64 10]) ∧ Below w.heap.size w w' := by
  have HGF := Lib.hid (show Calls Try.prog 18 #[.slice A bs.length c, .int .i64 ((k : Int) + 1), .int .i64 8] w fun e w' => e = .returned (.tuple #[.int .u64 (m : Int), .int .i64 ((k + 9 : Nat) : Int), .int .i64 0]) ∧ Below w.heap.size w w' from by
    have h := getFixed_any bs A c n₀ (k + 1) (by omega) hl 8 w hh hn hc hcm
    rw [hR] at h
    rw [show ((k + 1 : Nat) : Int) = (k : Int) + 1 by omega] at h
    refine h.mono fun e w' hq => ?_
    obtain ⟨h1, h2⟩ := hq
    refine ⟨?_, h2⟩
    rw [h1]
    simp only
    rw [got_more bs (k + 1) 8 (by omega)]
    skip)
  obtain ⟨b, off, rfl, hb, hcx⟩ := hh.at_ hk
  rw [hxx] at hcx
  have hck : ¬ c = k := by omega
  have hki : (k : Int) < (bs.length : Int) := by omega
  have h9 := (hh.drop_ k c (by omega) hc).take_ 9
  rw [← cut_ne hck] at h9
  have htl : ((bs.drop k).take 9).length = 9 := by rw [List.length_take, List.length_drop]; omega
  have hT2 : k + 9 ≤ c := by omega
  obtain ⟨T, hTe⟩ : ∃ T, k + 9 = T := ⟨_, rfl⟩
  rw [hTe] at HGF 
  have hTk : T - k = 9 := by omega
  have hTI : (T : Int) - (k : Int) = 9 := by omega
  have hTc : T ≤ c := by omega
  have hkT : k ≤ T := by omega
  have hTn : (T : Int) ≤ (c : Int) := by omega
  have hkTI : (k : Int) ≤ (T : Int) := by omega
  obtain ⟨L, hL⟩ : ∃ L, (bs.drop k).take 9 = L := ⟨_, rfl⟩
  rw [hL] at h9 htl hq
  have HSZ := Lib.hid (fun W => refSize_any m hm W)
  obtain ⟨Z, hZ⟩ : ∃ Z, sizeB m = Z := ⟨_, rfl⟩
  rw [hZ] at HSZ hq
  have H9 := Lib.hid h9
  have HTL := Lib.hid htl
  have HTK := Lib.hid hTk
  clear h9 htl hL hZ hTe hT hTk
  have HQE := Lib.hid (show ¬ Z = L from hq)
  clear hq
  clear hh hR hxx
  go_enter Try.func20, Try.ntmps20
  go_wp2_with (go_at_call 18; refine HGF.out.mono ?_; rintro e w1 ⟨rfl, hb1⟩)
  refine wp_region_phased 54 rfl (fun _ _ W W' => Below W.heap.size W W') (fun _ W' => Below w1.heap.size w1 W') [.is (.int .i64 0), .is (.bool false), .is (.bool false), .is (.int .u64 (m : Int)), ⟨0, 1000, fun v W => ∃ B cb, v = .slice B Z.length cb ∧ Holds8 W.heap.size W B Z, fun k d v W W' _ _ ⟨B, cb, e, h⟩ hr => ⟨B, cb, e, h.later hr⟩⟩, .is (.string ⟨Z.toArray⟩), .is (.slice (some ⟨b, off, none⟩) bs.length c), .is (.int .i64 (k : Int)), .is (.int .i64 (T : Int)), .is (.slice (some ⟨b, off + k, none⟩) 9 (c - k)), .is (.string ⟨L.toArray⟩), .is (.bool true), .is (.bool true)] [] [0, 0, 0, 0, 0, 0, 0, 0, 0, 0, 0, 0, 0] [0, 0, 0, 0, 0, 0, 0, 0, 0, 0, 0, 0, 0] (by kernel_rfl) (by kernel_rfl) (by kernel_rfl) (fun _ _ _ => Below.refl _ _) ((Below.refl _ _).drew) ⟨?ob0, ?ob1, ?ob2, ?ob3, ?ob4, ?ob5, ?ob6, ?ob7, ?ob8, ?ob9, ?ob10, ?ob11, ?ob12, trivial⟩ ?obend
  case ob0 =>
    intro p vals W1 F hF hlo hhi hI hd
    have hp : p = 0 := Nat.le_antisymm hhi hlo
    subst hp
    clear hlo hhi
    have E11 : F.eval (.tmp 11) = .int .i64 0 := hF.out_ (by kernel_rfl) rfl
    refine .inr ⟨wanted_none rfl, .inl ⟨.int .i64 0, ?_, hI, TyP.of_is rfl⟩⟩
    simp only [execOp, E11, Sem.run_pure]
  case ob1 =>
    intro p vals W1 F hF hlo hhi hI hd
    have hp : p = 0 := Nat.le_antisymm hhi hlo
    subst hp
    clear hlo hhi
    have d0 : vals 0 = .int .i64 0 := hd ⟨0, .data⟩ (Array.mem_of_getElem? (i := 0) rfl) rfl (show (0 : Nat) ≤ 1000 by decide)
    have E38 := eval_some (hF.own_ 0 rfl rfl (by kernel_rfl) (by decide)); rw [d0] at E38
    refine .inr ⟨wanted_none rfl, .inl ⟨.bool false, ?_, hI, TyP.of_is rfl⟩⟩
    have Ec : ∀ v, F.eval (.const v) = v := fun _ => rfl; have Ef : ∀ f, F.eval (.func f) = .func (.func f) #[] #[] := fun _ => rfl; clear hF hd; generalize F.eval = ρ at E38 Ec Ef ⊢
    simp [execOp, go_sem, Ec, E38]
  case ob2 =>
    intro p vals W1 F hF hlo hhi hI hd
    have hp : p = 0 := Nat.le_antisymm hhi hlo
    subst hp
    clear hlo hhi
    have d1 : vals 1 = .bool false := hd ⟨1, .data⟩ (Array.mem_of_getElem? (i := 0) rfl) rfl (show (0 : Nat) ≤ 1000 by decide)
    have E39 := eval_some (hF.own_ 1 rfl rfl (by kernel_rfl) (by decide)); rw [d1] at E39
    refine .inr ⟨wanted_none rfl, .inl ⟨.bool false, ?_, hI, TyP.of_is rfl⟩⟩
    simp only [execOp, E39, Sem.run_pure]
  case ob3 =>
    intro p vals W1 F hF hlo hhi hI hd
    have hp : p = 0 := Nat.le_antisymm hhi hlo
    subst hp
    clear hlo hhi
    have d2 : vals 2 = .bool false := hd ⟨2, .guard⟩ (Array.mem_of_getElem? (i := 0) rfl) rfl (show (0 : Nat) ≤ 1000 by decide)
    have E9 : F.eval (.tmp 9) = .int .u64 (m : Int) := hF.out_ (by kernel_rfl) rfl
    have G := hF.own_ 2 rfl rfl (by kernel_rfl) (by decide); rw [d2] at G
    refine .inr ⟨wanted_yes rfl rfl rfl G, .inl ⟨.int .u64 (m : Int), ?_, hI, TyP.of_is rfl⟩⟩
    simp only [execOp, E9, Sem.run_pure]
  case ob4 =>
    intro p vals W1 F hF hlo hhi hI hd
    have hp : p = 0 := Nat.le_antisymm hhi hlo
    subst hp
    clear hlo hhi
    have d2 : vals 2 = .bool false := hd ⟨2, .chain⟩ (Array.mem_of_getElem? (i := 1) rfl) rfl (show (0 : Nat) ≤ 1000 by decide)
    have d3 : vals 3 = .int .u64 (m : Int) := hd ⟨3, .data⟩ (Array.mem_of_getElem? (i := 0) rfl) rfl (show (0 : Nat) ≤ 1000 by decide)
    have E41 := eval_some (hF.own_ 3 rfl rfl (by kernel_rfl) (by decide)); rw [d3] at E41
    have G := hF.own_ 2 rfl rfl (by kernel_rfl) (by decide); rw [d2] at G
    refine .inr ⟨wanted_yes rfl rfl rfl G, ?_⟩
    refine .inr (.inr (.inl ⟨14, #[.int .u64 (m : Int)], ?_, (HSZ.out _).mono ?_⟩))
    · have Ec : ∀ v, F.eval (.const v) = v := fun _ => rfl; have Ef : ∀ f, F.eval (.func f) = .func (.func f) #[] #[] := fun _ => rfl; clear hF hd; generalize F.eval = ρ at E41 Ec Ef ⊢
      simp [execOp, go_sem, Ec, Ef, E41]
    rintro e W2 ⟨v, rfl, hr2, hb2⟩
    obtain ⟨B, cb, rfl, hh2, _⟩ := own_open hr2
    exact ⟨_, rfl, hb2, hI.trans (hb2.mono hI.size), B, cb, rfl, hh2⟩
  case ob5 =>
    intro p vals W1 F hF hlo hhi hI hd
    have hp : p = 0 := Nat.le_antisymm hhi hlo
    subst hp
    clear hlo hhi
    have d2 : vals 2 = .bool false := hd ⟨2, .guard⟩ (Array.mem_of_getElem? (i := 1) rfl) rfl (show (0 : Nat) ≤ 1000 by decide)
    obtain ⟨B4, c4, hspec4, hh4⟩ := hd ⟨4, .data⟩ (Array.mem_of_getElem? (i := 0) rfl) rfl (show (0 : Nat) ≤ 1000 by decide)
    have d4 : vals 4 = .slice B4 Z.length c4 := hspec4
    have E42 := eval_some (hF.own_ 4 rfl rfl (by kernel_rfl) (by decide)); rw [d4] at E42
    have G := hF.own_ 2 rfl rfl (by kernel_rfl) (by decide); rw [d2] at G
    refine .inr ⟨wanted_yes rfl rfl rfl G, ?_⟩
    have hst := str_of hh4 c4
    refine .inl ⟨_, ?_, hI, TyP.of_is rfl⟩
    have Ec : ∀ v, F.eval (.const v) = v := fun _ => rfl; have Ef : ∀ f, F.eval (.func f) = .func (.func f) #[] #[] := fun _ => rfl; clear hF hd; generalize F.eval = ρ at E42 Ec Ef ⊢
    simp [execOp, go_sem, Ec, E42, hst]
  case ob6 =>
    intro p vals W1 F hF hlo hhi hI hd
    have hp : p = 0 := Nat.le_antisymm hhi hlo
    subst hp
    clear hlo hhi
    have d2 : vals 2 = .bool false := hd ⟨2, .guard⟩ (Array.mem_of_getElem? (i := 0) rfl) rfl (show (0 : Nat) ≤ 1000 by decide)
    have E0 : F.eval (.tmp 0) = .slice (some ⟨b, off, none⟩) bs.length c := hF.out_ (by kernel_rfl) rfl
    have G := hF.own_ 2 rfl rfl (by kernel_rfl) (by decide); rw [d2] at G
    refine .inr ⟨wanted_yes rfl rfl rfl G, .inl ⟨.slice (some ⟨b, off, none⟩) bs.length c, ?_, hI, TyP.of_is rfl⟩⟩
    simp only [execOp, E0, Sem.run_pure]
  case ob7 =>
    intro p vals W1 F hF hlo hhi hI hd
    have hp : p = 0 := Nat.le_antisymm hhi hlo
    subst hp
    clear hlo hhi
    have d2 : vals 2 = .bool false := hd ⟨2, .guard⟩ (Array.mem_of_getElem? (i := 0) rfl) rfl (show (0 : Nat) ≤ 1000 by decide)
    have E1 : F.eval (.tmp 1) = .int .i64 (k : Int) := hF.out_ (by kernel_rfl) rfl
    have G := hF.own_ 2 rfl rfl (by kernel_rfl) (by decide); rw [d2] at G
    refine .inr ⟨wanted_yes rfl rfl rfl G, .inl ⟨.int .i64 (k : Int), ?_, hI, TyP.of_is rfl⟩⟩
    simp only [execOp, E1, Sem.run_pure]
  case ob8 =>
    intro p vals W1 F hF hlo hhi hI hd
    have hp : p = 0 := Nat.le_antisymm hhi hlo
    subst hp
    clear hlo hhi
    have d2 : vals 2 = .bool false := hd ⟨2, .guard⟩ (Array.mem_of_getElem? (i := 0) rfl) rfl (show (0 : Nat) ≤ 1000 by decide)
    have E10 : F.eval (.tmp 10) = .int .i64 (T : Int) := hF.out_ (by kernel_rfl) rfl
    have G := hF.own_ 2 rfl rfl (by kernel_rfl) (by decide); rw [d2] at G
    refine .inr ⟨wanted_yes rfl rfl rfl G, .inl ⟨.int .i64 (T : Int), ?_, hI, TyP.of_is rfl⟩⟩
    simp only [execOp, E10, Sem.run_pure]
  case ob9 =>
    intro p vals W1 F hF hlo hhi hI hd
    have hp : p = 0 := Nat.le_antisymm hhi hlo
    subst hp
    clear hlo hhi
    have d2 : vals 2 = .bool false := hd ⟨2, .guard⟩ (Array.mem_of_getElem? (i := 3) rfl) rfl (show (0 : Nat) ≤ 1000 by decide)
    have d6 : vals 6 = .slice (some ⟨b, off, none⟩) bs.length c := hd ⟨6, .data⟩ (Array.mem_of_getElem? (i := 0) rfl) rfl (show (0 : Nat) ≤ 1000 by decide)
    have d7 : vals 7 = .int .i64 (k : Int) := hd ⟨7, .data⟩ (Array.mem_of_getElem? (i := 1) rfl) rfl (show (0 : Nat) ≤ 1000 by decide)
    have d8 : vals 8 = .int .i64 (T : Int) := hd ⟨8, .data⟩ (Array.mem_of_getElem? (i := 2) rfl) rfl (show (0 : Nat) ≤ 1000 by decide)
    have E44 := eval_some (hF.own_ 6 rfl rfl (by kernel_rfl) (by decide)); rw [d6] at E44
    have E45 := eval_some (hF.own_ 7 rfl rfl (by kernel_rfl) (by decide)); rw [d7] at E45
    have E46 := eval_some (hF.own_ 8 rfl rfl (by kernel_rfl) (by decide)); rw [d8] at E46
    have G := hF.own_ 2 rfl rfl (by kernel_rfl) (by decide); rw [d2] at G
    refine .inr ⟨wanted_yes rfl rfl rfl G, ?_⟩
    refine .inl ⟨.slice (some ⟨b, off + k, none⟩) 9 (c - k), ?_, hI, TyP.of_is rfl⟩
    have htk := HTK.out
    have Ec : ∀ v, F.eval (.const v) = v := fun _ => rfl; have Ef : ∀ f, F.eval (.func f) = .func (.func f) #[] #[] := fun _ => rfl; clear hF hd; generalize F.eval = ρ at E44 E45 E46 Ec Ef ⊢
    simp [execOp, go_sem, Ec, E44, E45, E46, hkT, hTc, hck, htk]
  case ob10 =>
    intro p vals W1 F hF hlo hhi hI hd
    have hp : p = 0 := Nat.le_antisymm hhi hlo
    subst hp
    clear hlo hhi
    have d2 : vals 2 = .bool false := hd ⟨2, .guard⟩ (Array.mem_of_getElem? (i := 1) rfl) rfl (show (0 : Nat) ≤ 1000 by decide)
    have d9 : vals 9 = .slice (some ⟨b, off + k, none⟩) 9 (c - k) := hd ⟨9, .data⟩ (Array.mem_of_getElem? (i := 0) rfl) rfl (show (0 : Nat) ≤ 1000 by decide)
    have E47 := eval_some (hF.own_ 9 rfl rfl (by kernel_rfl) (by decide)); rw [d9] at E47
    have G := hF.own_ 2 rfl rfl (by kernel_rfl) (by decide); rw [d2] at G
    refine .inr ⟨wanted_yes rfl rfl rfl G, ?_⟩
    have hst := str_of (((H9.out.below hb1 hn).more (Nat.le_trans hn hb1.size)).later hI) (c - k)
    rw [HTL.out] at hst
    refine .inl ⟨_, ?_, hI, TyP.of_is rfl⟩
    have Ec : ∀ v, F.eval (.const v) = v := fun _ => rfl; have Ef : ∀ f, F.eval (.func f) = .func (.func f) #[] #[] := fun _ => rfl; clear hF hd; generalize F.eval = ρ at E47 Ec Ef ⊢
    simp [execOp, go_sem, Ec, E47, hst]
  case ob11 =>
    intro p vals W1 F hF hlo hhi hI hd
    have hp : p = 0 := Nat.le_antisymm hhi hlo
    subst hp
    clear hlo hhi
    have d2 : vals 2 = .bool false := hd ⟨2, .guard⟩ (Array.mem_of_getElem? (i := 2) rfl) rfl (show (0 : Nat) ≤ 1000 by decide)
    have d5 : vals 5 = .string ⟨Z.toArray⟩ := hd ⟨5, .data⟩ (Array.mem_of_getElem? (i := 0) rfl) rfl (show (0 : Nat) ≤ 1000 by decide)
    have d10 : vals 10 = .string ⟨L.toArray⟩ := hd ⟨10, .data⟩ (Array.mem_of_getElem? (i := 1) rfl) rfl (show (0 : Nat) ≤ 1000 by decide)
    have E43 := eval_some (hF.own_ 5 rfl rfl (by kernel_rfl) (by decide)); rw [d5] at E43
    have E48 := eval_some (hF.own_ 10 rfl rfl (by kernel_rfl) (by decide)); rw [d10] at E48
    have G := hF.own_ 2 rfl rfl (by kernel_rfl) (by decide); rw [d2] at G
    refine .inr ⟨wanted_yes rfl rfl rfl G, ?_⟩
    have hqe := HQE.out
    refine .inl ⟨.bool true, ?_, hI, TyP.of_is rfl⟩
    have Ec : ∀ v, F.eval (.const v) = v := fun _ => rfl; have Ef : ∀ f, F.eval (.func f) = .func (.func f) #[] #[] := fun _ => rfl; clear hF hd; generalize F.eval = ρ at E43 E48 Ec Ef ⊢
    simp [execOp, go_sem, Ec, E43, E48, hqe]
  case ob12 =>
    intro p vals W1 F hF hlo hhi hI hd
    have hp : p = 0 := Nat.le_antisymm hhi hlo
    subst hp
    clear hlo hhi
    have d2 : vals 2 = .bool false := hd ⟨2, .data⟩ (Array.mem_of_getElem? (i := 0) rfl) rfl (show (0 : Nat) ≤ 1000 by decide)
    have d11 : vals 11 = .bool true := hd ⟨11, .data⟩ (Array.mem_of_getElem? (i := 1) rfl) rfl (show (0 : Nat) ≤ 1000 by decide)
    have E40 := eval_some (hF.own_ 2 rfl rfl (by kernel_rfl) (by decide)); rw [d2] at E40
    have E49 := eval_some (hF.own_ 11 rfl rfl (by kernel_rfl) (by decide)); rw [d11] at E49
    refine .inr ⟨wanted_none rfl, .inl ⟨.bool true, ?_, hI, TyP.of_is rfl⟩⟩
    have Ec : ∀ v, F.eval (.const v) = v := fun _ => rfl; have Ef : ∀ f, F.eval (.func f) = .func (.func f) #[] #[] := fun _ => rfl; clear hF hd; generalize F.eval = ρ at E40 E49 Ec Ef ⊢
    simp [execOp, go_sem, Ec, E40, E49]
  case obend =>
    intro vals W1 F hF hdef hI hT
    rename_i K hK
    refine hK _ _ ?_
    have dl : vals 12 = .bool true := hT 12 (by decide) (show (0 : Nat) ≤ 1000 by decide)
    rw [hF.act]
    simp only [fin, Act.put, List.setIfInBounds_toArray, List.set_cons_succ, List.set_cons_zero, dl]
    clear hF hT dl
    have HBB := Lib.hid (hb1.trans (hI.mono hb1.size))
    clear hI
    go_wp2
    go_ret3
    exact ⟨rfl, HBB.out⟩
end Go.Proofs.Ytngkckngjobojaa.Oct
