/- OpsBurnt is true at every input. No condition. -/
import Derived.Test.YtkecldmjjhhlgaaOpsE
import Derived.Test.YtkecldmjjhhlgaaOctOpen
namespace Go.Proofs.Ytkecldmjjhhlgaa.Oct
open Go.Proofs.Ytkecldmjjhhlgaa Go.ChangeShapes Go.WideShapes Go.ChangeAt Go.RowKit Go.Shelf
def headB (bs : List UInt8) : Bool := match bs with
  | x :: _ => x == 106
  | [] => false
def burntB (bs : List UInt8) : Bool := decide (520 < bs.length) || headB bs
set_option maxRecDepth 100000 in
set_option maxHeartbeats 1000000 in
theorem burnt_any (bs : List UInt8) (n : Nat) (hn : n = bs.length) (A : Option Addr) (c n₀ : Nat) (w : World) (hh : Holds8 n₀ w A bs) : Calls Try.prog 14 #[.slice A n c] w fun e w' => e = .returned (.bool (burntB bs)) ∧ w = w' := by
  by_cases hbig : 520 < bs.length
  · have HV := Lib.hid (show burntB bs = true by unfold burntB; rw [show decide (520 < bs.length) = true by simpa using hbig]; rfl)
    have d1 : (520 : Int) < (n : Int) := by omega
    clear hbig hh hn
    go_enter Try.func14, Try.ntmps14
    go_wp2
    go_ret
    exact ⟨by rw [HV.out]; rfl, rfl⟩
  · cases bs with
    | nil =>
      subst hn
      have HV := Lib.hid (show burntB [] = false from rfl)
      clear hh hbig
      go_enter Try.func14, Try.ntmps14
      go_wp2
      go_ret
      exact ⟨by rw [HV.out]; rfl, rfl⟩
    | cons x l =>
      obtain ⟨b, off, rfl, hb, h0⟩ := hh.at_ (show 0 < (x :: l).length by simp)
      simp only [List.getElem_cons_zero, Nat.add_zero] at h0
      have HV := Lib.hid (show burntB (x :: l) = (x == 106) by unfold burntB; rw [show decide (520 < (x :: l).length) = false by simpa using hbig, Bool.false_or]; rfl)
      have d1 : decide ((520 : Int) < (n : Int)) = false := by simp; omega
      have d2 : (0 : Int) < (n : Int) := by rw [hn, List.length_cons]; omega
      have hxe : (x == 106) = ((x.toNat : Int) == 106) := by
        rw [Bool.eq_iff_iff, beq_iff_eq, beq_iff_eq]
        constructor
        · intro h; subst h; rfl
        · intro h; exact UInt8.toNat_inj.1 (by show x.toNat = 106; omega)
      rw [hxe] at HV
      cases hx : ((x.toNat : Int) == 106) with
      | true =>
        rw [hx] at HV
        clear hbig hh hn hxe hb
        go_enter Try.func14, Try.ntmps14
        go_wp2
        go_ret
        exact ⟨by rw [HV.out]; rfl, rfl⟩
      | false =>
        rw [hx] at HV
        clear hbig hh hn hxe hb
        go_enter Try.func14, Try.ntmps14
        go_wp2
        go_ret
        exact ⟨by rw [HV.out]; rfl, rfl⟩
theorem pre_one (x : UInt8) (l : List UInt8) : (ByteArray.extract ⟨(x :: l).toArray⟩ 0 1).toList = [x] := by
  rw [ByteArray.toList_eq, ByteArray.data_extract]
  simp
set_option maxRecDepth 100000 in
set_option maxHeartbeats 200000 in
theorem hasPrefix_any (bs : List UInt8) (w : World) : Calls Try.prog 27 #[.string ⟨bs.toArray⟩, .string ⟨#[106]⟩] w fun e w' => e = .returned (.bool (headB bs)) ∧ w = w' := by
  have hin : Calls Try.prog 38 #[.string ⟨bs.toArray⟩, .string ⟨#[106]⟩] w fun e w' => e = .returned (.bool (headB bs)) ∧ w = w' := by
    cases bs with
    | nil =>
      go_enter Try.func38, Try.ntmps38
      go_wp2
      go_ret
      exact ⟨rfl, rfl⟩
    | cons x l =>
      go_enter Try.func38, Try.ntmps38
      go_wp2
      go_ret
      refine ⟨?_, rfl⟩
      show Ending.returned (.bool ((ByteArray.extract ⟨(x :: l).toArray⟩ 0 1).toList == [106])) = _
      rw [pre_one]
      congr 2
      show (x == 106 && ([] : List UInt8) == []) = _
      rw [show ([] : List UInt8) == [] from rfl, Bool.and_true]
      rfl
  have HIN := Lib.hid hin
  clear hin
  go_enter Try.func27, Try.ntmps27
  go_wp2_with (go_at_call 38; refine HIN.out.mono ?_; rintro e w1 ⟨rfl, rfl⟩)
  go_ret
  exact ⟨rfl, rfl⟩
/-- An append whose run is known, guarded or not. -/
theorem wpList_append_run {ops : Array Oper} {rest : List Oper} {o : Oper} {a : Act} {Q : Exit → Act → World → Prop} {w : World} (s x : Operand) (t : TypeId) (ho : o.op = .call { callee := .builtin .append, args := #[s, x], argTypes := #[t, t] }) (hw : Region.wanted o (yielded ops a.tmps) = true) (vs vx : Value) (hs : a.eval s = vs) (hx : a.eval x = vx) (v' : Value) (w' : World)
    (hr : (Builtin.append_ #[t, t] o.type #[vs, vx]).run Try.prog w = .ok v' w') (h : wpList Try.prog ops Q rest (a.put o.dst v') w') : wpList Try.prog ops Q (o :: rest) a w := by
  unfold wpList
  rw [if_pos hw]
  refine .inl ?_
  unfold Oper.wp execOp
  simp only [ho, resolve, invoke, builtin, Sem.run_bind, Sem.run_pure, Result.andThen_ok, List.map_toArray, List.map_cons, List.map_nil, hs, hx, hr]
  exact h
theorem own_one22 (W : World) (x : UInt8) : (W.alloc (.cells #[.int .u8 (x.toNat : Int)] 5)).ownsRow W.heap.size 5 1 (.slice (some ⟨W.heap.size, 0, none⟩) 1 1) [x].length (vals [x]) := own_one W W.heap.size (Nat.le_refl _) x
/-- append([]byte{x}, s...), as a run. -/
theorem append_one (W : World) (x : UInt8) (y : Int) (hy : y = (x.toNat : Int)) (n₀ : Nat) (bs : List UInt8) (A : Option Addr) (c : Nat) (hh : Holds8 n₀ W A bs) (hn : n₀ ≤ W.heap.size) (hl : bs.length ≤ 1000000) :
    ∃ X cx W', (Builtin.append_ #[22, 22] 22 #[.slice (some ⟨W.heap.size, 0, none⟩) 1 1, .slice A bs.length c]).run Try.prog (W.alloc (.cells #[.int .u8 y] 5)) = .ok (.slice X (bs.length + 1) cx) W' ∧ Holds8 W'.heap.size W' X (x :: bs) ∧ Below W.heap.size W W' := by
  subst hy
  have hb := (Below.refl W.heap.size W).alloc (Nat.le_refl _) (.cells #[.int .u8 (x.toNat : Int)] 5)
  obtain ⟨v', w', hr, h2, h3, h4⟩ := append_any (W.alloc (.cells #[.int .u8 (x.toNat : Int)] 5)) 22 W.heap.size n₀ _ [x] bs (own_one22 W x) A c (.inl (hh.below (hb.mono hn) (Nat.le_refl _))) (by simp; omega) hb.size
  obtain ⟨X, cx, rfl, hx, _⟩ := own_open h2
  refine ⟨X, cx, w', by rw [hr]; simp [Nat.add_comm], hx, hb.grown h3 hb.size (fun r e => own_row_ge (own_one22 W x) r e)⟩
set_option maxRecDepth 100000 in
set_option maxHeartbeats 4000000 in
theorem opsBurnt_walk (bs : List UInt8) (A : Option Addr) (c : Nat) (w : World) (h : Holds8 w.heap.size w A bs) :
    Calls Try.prog 8 #[.slice A bs.length c] w fun e w' => e = .returned (.bool true) ∧ Below w.heap.size w w' := by
  by_cases hbig : 1000 < bs.length
  · have d1 : (1000 : Int) < (bs.length : Int) := by omega
    clear hbig h
    go_enter Try.func8, Try.ntmps8
    go_wp2_with (go_at_call 26; refine (alive_any _).mono ?_; rintro e w1 ⟨rfl, hb1⟩)
    go_ret
    exact ⟨rfl, hb1⟩
  · have d0 : decide ((1000 : Int) < (bs.length : Int)) = false := by simp; omega
    have hl : bs.length ≤ 1000 := by omega
    have H := Lib.hid h
    clear h hbig
    have hv1 : burntB (106 :: bs) = true := by unfold burntB; simp [headB]
    have hv2 : burntB (97 :: bs) = decide (520 ≤ bs.length) := by
      show (decide (520 < (97 :: bs).length) || ((97 : UInt8) == 106)) = _
      rw [show ((97 : UInt8) == 106) = false from rfl, Bool.or_false, List.length_cons]
      simp only [decide_eq_decide]
      omega
    have hv3 : burntB bs = (decide (520 < bs.length) || headB bs) := rfl
    rcases Nat.lt_trichotomy bs.length 520 with hcase | hcase | hcase
    · cases hh : headB bs with
      | true =>
        have HV1 := Lib.hid hv1
        have HV2 := Lib.hid (show burntB (97 :: bs) = false by rw [hv2]; simp; omega)
        have HH := Lib.hid (show headB bs = true from hh)
        have HV3 := Lib.hid (show burntB bs = true by rw [hv3, hh]; simp; try omega)
        have d2 : decide ((520 : Int) ≤ (bs.length : Int)) = false := by simp; omega
        have d3 : decide ((520 : Int) < (bs.length : Int)) = false := by simp; omega
        clear hv1 hv2 hv3 hh hcase
        go_enter Try.func8, Try.ntmps8
        go_wp2_with (first
          | (go_at_call 26; refine (alive_any _).mono ?_; rintro e w1 ⟨rfl, hb1⟩; have h1 := H.out.below hb1 (Nat.le_refl _); have est := str_of h1 c; have HPF := Lib.hid (hasPrefix_any bs w1); obtain ⟨X1, c1, W1, ha1, hx1, hbw1⟩ := append_one w1 106 106 rfl w.heap.size bs A c h1 hb1.size (by omega); have HB1 := Lib.hid (burnt_any (106 :: bs) (bs.length + 1) rfl X1 c1 W1.heap.size W1 hx1); have hb1W := hb1.trans (hbw1.mono hb1.size); have h2 := H.out.below hb1W (Nat.le_refl _); obtain ⟨X2, c2, W2, ha2, hx2, hbw2⟩ := append_one W1 97 97 rfl w.heap.size bs A c h2 hb1W.size (by omega); have HB2 := Lib.hid (burnt_any (97 :: bs) (bs.length + 1) rfl X2 c2 W2.heap.size W2 hx2); have hb2W := hb1W.trans (hbw2.mono hb1W.size); have HB3 := Lib.hid (burnt_any bs bs.length rfl A c w.heap.size W2 (H.out.below hb2W (Nat.le_refl _))); have HBW := Lib.hid hb2W; rw [HV1.out] at HB1; rw [HV2.out] at HB2; rw [HV3.out] at HB3; rw [HH.out] at HPF; clear h1 hx1 hbw1 hb1W h2 hx2 hbw2 hb2W hb1)
          | (at_builtin; refine wpList_append_run (.tmp 19) (.tmp 20) 22 rfl (by rfl) _ _ rfl rfl _ _ ha1 ?_; clear ha1)
          | (at_builtin; refine wpList_append_run (.tmp 25) (.tmp 26) 22 rfl (by rfl) _ _ rfl rfl _ _ ha2 ?_; clear ha2)
          | (go_at_call 27; refine HPF.out.mono ?_; rintro e w3 ⟨rfl, rfl⟩)
          | (go_at_call 14; (with_reducible refine HB1.out.mono ?_); rintro e w4 ⟨rfl, rfl⟩; clear HB1)
          | (go_at_call 14; (with_reducible refine HB2.out.mono ?_); rintro e w5 ⟨rfl, rfl⟩; clear HB2)
          | (go_at_call 14; (with_reducible refine HB3.out.mono ?_); rintro e w6 ⟨rfl, rfl⟩; clear HB3))
        go_ret
        exact ⟨rfl, HBW.out⟩
      | false =>
        have HV1 := Lib.hid hv1
        have HV2 := Lib.hid (show burntB (97 :: bs) = false by rw [hv2]; simp; omega)
        have HH := Lib.hid (show headB bs = false from hh)
        have HV3 := Lib.hid (show burntB bs = false by rw [hv3, hh]; simp; try omega)
        have d2 : decide ((520 : Int) ≤ (bs.length : Int)) = false := by simp; omega
        have d3 : decide ((520 : Int) < (bs.length : Int)) = false := by simp; omega
        clear hv1 hv2 hv3 hh hcase
        go_enter Try.func8, Try.ntmps8
        go_wp2_with (first
          | (go_at_call 26; refine (alive_any _).mono ?_; rintro e w1 ⟨rfl, hb1⟩; have h1 := H.out.below hb1 (Nat.le_refl _); have est := str_of h1 c; have HPF := Lib.hid (hasPrefix_any bs w1); obtain ⟨X1, c1, W1, ha1, hx1, hbw1⟩ := append_one w1 106 106 rfl w.heap.size bs A c h1 hb1.size (by omega); have HB1 := Lib.hid (burnt_any (106 :: bs) (bs.length + 1) rfl X1 c1 W1.heap.size W1 hx1); have hb1W := hb1.trans (hbw1.mono hb1.size); have h2 := H.out.below hb1W (Nat.le_refl _); obtain ⟨X2, c2, W2, ha2, hx2, hbw2⟩ := append_one W1 97 97 rfl w.heap.size bs A c h2 hb1W.size (by omega); have HB2 := Lib.hid (burnt_any (97 :: bs) (bs.length + 1) rfl X2 c2 W2.heap.size W2 hx2); have hb2W := hb1W.trans (hbw2.mono hb1W.size); have HB3 := Lib.hid (burnt_any bs bs.length rfl A c w.heap.size W2 (H.out.below hb2W (Nat.le_refl _))); have HBW := Lib.hid hb2W; rw [HV1.out] at HB1; rw [HV2.out] at HB2; rw [HV3.out] at HB3; rw [HH.out] at HPF; clear h1 hx1 hbw1 hb1W h2 hx2 hbw2 hb2W hb1)
          | (at_builtin; refine wpList_append_run (.tmp 19) (.tmp 20) 22 rfl (by rfl) _ _ rfl rfl _ _ ha1 ?_; clear ha1)
          | (at_builtin; refine wpList_append_run (.tmp 25) (.tmp 26) 22 rfl (by rfl) _ _ rfl rfl _ _ ha2 ?_; clear ha2)
          | (go_at_call 27; refine HPF.out.mono ?_; rintro e w3 ⟨rfl, rfl⟩)
          | (go_at_call 14; (with_reducible refine HB1.out.mono ?_); rintro e w4 ⟨rfl, rfl⟩; clear HB1)
          | (go_at_call 14; (with_reducible refine HB2.out.mono ?_); rintro e w5 ⟨rfl, rfl⟩; clear HB2)
          | (go_at_call 14; (with_reducible refine HB3.out.mono ?_); rintro e w6 ⟨rfl, rfl⟩; clear HB3))
        go_ret
        exact ⟨rfl, HBW.out⟩
    · cases hh : headB bs with
      | true =>
        have HV1 := Lib.hid hv1
        have HV2 := Lib.hid (show burntB (97 :: bs) = true by rw [hv2]; simp; omega)
        have HH := Lib.hid (show headB bs = true from hh)
        have HV3 := Lib.hid (show burntB bs = true by rw [hv3, hh]; simp; try omega)
        have d2 : (520 : Int) ≤ (bs.length : Int) := by omega
        have d3 : decide ((520 : Int) < (bs.length : Int)) = false := by simp; omega
        clear hv1 hv2 hv3 hh hcase
        go_enter Try.func8, Try.ntmps8
        go_wp2_with (first
          | (go_at_call 26; refine (alive_any _).mono ?_; rintro e w1 ⟨rfl, hb1⟩; have h1 := H.out.below hb1 (Nat.le_refl _); have est := str_of h1 c; have HPF := Lib.hid (hasPrefix_any bs w1); obtain ⟨X1, c1, W1, ha1, hx1, hbw1⟩ := append_one w1 106 106 rfl w.heap.size bs A c h1 hb1.size (by omega); have HB1 := Lib.hid (burnt_any (106 :: bs) (bs.length + 1) rfl X1 c1 W1.heap.size W1 hx1); have hb1W := hb1.trans (hbw1.mono hb1.size); have h2 := H.out.below hb1W (Nat.le_refl _); obtain ⟨X2, c2, W2, ha2, hx2, hbw2⟩ := append_one W1 97 97 rfl w.heap.size bs A c h2 hb1W.size (by omega); have HB2 := Lib.hid (burnt_any (97 :: bs) (bs.length + 1) rfl X2 c2 W2.heap.size W2 hx2); have hb2W := hb1W.trans (hbw2.mono hb1W.size); have HB3 := Lib.hid (burnt_any bs bs.length rfl A c w.heap.size W2 (H.out.below hb2W (Nat.le_refl _))); have HBW := Lib.hid hb2W; rw [HV1.out] at HB1; rw [HV2.out] at HB2; rw [HV3.out] at HB3; rw [HH.out] at HPF; clear h1 hx1 hbw1 hb1W h2 hx2 hbw2 hb2W hb1)
          | (at_builtin; refine wpList_append_run (.tmp 19) (.tmp 20) 22 rfl (by rfl) _ _ rfl rfl _ _ ha1 ?_; clear ha1)
          | (at_builtin; refine wpList_append_run (.tmp 25) (.tmp 26) 22 rfl (by rfl) _ _ rfl rfl _ _ ha2 ?_; clear ha2)
          | (go_at_call 27; refine HPF.out.mono ?_; rintro e w3 ⟨rfl, rfl⟩)
          | (go_at_call 14; (with_reducible refine HB1.out.mono ?_); rintro e w4 ⟨rfl, rfl⟩; clear HB1)
          | (go_at_call 14; (with_reducible refine HB2.out.mono ?_); rintro e w5 ⟨rfl, rfl⟩; clear HB2)
          | (go_at_call 14; (with_reducible refine HB3.out.mono ?_); rintro e w6 ⟨rfl, rfl⟩; clear HB3))
        go_ret
        exact ⟨rfl, HBW.out⟩
      | false =>
        have HV1 := Lib.hid hv1
        have HV2 := Lib.hid (show burntB (97 :: bs) = true by rw [hv2]; simp; omega)
        have HH := Lib.hid (show headB bs = false from hh)
        have HV3 := Lib.hid (show burntB bs = false by rw [hv3, hh]; simp; try omega)
        have d2 : (520 : Int) ≤ (bs.length : Int) := by omega
        have d3 : decide ((520 : Int) < (bs.length : Int)) = false := by simp; omega
        clear hv1 hv2 hv3 hh hcase
        go_enter Try.func8, Try.ntmps8
        go_wp2_with (first
          | (go_at_call 26; refine (alive_any _).mono ?_; rintro e w1 ⟨rfl, hb1⟩; have h1 := H.out.below hb1 (Nat.le_refl _); have est := str_of h1 c; have HPF := Lib.hid (hasPrefix_any bs w1); obtain ⟨X1, c1, W1, ha1, hx1, hbw1⟩ := append_one w1 106 106 rfl w.heap.size bs A c h1 hb1.size (by omega); have HB1 := Lib.hid (burnt_any (106 :: bs) (bs.length + 1) rfl X1 c1 W1.heap.size W1 hx1); have hb1W := hb1.trans (hbw1.mono hb1.size); have h2 := H.out.below hb1W (Nat.le_refl _); obtain ⟨X2, c2, W2, ha2, hx2, hbw2⟩ := append_one W1 97 97 rfl w.heap.size bs A c h2 hb1W.size (by omega); have HB2 := Lib.hid (burnt_any (97 :: bs) (bs.length + 1) rfl X2 c2 W2.heap.size W2 hx2); have hb2W := hb1W.trans (hbw2.mono hb1W.size); have HB3 := Lib.hid (burnt_any bs bs.length rfl A c w.heap.size W2 (H.out.below hb2W (Nat.le_refl _))); have HBW := Lib.hid hb2W; rw [HV1.out] at HB1; rw [HV2.out] at HB2; rw [HV3.out] at HB3; rw [HH.out] at HPF; clear h1 hx1 hbw1 hb1W h2 hx2 hbw2 hb2W hb1)
          | (at_builtin; refine wpList_append_run (.tmp 19) (.tmp 20) 22 rfl (by rfl) _ _ rfl rfl _ _ ha1 ?_; clear ha1)
          | (at_builtin; refine wpList_append_run (.tmp 25) (.tmp 26) 22 rfl (by rfl) _ _ rfl rfl _ _ ha2 ?_; clear ha2)
          | (go_at_call 27; refine HPF.out.mono ?_; rintro e w3 ⟨rfl, rfl⟩)
          | (go_at_call 14; (with_reducible refine HB1.out.mono ?_); rintro e w4 ⟨rfl, rfl⟩; clear HB1)
          | (go_at_call 14; (with_reducible refine HB2.out.mono ?_); rintro e w5 ⟨rfl, rfl⟩; clear HB2)
          | (go_at_call 14; (with_reducible refine HB3.out.mono ?_); rintro e w6 ⟨rfl, rfl⟩; clear HB3))
        go_ret
        exact ⟨rfl, HBW.out⟩
    · cases hh : headB bs with
      | true =>
        have HV1 := Lib.hid hv1
        have HV2 := Lib.hid (show burntB (97 :: bs) = true by rw [hv2]; simp; omega)
        have HH := Lib.hid (show headB bs = true from hh)
        have HV3 := Lib.hid (show burntB bs = true by rw [hv3, hh]; simp; try omega)
        have d2 : (520 : Int) ≤ (bs.length : Int) := by omega
        have d3 : (520 : Int) < (bs.length : Int) := by omega
        clear hv1 hv2 hv3 hh hcase
        go_enter Try.func8, Try.ntmps8
        go_wp2_with (first
          | (go_at_call 26; refine (alive_any _).mono ?_; rintro e w1 ⟨rfl, hb1⟩; have h1 := H.out.below hb1 (Nat.le_refl _); have est := str_of h1 c; have HPF := Lib.hid (hasPrefix_any bs w1); obtain ⟨X1, c1, W1, ha1, hx1, hbw1⟩ := append_one w1 106 106 rfl w.heap.size bs A c h1 hb1.size (by omega); have HB1 := Lib.hid (burnt_any (106 :: bs) (bs.length + 1) rfl X1 c1 W1.heap.size W1 hx1); have hb1W := hb1.trans (hbw1.mono hb1.size); have h2 := H.out.below hb1W (Nat.le_refl _); obtain ⟨X2, c2, W2, ha2, hx2, hbw2⟩ := append_one W1 97 97 rfl w.heap.size bs A c h2 hb1W.size (by omega); have HB2 := Lib.hid (burnt_any (97 :: bs) (bs.length + 1) rfl X2 c2 W2.heap.size W2 hx2); have hb2W := hb1W.trans (hbw2.mono hb1W.size); have HB3 := Lib.hid (burnt_any bs bs.length rfl A c w.heap.size W2 (H.out.below hb2W (Nat.le_refl _))); have HBW := Lib.hid hb2W; rw [HV1.out] at HB1; rw [HV2.out] at HB2; rw [HV3.out] at HB3; rw [HH.out] at HPF; clear h1 hx1 hbw1 hb1W h2 hx2 hbw2 hb2W hb1)
          | (at_builtin; refine wpList_append_run (.tmp 19) (.tmp 20) 22 rfl (by rfl) _ _ rfl rfl _ _ ha1 ?_; clear ha1)
          | (at_builtin; refine wpList_append_run (.tmp 25) (.tmp 26) 22 rfl (by rfl) _ _ rfl rfl _ _ ha2 ?_; clear ha2)
          | (go_at_call 27; refine HPF.out.mono ?_; rintro e w3 ⟨rfl, rfl⟩)
          | (go_at_call 14; (with_reducible refine HB1.out.mono ?_); rintro e w4 ⟨rfl, rfl⟩; clear HB1)
          | (go_at_call 14; (with_reducible refine HB2.out.mono ?_); rintro e w5 ⟨rfl, rfl⟩; clear HB2)
          | (go_at_call 14; (with_reducible refine HB3.out.mono ?_); rintro e w6 ⟨rfl, rfl⟩; clear HB3))
        go_ret
        exact ⟨rfl, HBW.out⟩
      | false =>
        have HV1 := Lib.hid hv1
        have HV2 := Lib.hid (show burntB (97 :: bs) = true by rw [hv2]; simp; omega)
        have HH := Lib.hid (show headB bs = false from hh)
        have HV3 := Lib.hid (show burntB bs = true by rw [hv3, hh]; simp; try omega)
        have d2 : (520 : Int) ≤ (bs.length : Int) := by omega
        have d3 : (520 : Int) < (bs.length : Int) := by omega
        clear hv1 hv2 hv3 hh hcase
        go_enter Try.func8, Try.ntmps8
        go_wp2_with (first
          | (go_at_call 26; refine (alive_any _).mono ?_; rintro e w1 ⟨rfl, hb1⟩; have h1 := H.out.below hb1 (Nat.le_refl _); have est := str_of h1 c; have HPF := Lib.hid (hasPrefix_any bs w1); obtain ⟨X1, c1, W1, ha1, hx1, hbw1⟩ := append_one w1 106 106 rfl w.heap.size bs A c h1 hb1.size (by omega); have HB1 := Lib.hid (burnt_any (106 :: bs) (bs.length + 1) rfl X1 c1 W1.heap.size W1 hx1); have hb1W := hb1.trans (hbw1.mono hb1.size); have h2 := H.out.below hb1W (Nat.le_refl _); obtain ⟨X2, c2, W2, ha2, hx2, hbw2⟩ := append_one W1 97 97 rfl w.heap.size bs A c h2 hb1W.size (by omega); have HB2 := Lib.hid (burnt_any (97 :: bs) (bs.length + 1) rfl X2 c2 W2.heap.size W2 hx2); have hb2W := hb1W.trans (hbw2.mono hb1W.size); have HB3 := Lib.hid (burnt_any bs bs.length rfl A c w.heap.size W2 (H.out.below hb2W (Nat.le_refl _))); have HBW := Lib.hid hb2W; rw [HV1.out] at HB1; rw [HV2.out] at HB2; rw [HV3.out] at HB3; rw [HH.out] at HPF; clear h1 hx1 hbw1 hb1W h2 hx2 hbw2 hb2W hb1)
          | (at_builtin; refine wpList_append_run (.tmp 19) (.tmp 20) 22 rfl (by rfl) _ _ rfl rfl _ _ ha1 ?_; clear ha1)
          | (at_builtin; refine wpList_append_run (.tmp 25) (.tmp 26) 22 rfl (by rfl) _ _ rfl rfl _ _ ha2 ?_; clear ha2)
          | (go_at_call 27; refine HPF.out.mono ?_; rintro e w3 ⟨rfl, rfl⟩)
          | (go_at_call 14; (with_reducible refine HB1.out.mono ?_); rintro e w4 ⟨rfl, rfl⟩; clear HB1)
          | (go_at_call 14; (with_reducible refine HB2.out.mono ?_); rintro e w5 ⟨rfl, rfl⟩; clear HB2)
          | (go_at_call 14; (with_reducible refine HB3.out.mono ?_); rintro e w6 ⟨rfl, rfl⟩; clear HB3))
        go_ret
        exact ⟨rfl, HBW.out⟩
set_option maxRecDepth 100000 in
theorem burnt_lifted (os : Os) (started : os.Started) (H : Type) (enc : TypeId × Value → H) :
    ReturnsInHanded {} Try.checked os 8 .any (Rows.opsBurntSpec.pre6 enc Try.prog Try.f8 Rows.opsBurntRow.domain false) (Rows.opsBurntSpec.post enc Try.prog Try.f8 false true false false) := by
  refine returnsInHanded_of_change (C := Try.checked) own started (by kernel_rfl) Try.func8
    (ChangeSpec.witness6 (enc := enc) (C := Try.checked) false ⟨#[], #[.slice none 0 0], []⟩ 8 (by kernel_rfl) (by kernel_rfl) (by kernel_rfl) (by kernel_rfl)) ?_
  intro W base args ds gs before hval0 hW hcnd _
  have hval : ∀ (j : Nat) t v, Try.f8.params[j]? = some t → args[j]? = some v → Value.okWide Try.prog W .any base t v := hval0
  have hW' := hW
  obtain ⟨p, q, hA0, hV, rfl, hfz, hnd⟩ := hW
  have hA : DataW.TrodAll enc Try.prog W 0 (fun _ => true) true Try.f8.params.toList args.toList ds p := hA0
  rw [Try.params8] at hA hval
  obtain ⟨v0, vs0, d0, ds0, p0, q0, hargs, rfl, rfl, h0, r0⟩ := trodAll_cons hA
  obtain ⟨rfl, rfl, rfl⟩ := trodAll_nil r0
  obtain rfl : args = #[v0] := by cases args; simp_all
  obtain ⟨rfl, rfl⟩ := trodVars_none hV
  have k0 := h0
  have lt0 : ∀ x ∈ p0, x.block < W.heap.size := by obtain ⟨m, hm⟩ := k0; exact DataW.trod_lt m _ _ _ hm
  obtain ⟨A0, bs0, cap0, rfl, hh0, hlen0, hcap0⟩ := open8n (hval 0 22 v0 rfl rfl) k0
  clear hA0 hval0
  refine (opsBurnt_walk bs0 A0 cap0 W hh0).mono fun e W' ⟨he, bel⟩ => ?_
  subst he
  exact ⟨_, rfl, _, _, _, [], _, [], hW', trodAll_mk1 (shut_bool Try.underlying4 _), (trodAll_cons_mk (Below.trod laidOut (by kernel_rfl) (of_decide_eq_true (by kernel_rfl)) k0 bel lt0) trodAll_mk0), rfl, bel.frame _, fun h => by cases h⟩

theorem burnt_over : Rows.opsBurntRow.holds Try.pinned (OpenSpec.ofChange Rows.opsBurntSpec) :=
  OpenClaim.holds_of_wide 8 Try.f8 rfl rfl rfl rfl rfl rfl rfl ⟨rfl, rfl, rfl, rfl, rfl⟩ rfl rfl rfl rfl rfl (by kernel_rfl) Try.func8 (by kernel_rfl)
    (of_decide_eq_true (by kernel_rfl)) (by unfold Func.isWrapper; first | (rw [if_pos (by decide +kernel)]; kernel_rfl) | (rw [if_neg (by decide +kernel)]; exact ⟨rfl, rfl⟩))
    (fun os started H enc _ => burnt_lifted os started H enc)

/-- A script that begins with OpReturn is burnt, whatever stands behind it; one that does not is just if it is long: any script. No condition. -/
theorem burnt_proved : Rows.OpsBurntSaid := burnt_over
#print axioms burnt_proved
end Go.Proofs.Ytkecldmjjhhlgaa.Oct
