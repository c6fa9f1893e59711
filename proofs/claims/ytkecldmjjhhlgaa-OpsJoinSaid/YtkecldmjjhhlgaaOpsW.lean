/- The contract of the reference's Same. No condition beyond the memory's reach. -/
import Derived.Test.YtkecldmjjhhlgaaOpsU
import Derived.Test.YtkecldmjjhhlgaaOctV
import Derived.Deep.QuietTactic
import Derived.BigQuiet
namespace Go.Proofs.Ytkecldmjjhhlgaa.Oct
open Go.Proofs.Ytkecldmjjhhlgaa Go.RowKit Go.Shelf
theorem str_ne {x y : List UInt8} (h : x ≠ y) : (⟨x.toArray⟩ : ByteArray) ≠ ⟨y.toArray⟩ := by
  intro e
  injection e with e
  exact h (by simpa using congrArg Array.toList e)
theorem str_beq (S T : ByteArray) (h : S ≠ T) : (S == T) = false := by
  cases S; cases T
  rename_i a b
  have h2 : a ≠ b := fun e => h (by rw [e])
  show (a == b) = false
  rw [beq_eq_false_iff_ne]
  exact h2
theorem str_list (S T : ByteArray) (h : S ≠ T) : (S.toList == T.toList) = false := by
  rw [beq_eq_false_iff_ne]
  intro e
  rw [ByteArray.toList_eq, ByteArray.toList_eq] at e
  exact h (ByteArray.ext (Array.toList_inj.1 e))
theorem str_bne (S T : ByteArray) (h : S ≠ T) : (S != T) = true := by
  unfold bne
  rw [str_beq S T h]
  rfl
set_option maxRecDepth 100000 in
set_option maxHeartbeats 4000000 in
theorem refSame_any (l m : List PV) (n k : Nat) (hn : n = l.length) (hk : k = m.length) (LA MA : Option Addr) (c d n₀ : Nat) (w : World) (hl : PvsAt n₀ w LA l) (hm : PvsAt n₀ w MA m) (hn0 : n₀ ≤ w.heap.size) (hsz : l.length ≤ 1000000) :
    Calls Try.prog 11 #[.slice LA n c, .slice MA k d] w fun e w' => e = .returned (.bool (sameL l m)) ∧ Below w.heap.size w w' := by
  by_cases hlen : n = k
  · have HLEN := Lib.hid (show l.length = m.length by omega)
    have HN := Lib.hid hn
    have HL := Lib.hid hl
    have HM := Lib.hid hm
    have hn6 : n ≤ 1000000 := by omega
    subst hlen
    clear hn hk hl hm hsz
    go_enter Try.func11, Try.ntmps11
    go_wp2
    go_loopw [5] (fun i wr => ∃ q : Nat, q ≤ n ∧ i = .int .i64 (q : Int) ∧ (l.take q).map PV.is = (m.take q).map PV.is ∧ Below w.heap.size w wr) (fun i _ => n - (intOf i).toNat)
    case atStart => exact ⟨0, Nat.zero_le _, rfl, rfl, Below.refl _ _⟩
    case round =>
      obtain ⟨q, hq, rfl, heq, hB⟩ := hrel
      by_cases hlt : q < n
      · have hql : q < l.length := by rw [← HN.out]; exact hlt
        have hqm : q < m.length := by rw [← HLEN.out]; exact hql
        obtain ⟨b1, o1, rfl, hb1, c1, c2⟩ := (HL.out.later (hB.mono hn0)).cells q hql
        obtain ⟨b2, o2, rfl, hb2, d1, d2⟩ := (HM.out.later (hB.mono hn0)).cells q hqm
        have hbw1 : b1 < w.heap.size := Nat.lt_of_lt_of_le hb1 hn0
        have hs1 : (l.take (q + 1)).map PV.is = (l.take q).map PV.is ++ [l[q].is] := by rw [List.take_succ_eq_append_getElem hql, List.map_append]; rfl
        have hs2 : (m.take (q + 1)).map PV.is = (m.take q).map PV.is ++ [m[q].is] := by rw [List.take_succ_eq_append_getElem hqm, List.map_append]; rfl
        have hp1 := (HL.out.later (hB.mono hn0)).held _ (List.getElem_mem hql)
        have hp2 := (HM.out.later (hB.mono hn0)).held _ (List.getElem_mem hqm)
        have hdiff : l[q].is ≠ m[q].is → sameL l m = false := fun h => by
          unfold sameL
          rw [beq_eq_false_iff_ne]
          intro e
          have e2 : (l.map PV.is)[q]? = (m.map PV.is)[q]? := by rw [e]
          simp only [List.getElem?_map, List.getElem?_eq_getElem hql, List.getElem?_eq_getElem hqm, Option.map_some, Option.some.injEq] at e2
          exact h e2
        obtain ⟨⟨xc, xA, xb, xk⟩, hx⟩ : ∃ x, l[q] = x := ⟨_, rfl⟩
        obtain ⟨⟨yc, yA, yb, yk⟩, hy⟩ : ∃ y, m[q] = y := ⟨_, rfl⟩
        rw [hx] at c1 c2 hs1 hp1 hdiff
        rw [hy] at d1 d2 hs2 hp2 hdiff
        have hbr1 : b1 < wr.heap.size := Nat.lt_of_lt_of_le hbw1 hB.size
        have hbr2 : b2 < wr.heap.size := Nat.lt_of_lt_of_le hb2 (Nat.le_trans hn0 hB.size)
        have hnw := Nat.le_trans hn0 hB.size
        have est1 := fun j => str_bytes (hp1.below ((below_drewN wr j).mono hnw) (Nat.le_refl _)) xk
        have est2 := fun j => str_bytes (hp2.below ((below_drewN wr j).mono hnw) (Nat.le_refl _)) yk
        have HB := Lib.hid hB
        simp only at c1 c2 d1 d2 est1 est2
        have i1 : (PV.is ⟨xc, xA, xb, xk⟩) = (xc, xb) := rfl
        have i2 : (PV.is ⟨yc, yA, yb, yk⟩) = (yc, yb) := rfl
        rw [i1] at hs1 hdiff
        rw [i2] at hs2 hdiff
        obtain ⟨xn, hxn⟩ : ∃ xn, xb.length = xn := ⟨_, rfl⟩
        obtain ⟨yn, hyn⟩ : ∃ yn, yb.length = yn := ⟨_, rfl⟩
        rw [hxn] at c2
        rw [hyn] at d2
        simp only [hxn] at est1
        simp only [hyn] at est2
        by_cases hcc : xc = yc
        · subst hcc
          by_cases hbb : xb = yb
          · subst hbb
            have HEQ := Lib.hid (show (l.take (q + 1)).map PV.is = (m.take (q + 1)).map PV.is by rw [hs1, hs2, heq])
            clear hs1 hs2 heq hdiff hp1 hp2 hx hy hB i1 i2 hxn hyn
            go_wp2
            go_quiet (fail)
            go_wp2
            refine ⟨⟨q + 1, by omega, by go_num, HEQ.out, btr HB.out (below_drewN wr _) HB.out.size⟩, ?_⟩
            simp [intOf]
            omega
          · have HD := Lib.hid (hdiff (by intro e; injection e with _ e; exact hbb e))
            obtain ⟨S, hS⟩ : ∃ S : ByteArray, (⟨xb.toArray⟩ : ByteArray) = S := ⟨_, rfl⟩
            obtain ⟨T, hT⟩ : ∃ T : ByteArray, (⟨yb.toArray⟩ : ByteArray) = T := ⟨_, rfl⟩
            have hne : S ≠ T := by rw [← hS, ← hT]; exact str_ne hbb
            simp only [hS] at est1
            simp only [hT] at est2
            have hne2 : (S == T) = false := str_beq S T hne
            have hne4 := str_list S T hne
            have hne3 : (S != T) = true := str_bne S T hne
            clear hs1 hs2 heq hdiff hp1 hp2 hx hy hB i1 i2 hxn hyn hbb hS hT
            go_wp2
            go_quiet (fail)
            go_wp2
            go_ret
            exact ⟨by rw [HD.out]; rfl, btr HB.out (below_drewN wr _) HB.out.size⟩
        · have HD := Lib.hid (hdiff (by intro e; injection e with e _; exact hcc e))
          have hcn : (xc.toNat : Int) ≠ (yc.toNat : Int) := fun e => hcc (UInt8.toNat_inj.1 (by omega))
          have hc2 : ((xc.toNat : Int) == (yc.toNat : Int)) = false := by rw [beq_eq_false_iff_ne]; exact hcn
          have hc3 : ((xc.toNat : Int) != (yc.toNat : Int)) = true := by rw [bne_iff_ne]; exact hcn
          clear hs1 hs2 heq hdiff hp1 hp2 hx hy hB i1 i2 hxn hyn hcc hcn
          go_wp2
          go_quiet (fail)
          go_wp2
          go_ret
          exact ⟨by rw [HD.out]; rfl, btr HB.out (below_drewN wr _) HB.out.size⟩
      · obtain rfl : n = q := by omega
        have HS := Lib.hid (show sameL l m = true by
          rw [List.take_of_length_le (by rw [← HN.out]; exact Nat.le_refl _), List.take_of_length_le (by rw [← HLEN.out, ← HN.out]; exact Nat.le_refl _)] at heq
          exact same_true heq)
        clear heq hq hlt
        go_wp2
        go_ret
        exact ⟨by rw [HS.out]; rfl, hB⟩
  · have HS := Lib.hid (show sameL l m = false by
      unfold sameL
      rw [beq_eq_false_iff_ne]
      intro e
      have := congrArg List.length e
      rw [List.length_map, List.length_map] at this
      omega)
    have hne : ((n : Int) != (k : Int)) = true := by rw [bne_iff_ne]; omega
    clear hlen hl hm hn hk
    go_enter Try.func11, Try.ntmps11
    go_wp2
    go_ret
    exact ⟨by rw [HS.out]; rfl, Below.refl _ _⟩
end Go.Proofs.Ytkecldmjjhhlgaa.Oct
