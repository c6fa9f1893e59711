/- The contracts of a pen's methods. No condition beyond the memory's reach. -/
import Derived.Test.YtngkckngjobojaaOctB
import Derived.Test.YtngkckngjobojaaReg3
import Derived.Deep.RegionWith
namespace Go.Proofs.Ytngkckngjobojaa.Oct
open Go.Proofs.Ytngkckngjobojaa Go.RowKit Go.Shelf

/-- append(s, x...), as a step of a walk. -/
theorem wpList_append_bytes {ops : Array Oper} {rest : List Oper} {o : Oper} {a : Act} {Q : Exit → Act → World → Prop} {w : World} (hgd : o.guard = none) (s x : Operand)
    (ho : o.op = .call { callee := .builtin .append, args := #[s, x], argTypes := #[25, 25] }) (base n₀ : Nat) (v : Value) (xs bs : List UInt8) (hs : a.eval s = v) (hown : w.ownsRow base 5 1 v xs.length (vals xs))
    (A : Option Addr) (c : Nat) (hx : a.eval x = .slice A bs.length c) (hh : Holds8 n₀ w A bs) (hl : xs.length + bs.length ≤ 140737488355328) (hbase : base ≤ w.heap.size)
    (h : ∀ v' w', w'.ownsRow base 5 1 v' (xs ++ bs).length (vals (xs ++ bs)) → w.grownBy w' v.ownBlock → (v'.ownBlock = v.ownBlock ∨ v'.ownBlock = some w.heap.size) → wpList Try.prog ops Q rest (a.put o.dst v') w') : wpList Try.prog ops Q (o :: rest) a w := by
  obtain ⟨v', w', hr, h2, h3, h4⟩ := append_run w o.type base n₀ v xs bs hown A c hh hl hbase
  refine wpList_plain hgd fun K hK => ?_
  unfold Oper.wp execOp
  simp only [ho, resolve, invoke, builtin, Sem.run_bind, Sem.run_pure, Result.andThen_ok, List.map_toArray, List.map_cons, List.map_nil, hs, hx, hr]
  exact hK _ _ (h v' w' h2 h3 h4)
/-- One byte, laid in a block of its own. -/
theorem holds_one (w : World) (y : UInt8) : Holds8 (w.alloc (.cells #[.int .u8 (y.toNat : Int)] 5)).heap.size (w.alloc (.cells #[.int .u8 (y.toNat : Int)] 5)) (some ⟨w.heap.size, 0, none⟩) [y] := by
  refine .inr ⟨w.heap.size, 0, rfl, by simp, fun j hj => ?_⟩
  have : j = 0 := by simpa using hj
  subst this
  rw [cell_of_row _ _ _ _ _ _ (heap_alloc_new w _)]
  rfl
/-- A pen's cell, behind its row has grown. -/
theorem pen_cell_kept {b : Nat} {W W1 W2 : World} {v : Value} (hh : W.heap[b]? = some (.cells #[v] 27 (0, 0))) (hne : v.ownBlock ≠ some b) (hl : Below W.heap.size W W1) (hgr : W1.grownBy W2 v.ownBlock) :
    W2.cell? ⟨b, 0, none⟩ = some v ∧ W2.frozen? ⟨b, 0, none⟩ = false := by
  have hb : b < W.heap.size := (Array.getElem?_eq_some_iff.1 hh).1
  have h2 : W2.heap[b]? = some (.cells #[v] 27 (0, 0)) := by rw [hgr.block b (Nat.lt_of_lt_of_le hb hl.size) (fun e => hne e.symm), hl.block b hb]; exact hh
  constructor
  · rw [cell_of_row _ _ _ _ _ _ h2]
    rfl
  · unfold World.frozen?
    simp only [h2]
    simp

set_option maxRecDepth 100000 in
set_option maxHeartbeats 2000000 in
theorem fixed_any (base b : Nat) (bs : List UInt8) (s x : Nat) (hs : s ≤ 8) (hx : x < 18446744073709551616) (w : World) (hp : PenAt base w b bs) (hl : bs.length + s ≤ 100000000000000) (hbase : base ≤ w.heap.size) :
    Calls Try.prog 43 #[.pointer (some ⟨b, 0, none⟩), .int .i64 (s : Int), .int .u64 (x : Int)] w fun e w' => (∃ v, e = .returned v) ∧ PenAt base w' b (bs ++ leB s x) ∧ PenStep b w w' := by
  go_enter Try.func43, Try.ntmps43
  go_wp2
  go_loopw [2, 7] (fun n i wr => ∃ k : Nat, k ≤ s ∧ i = .int .i64 (k : Int) ∧ n = .int .u64 ((x / 256 ^ k : Nat) : Int) ∧ PenAt base wr b (bs ++ leB k x) ∧ PenStep b w wr) (fun _ i _ => s - (intOf i).toNat)
  case atStart => exact ⟨0, Nat.zero_le _, rfl, by simp, by simpa [leB] using hp, PenStep.refl _ _⟩
  case round =>
    obtain ⟨k, hk, rfl, rfl, hpk, hst⟩ := hrel
    by_cases hlt : k < s
    · obtain ⟨m, hm⟩ : ∃ m, x / 256 ^ k = m := ⟨_, rfl⟩
      have hm2 : m < 18446744073709551616 := by rw [← hm]; exact Nat.lt_of_le_of_lt (Nat.div_le_self _ _) hx
      obtain ⟨ys, hys⟩ : ∃ ys, bs ++ leB k x = ys := ⟨_, rfl⟩
      have HM := Lib.hid hm
      have HYS := Lib.hid hys
      rw [hm]
      rw [hys] at hpk
      clear hm hys
      obtain ⟨hgb, v0, hheap, hrow, hne⟩ := hpk
      obtain ⟨A, c, rfl, _, _⟩ := own_holds rfl hrow
      have hcell : wr.cell? ⟨b, 0, none⟩ = some (.slice A ys.length c) := by rw [cell_of_row _ _ _ _ _ _ hheap]; rfl
      obtain ⟨y, hy⟩ : ∃ y, UInt8.ofNat (m % 256) = y := ⟨_, rfl⟩
      have e1 : (m : Int) % 256 = (y.toNat : Int) := by rw [← hy, UInt8.toNat_ofNat']; omega
      have hyl : ys.length + 1 ≤ 100000000000000 := by have := HYS.out; rw [← this, List.length_append, leB_length]; omega
      have HX := Lib.hid (show bs ++ leB (k + 1) x = ys ++ [y] by rw [leB_snoc, ← List.append_assoc, HYS.out, HM.out, hy])
      have HM2 := Lib.hid (show x / 256 ^ (k + 1) = m / 256 by rw [Nat.pow_succ, ← Nat.div_div_eq_div_mul, HM.out])
      clear hy
      have hs0 := hst.size
      go_wp2_with (at_builtin; refine wpList_append_bytes rfl (.tmp 13) (.tmp 16) rfl base _ _ ys [y] rfl (ownsRow_below hrow ((Below.refl _ _).alloc (Nat.le_refl _) _)) (some ⟨wr.heap.size, 0, none⟩) 1 rfl (holds_one wr y) (by simp; omega) (by simp; omega) ?_; intro v' w1 hown' hgr hv; have hck := pen_cell_kept hheap hne ((Below.refl _ _).alloc (Nat.le_refl _) _) hgr; have hc1 := hck.1; have hf1 := hck.2; obtain ⟨A', c', rfl, _, _⟩ := own_holds rfl hown'; have hpp := Lib.hid (pen_put hgb hheap hrow hne ((Below.refl _ _).alloc (Nat.le_refl _) _) hgr hown' hv); clear hown' hgr hv hck)
      have hq := hpp.out
      rw [show (ys ++ [y]).length = ys.length + 1 by simp] at hq
      have HQ := Lib.hid hq
      clear hq hpp
      go_roundw
      case rel => exact ⟨k + 1, by omega, by go_num, by rw [HM2.out]; simp, by rw [HX.out]; exact HQ.out.1, hst.trans HQ.out.2⟩
      case measure => simp [intOf]; omega
    · obtain rfl : k = s := by omega
      go_wp2
      go_end0
      exact ⟨⟨_, rfl⟩, hpk, hst⟩

/-- What a pen's method leaves: the bytes xs are behind what there was; its answer. -/
def Wrote (base b : Nat) (bs xs : List UInt8) (r : Int) (w : World) (e : Ending) (w' : World) : Prop := e = .returned (.int .i64 r) ∧ PenAt base w' b (bs ++ xs) ∧ PenStep b w w'
def fixedE (s : Int) (x : Nat) : Int := if sizeOkB s = true then (if 256 ^ s.toNat ≤ x then 10 else 0) else 2
def fixedB (s : Int) (x : Nat) : List UInt8 := if sizeOkB s = true then (if 256 ^ s.toNat ≤ x then [] else leB s.toNat x) else []
theorem sizeOk_cases {s : Int} (h : sizeOkB s = true) : ∃ k : Nat, s = (k : Int) ∧ (k = 1 ∨ k = 2 ∨ k = 4 ∨ k = 8) := by
  unfold sizeOkB at h
  simp only [Bool.or_eq_true, beq_iff_eq] at h
  refine ⟨s.toNat, by omega, by omega⟩
theorem penFixed_any (base b : Nat) (bs : List UInt8) (s : Int) (x : Nat) (hx : x < 18446744073709551616) (w : World) (hp : PenAt base w b bs) (hl : bs.length + 8 ≤ 100000000000000) (hbase : base ≤ w.heap.size) :
    Calls Try.prog 27 #[.pointer (some ⟨b, 0, none⟩), .int .i64 s, .int .u64 (x : Int)] w (Wrote base b bs (fixedB s x) (fixedE s x) w) := by
  have his := isSize_any s
  cases hok : sizeOkB s with
  | false =>
    have HE := Lib.hid (show fixedE s x = 2 by unfold fixedE; rw [hok]; rfl)
    have HB := Lib.hid (show fixedB s x = [] by unfold fixedB; rw [hok]; rfl)
    rw [hok] at his
    clear hok
    go_enter Try.func27, Try.ntmps27
    go_wp2_with (go_at_call 39; refine (his _).mono ?_; rintro e w1 ⟨rfl, rfl⟩)
    go_ret
    exact ⟨by rw [HE.out]; rfl, by rw [HB.out, List.append_nil]; exact hp, PenStep.refl _ _⟩
  | true =>
    obtain ⟨k, rfl, hk⟩ := sizeOk_cases hok
    rw [hok] at his
    have hwd := width_any x hx
    have hgt := width_gt x k hk hx
    obtain ⟨W, hW⟩ : ∃ W, wid x = W := ⟨_, rfl⟩
    rw [hW] at hwd hgt
    clear hW
    by_cases hbig : 256 ^ k ≤ x
    · have HE := Lib.hid (show fixedE k x = 10 by unfold fixedE; rw [hok, if_pos rfl, if_pos (by simpa using hbig)])
      have HB := Lib.hid (show fixedB k x = [] by unfold fixedB; rw [hok, if_pos rfl, if_pos (by simpa using hbig)])
      have i1 : k < W := hgt.2 hbig
      clear hok hgt hbig
      go_enter Try.func27, Try.ntmps27
      go_wp2_with (first
        | (go_at_call 39; refine (his _).mono ?_; rintro e w1 ⟨rfl, rfl⟩)
        | (go_at_call 37; refine (hwd _).mono ?_; rintro e w1 ⟨rfl, hb1⟩))
      go_ret
      exact ⟨by rw [HE.out]; rfl, by rw [HB.out, List.append_nil]; exact hp.below hb1, PenStep.of_below hp.lt hb1⟩
    · have HE := Lib.hid (show fixedE k x = 0 by unfold fixedE; rw [hok, if_pos rfl, if_neg (by simpa using hbig)])
      have HB := Lib.hid (show fixedB k x = leB k x by unfold fixedB; rw [hok, if_pos rfl, if_neg (by simpa using hbig)]; simp)
      have i1 : decide (k < W) = false := by
        simp only [decide_eq_false_iff_not]
        intro h
        exact hbig (hgt.1 h)
      have hk8 : k ≤ 8 := by omega
      clear hok hgt hbig
      go_enter Try.func27, Try.ntmps27
      go_wp2_with (first
        | (go_at_call 39; refine (his _).mono ?_; rintro e w1 ⟨rfl, rfl⟩)
        | (go_at_call 37; refine (hwd _).mono ?_; rintro e w1 ⟨rfl, hb1⟩)
        | (go_at_call 43; refine (fixed_any base b bs k x hk8 hx _ (hp.below hb1) (by omega) (by have := hb1.size; omega)).mono ?_; rintro e w2 ⟨⟨v, rfl⟩, hp2, hs2⟩))
      go_ret
      exact ⟨by rw [HE.out]; rfl, by rw [HB.out]; exact hp2, (PenStep.of_below hp.lt hb1).trans hs2⟩
end Go.Proofs.Ytngkckngjobojaa.Oct
