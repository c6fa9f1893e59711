/- The bytes of a magnitude; the contract of num.magnitude. No condition. -/
import Derived.Test.YtbhopgklnddelaaRows
import Derived.Test.YtbhopgklnddelaaRng
import Derived.Shelf.Abstract
import Derived.Shelf.RegionOpen
import Derived.WalkKit
import Derived.WalkSpells
import Derived.OwnWalkIn
import Derived.TacticsInMore
import Derived.LoopNIn
import Derived.LoopIn
import Derived.Lib.Hide
import Derived.Outline
namespace Go.Proofs.Ytbhopgklnddelaa
open Go.RowKit Go.Shelf
attribute [local go_sem] Oper.semAt_some

/-- The bytes of a number, the lowest first, up to the last one that is not 0. -/
def magL (m : Nat) : List UInt8 := if h : m = 0 then [] else UInt8.ofNat (m % 256) :: magL (m / 256)
termination_by m
decreasing_by omega
theorem magL_zero : magL 0 = [] := by rw [magL]; simp
theorem magL_pos {m : Nat} (h : m ≠ 0) : magL m = UInt8.ofNat (m % 256) :: magL (m / 256) := by rw [magL]; simp [h]

def inBox (B : Nat) (W : World) : Nat := match W.cell? ⟨B, 0, none⟩ with | some (.int _ n) => n.toNat | _ => 0

set_option maxRecDepth 100000 in
set_option maxHeartbeats 2000000 in
theorem mag1_in (F : Fence) (n : Nat) (h58 : F.fn 58) (hro : F.round = none) (hn : 1 ≤ n) (l Bn m : Nat) (hm : m < 1099511627776) (J Jx : List UInt8 → World → Prop)
    (hJo : ∀ s A v, J s A → J s (A.setCell ⟨Bn, 0, none⟩ v))
    (hY : ∀ pre x W, J pre W → pre.length < 100 → YieldAt F (n - 1) Try.prog l #[.int .u8 (x.toNat : Int)] W fun e W' =>
      (e = .returned (.bool true) ∧ J (pre ++ [x]) W' ∧ W'.heap[Bn]? = W.heap[Bn]?) ∨ (e = .returned (.bool false) ∧ Jx (pre ++ [x]) W'))
    (W : World) (hB : W.heap[Bn]? = some (.cells #[.int .i64 (m : Int)] 2 (0, 0))) (h0 : J [] W) :
    CallsIn F n Try.prog 58 #[.func (.yield l) #[] #[], .pointer (some ⟨Bn, 0, none⟩)] W fun e W' => (∃ v, e = .returned v) ∧ (J (magL m) W' ∨ ∃ pre, Jx pre W') := by
  refine callsIn_of_wp Try.func58 rfl h58 ?_ hro
  simp only [Try.ntmps58, List.size_toArray, List.length_cons, List.length_nil, Nat.reduceAdd, Nat.reduceSub, Array.replicate_succ, Array.replicate_zero, List.push_toArray, List.append_toArray, List.nil_append, List.cons_append]
  gi_wp2
  gi_loopw [3] (fun _ wr => ∃ (k r : Nat) (pre : List UInt8), wr.heap[Bn]? = some (.cells #[.int .i64 (r : Int)] 2 (0, 0)) ∧ magL m = pre ++ magL r ∧ pre.length = k ∧ r * 256 ^ k ≤ m ∧ r ≤ m ∧ J pre wr)
    (fun _ wr => inBox Bn wr)
  case atStart => exact ⟨0, m, [], hB, rfl, rfl, by simp, Nat.le_refl _, h0⟩
  case round =>
    obtain ⟨k, r, pre, hb, hmag, hpl, hrk, hrm, hJ⟩ := hrel
    have hc : wr.cell? ⟨Bn, 0, none⟩ = some (.int .i64 (r : Int)) := cell_of_row wr Bn 0 _ 2 (0, 0) hb
    have hf : wr.frozen? ⟨Bn, 0, none⟩ = false := by unfold World.frozen?; simp only [hb]; rfl
    have HB := Lib.hid hb
    have HM := Lib.hid hmag
    clear hb hmag
    by_cases hr : r = 0
    · subst hr
      rw [magL_zero, List.append_nil] at HM
      gi_wp2
      go_end0
      exact ⟨⟨_, rfl⟩, .inl (by rw [HM.out]; exact hJ)⟩
    · obtain ⟨x, hx⟩ : ∃ x : UInt8, UInt8.ofNat (r % 256) = x := ⟨_, rfl⟩
      have hxi : (r : Int) % 256 = (x.toNat : Int) := by
        rw [← hx, UInt8.toNat_ofNat']
        omega
      obtain ⟨r2, hr2⟩ : ∃ r2, r / 256 = r2 := ⟨_, rfl⟩
      have hri : (r : Int) / 256 = (r2 : Int) := by omega
      rw [magL_pos hr, hx, hr2] at HM
      have hk5 : k < 100 := by
        rcases Nat.lt_or_ge k 100 with h | h
        · exact h
        · exfalso
          have h1 : 256 ^ 100 ≤ 256 ^ k := Nat.pow_le_pow_right (by decide) h
          have h2 : 1 * 256 ^ k ≤ r * 256 ^ k := Nat.mul_le_mul_right _ (by omega)
          have h3 : (1099511627776 : Nat) ≤ 256 ^ 100 := by decide +kernel
          generalize 256 ^ k = y at *
          generalize 256 ^ 100 = z at *
          omega
      have hrk2 : r2 * 256 ^ (k + 1) ≤ m := by
        rw [Nat.pow_succ, Nat.mul_comm (256 ^ k) 256, ← Nat.mul_assoc]
        exact Nat.le_trans (Nat.mul_le_mul_right _ (by omega)) hrk
      have HK := Lib.hid hrk2
      have hlt : r2 < r := by omega
      have hm0 : inBox Bn wr = r := by unfold inBox; rw [hc]; simp
      have HM0 := Lib.hid hm0
      have HPL := Lib.hid hpl
      have hl1 : pre.length < 100 := by rw [hpl]; exact hk5
      clear hx hr2 hrk hrk2 hm0 hpl
      obtain ⟨f1, t1, a1, b1, hy, hR⟩ := hY pre x wr hJ hl1
      gi_wp2
      refine hR.mono ?_
      rintro e W3 (⟨rfl, hJ3, hk3⟩ | ⟨rfl, hJx3⟩)
      · have hb3 : W3.heap[Bn]? = some (.cells #[.int .i64 (r : Int)] 2 (0, 0)) := hk3.trans HB.out
        have hc3 : W3.cell? ⟨Bn, 0, none⟩ = some (.int .i64 (r : Int)) := cell_of_row W3 Bn 0 _ 2 (0, 0) hb3
        have hf3 : W3.frozen? ⟨Bn, 0, none⟩ = false := by unfold World.frozen?; simp only [hb3]; rfl
        have HB3 := Lib.hid hb3
        clear hk3 hb3
        gi_wp2
        have hb4 : (W3.setCell ⟨Bn, 0, none⟩ (.int .i64 (r2 : Int))).heap[Bn]? = some (.cells #[.int .i64 (r2 : Int)] 2 (0, 0)) := by
          simp [World.setCell, Array.getElem?_modify, HB3.out]
        go_roundw
        case rel => exact ⟨k + 1, r2, pre ++ [x], hb4, by rw [HM.out]; simp, by rw [List.length_append, HPL.out]; rfl, HK.out, by omega, hJo _ _ _ hJ3⟩
        case measure =>
          rw [HM0.out]
          unfold inBox
          rw [cell_of_row _ Bn 0 _ 2 (0, 0) hb4]
          simpa using hlt
      · gi_wp2
        refine bodyPost_ret (results_none rfl _ _ _) rfl ?_
        exact ⟨⟨_, rfl⟩, .inr ⟨_, hJx3⟩⟩

theorem mag_in (F : Fence) (n : Nat) (h38 : F.fn 38) (hro : F.round = none) (m : Int) (w : World) :
    CallsIn F n Try.prog 38 #[.int .i64 m] w fun e w' => e = .returned (.func (.func 58) #[] #[.pointer (some ⟨w.heap.size, 0, none⟩)]) ∧ w' = w.alloc (.cells #[.int .i64 m] 2) := by
  refine callsIn_of_wp Try.func38 rfl h38 ?_ hro
  simp only [Try.ntmps38, List.size_toArray, List.length_cons, List.length_nil, Nat.reduceAdd, Nat.reduceSub, Array.replicate_succ, Array.replicate_zero, List.push_toArray, List.append_toArray, List.nil_append, List.cons_append]
  gi_wp2
  go_ret
  exact ⟨rfl, rfl⟩

theorem mag_stops (F : Fence) (n : Nat) (h58 : F.fn 58) (hro : F.round = none) (hn : 1 ≤ n) (Bn m : Nat) (hm : m < 1099511627776) (w : World) (hlt : Bn < w.heap.size)
    (hB : w.heap[Bn]? = some (.cells #[.int .i64 (m : Int)] 2 (0, 0))) :
    SeqOwn F n Try.prog 58 #[.pointer (some ⟨Bn, 0, none⟩)] (fun x : UInt8 => #[Value.int .u8 (x.toNat : Int)]) (fun A B => ∃ v, B = A.setCell ⟨Bn, 0, none⟩ v) (fun A B => B.heap[Bn]? = A.heap[Bn]?)
      (fun ys => ys = magL m) (fun _ => True) 100 w := fun l J Jx W hW hJo hY h0 => by
  refine (mag1_in F n h58 hro hn l Bn m hm J Jx (fun s A v h => hJo s A _ h ⟨v, rfl⟩) hY W ((hW.block Bn hlt).trans hB) h0).mono ?_
  rintro e W' ⟨he, hj | ⟨pre, hj⟩⟩
  · exact ⟨he, .inl ⟨_, rfl, hj⟩⟩
  · exact ⟨he, .inr ⟨_, trivial, hj⟩⟩
end Go.Proofs.Ytbhopgklnddelaa
