/- Contracts of crc.halves and of the function that it answers. No condition beyond the memory's reach. -/
import Derived.Test.YtagcdgfdflnphaaCrcA
import Derived.RangeFuncNested
import Derived.RangeFuncBound
import Derived.RangeFuncCalls
import Derived.RangeFuncLeaves
import Derived.Shelf.Abstract
import Derived.Shelf.RegionOpen
import Derived.OwnWalkIn
import Derived.TacticsInMore
import Derived.LoopNIn
import Derived.LoopIn
namespace Go.Proofs.Ytagcdgfdflnphaa
open Go.RowKit Go.Shelf
attribute [local go_sem] Oper.semAt_some

theorem low_bits (b : UInt8) : bits .and .u8 (b.toNat : Int) 15 = ((b.toNat % 16 : Nat) : Int) := by
  have h := u8_and_nat b.toNat 15 (UInt8.toNat_lt b) (by omega)
  rw [show b.toNat &&& 15 = b.toNat % 16 from Nat.and_two_pow_sub_one_eq_mod b.toNat 4] at h
  exact h

set_option maxRecDepth 100000 in
set_option maxHeartbeats 2000000 in
/-- The function that halves answers: for every loop body that keeps what lay below n₀. -/
theorem halves1_in (F : Fence) (n : Nat) (h30 : F.fn 30) (hro : F.round = none) (hn : 1 ≤ n) (l Bs n₀ b off len cap : Nat) (bs : List UInt8) (hlen : bs.length = len) (hreach : len ≤ 140737488351232) (hb : b < n₀) (J Jx : List (Fin 16) → World → Prop)
    (hY : ∀ pre x W, J pre W → pre.length < 2 * len → YieldAt F (n - 1) Try.prog l #[.int .u32 (x.val : Int)] W fun e W' =>
      (e = .returned (.bool true) ∧ J (pre ++ [x]) W' ∧ Below n₀ W W') ∨ (e = .returned (.bool false) ∧ Jx (pre ++ [x]) W'))
    (W : World) (hBs : W.cell? ⟨Bs, 0, none⟩ = some (.slice (some ⟨b, off, none⟩) len cap)) (hc : ∀ j (h : j < len), W.cell? ⟨b, off + j, none⟩ = some (.int .u8 ((bs[j]'(hlen ▸ h)).toNat : Int))) (h0 : J [] W) :
    CallsIn F n Try.prog 30 #[.func (.yield l) #[] #[], .pointer (some ⟨Bs, 0, none⟩)] W fun e W' => (∃ v, e = .returned v) ∧ (J (hv bs) W' ∨ ∃ pre, Jx pre W') := by
  have HH := Lib.hid hlen
  refine callsIn_of_wp Try.func30 rfl h30 ?_ hro
  simp only [Try.ntmps30, List.size_toArray, List.length_cons, List.length_nil, Nat.reduceAdd, Nat.reduceSub, Array.replicate_succ, Array.replicate_zero, List.push_toArray, List.append_toArray, List.nil_append, List.cons_append]
  have HC := Lib.hid hc
  clear hc
  gi_wp2
  gi_loopw [7] (fun i wr => ∃ k : Nat, k ≤ len ∧ i = .int .i64 k ∧ J (hv (bs.take k)) wr ∧ Below n₀ W wr)
    (fun i _ => len - (intOf i).toNat)
  case atStart => exact ⟨0, Nat.zero_le _, rfl, h0, Below.refl _ _⟩
  case round =>
    obtain ⟨k, hk, rfl, hJs, hnx⟩ := hrel
    by_cases hlt : k < len
    · have hcx := (hnx.cell (p := ⟨b, off + k, none⟩) hb).trans (HC.out k hlt)
      have hlb := low_bits (bs[k]'(HH.out ▸ hlt))
      have hub := UInt8.toNat_lt (bs[k]'(HH.out ▸ hlt))
      have hsn := Lib.hid (hv_snoc bs k (HH.out ▸ hlt))
      have hL : (hv (bs.take k)).length < 2 * len := by rw [hv_length, List.length_take]; omega
      have hL2 : ∀ x, (hv (bs.take k) ++ [x]).length < 2 * len := by intro x; rw [List.length_append, hv_length, List.length_take]; simp; omega
      generalize hbv : (bs[k]'(HH.out ▸ hlt)) = c at *
      clear hbv
      obtain ⟨x1, hx1⟩ : ∃ x : Fin 16, x = ⟨c.toNat % 16, Nat.mod_lt _ (by decide)⟩ := ⟨_, rfl⟩
      obtain ⟨x2, hx2⟩ : ∃ x : Fin 16, x = ⟨c.toNat / 16 % 16, Nat.mod_lt _ (by decide)⟩ := ⟨_, rfl⟩
      have e1 : bits .and .u8 (c.toNat : Int) 15 = (x1.val : Int) := by rw [hlb, hx1]
      have e2 : (c.toNat : Int) / 16 = (x2.val : Int) := by rw [hx2]; simp; omega
      rw [← hx1, ← hx2] at hsn
      have hb1 := x1.isLt
      have hb2 := x2.isLt
      clear hlb hx1 hx2
      obtain ⟨f1, t1, a1, b1, hy1, hR1⟩ := hY _ x1 wr hJs hL
      gi_wp2
      refine hR1.mono ?_
      rintro e W3 (⟨rfl, hJ3, hk3⟩ | ⟨rfl, hJx3⟩)
      · obtain ⟨f2, t2, a2, b2, hy2, hR2⟩ := hY _ x2 W3 hJ3 (hL2 x1)
        gi_wp2
        refine hR2.mono ?_
        rintro e W4 (⟨rfl, hJ4, hk4⟩ | ⟨rfl, hJx4⟩)
        · gi_wp2
          go_roundw
          case rel => exact ⟨k + 1, by omega, by simp, by rw [hsn.out]; exact hJ4, (hnx.trans hk3).trans hk4⟩
          case measure => simp [intOf]; omega
        · gi_wp2
          refine bodyPost_ret (results_none rfl _ _ _) rfl ?_
          exact ⟨⟨_, rfl⟩, .inr ⟨_, hJx4⟩⟩
      · gi_wp2
        refine ⟨fun _ h => (by cases h), ?_⟩
        gi_wp2
        refine bodyPost_ret (results_none rfl _ _ _) rfl ?_
        exact ⟨⟨_, rfl⟩, .inr ⟨_, hJx3⟩⟩
    · have hge : len ≤ k := by omega
      rw [List.take_of_length_le (by rw [HH.out]; exact hge)] at hJs
      gi_wp2
      go_end0
      exact ⟨⟨_, rfl⟩, .inl hJs⟩

set_option maxRecDepth 100000 in
set_option maxHeartbeats 1000000 in
/-- .. at the nil slice: no round. -/
theorem halves1_nil_in (F : Fence) (n : Nat) (h30 : F.fn 30) (hro : F.round = none) (l Bs : Nat) (J : List (Fin 16) → World → Prop) (W : World) (c : Nat) (hBs : W.cell? ⟨Bs, 0, none⟩ = some (.slice none 0 c)) (h0 : J [] W) :
    CallsIn F n Try.prog 30 #[.func (.yield l) #[] #[], .pointer (some ⟨Bs, 0, none⟩)] W fun e W' => (∃ v, e = .returned v) ∧ J [] W' := by
  refine callsIn_of_wp Try.func30 rfl h30 ?_ hro
  simp only [Try.ntmps30, List.size_toArray, List.length_cons, List.length_nil, Nat.reduceAdd, Nat.reduceSub, Array.replicate_succ, Array.replicate_zero, List.push_toArray, List.append_toArray, List.nil_append, List.cons_append]
  gi_wp2
  gi_loopw [7] (fun i wr => i = .int .i64 0 ∧ J [] wr) (fun _ _ => 0)
  case atStart => exact ⟨rfl, h0⟩
  case round =>
    obtain ⟨rfl, hJs⟩ := hrel
    gi_wp2
    go_end0
    exact ⟨⟨_, rfl⟩, hJs⟩

theorem halves_in (F : Fence) (n : Nat) (h20 : F.fn 20) (hro : F.round = none) (a : Option Addr) (len cap : Nat) (w : World) :
    CallsIn F n Try.prog 20 #[.slice a len cap] w fun e w' => e = .returned (.func (.func 30) #[] #[.pointer (some ⟨w.heap.size, 0, none⟩)]) ∧ w' = w.alloc (.cells #[.slice a len cap] 22) := by
  refine callsIn_of_wp Try.func20 rfl h20 ?_ hro
  simp only [Try.ntmps20, List.size_toArray, List.length_cons, List.length_nil, Nat.reduceAdd, Nat.reduceSub, Array.replicate_succ, Array.replicate_zero, List.push_toArray, List.append_toArray, List.nil_append, List.cons_append]
  gi_wp2
  go_ret
  exact ⟨rfl, rfl⟩

/-- The slice value '.slice A len cap' holds the bytes bs, in a block below n₀; or there are none. -/
def Holds8 (n₀ : Nat) (W : World) (A : Option Addr) (bs : List UInt8) : Prop :=
  (A = none ∧ bs = []) ∨ ∃ b off, A = some ⟨b, off, none⟩ ∧ b < n₀ ∧ ∀ j (h : j < bs.length), W.cell? ⟨b, off + j, none⟩ = some (.int .u8 ((bs[j]).toNat : Int))
theorem Holds8.below {n₀ n₁ : Nat} {A B : World} (h : Below n₁ A B) (hn : n₀ ≤ n₁) {sv : Option Addr} {bs : List UInt8} : Holds8 n₀ A sv bs → Holds8 n₀ B sv bs
  | .inl e => .inl e
  | .inr ⟨b, off, e, hb, hc⟩ => .inr ⟨b, off, e, hb, fun j hj => (h.cell (p := ⟨b, off + j, none⟩) (Nat.lt_of_lt_of_le hb hn)).trans (hc j hj)⟩

theorem halves_stops (F : Fence) (n : Nat) (h30 : F.fn 30) (hro : F.round = none) (hn : 1 ≤ n) (Bs n₀ cap : Nat) (A : Option Addr) (bs : List UInt8) (hreach : bs.length ≤ 140737488351232) (w : World) (hBs : Bs < w.heap.size) (hn₀ : n₀ ≤ w.heap.size)
    (hc : w.cell? ⟨Bs, 0, none⟩ = some (.slice A bs.length cap)) (hI : Holds8 n₀ w A bs) :
    SeqStopsK F n Try.prog 30 #[.pointer (some ⟨Bs, 0, none⟩)] (fun x : Fin 16 => #[Value.int .u32 (x.val : Int)]) (Below n₀) (fun ys => ys = hv bs) (fun _ => True) (2 * bs.length) w := fun l J Jx W hW _ _ hY h0 => by
  have hc' := (hW.cell (p := ⟨Bs, 0, none⟩) hBs).trans hc
  rcases hI.below hW hn₀ with ⟨rfl, rfl⟩ | ⟨b, off, rfl, hb, hcs⟩
  · exact (halves1_nil_in F n h30 hro l Bs J W cap hc' h0).mono fun e W' ⟨he, hj⟩ => ⟨he, .inl ⟨_, rfl, hj⟩⟩
  · refine (halves1_in F n h30 hro hn l Bs n₀ b off bs.length cap bs rfl hreach hb J Jx hY W hc' hcs h0).mono ?_
    rintro e W' ⟨he, hj | ⟨pre, hj⟩⟩
    · exact ⟨he, .inl ⟨_, rfl, hj⟩⟩
    · exact ⟨he, .inr ⟨_, trivial, hj⟩⟩
end Go.Proofs.Ytagcdgfdflnphaa
