/- The function that sha.pieces answers: for every loop body it yields the pieces one by one. The room is 1 to 64. -/
import Derived.Test.YtfpgjabbpcndfaaShaE
import Derived.Test.YtfpgjabbpcndfaaRng
import Derived.Shelf.Abstract
import Derived.Shelf.RegionOpen
import Derived.WalkSpells
import Derived.OwnWalkIn
import Derived.TacticsInMore
import Derived.LoopNIn
import Derived.LoopIn
import Derived.LoopTactic
import Derived.Outline
namespace Go.Proofs.Ytfpgjabbpcndfaa.Oct
set_option linter.unusedVariables false
set_option linter.unusedSimpArgs false
open Go.Proofs.Ytfpgjabbpcndfaa Go.RowKit Go.Lib Go.Shelf

/-- Where a slice of a slice begins. -/
def cutS (A : Option Addr) (i cap : Nat) : Option Addr := if cap = i then A else A.map fun a => ⟨a.block, a.off + i, none⟩
theorem Holds8.dropS {n₀ : Nat} {W : World} {A : Option Addr} {bs : List UInt8} (h : Holds8 n₀ W A bs) (i cap : Nat) (hi : i ≤ bs.length) (hc : bs.length ≤ cap) : Holds8 n₀ W (cutS A i cap) (bs.drop i) := by
  unfold cutS
  rcases h with ⟨rfl, rfl⟩ | ⟨b, off, rfl, hb, hcell⟩
  · split
    · exact .inl ⟨rfl, by simp⟩
    · exact .inl ⟨rfl, by simp⟩
  · by_cases e : cap = i
    · rw [if_pos e]
      refine .inr ⟨b, off, rfl, hb, fun j hj => ?_⟩
      rw [List.length_drop] at hj
      omega
    · rw [if_neg e]
      refine .inr ⟨b, off + i, rfl, hb, fun j hj => ?_⟩
      have hj2 : j < bs.length - i := by simpa using hj
      have := hcell (i + j) (by omega)
      rw [show off + i + j = off + (i + j) by omega, this]
      simp only [List.getElem_drop]
theorem Holds8.takeS {n₀ : Nat} {W : World} {A : Option Addr} {bs : List UInt8} (h : Holds8 n₀ W A bs) (i : Nat) : Holds8 n₀ W A (bs.take i) := by
  rcases h with ⟨rfl, rfl⟩ | ⟨b, off, rfl, hb, hcell⟩
  · exact .inl ⟨rfl, by simp⟩
  · refine .inr ⟨b, off, rfl, hb, fun j hj => ?_⟩
    have hj2 : j < bs.length := by rw [List.length_take] at hj; omega
    rw [hcell j hj2]
    simp only [List.getElem_take]

/-- Of so many bytes, where piece j begins, and how long it is. -/
def plen (room L s j : Nat) : Nat := min (if j = 0 then room else 64) (L - s)
def pst (room L : Nat) : Nat → Nat
  | 0 => 0
  | j + 1 => pst room L j + plen room L (pst room L j) j
def pcA (A : Option Addr) (c room L : Nat) : Nat → Option Addr × Nat
  | 0 => (A, c)
  | j + 1 => (cutS (pcA A c room L j).1 (plen room L (pst room L j) j) (pcA A c room L j).2, (pcA A c room L j).2 - plen room L (pst room L j) j)
theorem pst_le (room L j : Nat) : pst room L j ≤ L := by
  induction j with
  | zero => exact Nat.zero_le _
  | succ j ih =>
    unfold pst plen
    omega
theorem pcA_len (A : Option Addr) (c room L j : Nat) (h : L ≤ c) : L - pst room L j ≤ (pcA A c room L j).2 := by
  induction j with
  | zero => exact h
  | succ j ih =>
    unfold pst pcA
    have := pst_le room L j
    have hp : plen room L (pst room L j) j ≤ L - pst room L j := Nat.min_le_right _ _
    dsimp only
    omega
theorem pcA_holds {n₀ : Nat} {W : World} {A : Option Addr} {bs : List UInt8} (c room : Nat) (h : Holds8 n₀ W A bs) (hc : bs.length ≤ c) (j : Nat) : Holds8 n₀ W (pcA A c room bs.length j).1 (bs.drop (pst room bs.length j)) := by
  induction j with
  | zero => exact h
  | succ j ih =>
    have h1 := pcA_len A c room bs.length j hc
    have hp : plen room bs.length (pst room bs.length j) j ≤ bs.length - pst room bs.length j := Nat.min_le_right _ _
    have := ih.dropS (plen room bs.length (pst room bs.length j) j) (pcA A c room bs.length j).2 (by rw [List.length_drop]; omega) (by rw [List.length_drop]; exact h1)
    unfold pst pcA
    rw [List.drop_drop] at this
    exact this
theorem cutS_some {A : Option Addr} {i c : Nat} (h : A = none ∨ ∃ b off, A = some ⟨b, off, none⟩) : cutS A i c = none ∨ ∃ b off, cutS A i c = some ⟨b, off, none⟩ := by
  unfold cutS
  rcases h with rfl | ⟨b, off, rfl⟩
  · left; split <;> rfl
  · right
    split
    · exact ⟨b, off, rfl⟩
    · exact ⟨b, off + i, rfl⟩
theorem pcA_some (A : Option Addr) (c room L j : Nat) (h : A = none ∨ ∃ b off, A = some ⟨b, off, none⟩) : (pcA A c room L j).1 = none ∨ ∃ b off, (pcA A c room L j).1 = some ⟨b, off, none⟩ := by
  induction j with
  | zero => exact h
  | succ j ih => exact cutS_some ih

theorem pcA_none {A : Option Addr} {c room L j : Nat} (h : (pcA A c room L j).1 = none) : A = none := by
  induction j with
  | zero => exact h
  | succ j ih =>
    refine ih ?_
    unfold pcA cutS at h
    dsimp only at h
    split at h
    · exact h
    · simpa using h

section
variable {ρ : Operand → Value} {x lo hi : Operand} {dst : Option Tmp} {type : TypeId} {pos : String} {after : Array Edge} {guard : Option (Nat × Bool)}
theorem slice_toS (A : Option Addr) (len cap j : Nat) (hA : (A = none ∧ len = 0) ∨ ∃ b off, A = some ⟨b, off, none⟩) (hx : ρ x = .slice A len cap) (hhi : ρ hi = .int .i64 (j : Int))
    (hjl : j ≤ len) (hl : len ≤ cap) (W : World) : (execOp ρ { dst, op := .slice 22 x none (some hi) none, type, pos, after, guard }).run Try.prog W = .ok (.value (.slice A j cap)) W := by
  have hjc : j ≤ cap := by omega
  rcases hA with ⟨rfl, rfl⟩ | ⟨b, off, rfl⟩
  · have hj0 : j = 0 := by omega
    subst hj0
    simp [execOp, go_sem, hx, hhi]
  · simp [execOp, go_sem, hx, hhi]
    intro h
    omega
theorem slice_fromS (A : Option Addr) (len cap i : Nat) (hA : (A = none ∧ len = 0) ∨ ∃ b off, A = some ⟨b, off, none⟩) (hx : ρ x = .slice A len cap) (hlo : ρ lo = .int .i64 (i : Int))
    (hil : i ≤ len) (hl : len ≤ cap) (W : World) : (execOp ρ { dst, op := .slice 22 x (some lo) none none, type, pos, after, guard }).run Try.prog W = .ok (.value (.slice (cutS A i cap) (len - i) (cap - i))) W := by
  rcases hA with ⟨rfl, rfl⟩ | ⟨b, off, rfl⟩
  · have hi0 : i = 0 := by omega
    subst hi0
    simp [execOp, go_sem, hx, hlo, cutS]
  · simp [execOp, go_sem, hx, hlo, cutS]
    intro h
    omega
end
theorem cut_walk {A : Option Addr} {R : Nat} (c q : Nat) (h : (A = none ∧ R = 0) ∨ ∃ b off, A = some ⟨b, off, none⟩) : (if c = q then A else Option.map (fun x => x.add q) A) = cutS A q c := by
  unfold cutS
  rcases h with ⟨rfl, _⟩ | ⟨b, off, rfl⟩
  · rfl
  · split
    · rfl
    · simp only [Option.map_some, add_off]
/-- Nothing that was there has turned but two blocks. -/
structure Own2 (g1 g2 : Nat) (A B : World) : Prop where
  os : B.os = A.os
  tape : B.tape = A.tape
  output : B.output = A.output
  size : A.heap.size ≤ B.heap.size
  block : ∀ k, k < A.heap.size → k ≠ g1 → k ≠ g2 → B.heap[k]? = A.heap[k]?
theorem Own2.trans {g1 g2 : Nat} {A B C : World} (h : Own2 g1 g2 A B) (k : Own2 g1 g2 B C) : Own2 g1 g2 A C :=
  ⟨k.os.trans h.os, k.tape.trans h.tape, k.output.trans h.output, Nat.le_trans h.size k.size, fun i hi h1 h2 => (k.block i (Nat.lt_of_lt_of_le hi h.size) h1 h2).trans (h.block i hi h1 h2)⟩
theorem Own2.set1 (g1 g2 : Nat) (A : World) (j : Nat) (v : Value) : Own2 g1 g2 A (A.setCell ⟨g1, j, none⟩ v) :=
  ⟨rfl, rfl, rfl, by simp [World.setCell], fun k _ h1 _ => heap_setCell_other _ _ _ _ h1⟩
theorem Own2.set2 (g1 g2 : Nat) (A : World) (j : Nat) (v : Value) : Own2 g1 g2 A (A.setCell ⟨g2, j, none⟩ v) :=
  ⟨rfl, rfl, rfl, by simp [World.setCell], fun k _ _ h2 => heap_setCell_other _ _ _ _ h2⟩

def lenBox (B : Nat) (W : World) : Nat := match W.cell? ⟨B, 0, none⟩ with | some (.slice _ n _) => n | _ => 0
def encP (A : Option Addr) (c room L : Nat) (j : Nat) : Array Value := #[.slice (pcA A c room L j).1 (plen room L (pst room L j) j) (pcA A c room L j).2]

set_option maxRecDepth 100000 in
set_option maxHeartbeats 2000000 in
theorem pcs_in (n : Nat) (hn : 1 ≤ n) (l Bb Br : Nat) (hne : Bb ≠ Br) (A : Option Addr) (c room L : Nat) (hA : A = none ∨ ∃ b off, A = some ⟨b, off, none⟩) (hA0 : A = none → L = 0) (hLc : L ≤ c) (hLm : L < 1152921504606846976) (hr1 : 1 ≤ room) (hr2 : room ≤ 64) (J Jx : List Nat → World → Prop)
    (hJo : ∀ s A B, J s A → Own2 Bb Br A B → J s B)
    (hY : ∀ pre x W, J pre W → pre.length < L + 1 → YieldAt Fence.wide (n - 1) Try.prog l (encP A c room L x) W fun e W' =>
      (e = .returned (.bool true) ∧ J (pre ++ [x]) W' ∧ (W'.heap[Bb]? = W.heap[Bb]? ∧ W'.heap[Br]? = W.heap[Br]?)) ∨ (e = .returned (.bool false) ∧ Jx (pre ++ [x]) W'))
    (W : World) (hb : W.heap[Bb]? = some (.cells #[.slice A L c] 22 (0, 0))) (hr : W.heap[Br]? = some (.cells #[.int .i64 (room : Int)] 3 (0, 0))) (h0 : J [] W) :
    CallsIn Fence.wide n Try.prog 31 #[.func (.yield l) #[] #[], .pointer (some ⟨Bb, 0, none⟩), .pointer (some ⟨Br, 0, none⟩)] W fun e W' => (∃ v, e = .returned v) ∧ ((∃ k, pst room L k = L ∧ J (List.range k) W') ∨ ∃ pre, Jx pre W') := by
  refine callsIn_of_wp Try.func31 rfl trivial ?_ rfl
  simp only [Try.ntmps31, List.size_toArray, List.length_cons, List.length_nil, Nat.reduceAdd, Nat.reduceSub, Array.replicate_succ, Array.replicate_zero, List.push_toArray, List.append_toArray, List.nil_append, List.cons_append]
  gi_wp2
  gi_loopw [4] (fun _ wr => ∃ (k r : Nat), wr.heap[Bb]? = some (.cells #[.slice (pcA A c room L k).1 (L - pst room L k) (pcA A c room L k).2] 22 (0, 0)) ∧ wr.heap[Br]? = some (.cells #[.int .i64 (r : Int)] 3 (0, 0)) ∧ r = (if k = 0 then room else 64) ∧ k ≤ pst room L k ∧ J (List.range k) wr)
    (fun _ wr => lenBox Bb wr)
  case atStart => exact ⟨0, room, hb, hr, rfl, Nat.le_refl _, h0⟩
  case round =>
    obtain ⟨k, r, hbk, hrk, hrr, hkp, hJ⟩ := hrel
    have hple := pst_le room L k
    have hcl := pcA_len A c room L k hLc
    have hAk := pcA_some A c room L k hA
    have hAk0 : (pcA A c room L k).1 = none → L = 0 := fun e => hA0 (pcA_none e)
    obtain ⟨q, hq⟩ : ∃ q, plen room L (pst room L k) k = q := ⟨_, rfl⟩
    have hqe : q = min r (L - pst room L k) := by rw [← hq, hrr]; rfl
    have hst : pst room L (k + 1) = pst room L k + q := by rw [pst, hq]
    have hpA : pcA A c room L (k + 1) = (cutS (pcA A c room L k).1 q (pcA A c room L k).2, (pcA A c room L k).2 - q) := by rw [pcA, hq]
    have hen : encP A c room L k = #[.slice (pcA A c room L k).1 q (pcA A c room L k).2] := by unfold encP; rw [hq]
    have hr3 : 1 ≤ r ∧ r ≤ 64 := by rw [hrr]; split <;> omega
    have hc1 : wr.cell? ⟨Bb, 0, none⟩ = some (.slice (pcA A c room L k).1 (L - pst room L k) (pcA A c room L k).2) := cell_of_row wr Bb 0 _ _ (0, 0) hbk
    have hc2 : wr.cell? ⟨Br, 0, none⟩ = some (.int .i64 (r : Int)) := cell_of_row wr Br 0 _ _ (0, 0) hrk
    have HBK := Lib.hid hbk
    have HRK := Lib.hid hrk
    have HST := Lib.hid hst
    have HPA := Lib.hid hpA
    have HEN := Lib.hid hen
    have HQ := Lib.hid hq
    clear hbk hrk hrr hst hpA hen hq
    by_cases hz : pst room L k = L
    · have hR : L - pst room L k = 0 := by omega
      have HZ := Lib.hid hz
      rw [hR] at hc1
      clear hz hR
      gi_wp2
      go_end0
      exact ⟨⟨_, rfl⟩, .inl ⟨k, HZ.out, hJ⟩⟩
    · have hm0 : lenBox Bb wr = L - pst room L k := by unfold lenBox; rw [hc1]
      have HM0 := Lib.hid hm0
      obtain ⟨R, hR⟩ : ∃ R, L - pst room L k = R := ⟨_, rfl⟩
      obtain ⟨Ak, hAke⟩ : ∃ Ak, (pcA A c room L k).1 = Ak := ⟨_, rfl⟩
      obtain ⟨ck, hcke⟩ : ∃ ck, (pcA A c room L k).2 = ck := ⟨_, rfl⟩
      rw [hR, hAke, hcke] at hc1
      rw [hR, hcke] at hcl
      rw [hAke] at hAk hAk0
      rw [hR] at hqe
      have hR0 : 0 < R := by omega
      have hRm : R < 1152921504606846976 := by omega
      have hAs : (Ak = none ∧ R = 0) ∨ ∃ b off, Ak = some ⟨b, off, none⟩ := by
        rcases hAk with h | h
        · have := hAk0 h; omega
        · exact .inr h
      have HR := Lib.hid hR
      have HA := Lib.hid hAke
      have HC := Lib.hid hcke
      have HKP := Lib.hid hkp
      have hkl : k < L + 1 := by omega
      clear hz hm0 hR hAke hcke hAk hAk0 hkp
      obtain ⟨f1, t1, a1, b1, hy, hRR⟩ := hY (List.range k) k wr hJ (by rw [List.length_range]; exact hkl)
      rw [HEN.out, HA.out, HC.out] at hy
      by_cases hrR : r ≤ R
      · obtain rfl : q = r := by omega
        clear hqe
        gi_wp2
        refine hRR.mono ?_
        rintro e W3 (⟨rfl, hJ3, hk3, hk4⟩ | ⟨rfl, hJx3⟩)
        · have hb3 := hk3.trans HBK.out
          have hb4 := hk4.trans HRK.out
          rw [HR.out, HA.out, HC.out] at hb3
          have hc3 : W3.cell? ⟨Bb, 0, none⟩ = some (.slice Ak R ck) := cell_of_row W3 Bb 0 _ _ (0, 0) hb3
          have hf3 : W3.frozen? ⟨Bb, 0, none⟩ = false := frozen_of_row W3 Bb 0 _ _ hb3
          have hc4 : W3.cell? ⟨Br, 0, none⟩ = some (.int .i64 (q : Int)) := cell_of_row W3 Br 0 _ _ (0, 0) hb4
          have hf4 : W3.frozen? ⟨Br, 0, none⟩ = false := frozen_of_row W3 Br 0 _ _ hb4
          have HB3 := Lib.hid hb3
          have HB4 := Lib.hid hb4
          clear hk3 hk4 hb3 hb4 hc1 hc2
          gi_wp2
          have hcut := cut_walk ck q hAs
          rw [hcut]
          clear hcut
          have hY1 : ((W3.setCell ⟨Bb, 0, none⟩ (.slice (cutS Ak q ck) (R - q) (ck - q))).setCell ⟨Br, 0, none⟩ (.int .i64 64)).heap[Bb]? = some (.cells #[.slice (cutS Ak q ck) (R - q) (ck - q)] 22 (0, 0)) := by
            rw [heap_setCell_other _ _ _ _ hne, heap_setCell_same _ _ _ _ _ _ HB3.out]
            rfl
          have hY2 : ((W3.setCell ⟨Bb, 0, none⟩ (.slice (cutS Ak q ck) (R - q) (ck - q))).setCell ⟨Br, 0, none⟩ (.int .i64 64)).heap[Br]? = some (.cells #[.int .i64 64] 3 (0, 0)) := by
            rw [heap_setCell_same _ _ _ _ _ _ (by rw [heap_setCell_other _ _ _ _ (Ne.symm hne)]; exact HB4.out)]
            rfl
          go_roundw
          case rel =>
            refine ⟨k + 1, 64, ?_, hY2, by rw [if_neg (by omega)], by rw [HST.out]; have := HKP.out; omega, ?_⟩
            · have hR := HR.out
              rw [HPA.out, HST.out, HA.out, HC.out, show L - (pst room L k + q) = R - q by omega]
              exact hY1
            · rw [List.range_succ]
              exact hJo _ _ _ hJ3 ((Own2.set1 Bb Br W3 0 _).trans (Own2.set2 Bb Br _ 0 _))
          case measure =>
            have hl : lenBox Bb ((W3.setCell ⟨Bb, 0, none⟩ (.slice (cutS Ak q ck) (R - q) (ck - q))).setCell ⟨Br, 0, none⟩ (.int .i64 64)) = R - q := by
              unfold lenBox
              rw [cell_of_row _ Bb 0 _ _ (0, 0) hY1]
              rfl
            rw [hl, HM0.out, HR.out]
            omega
        · gi_wp2
          refine bodyPost_ret (results_none rfl _ _ _) rfl ?_
          exact ⟨⟨_, rfl⟩, .inr ⟨_, hJx3⟩⟩
      · obtain rfl : q = R := by omega
        clear hqe
        gi_wp2
        refine hRR.mono ?_
        rintro e W3 (⟨rfl, hJ3, hk3, hk4⟩ | ⟨rfl, hJx3⟩)
        · have hb3 := hk3.trans HBK.out
          have hb4 := hk4.trans HRK.out
          rw [HR.out, HA.out, HC.out] at hb3
          have hc3 : W3.cell? ⟨Bb, 0, none⟩ = some (.slice Ak q ck) := cell_of_row W3 Bb 0 _ _ (0, 0) hb3
          have hf3 : W3.frozen? ⟨Bb, 0, none⟩ = false := frozen_of_row W3 Bb 0 _ _ hb3
          have hc4 : W3.cell? ⟨Br, 0, none⟩ = some (.int .i64 (r : Int)) := cell_of_row W3 Br 0 _ _ (0, 0) hb4
          have hf4 : W3.frozen? ⟨Br, 0, none⟩ = false := frozen_of_row W3 Br 0 _ _ hb4
          have HB3 := Lib.hid hb3
          have HB4 := Lib.hid hb4
          clear hk3 hk4 hb3 hb4 hc1 hc2
          gi_wp2
          have hcut := cut_walk ck q hAs
          rw [hcut]
          clear hcut
          have hY1 : ((W3.setCell ⟨Bb, 0, none⟩ (.slice (cutS Ak q ck) (0) (ck - q))).setCell ⟨Br, 0, none⟩ (.int .i64 64)).heap[Bb]? = some (.cells #[.slice (cutS Ak q ck) (0) (ck - q)] 22 (0, 0)) := by
            rw [heap_setCell_other _ _ _ _ hne, heap_setCell_same _ _ _ _ _ _ HB3.out]
            rfl
          have hY2 : ((W3.setCell ⟨Bb, 0, none⟩ (.slice (cutS Ak q ck) (0) (ck - q))).setCell ⟨Br, 0, none⟩ (.int .i64 64)).heap[Br]? = some (.cells #[.int .i64 64] 3 (0, 0)) := by
            rw [heap_setCell_same _ _ _ _ _ _ (by rw [heap_setCell_other _ _ _ _ (Ne.symm hne)]; exact HB4.out)]
            rfl
          go_roundw
          case rel =>
            refine ⟨k + 1, 64, ?_, hY2, by rw [if_neg (by omega)], by rw [HST.out]; have := HKP.out; omega, ?_⟩
            · have hR := HR.out
              rw [HPA.out, HST.out, HA.out, HC.out, show L - (pst room L k + q) = 0 by omega]
              exact hY1
            · rw [List.range_succ]
              exact hJo _ _ _ hJ3 ((Own2.set1 Bb Br W3 0 _).trans (Own2.set2 Bb Br _ 0 _))
          case measure =>
            have hl : lenBox Bb ((W3.setCell ⟨Bb, 0, none⟩ (.slice (cutS Ak q ck) (0) (ck - q))).setCell ⟨Br, 0, none⟩ (.int .i64 64)) = 0 := by
              unfold lenBox
              rw [cell_of_row _ Bb 0 _ _ (0, 0) hY1]
              rfl
            rw [hl, HM0.out, HR.out]
            omega
        · gi_wp2
          refine bodyPost_ret (results_none rfl _ _ _) rfl ?_
          exact ⟨⟨_, rfl⟩, .inr ⟨_, hJx3⟩⟩
end Go.Proofs.Ytfpgjabbpcndfaa.Oct
