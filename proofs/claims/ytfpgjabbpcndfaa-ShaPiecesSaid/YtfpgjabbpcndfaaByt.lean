/- Byte slices in memory: what holds them, and the steps at which they are made, read, appended to and stored into. No condition. -/
import Derived.Test.YtfpgjabbpcndfaaRows
import Derived.WalkKit
import Derived.Below
import Derived.RangeFuncBox
import Derived.Maps.AppendAt
import Derived.Deep.AppendLies
import Derived.Laws.BytesArg
import Derived.Laws.Rows
import Derived.ProofKit
import Derived.OpenShut
import Derived.Carry
namespace Go.Proofs.Ytfpgjabbpcndfaa.Oct
open Go.Proofs.Ytfpgjabbpcndfaa Go.ChangeShapes Go.WideShapes Go.ChangeAt Go.RowKit

/-- The slice value '.slice A len cap' holds the bytes bs, in a block below n₀; or there are none. -/
def Holds8 (n₀ : Nat) (W : World) (A : Option Addr) (bs : List UInt8) : Prop :=
  (A = none ∧ bs = []) ∨ ∃ b off, A = some ⟨b, off, none⟩ ∧ b < n₀ ∧ ∀ j (h : j < bs.length), W.cell? ⟨b, off + j, none⟩ = some (.int .u8 ((bs[j]).toNat : Int))
theorem Holds8.below {n₀ n₁ : Nat} {A B : World} (h : Below n₁ A B) (hn : n₀ ≤ n₁) {sv : Option Addr} {bs : List UInt8} : Holds8 n₀ A sv bs → Holds8 n₀ B sv bs
  | .inl e => .inl e
  | .inr ⟨b, off, e, hb, hc⟩ => .inr ⟨b, off, e, hb, fun j hj => (h.cell (p := ⟨b, off + j, none⟩) (Nat.lt_of_lt_of_le hb hn)).trans (hc j hj)⟩
theorem Holds8.at_ {n₀ : Nat} {W : World} {A : Option Addr} {bs : List UInt8} (h : Holds8 n₀ W A bs) {k : Nat} (hk : k < bs.length) :
    ∃ b off, A = some ⟨b, off, none⟩ ∧ b < n₀ ∧ W.cell? ⟨b, off + k, none⟩ = some (.int .u8 ((bs[k]).toNat : Int)) := by
  rcases h with ⟨_, rfl⟩ | ⟨b, off, e, hb, hc⟩
  · simp at hk
  · exact ⟨b, off, e, hb, hc k hk⟩
theorem Holds8.more {n₀ n₁ : Nat} {W : World} {A : Option Addr} {bs : List UInt8} (h : Holds8 n₀ W A bs) (hn : n₀ ≤ n₁) : Holds8 n₁ W A bs := by
  rcases h with ⟨e1, e2⟩ | ⟨b, off, e, hb, hc⟩
  · exact .inl ⟨e1, e2⟩
  · exact .inr ⟨b, off, e, Nat.lt_of_lt_of_le hb hn, hc⟩
/-- The same bytes in a later world. -/
theorem Holds8.later {W W' : World} {A : Option Addr} {bs : List UInt8} (h : Holds8 W.heap.size W A bs) (hb : Below W.heap.size W W') : Holds8 W'.heap.size W' A bs :=
  (h.below hb (Nat.le_refl _)).more hb.size

theorem ret_int8 (k : IntKind) {a b : Int} (h : a = b) : Ending.returned (.int k a) = .returned (.int k b) := by rw [h]
theorem val_int8 (k : IntKind) {a b : Int} (h : a = b) : Value.int k a = .int k b := by rw [h]

theorem byte_info : (Try.prog.info? 5).map (fun i => (i.zero, i.size, i.bytes)) = some (some (.int .u8 0), 1, 1) := by kernel_rfl
def vals (bs : List UInt8) : List Value := bs.map fun b => .int .u8 (b.toNat : Int)
theorem vals_length (bs : List UInt8) : (vals bs).length = bs.length := by simp [vals]
theorem vals_append (a b : List UInt8) : vals (a ++ b) = vals a ++ vals b := by simp [vals]
theorem vals_get (bs : List UInt8) (j : Nat) (h : j < bs.length) : (vals bs)[j]? = some (.int .u8 ((bs[j]).toNat : Int)) := by simp [vals, h]
theorem vals_one (bs : List UInt8) : ∀ u ∈ vals bs, u.oneCell' = true := by
  intro u hu
  simp only [vals, List.mem_map] at hu
  obtain ⟨b, _, rfl⟩ := hu
  rfl
theorem add_off (b off j : Nat) : (⟨b, off, none⟩ : Addr).add j = ⟨b, off + j, none⟩ := by unfold Addr.add; split <;> simp_all

/-- A row of the call's own, as a slice of bytes: where it lies, and that it may be written. -/
theorem own_form {w : World} {base : Nat} {v : Value} {n : Nat} {bs : List UInt8} (hn : bs.length = n) (h0 : 0 < n) (h : w.ownsRow base 5 1 v n (vals bs)) :
    ∃ g c, v = .slice (some ⟨g, 0, none⟩) bs.length c ∧ base ≤ g ∧ g < w.heap.size ∧ bs.length ≤ c ∧ (∀ j (h : j < bs.length), w.cell? ⟨g, 0 + j, none⟩ = some (.int .u8 ((bs[j]).toNat : Int))) ∧ ∀ j, w.frozen? ⟨g, j, none⟩ = false := by
  subst hn
  rcases h.2 with ⟨_, h1⟩ | ⟨g, cap, cur, rfl, hb, hh, hnc, _, _, ht⟩
  · omega
  · refine ⟨g, cap, rfl, hb, (Array.getElem?_eq_some_iff.1 hh).1, hnc, fun j hj => ?_, fun j => ?_⟩
    · rw [Nat.zero_add, cell_of_row w g j cur 5 (0, 0) hh]
      have h1 := vals_get bs j hj
      rw [← ht, List.getElem?_take, if_pos (by omega)] at h1
      simpa using h1
    · unfold World.frozen?
      simp only [hh]
      simp
theorem own_holds {w : World} {base : Nat} {v : Value} {n : Nat} {bs : List UInt8} (hn : bs.length = n) (h : w.ownsRow base 5 1 v n (vals bs)) :
    ∃ A c, v = .slice A bs.length c ∧ Holds8 w.heap.size w A bs ∧ (∀ a, A = some a → base ≤ a.block) := by
  rcases Nat.eq_zero_or_pos n with h0 | h0
  · subst h0
    have hb : bs = [] := List.eq_nil_of_length_eq_zero hn
    subst hb
    rcases h.2 with ⟨rfl, _⟩ | ⟨g, cap, cur, rfl, hb, hh, _⟩
    · exact ⟨none, 0, rfl, .inl ⟨rfl, rfl⟩, fun a e => by cases e⟩
    · exact ⟨some ⟨g, 0, none⟩, cap, rfl, .inr ⟨g, 0, rfl, (Array.getElem?_eq_some_iff.1 hh).1, fun j hj => by simp at hj⟩, fun a e => by cases e; exact hb⟩
  · obtain ⟨g, c, rfl, hb, hlt, _, hc, _⟩ := own_form hn h0 h
    exact ⟨_, c, rfl, .inr ⟨g, 0, rfl, hlt, hc⟩, fun a e => by cases e; exact hb⟩

theorem append_nothing (ty : TypeId) (c : Nat) (w : World) : (Builtin.append_ #[22, 22] ty #[.slice none 0 0, .slice none 0 c]).run Try.prog w = .ok (.slice none 0 0) w := by
  obtain ⟨i0, hi, hz0, hz1, hz2⟩ := info_parts byte_info
  simp [Builtin.append_, run_underlying Try.underlying22, sizeOf, typeInfo, hi, Builtin.lenOf, Builtin.firstCells]

/-- The bytes bs in memory of the call's own. -/
def NewBytes (w : World) (bs : List UInt8) (e : Ending) (w' : World) : Prop :=
  ∃ A c, e = .returned (.slice A bs.length c) ∧ Holds8 w'.heap.size w' A bs ∧ (∀ a, A = some a → w.heap.size ≤ a.block) ∧ Below w.heap.size w w'

theorem str_of {n : Nat} {W : World} {A : Option Addr} {bs : List UInt8} (h : Holds8 n W A bs) (c : Nat) : (convert 22 9 (.slice A bs.length c)).run Try.prog W = .ok (.string ⟨bs.toArray⟩) W := by
  rcases h with ⟨rfl, rfl⟩ | ⟨b, off, rfl, hb, hc⟩
  · exact run_convert_bytes_nil W 22 5 Try.underlying22 Try.underlying5 0 c 9 Try.underlying9
  · have h := run_convert_bytes_arg W 22 5 Try.underlying22 Try.underlying5 b off bs.length c (bs.map fun x => (x.toNat : Int)) (by simp) (fun i hi => by
      rw [hc i hi]
      simp [List.getD, hi]) 9 Try.underlying9
    rw [h]
    congr 2
    unfold strOfNums
    rw [List.map_map]
    congr 2
    conv => rhs; rw [← List.map_id bs]
    apply List.map_congr_left
    intro x _
    simp

/-- One byte stored into a row. -/
theorem Holds8.store {n₀ : Nat} {W : World} {g : Nat} {bs : List UInt8} {n : Nat} (hn : bs.length = n) (hg : g < n₀) (hc : ∀ j (h : j < bs.length), W.cell? ⟨g, 0 + j, none⟩ = some (.int .u8 ((bs[j]).toNat : Int))) (k : Nat) (x : UInt8) :
    Holds8 n₀ (W.setCell ⟨g, k, none⟩ (.int .u8 (x.toNat : Int))) (some ⟨g, 0, none⟩) (bs.set k x) := by
  refine .inr ⟨g, 0, rfl, hg, fun j hj => ?_⟩
  have hj2 : j < bs.length := by simpa using hj
  by_cases e : k = j
  · subst e
    have h0 := hc k hj2
    rw [Nat.zero_add] at h0 ⊢
    rw [World.cell?_setCell_same' _ _ _ (by rw [h0]; rfl)]
    simp
  · rw [World.cell?_setCell_other _ _ _ _ (fun h => by injection h with _ h; omega), hc j hj2]
    rw [List.getElem_set_ne e]

theorem own : ownKnob Try.prog.godebug = none := by kernel_rfl
theorem Try.cells5 : Try.prog.cellsOf 5 = 1 := by kernel_rfl
theorem laidOut : laidOutB Try.prog = true := by kernel_rfl

theorem okw_slice {W : World} {a : Addr} {len cap : Nat} (h : Value.okWide Try.prog W .any 0 22 (.slice (some a) len cap)) : a.spot = none ∧ a.block < W.heap.size := by
  have h1 : Cell.ok Try.prog W .any 0 22 (.slice (some a) len cap) := by
    simpa [Value.okWide, Cell.okWide, Try.underlying22] using h
  simp only [Cell.ok, Try.underlying22, World.has] at h1
  obtain ⟨_, _, _, hs, row, cells, hsh, _⟩ := h1
  refine ⟨hs, ?_⟩
  unfold World.shape? at hsh
  rcases Nat.lt_or_ge a.block W.heap.size with h | h
  · exact h
  · rw [Array.getElem?_eq_none h] at hsh
    cases hsh

section
variable {H : Type} {enc : TypeId × Value → H}
theorem byte_wf {z : Int} (h : (Lit.int .u8 z).wf = true) : 0 ≤ z ∧ z < 256 := by
  have := bounds_u8 h
  omega
/-- A slice of bytes that comes in. -/
theorem open8 {W : World} {v : Value} {d : DataW H} {p : List MemPlace} (hval : Value.okWide Try.prog W .any 0 22 v) (h : DataW.Trod enc Try.prog W 0 (fun _ => true) true 22 v d p) :
    ∃ (A : Option Addr) (bs : List UInt8) (cap : Nat), v = .slice A bs.length cap ∧ Holds8 W.heap.size W A bs ∧ bs.length ≤ cap ∧ cap ≤ maxLen := by
  obtain ⟨fuel, hf⟩ := h
  obtain ⟨a0, len0, cap0, rfl⟩ := okWide_slice Try.underlying22 hval
  rcases open_ints Try.underlying22 Try.underlying5 Try.cells5 hf with ⟨hx, _⟩ | ⟨a, len, cap, zs, hcs, _, hl, hm, hz, _, hcell, hwz⟩
  · simp [Value.cells] at hx
    obtain ⟨rfl, rfl, rfl⟩ := hx
    exact ⟨none, [], 0, rfl, .inl ⟨rfl, rfl⟩, by simp, by simp⟩
  · simp [Value.cells] at hcs
    obtain ⟨rfl, rfl, rfl⟩ := hcs
    obtain ⟨hspot, hblk⟩ := okw_slice hval
    obtain ⟨b, off, spot⟩ := a
    simp only at hspot hblk
    subst hspot
    simp only [if_true] at hz
    have hlz : len0 ≤ zs.length := by omega
    have hlen : ((zs.take len0).map fun z => UInt8.ofNat z.toNat).length = len0 := by simp; omega
    refine ⟨some ⟨b, off, none⟩, (zs.take len0).map fun z => UInt8.ofNat z.toNat, cap0, by rw [hlen], .inr ⟨b, off, rfl, hblk, fun j hj => ?_⟩, by rw [hlen]; omega, hm⟩
    have hj2 : j < len0 := by omega
    have hc := hcell j (by omega)
    rw [add_off] at hc
    rw [hc]
    have hw := byte_wf (hwz (zs[j]'(by omega)) (List.getElem_mem _))
    have e : zs.getD j 0 = zs[j]'(by omega) := by simp [List.getD, show j < zs.length by omega]
    rw [e]
    congr 2
    simp only [List.getElem_map, List.getElem_take]
    rw [UInt8.toNat_ofNat']
    omega
end
end Go.Proofs.Ytfpgjabbpcndfaa.Oct
