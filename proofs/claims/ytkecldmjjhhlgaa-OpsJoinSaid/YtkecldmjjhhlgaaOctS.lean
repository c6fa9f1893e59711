/- A list of calls that comes in: its cells, and what they hold. No condition. -/
import Derived.Test.YtkecldmjjhhlgaaOctOpen
import Derived.SizedLaws
namespace Go.Proofs.Ytkecldmjjhhlgaa.Oct
open Go.Proofs.Ytkecldmjjhhlgaa Go.ChangeShapes Go.WideShapes Go.ChangeAt Go.RowKit

/-- A call that comes in. -/
structure OpD where
  kind : Int
  size : Int
  n : Nat
  A : Option Addr
  b : List UInt8
  c : Nat
/-- Bytes within what comes in: of none, the address may be any. -/
def Bytes8 (n₀ : Nat) (W : World) (A : Option Addr) (bs : List UInt8) : Prop := Holds8 n₀ W A bs ∨ (bs = [] ∧ ∃ a, A = some a)
structure OpOk (W : World) (o : OpD) : Prop where
  kind : -9223372036854775808 ≤ o.kind ∧ o.kind ≤ 9223372036854775807
  size : -9223372036854775808 ≤ o.size ∧ o.size ≤ 9223372036854775807
  n : o.n < 18446744073709551616
  held : Bytes8 W.heap.size W o.A o.b
  fits : o.b.length ≤ o.c
  nil : o.A = none → o.c = 0
  small : o.c ≤ 140737488351232
theorem int_cells : Try.prog.cellsOf 3 = 1 := by kernel_rfl
theorem sl_cells : Try.prog.cellsOf 22 = 1 := by kernel_rfl
theorem byte_bytes : Try.prog.bytesOf 5 = 1 := by kernel_rfl
theorem cell_addr {W : World} {a : Addr} {v : Value} (h : W.cell? a = some v) : a.spot = none ∧ a.block < W.heap.size := by
  unfold World.cell? at h
  cases hb : W.heap[a.block]? with
  | none => rw [hb] at h; cases h
  | some o =>
    refine ⟨?_, (Array.getElem?_eq_some_iff.1 hb).1⟩
    rw [hb] at h
    cases o <;> simp at h
    exact h.1
section
variable {H : Type} {enc : TypeId × Value → H}
theorem open_bytes {W : World} {fuel : Nat} {cs : List Value} {y : DataW H × List MemPlace} (hf : DataW.trod enc Try.prog W 0 (fun _ => true) true fuel 22 cs = some y) :
    ∃ (A : Option Addr) (bs : List UInt8) (cap : Nat), cs = [.slice A bs.length cap] ∧ Bytes8 W.heap.size W A bs ∧ bs.length ≤ cap ∧ (A = none → cap = 0) ∧ ((∀ n ∈ y.1.weights Try.prog 22, n ≤ reachBytes) → cap ≤ 140737488351232) := by
  rcases open_ints Try.underlying22 Try.underlying5 Try.cells5 hf with ⟨rfl, _⟩ | ⟨a, len, cap, zs, rfl, _, hl, hm, hz, hx, hcell, hwz⟩
  · exact ⟨none, [], 0, rfl, .inl (.inl ⟨rfl, rfl⟩), Nat.le_refl _, fun _ => rfl, fun _ => by omega⟩
  · simp only [if_true] at hz
    have hlz : len ≤ zs.length := by omega
    have hlen : ((zs.take len).map fun z => UInt8.ofNat z.toNat).length = len := by simp; omega
    refine ⟨some a, (zs.take len).map fun z => UInt8.ofNat z.toNat, cap, by rw [hlen], ?_, by rw [hlen]; omega, (fun e => by cases e), fun hw => ?_⟩
    · by_cases h0 : len = 0
      · exact .inr ⟨by rw [h0]; rfl, a, rfl⟩
      · obtain ⟨hs, hb⟩ := cell_addr (hcell 0 (by omega))
        obtain ⟨b, off, spot⟩ := a
        have hspot : spot = none := by
          cases spot with
          | none => rfl
          | some s => unfold Addr.add at hs; split at hs <;> simp_all
        subst hspot
        rw [add_off] at hb
        refine .inl (.inr ⟨b, off, rfl, hb, fun j hj => ?_⟩)
        have hj2 : j < len := by omega
        have hc := hcell j (by omega)
        rw [add_off] at hc
        rw [hc]
        have hw := byte_wf (hwz (zs[j]'(by omega)) (List.getElem_mem _))
        have e : zs.getD j 0 = zs[j]'(by omega) := by simp [List.getD, show j < zs.length by omega]
        rw [e]
        congr 2
        simp only [List.getElem_map, List.getElem_take]
        rw [UInt8.toNat_ofNat']
        omega
    · rw [hx] at hw
      have h1 := hw (((lits .u8 (zs.take len) : List (DataW H)).length + (lits .u8 (zs.drop len) : List (DataW H)).length) * Try.prog.bytesOf 5) (by simp [DataW.weights, Try.underlying22])
      rw [byte_bytes] at h1
      simp [lits] at h1
      have h2 : reachBytes = 140737488351232 := rfl
      omega
theorem four {cs : List Value} (h : cs.length = 4) : ∃ a b c d, cs = [a, b, c, d] := by
  match cs, h with
  | [a, b, c, d], _ => exact ⟨a, b, c, d, rfl⟩
theorem fourd {α : Type} {cs : List α} (h : cs.length = 4) : ∃ a b c d, cs = [a, b, c, d] := by
  match cs, h with
  | [a, b, c, d], _ => exact ⟨a, b, c, d, rfl⟩
theorem list_of {α : Type} {Q : Nat → α → Prop} : ∀ (n : Nat), (∀ i, i < n → ∃ x, Q i x) → ∃ l : List α, l.length = n ∧ ∀ i (hi : i < l.length), Q i l[i]
  | 0, _ => ⟨[], rfl, fun i hi => by simp at hi⟩
  | n + 1, h => by
    obtain ⟨l, hl, hq⟩ := list_of n (fun i hi => h i (by omega))
    obtain ⟨x, hx⟩ := h n (by omega)
    refine ⟨l ++ [x], by simp [hl], fun i hi => ?_⟩
    by_cases hin : i < l.length
    · rw [List.getElem_append_left hin]
      exact hq i hin
    · have : i = l.length := by simp at hi; omega
      subst this
      rw [List.getElem_append_right (Nat.le_refl _)]
      simp only [Nat.sub_self, List.getElem_cons_zero]
      rw [hl]
      exact hx
theorem weights_all {e : TypeId} {m : Nat} : ∀ {l : List (DataW H)} {d : DataW H}, d ∈ l → m ∈ d.weights Try.prog e → m ∈ DataW.weightsAll Try.prog e l
  | x :: l, d, hd, hm => by
    simp only [DataW.weightsAll, List.mem_append]
    rcases List.mem_cons.1 hd with rfl | hd
    · exact .inl hm
    · exact .inr (weights_all hd hm)
/-- A list of calls in memory. -/
structure OpsAt (n₀ : Nat) (W : World) (PA : Option Addr) (l : List OpD) : Prop where
  cells : ∀ k (h : k < l.length), ∃ b off, PA = some ⟨b, off, none⟩ ∧ b < n₀ ∧ W.cell? ⟨b, off + k * 4, none⟩ = some (.int .i64 l[k].kind) ∧ W.cell? ⟨b, off + k * 4 + 1, none⟩ = some (.int .i64 l[k].size) ∧ W.cell? ⟨b, off + k * 4 + 2, none⟩ = some (.int .u64 (l[k].n : Int)) ∧ W.cell? ⟨b, off + k * 4 + 3, none⟩ = some (.slice l[k].A l[k].b.length l[k].c)
  ok : ∀ o ∈ l, OpOk W o
end
/-- How many bytes calls have together. -/
def total (l : List OpD) : Nat := (l.map fun o => o.b.length).sum
def greatB (l : List OpD) : Bool := decide (100 < l.length) || decide (100000 < total l)
end Go.Proofs.Ytkecldmjjhhlgaa.Oct
