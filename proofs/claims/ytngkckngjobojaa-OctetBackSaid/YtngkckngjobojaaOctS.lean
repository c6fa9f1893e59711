/- A list of calls that comes in: its cells, and what they hold. No condition. -/
import Derived.Test.YtngkckngjobojaaOctOpen
import Derived.SizedLaws
namespace Go.Proofs.Ytngkckngjobojaa.Oct
open Go.Proofs.Ytngkckngjobojaa Go.ChangeShapes Go.WideShapes Go.ChangeAt Go.RowKit

/-- A call that comes in. -/
structure OpD where
  kind : Int
  size : Int
  n : Nat
  A : Option Addr
  b : List UInt8
  c : Nat
/-- Bytes within what comes in: of none, the address may be any. -/
def Bytes8 (n₀ : Nat) (W : World) (A : Option Addr) (bs : List UInt8) : Prop := Holds8 n₀ W A bs ∨ (bs = [] ∧ ∃ a, A = some a)
structure OpOk (W : World) (o : OpD) : Prop where
  kind : -9223372036854775808 ≤ o.kind ∧ o.kind ≤ 9223372036854775807
  size : -9223372036854775808 ≤ o.size ∧ o.size ≤ 9223372036854775807
  n : o.n < 18446744073709551616
  held : Bytes8 W.heap.size W o.A o.b
  fits : o.b.length ≤ o.c
  nil : o.A = none → o.c = 0
  small : o.c ≤ 140737488351232
theorem op_cells : Try.prog.cellsOf 33 = 4 := by kernel_rfl
theorem int_cells : Try.prog.cellsOf 3 = 1 := by kernel_rfl
theorem u64_cells : Try.prog.cellsOf 23 = 1 := by kernel_rfl
theorem sl_cells : Try.prog.cellsOf 25 = 1 := by kernel_rfl
theorem byte_bytes : Try.prog.bytesOf 5 = 1 := by kernel_rfl
theorem cell_addr {W : World} {a : Addr} {v : Value} (h : W.cell? a = some v) : a.spot = none ∧ a.block < W.heap.size := by
  unfold World.cell? at h
  cases hb : W.heap[a.block]? with
  | none => rw [hb] at h; cases h
  | some o =>
    refine ⟨?_, (Array.getElem?_eq_some_iff.1 hb).1⟩
    rw [hb] at h
    cases o <;> simp at h
    exact h.1
section
variable {H : Type} {enc : TypeId × Value → H}
theorem open_bytes {W : World} {fuel : Nat} {cs : List Value} {y : DataW H × List MemPlace} (hf : DataW.trod enc Try.prog W 0 (fun _ => true) true fuel 25 cs = some y) :
    ∃ (A : Option Addr) (bs : List UInt8) (cap : Nat), cs = [.slice A bs.length cap] ∧ Bytes8 W.heap.size W A bs ∧ bs.length ≤ cap ∧ (A = none → cap = 0) ∧ ((∀ n ∈ y.1.weights Try.prog 25, n ≤ reachBytes) → cap ≤ 140737488351232) := by
  rcases open_ints Try.underlying25 Try.underlying5 Try.cells5 hf with ⟨rfl, _⟩ | ⟨a, len, cap, zs, rfl, _, hl, hm, hz, hx, hcell, hwz⟩
  · exact ⟨none, [], 0, rfl, .inl (.inl ⟨rfl, rfl⟩), Nat.le_refl _, fun _ => rfl, fun _ => by omega⟩
  · simp only [if_true] at hz
    have hlz : len ≤ zs.length := by omega
    have hlen : ((zs.take len).map fun z => UInt8.ofNat z.toNat).length = len := by simp; omega
    refine ⟨some a, (zs.take len).map fun z => UInt8.ofNat z.toNat, cap, by rw [hlen], ?_, by rw [hlen]; omega, (fun e => by cases e), fun hw => ?_⟩
    · by_cases h0 : len = 0
      · exact .inr ⟨by rw [h0]; rfl, a, rfl⟩
      · obtain ⟨hs, hb⟩ := cell_addr (hcell 0 (by omega))
        obtain ⟨b, off, spot⟩ := a
        have hspot : spot = none := by
          cases spot with
          | none => rfl
          | some s => unfold Addr.add at hs; split at hs <;> simp_all
        subst hspot
        rw [add_off] at hb
        refine .inl (.inr ⟨b, off, rfl, hb, fun j hj => ?_⟩)
        have hj2 : j < len := by omega
        have hc := hcell j (by omega)
        rw [add_off] at hc
        rw [hc]
        have hw := byte_wf (hwz (zs[j]'(by omega)) (List.getElem_mem _))
        have e : zs.getD j 0 = zs[j]'(by omega) := by simp [List.getD, show j < zs.length by omega]
        rw [e]
        congr 2
        simp only [List.getElem_map, List.getElem_take]
        rw [UInt8.toNat_ofNat']
        omega
    · rw [hx] at hw
      have h1 := hw (((lits .u8 (zs.take len) : List (DataW H)).length + (lits .u8 (zs.drop len) : List (DataW H)).length) * Try.prog.bytesOf 5) (by simp [DataW.weights, Try.underlying25])
      rw [byte_bytes] at h1
      simp [lits] at h1
      have h2 : reachBytes = 140737488351232 := rfl
      omega
theorem four {cs : List Value} (h : cs.length = 4) : ∃ a b c d, cs = [a, b, c, d] := by
  match cs, h with
  | [a, b, c, d], _ => exact ⟨a, b, c, d, rfl⟩
theorem fourd {α : Type} {cs : List α} (h : cs.length = 4) : ∃ a b c d, cs = [a, b, c, d] := by
  match cs, h with
  | [a, b, c, d], _ => exact ⟨a, b, c, d, rfl⟩
theorem open_op {W : World} {fuel : Nat} {cs : List Value} {y : DataW H × List MemPlace} (h : DataW.trod enc Try.prog W 0 (fun _ => true) true fuel 33 cs = some y) (hw : ∀ n ∈ y.1.weights Try.prog 33, n ≤ reachBytes) :
    ∃ o : OpD, cs = [.int .i64 o.kind, .int .i64 o.size, .int .u64 (o.n : Int), .slice o.A o.b.length o.c] ∧ OpOk W o := by
  obtain ⟨xs, n, _, rfl, hl, hxl, hf⟩ := DataW.trod_struct Try.underlying33 h
  rw [op_cells] at hl
  obtain ⟨c0, c1, c2, c3, rfl⟩ := four hl
  obtain ⟨x0, x1, x2, x3, rfl⟩ := fourd (cs := xs) hxl
  have h0 : DataW.trod enc Try.prog W 0 (fun _ => true) true n 3 (List.take (Try.prog.cellsOf 3) (List.drop 0 [c0, c1, c2, c3])) = some x0 := hf 0 _ rfl
  have h1 : DataW.trod enc Try.prog W 0 (fun _ => true) true n 3 (List.take (Try.prog.cellsOf 3) (List.drop 1 [c0, c1, c2, c3])) = some x1 := hf 1 _ rfl
  have h2 : DataW.trod enc Try.prog W 0 (fun _ => true) true n 23 (List.take (Try.prog.cellsOf 23) (List.drop 2 [c0, c1, c2, c3])) = some x2 := hf 2 _ rfl
  have h3 : DataW.trod enc Try.prog W 0 (fun _ => true) true n 25 (List.take (Try.prog.cellsOf 25) (List.drop 3 [c0, c1, c2, c3])) = some x3 := hf 3 _ rfl
  simp only [int_cells, u64_cells, sl_cells, List.drop_zero, List.drop_succ_cons, List.take_succ_cons, List.take_zero] at h0 h1 h2 h3
  obtain ⟨k, e0, _, w0⟩ := DataW.trod_int Try.underlying3 h0
  obtain ⟨s, e1, _, w1⟩ := DataW.trod_int Try.underlying3 h1
  obtain ⟨m, e2, _, w2⟩ := DataW.trod_int Try.underlying23 h2
  obtain ⟨A, bs, c, e3, hb, hlc, hn, hsm⟩ := open_bytes h3
  have b0 := bounds_i64 w0
  have b1 := bounds_i64 w1
  have b2 := bounds_u64 w2
  injection e0 with e0 _
  injection e1 with e1 _
  injection e2 with e2 _
  injection e3 with e3 _
  subst e0 e1 e2 e3
  refine ⟨⟨k, s, m.toNat, A, bs, c⟩, ?_, ⟨by simp only; omega, by simp only; omega, by simp only; omega, hb, hlc, hn, hsm fun n hn => hw n ?_⟩⟩
  · rw [Int.toNat_of_nonneg (by omega)]
  · simp only [DataW.weights, Try.underlying33, List.map_cons, List.map_nil, DataW.weightsEach, List.mem_append]
    exact .inr (.inr (.inr (.inl hn)))
theorem list_of {α : Type} {Q : Nat → α → Prop} : ∀ (n : Nat), (∀ i, i < n → ∃ x, Q i x) → ∃ l : List α, l.length = n ∧ ∀ i (hi : i < l.length), Q i l[i]
  | 0, _ => ⟨[], rfl, fun i hi => by simp at hi⟩
  | n + 1, h => by
    obtain ⟨l, hl, hq⟩ := list_of n (fun i hi => h i (by omega))
    obtain ⟨x, hx⟩ := h n (by omega)
    refine ⟨l ++ [x], by simp [hl], fun i hi => ?_⟩
    by_cases hin : i < l.length
    · rw [List.getElem_append_left hin]
      exact hq i hin
    · have : i = l.length := by simp at hi; omega
      subst this
      rw [List.getElem_append_right (Nat.le_refl _)]
      simp only [Nat.sub_self, List.getElem_cons_zero]
      rw [hl]
      exact hx
theorem weights_all {e : TypeId} {m : Nat} : ∀ {l : List (DataW H)} {d : DataW H}, d ∈ l → m ∈ d.weights Try.prog e → m ∈ DataW.weightsAll Try.prog e l
  | x :: l, d, hd, hm => by
    simp only [DataW.weightsAll, List.mem_append]
    rcases List.mem_cons.1 hd with rfl | hd
    · exact .inl hm
    · exact .inr (weights_all hd hm)
theorem okw_slice22 {W : World} {a : Addr} {len cap : Nat} (h : Value.okWide Try.prog W .any 0 22 (.slice (some a) len cap)) : a.spot = none ∧ a.block < W.heap.size := by
  have h1 : Cell.ok Try.prog W .any 0 22 (.slice (some a) len cap) := by
    simpa [Value.okWide, Cell.okWide, Try.underlying22] using h
  simp only [Cell.ok, Try.underlying22, World.has] at h1
  obtain ⟨_, _, _, hs, row, cells, hsh, _⟩ := h1
  refine ⟨hs, ?_⟩
  unfold World.shape? at hsh
  rcases Nat.lt_or_ge a.block W.heap.size with h | h
  · exact h
  · rw [Array.getElem?_eq_none h] at hsh
    cases hsh
/-- A list of calls in memory. -/
structure OpsAt (n₀ : Nat) (W : World) (PA : Option Addr) (l : List OpD) : Prop where
  cells : ∀ k (h : k < l.length), ∃ b off, PA = some ⟨b, off, none⟩ ∧ b < n₀ ∧ W.cell? ⟨b, off + k * 4, none⟩ = some (.int .i64 l[k].kind) ∧ W.cell? ⟨b, off + k * 4 + 1, none⟩ = some (.int .i64 l[k].size) ∧ W.cell? ⟨b, off + k * 4 + 2, none⟩ = some (.int .u64 (l[k].n : Int)) ∧ W.cell? ⟨b, off + k * 4 + 3, none⟩ = some (.slice l[k].A l[k].b.length l[k].c)
  ok : ∀ o ∈ l, OpOk W o
theorem open_ops {W : World} {v : Value} {d : DataW H} {p : List MemPlace} (hval : Value.okWide Try.prog W .any 0 22 v) (h : DataW.Trod enc Try.prog W 0 (fun _ => true) true 22 v d p) (hw : ∀ n ∈ d.weights Try.prog 22, n ≤ reachBytes) :
    ∃ (A : Option Addr) (l : List OpD) (cap : Nat), v = .slice A l.length cap ∧ OpsAt W.heap.size W A l ∧ l.length ≤ cap ∧ (A = none → cap = 0) ∧ cap ≤ maxLen := by
  obtain ⟨fuel, hf⟩ := h
  obtain ⟨a0, len0, cap0, rfl⟩ := okWide_slice Try.underlying22 hval
  rcases DataW.trod_slice Try.underlying22 hf with ⟨hx, _⟩ | ⟨a, len, cap, elems, rest, n, _, hcs, hx, _, hl, hm, hlen, hel, _, _⟩
  · simp [Value.cells] at hx
    obtain ⟨rfl, rfl, rfl⟩ := hx
    exact ⟨none, [], 0, rfl, ⟨fun k hk => by simp at hk, fun o ho => by cases ho⟩, Nat.le_refl _, fun _ => rfl, by decide⟩
  · simp [Value.cells] at hcs
    obtain ⟨rfl, rfl, rfl⟩ := hcs
    obtain ⟨hspot, hblk⟩ := okw_slice22 hval
    obtain ⟨b, off, spot⟩ := a
    simp only at hspot hblk
    subst hspot
    have hd : d = .slice (elems.map (·.1)) (rest.map (·.1)) := congrArg Prod.fst hx
    have each : ∀ i, i < len0 → ∃ o : OpD, (W.cell? ⟨b, off + i * 4, none⟩ = some (.int .i64 o.kind) ∧ W.cell? ⟨b, off + i * 4 + 1, none⟩ = some (.int .i64 o.size) ∧ W.cell? ⟨b, off + i * 4 + 2, none⟩ = some (.int .u64 (o.n : Int)) ∧ W.cell? ⟨b, off + i * 4 + 3, none⟩ = some (.slice o.A o.b.length o.c)) ∧ OpOk W o := by
      intro i hi
      have h1 := hel i hi
      have hi2 : i < elems.length := by omega
      rw [List.getElem?_eq_getElem hi2, Option.bind_eq_some_iff] at h1
      obtain ⟨cs, hcs, hy⟩ := h1
      rw [op_cells] at hcs
      obtain ⟨_, hcl, hcell⟩ := World.cells?_some hcs
      obtain ⟨o, rfl, hok⟩ := open_op hy (fun m hm => hw m (by
        rw [hd]
        simp only [DataW.weights, Try.underlying22, List.mem_cons, List.mem_append]
        exact .inr (.inl (weights_all (List.mem_map_of_mem (List.getElem_mem hi2)) hm))))
      have c0 := hcell 0 (by decide)
      have c1 := hcell 1 (by decide)
      have c2 := hcell 2 (by decide)
      have c3 := hcell 3 (by decide)
      simp only [add_off, Nat.add_zero, List.getElem?_cons_zero, List.getElem?_cons_succ] at c0 c1 c2 c3
      exact ⟨o, ⟨c0, c1, c2, c3⟩, hok⟩
    obtain ⟨l, hl0, hq⟩ := list_of len0 each
    refine ⟨some ⟨b, off, none⟩, l, cap0, by rw [hl0], ⟨fun k hk => ⟨b, off, rfl, hblk, (hq k hk).1⟩, fun o ho => ?_⟩, by omega, (fun e => by cases e), hm⟩
    obtain ⟨k, hk, rfl⟩ := List.getElem_of_mem ho
    exact (hq k hk).2
end
/-- How many bytes calls have together. -/
def total (l : List OpD) : Nat := (l.map fun o => o.b.length).sum
def greatB (l : List OpD) : Bool := decide (100 < l.length) || decide (100000 < total l)
end Go.Proofs.Ytngkckngjobojaa.Oct
