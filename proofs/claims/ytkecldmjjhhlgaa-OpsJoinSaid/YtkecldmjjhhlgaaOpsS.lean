/- A list of operations that comes in, and whether it is great. No condition. -/
import Derived.Test.YtkecldmjjhhlgaaOpsE
import Derived.Test.YtkecldmjjhhlgaaOctS
import Derived.Test.YtkecldmjjhhlgaaOctOpen
import Derived.SizedLaws
namespace Go.Proofs.Ytkecldmjjhhlgaa.Oct
open Go.Proofs.Ytkecldmjjhhlgaa Go.ChangeShapes Go.WideShapes Go.ChangeAt Go.RowKit
theorem pv_cells : Try.prog.cellsOf 32 = 2 := by kernel_rfl
theorem u8_cells : Try.prog.cellsOf 5 = 1 := by kernel_rfl
theorem two {α : Type} {cs : List α} (h : cs.length = 2) : ∃ a b, cs = [a, b] := by
  match cs, h with
  | [a, b], _ => exact ⟨a, b, rfl⟩
section
variable {H : Type} {enc : TypeId × Value → H}
theorem open_pv {W : World} {fuel : Nat} {cs : List Value} {y : DataW H × List MemPlace} (h : DataW.trod enc Try.prog W 0 (fun _ => true) true fuel 32 cs = some y) (hw : ∀ n ∈ y.1.weights Try.prog 32, n ≤ reachBytes) :
    ∃ o : PV, cs = [.int .u8 (o.code.toNat : Int), .slice o.A o.b.length o.c] ∧ Bytes8 W.heap.size W o.A o.b ∧ o.b.length ≤ 140737488351232 := by
  obtain ⟨xs, n, _, rfl, hl, hxl, hf⟩ := DataW.trod_struct Try.underlying32 h
  rw [pv_cells] at hl
  obtain ⟨c0, c1, rfl⟩ := two hl
  obtain ⟨x0, x1, rfl⟩ := two (cs := xs) hxl
  have h0 : DataW.trod enc Try.prog W 0 (fun _ => true) true n 5 (List.take (Try.prog.cellsOf 5) (List.drop 0 [c0, c1])) = some x0 := hf 0 _ rfl
  have h1 : DataW.trod enc Try.prog W 0 (fun _ => true) true n 22 (List.take (Try.prog.cellsOf 22) (List.drop 1 [c0, c1])) = some x1 := hf 1 _ rfl
  simp only [u8_cells, sl_cells, List.drop_zero, List.drop_succ_cons, List.take_succ_cons, List.take_zero] at h0 h1
  obtain ⟨k, e0, _, w0⟩ := DataW.trod_int Try.underlying5 h0
  obtain ⟨A, bs, c, e1, hb, hlc, hn, hsm⟩ := open_bytes h1
  have b0 := byte_wf w0
  injection e0 with e0 _
  injection e1 with e1 _
  subst e0 e1
  have hs := hsm fun n hn => hw n (by
    simp only [DataW.weights, Try.underlying32, List.map_cons, List.map_nil, DataW.weightsEach, List.mem_append]
    exact .inr (.inl hn))
  refine ⟨⟨UInt8.ofNat k.toNat, A, bs, c⟩, ?_, hb, by simp only; omega⟩
  rw [UInt8.toNat_ofNat']
  congr 2
  omega
theorem okw_slice23 {W : World} {a : Addr} {len cap : Nat} (h : Value.okWide Try.prog W .any 0 23 (.slice (some a) len cap)) : a.spot = none ∧ a.block < W.heap.size := by
  have h1 : Cell.ok Try.prog W .any 0 23 (.slice (some a) len cap) := by
    simpa [Value.okWide, Cell.okWide, Try.underlying23] using h
  simp only [Cell.ok, Try.underlying23, World.has] at h1
  obtain ⟨_, _, _, hs, row, cells, hsh, _⟩ := h1
  refine ⟨hs, ?_⟩
  unfold World.shape? at hsh
  rcases Nat.lt_or_ge a.block W.heap.size with h | h
  · exact h
  · rw [Array.getElem?_eq_none h] at hsh
    cases hsh
theorem open_pvs {W : World} {v : Value} {d : DataW H} {p : List MemPlace} (hval : Value.okWide Try.prog W .any 0 23 v) (h : DataW.Trod enc Try.prog W 0 (fun _ => true) true 23 v d p) (hw : ∀ n ∈ d.weights Try.prog 23, n ≤ reachBytes) :
    ∃ (A : Option Addr) (l : List PV) (cap : Nat), v = .slice A l.length cap ∧ PvsAt W.heap.size W A l ∧ (∀ p ∈ l, p.b.length ≤ 140737488351232) ∧ l.length ≤ cap ∧ (A = none → cap = 0) ∧ cap ≤ maxLen := by
  obtain ⟨fuel, hf⟩ := h
  obtain ⟨a0, len0, cap0, rfl⟩ := okWide_slice Try.underlying23 hval
  rcases DataW.trod_slice Try.underlying23 hf with ⟨hx, _⟩ | ⟨a, len, cap, elems, rest, n, _, hcs, hx, _, hl, hm, hlen, hel, _, _⟩
  · simp [Value.cells] at hx
    obtain ⟨rfl, rfl, rfl⟩ := hx
    exact ⟨none, [], 0, rfl, ⟨fun k hk => by simp at hk, fun o ho => by cases ho⟩, (fun o ho => by cases ho), Nat.le_refl _, fun _ => rfl, by decide⟩
  · simp [Value.cells] at hcs
    obtain ⟨rfl, rfl, rfl⟩ := hcs
    obtain ⟨hspot, hblk⟩ := okw_slice23 hval
    obtain ⟨b, off, spot⟩ := a
    simp only at hspot hblk
    subst hspot
    have hd : d = .slice (elems.map (·.1)) (rest.map (·.1)) := congrArg Prod.fst hx
    have each : ∀ i, i < len0 → ∃ o : PV, (W.cell? ⟨b, off + i * 2, none⟩ = some (.int .u8 (o.code.toNat : Int)) ∧ W.cell? ⟨b, off + i * 2 + 1, none⟩ = some (.slice o.A o.b.length o.c)) ∧ Bytes8 W.heap.size W o.A o.b ∧ o.b.length ≤ 140737488351232 := by
      intro i hi
      have h1 := hel i hi
      have hi2 : i < elems.length := by omega
      rw [List.getElem?_eq_getElem hi2, Option.bind_eq_some_iff] at h1
      obtain ⟨cs, hcs, hy⟩ := h1
      rw [pv_cells] at hcs
      obtain ⟨_, hcl, hcell⟩ := World.cells?_some hcs
      obtain ⟨o, rfl, hok⟩ := open_pv hy (fun m hm => hw m (by
        rw [hd]
        simp only [DataW.weights, Try.underlying23, List.mem_cons, List.mem_append]
        exact .inr (.inl (weights_all (List.mem_map_of_mem (List.getElem_mem hi2)) hm))))
      have c0 := hcell 0 (by decide)
      have c1 := hcell 1 (by decide)
      simp only [add_off, Nat.add_zero, List.getElem?_cons_zero, List.getElem?_cons_succ] at c0 c1
      exact ⟨o, ⟨c0, c1⟩, hok⟩
    obtain ⟨l, hl0, hq⟩ := list_of len0 each
    refine ⟨some ⟨b, off, none⟩, l, cap0, by rw [hl0], ⟨fun k hk => ⟨b, off, rfl, hblk, (hq k hk).1⟩, fun o ho => ?_⟩, fun o ho => ?_, by omega, (fun e => by cases e), hm⟩
    · obtain ⟨k, hk, rfl⟩ := List.getElem_of_mem ho
      exact (hq k hk).2.1
    · obtain ⟨k, hk, rfl⟩ := List.getElem_of_mem ho
      exact (hq k hk).2.2
end
/-- How many bytes operations have together. -/
def totalP (l : List PV) : Nat := (l.map fun o => o.b.length).sum
def greatP (l : List PV) : Bool := decide (100 < l.length) || decide (70000 < totalP l)
theorem totalP_snoc (l : List PV) (k : Nat) (h : k < l.length) : totalP (l.take (k + 1)) = totalP (l.take k) + l[k].b.length := by
  rw [List.take_succ_eq_append_getElem h]
  unfold totalP
  rw [List.map_append, List.sum_append]
  simp
theorem totalP_le {l : List PV} (h : ∀ p ∈ l, p.b.length ≤ 140737488351232) : ∀ k, k ≤ l.length → totalP (l.take k) ≤ k * 140737488351232
  | 0, _ => by simp [totalP]
  | k + 1, hk => by
    have h1 := totalP_le h k (by omega)
    have h2 := h _ (List.getElem_mem (show k < l.length by omega))
    rw [totalP_snoc l k (by omega)]
    omega
set_option maxRecDepth 70000 in
set_option maxHeartbeats 2000000 in
theorem great_any (l : List PV) (A : Option Addr) (cap : Nat) (n₀ : Nat) (w : World) (h : PvsAt n₀ w A l) (hs : ∀ p ∈ l, p.b.length ≤ 140737488351232) (hl : l.length ≤ 9223372036854775807) : Calls Try.prog 16 #[.slice A l.length cap] w fun e w' => e = .returned (.bool (greatP l)) ∧ w = w' := by
  by_cases h100 : 100 < l.length
  · have HG := Lib.hid (show greatP l = true by unfold greatP; simp [h100])
    have H := Lib.hid h
    have d1 : (100 : Int) < (l.length : Int) := by omega
    clear h hs
    go_enter Try.func16, Try.ntmps16
    go_wp2
    go_loop [3, 7] (fun n i => ∃ q : Nat, q ≤ l.length ∧ i = .int .i64 (q : Int) ∧ ∃ z : Int, n = .int .i64 z) (fun _ i => l.length - (intOf i).toNat)
    case atStart => exact ⟨0, Nat.zero_le _, rfl, 0, rfl⟩
    case round =>
      obtain ⟨q, hq, rfl, z, rfl⟩ := hrel
      by_cases hlt : q < l.length
      · obtain ⟨b, off, rfl, hb, _, c3⟩ := H.out.cells q hlt
        clear hb hq
        go_wp2
        go_round
        case rel => exact ⟨q + 1, by omega, by go_num, _, rfl⟩
        case measure => simp [intOf]; omega
      · have d2 : (l.length : Int) ≤ (q : Int) := by omega
        clear hlt hq
        go_wp2
        go_ret
        refine ⟨?_, rfl⟩
        rw [HG.out]
        rfl
  · have ht := totalP_le hs
    have hle : l.length ≤ 100 := by omega
    have d1 : (l.length : Int) ≤ 100 := by omega
    have H := Lib.hid h
    have HT := Lib.hid ht
    have HSL := Lib.hid hs
    clear h h100 hs
    go_enter Try.func16, Try.ntmps16
    go_wp2
    go_loop [3, 7] (fun n i => ∃ q : Nat, q ≤ l.length ∧ i = .int .i64 (q : Int) ∧ n = .int .i64 (totalP (l.take q) : Int)) (fun _ i => l.length - (intOf i).toNat)
    case atStart => exact ⟨0, Nat.zero_le _, rfl, by simp [totalP]⟩
    case round =>
      obtain ⟨q, hq, rfl, rfl⟩ := hrel
      by_cases hlt : q < l.length
      · obtain ⟨b, off, rfl, hb, _, c3⟩ := H.out.cells q hlt
        have h1 := HT.out q hq
        have h3 := HSL.out _ (List.getElem_mem hlt)
        have HS := Lib.hid (totalP_snoc l q hlt)
        obtain ⟨T, hT⟩ : ∃ T, totalP (l.take q) = T := ⟨_, rfl⟩
        obtain ⟨B, hB⟩ : ∃ B, l[q].b.length = B := ⟨_, rfl⟩
        rw [hT] at h1 ⊢
        rw [hB] at h3 c3
        have hm : T ≤ 14073748835123200 := by omega
        have hm2 : B ≤ 140737488351232 := by omega
        have HE := Lib.hid (show totalP (l.take (q + 1)) = T + B by rw [HS.out, hT, hB])
        clear hb hq h1 h3 hT hB HS
        go_wp2
        go_round
        case rel => exact ⟨q + 1, by omega, by go_num, by rw [HE.out]; go_num⟩
        case measure => simp [intOf]; omega
      · obtain rfl : q = l.length := by omega
        rw [List.take_length]
        clear hlt hq
        have HG := Lib.hid (show greatP l = decide (70000 < totalP l) by unfold greatP; rw [show decide (100 < l.length) = false by simp; omega]; simp)
        go_wp2
        go_ret
        refine ⟨?_, rfl⟩
        show Ending.returned (.bool (decide ((100 : Int) < (l.length : Int)) || decide ((70000 : Int) < (totalP l : Int)))) = _
        rw [HG.out, show decide ((100 : Int) < (l.length : Int)) = false by simp; omega, Bool.false_or]
        congr 2
        simp only [decide_eq_decide]
        omega
end Go.Proofs.Ytkecldmjjhhlgaa.Oct
