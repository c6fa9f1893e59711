/- Lists of byte strings that come in: their cells, and what they hold. No condition. -/
import Derived.Test.YtfpgjabbpcndfaaShaQ
namespace Go.Proofs.Ytfpgjabbpcndfaa.Oct
set_option linter.unusedVariables false
set_option linter.unusedSimpArgs false
open Go.Proofs.Ytfpgjabbpcndfaa Go.RowKit Go.Lib Go.Shelf Go.ChangeShapes Go.WideShapes Go.ChangeAt

/-- Bytes within what comes in: of none, the address may be any. -/
def Bytes8 (n₀ : Nat) (W : World) (A : Option Addr) (bs : List UInt8) : Prop := Holds8 n₀ W A bs ∨ (bs = [] ∧ ∃ a, A = some a)
theorem sl_cells : Try.prog.cellsOf 22 = 1 := by kernel_rfl
theorem cell_addr {W : World} {a : Addr} {v : Value} (h : W.cell? a = some v) : a.spot = none ∧ a.block < W.heap.size := by
  unfold World.cell? at h
  cases hb : W.heap[a.block]? with
  | none => rw [hb] at h; cases h
  | some o =>
    refine ⟨?_, (Array.getElem?_eq_some_iff.1 hb).1⟩
    rw [hb] at h
    cases o <;> simp at h
    exact h.1
section
variable {H : Type} {enc : TypeId × Value → H}
theorem open_bytes {W : World} {fuel : Nat} {cs : List Value} {y : DataW H × List MemPlace} (hf : DataW.trod enc Try.prog W 0 (fun _ => true) true fuel 22 cs = some y) :
    ∃ (A : Option Addr) (bs : List UInt8) (cap : Nat), cs = [.slice A bs.length cap] ∧ Bytes8 W.heap.size W A bs ∧ bs.length ≤ cap ∧ (A = none → cap = 0) := by
  rcases open_ints Try.underlying22 Try.underlying5 Try.cells5 hf with ⟨rfl, _⟩ | ⟨a, len, cap, zs, rfl, _, hl, hm, hz, hx, hcell, hwz⟩
  · exact ⟨none, [], 0, rfl, .inl (.inl ⟨rfl, rfl⟩), Nat.le_refl _, fun _ => rfl⟩
  · simp only [if_true] at hz
    have hlz : len ≤ zs.length := by omega
    have hlen : ((zs.take len).map fun z => UInt8.ofNat z.toNat).length = len := by simp; omega
    refine ⟨some a, (zs.take len).map fun z => UInt8.ofNat z.toNat, cap, by rw [hlen], ?_, by rw [hlen]; omega, (fun e => by cases e)⟩
    · by_cases h0 : len = 0
      · exact .inr ⟨by rw [h0]; rfl, a, rfl⟩
      · obtain ⟨hs, hb⟩ := cell_addr (hcell 0 (by omega))
        obtain ⟨b, off, spot⟩ := a
        have hspot : spot = none := by
          cases spot with
          | none => rfl
          | some s => unfold Addr.add at hs; split at hs <;> simp_all
        subst hspot
        rw [add_off] at hb
        refine .inl (.inr ⟨b, off, rfl, hb, fun j hj => ?_⟩)
        have hj2 : j < len := by omega
        have hc := hcell j (by omega)
        rw [add_off] at hc
        rw [hc]
        have hw := byte_wf (hwz (zs[j]'(by omega)) (List.getElem_mem _))
        have e : zs.getD j 0 = zs[j]'(by omega) := by simp [List.getD, show j < zs.length by omega]
        rw [e]
        congr 2
        simp only [List.getElem_map, List.getElem_take]
        rw [UInt8.toNat_ofNat']
        omega
theorem list_of {α : Type} {Q : Nat → α → Prop} : ∀ (n : Nat), (∀ i, i < n → ∃ x, Q i x) → ∃ l : List α, l.length = n ∧ ∀ i (hi : i < l.length), Q i l[i]
  | 0, _ => ⟨[], rfl, fun i hi => by simp at hi⟩
  | n + 1, h => by
    obtain ⟨l, hl, hq⟩ := list_of n (fun i hi => h i (by omega))
    obtain ⟨x, hx⟩ := h n (by omega)
    refine ⟨l ++ [x], by simp [hl], fun i hi => ?_⟩
    by_cases hin : i < l.length
    · rw [List.getElem_append_left hin]
      exact hq i hin
    · have : i = l.length := by simp at hi; omega
      subst this
      rw [List.getElem_append_right (Nat.le_refl _)]
      simp only [Nat.sub_self, List.getElem_cons_zero]
      rw [hl]
      exact hx
end
theorem load_none (a : Addr) (w : World) : (loadCells a 0).run Try.prog w = .ok #[] w := by
  simpa using run_loadCells_list (P := Try.prog) w a [] (fun j v hj => by simp at hj)
theorem append_odd (ty : TypeId) (g n cap c : Nat) (a : Addr) (hn : n ≤ cap) (w : World) : (Builtin.append_ #[22, 22] ty #[.slice (some ⟨g, 0, none⟩) n cap, .slice (some a) 0 c]).run Try.prog w = .ok (.slice (some ⟨g, 0, none⟩) n cap) w := by
  obtain ⟨i0, hi, hz0, hz1, hz2⟩ := info_parts byte_info
  have hl := load_none a w
  simp [Builtin.append_, run_underlying Try.underlying22, sizeOf, typeInfo, hi, Builtin.lenOf, Builtin.firstCells, storeCells, hn, hl, Result.andThen]
theorem append_odd_nil (ty : TypeId) (c : Nat) (a : Addr) (w : World) : (Builtin.append_ #[22, 22] ty #[.slice none 0 0, .slice (some a) 0 c]).run Try.prog w = .ok (.slice none 0 0) w := by
  obtain ⟨i0, hi, hz0, hz1, hz2⟩ := info_parts byte_info
  have hl := load_none a w
  simp [Builtin.append_, run_underlying Try.underlying22, sizeOf, typeInfo, hi, Builtin.lenOf, Builtin.firstCells, storeCells, hl, Result.andThen]
theorem str_odd (c : Nat) (a : Addr) (w : World) : (convert 22 9 (.slice (some a) 0 c)).run Try.prog w = .ok (.string ⟨#[]⟩) w := by
  rw [run_convert_bytes_string w 22 9 5 _ 0 c Try.underlying22 Try.underlying5 Try.underlying9, run_bytesToString w _ 0 c [] (by simpa using load_none a w)]
  simp
  rfl
/-- Bytes that come in, as a string. -/
theorem str_bytes {n : Nat} {W : World} {A : Option Addr} {bs : List UInt8} (h : Bytes8 n W A bs) (c : Nat) : (convert 22 9 (.slice A bs.length c)).run Try.prog W = .ok (.string ⟨bs.toArray⟩) W := by
  rcases h with h | ⟨rfl, a, rfl⟩
  · exact str_of h c
  · exact str_odd c a W
theorem append_any (w : World) (ty : TypeId) (base n₀ : Nat) (v : Value) (xs bs : List UInt8) (hown : w.ownsRow base 5 1 v xs.length (vals xs)) (A : Option Addr) (c : Nat) (hh : Bytes8 n₀ w A bs)
    (hl : xs.length + bs.length ≤ 140737488355328) (hbase : base ≤ w.heap.size) :
    ∃ v' w', (Builtin.append_ #[22, 22] ty #[v, .slice A bs.length c]).run Try.prog w = .ok v' w' ∧ w'.ownsRow base 5 1 v' (xs ++ bs).length (vals (xs ++ bs)) ∧ w.grownBy w' v.ownBlock ∧ (v'.ownBlock = v.ownBlock ∨ v'.ownBlock = some w.heap.size) := by
  rcases hh with h | ⟨rfl, a, rfl⟩
  · exact append_run w ty base n₀ v xs bs hown A c h hl hbase
  · refine ⟨v, w, ?_, by simpa using hown, ⟨rfl, rfl, rfl, Nat.le_refl _, fun _ _ _ => rfl⟩, .inl rfl⟩
    rcases hown.2 with ⟨rfl, _⟩ | ⟨g, cap, cur, rfl, _, _, hn, _⟩
    · exact append_odd_nil ty c a w
    · exact append_odd ty g _ cap c a hn w
theorem wpList_append_in {ops : Array Oper} {rest : List Oper} {o : Oper} {a : Act} {Q : Exit → Act → World → Prop} {w : World} (hgd : o.guard = none) (s x : Operand)
    (ho : o.op = .call { callee := .builtin .append, args := #[s, x], argTypes := #[22, 22] }) (base n₀ : Nat) (v : Value) (xs bs : List UInt8) (hs : a.eval s = v) (hown : w.ownsRow base 5 1 v xs.length (vals xs))
    (A : Option Addr) (c : Nat) (hx : a.eval x = .slice A bs.length c) (hh : Bytes8 n₀ w A bs) (hl : xs.length + bs.length ≤ 140737488355328) (hbase : base ≤ w.heap.size)
    (h : ∀ v' w', w'.ownsRow base 5 1 v' (xs ++ bs).length (vals (xs ++ bs)) → w.grownBy w' v.ownBlock → (v'.ownBlock = v.ownBlock ∨ v'.ownBlock = some w.heap.size) → wpList Try.prog ops Q rest (a.put o.dst v') w') : wpList Try.prog ops Q (o :: rest) a w := by
  obtain ⟨v', w', hr, h2, h3, h4⟩ := append_any w o.type base n₀ v xs bs hown A c hh hl hbase
  refine wpList_plain hgd fun K hK => ?_
  unfold Oper.wp execOp
  simp only [ho, resolve, invoke, builtin, Sem.run_bind, Sem.run_pure, Result.andThen_ok, List.map_toArray, List.map_cons, List.map_nil, hs, hx, hr]
  exact hK _ _ (h v' w' h2 h3 h4)
theorem Bytes8.below {n₀ n₁ : Nat} {A B : World} (h : Below n₁ A B) (hn : n₀ ≤ n₁) {sv : Option Addr} {bs : List UInt8} : Bytes8 n₀ A sv bs → Bytes8 n₀ B sv bs
  | .inl e => .inl (e.below h hn)
  | .inr e => .inr e
theorem Bytes8.more {n₀ n₁ : Nat} {W : World} {A : Option Addr} {bs : List UInt8} (h : Bytes8 n₀ W A bs) (hn : n₀ ≤ n₁) : Bytes8 n₁ W A bs := by
  rcases h with h | h
  · exact .inl (h.more hn)
  · exact .inr h
structure BV where
  A : Option Addr
  b : List UInt8
  c : Nat
structure BvsAt (n₀ : Nat) (W : World) (PA : Option Addr) (l : List BV) : Prop where
  cells : ∀ k (h : k < l.length), ∃ b off, PA = some ⟨b, off, none⟩ ∧ b < n₀ ∧ W.cell? ⟨b, off + k, none⟩ = some (.slice l[k].A l[k].b.length l[k].c)
  held : ∀ p ∈ l, Bytes8 n₀ W p.A p.b ∧ p.b.length ≤ p.c
theorem BvsAt.later {n₀ : Nat} {W W' : World} {PA : Option Addr} {l : List BV} (h : BvsAt n₀ W PA l) (hb : Below n₀ W W') : BvsAt n₀ W' PA l :=
  ⟨fun k hk => by
    obtain ⟨b, off, e, hl, c0⟩ := h.cells k hk
    exact ⟨b, off, e, hl, (hb.cell (p := ⟨b, _, none⟩) hl).trans c0⟩, fun p hp => ⟨(h.held p hp).1.below hb (Nat.le_refl _), (h.held p hp).2⟩⟩
section
variable {H : Type} {enc : TypeId × Value → H}
theorem okw_slice49 {W : World} {a : Addr} {len cap : Nat} (h : Value.okWide Try.prog W .any 0 28 (.slice (some a) len cap)) : a.spot = none ∧ a.block < W.heap.size := by
  have h1 : Cell.ok Try.prog W .any 0 28 (.slice (some a) len cap) := by
    simpa [Value.okWide, Cell.okWide, Try.underlying28] using h
  simp only [Cell.ok, Try.underlying28, World.has] at h1
  obtain ⟨_, _, _, hs, row, cells, hsh, _⟩ := h1
  refine ⟨hs, ?_⟩
  unfold World.shape? at hsh
  rcases Nat.lt_or_ge a.block W.heap.size with h | h
  · exact h
  · rw [Array.getElem?_eq_none h] at hsh
    cases hsh
theorem open_bvs {W : World} {v : Value} {d : DataW H} {p : List MemPlace} (hval : Value.okWide Try.prog W .any 0 28 v) (h : DataW.Trod enc Try.prog W 0 (fun _ => true) true 28 v d p) :
    ∃ (A : Option Addr) (l : List BV) (cap : Nat), v = .slice A l.length cap ∧ BvsAt W.heap.size W A l ∧ l.length ≤ cap ∧ (A = none → cap = 0) ∧ cap ≤ maxLen := by
  obtain ⟨fuel, hf⟩ := h
  obtain ⟨a0, len0, cap0, rfl⟩ := okWide_slice Try.underlying28 hval
  rcases DataW.trod_slice Try.underlying28 hf with ⟨hx, _⟩ | ⟨a, len, cap, elems, rest, n, _, hcs, hx, _, hl, hm, hlen, hel, _, _⟩
  · simp [Value.cells] at hx
    obtain ⟨rfl, rfl, rfl⟩ := hx
    exact ⟨none, [], 0, rfl, ⟨fun k hk => by simp at hk, fun o ho => by cases ho⟩, Nat.le_refl _, fun _ => rfl, by decide⟩
  · simp [Value.cells] at hcs
    obtain ⟨rfl, rfl, rfl⟩ := hcs
    obtain ⟨hspot, hblk⟩ := okw_slice49 hval
    obtain ⟨b, off, spot⟩ := a
    simp only at hspot hblk
    subst hspot
    have hd : d = .slice (elems.map (·.1)) (rest.map (·.1)) := congrArg Prod.fst hx
    have each : ∀ i, i < len0 → ∃ o : BV, W.cell? ⟨b, off + i, none⟩ = some (.slice o.A o.b.length o.c) ∧ Bytes8 W.heap.size W o.A o.b ∧ o.b.length ≤ o.c := by
      intro i hi
      have h1 := hel i hi
      have hi2 : i < elems.length := by omega
      rw [List.getElem?_eq_getElem hi2, Option.bind_eq_some_iff] at h1
      obtain ⟨cs, hcs, hy⟩ := h1
      rw [sl_cells] at hcs
      obtain ⟨_, hcl, hcell⟩ := World.cells?_some hcs
      obtain ⟨oA, ob, oc, rfl, hbb, hlc, hn⟩ := open_bytes hy
      have c0 := hcell 0 (by decide)
      simp only [add_off, Nat.add_zero, Nat.mul_one, List.getElem?_cons_zero] at c0
      exact ⟨⟨oA, ob, oc⟩, c0, hbb, hlc⟩
    obtain ⟨l, hl0, hq⟩ := list_of len0 each
    refine ⟨some ⟨b, off, none⟩, l, cap0, by rw [hl0], ⟨fun k hk => ⟨b, off, rfl, hblk, (hq k hk).1⟩, fun o ho => ?_⟩, by omega, (fun e => by cases e), hm⟩
    · obtain ⟨k, hk, rfl⟩ := List.getElem_of_mem ho
      exact (hq k hk).2
end
end Go.Proofs.Ytfpgjabbpcndfaa.Oct
