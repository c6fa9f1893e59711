/- A list of bytes that comes in; operations appended to a row of the call's own; pushes. No condition beyond the memory's reach. -/
import Derived.Test.YtkecldmjjhhlgaaOpsL
namespace Go.Proofs.Ytkecldmjjhhlgaa.Oct
open Go.Proofs.Ytkecldmjjhhlgaa Go.ChangeShapes Go.WideShapes Go.ChangeAt Go.RowKit Go.Shelf
structure BV where
  A : Option Addr
  b : List UInt8
  c : Nat
structure BvsAt (n₀ : Nat) (W : World) (PA : Option Addr) (l : List BV) : Prop where
  cells : ∀ k (h : k < l.length), ∃ b off, PA = some ⟨b, off, none⟩ ∧ b < n₀ ∧ W.cell? ⟨b, off + k, none⟩ = some (.slice l[k].A l[k].b.length l[k].c)
  held : ∀ p ∈ l, Bytes8 n₀ W p.A p.b
theorem BvsAt.later {n₀ : Nat} {W W' : World} {PA : Option Addr} {l : List BV} (h : BvsAt n₀ W PA l) (hb : Below n₀ W W') : BvsAt n₀ W' PA l :=
  ⟨fun k hk => by
    obtain ⟨b, off, e, hl, c0⟩ := h.cells k hk
    exact ⟨b, off, e, hl, (hb.cell (p := ⟨b, _, none⟩) hl).trans c0⟩, fun p hp => (h.held p hp).below hb (Nat.le_refl _)⟩
section
variable {H : Type} {enc : TypeId × Value → H}
theorem okw_slice49 {W : World} {a : Addr} {len cap : Nat} (h : Value.okWide Try.prog W .any 0 49 (.slice (some a) len cap)) : a.spot = none ∧ a.block < W.heap.size := by
  have h1 : Cell.ok Try.prog W .any 0 49 (.slice (some a) len cap) := by
    simpa [Value.okWide, Cell.okWide, Try.underlying49] using h
  simp only [Cell.ok, Try.underlying49, World.has] at h1
  obtain ⟨_, _, _, hs, row, cells, hsh, _⟩ := h1
  refine ⟨hs, ?_⟩
  unfold World.shape? at hsh
  rcases Nat.lt_or_ge a.block W.heap.size with h | h
  · exact h
  · rw [Array.getElem?_eq_none h] at hsh
    cases hsh
theorem open_bvs {W : World} {v : Value} {d : DataW H} {p : List MemPlace} (hval : Value.okWide Try.prog W .any 0 49 v) (h : DataW.Trod enc Try.prog W 0 (fun _ => true) true 49 v d p) (hw : ∀ n ∈ d.weights Try.prog 49, n ≤ reachBytes) :
    ∃ (A : Option Addr) (l : List BV) (cap : Nat), v = .slice A l.length cap ∧ BvsAt W.heap.size W A l ∧ (∀ p ∈ l, p.b.length ≤ 140737488351232) ∧ l.length ≤ cap ∧ (A = none → cap = 0) ∧ cap ≤ maxLen := by
  obtain ⟨fuel, hf⟩ := h
  obtain ⟨a0, len0, cap0, rfl⟩ := okWide_slice Try.underlying49 hval
  rcases DataW.trod_slice Try.underlying49 hf with ⟨hx, _⟩ | ⟨a, len, cap, elems, rest, n, _, hcs, hx, _, hl, hm, hlen, hel, _, _⟩
  · simp [Value.cells] at hx
    obtain ⟨rfl, rfl, rfl⟩ := hx
    exact ⟨none, [], 0, rfl, ⟨fun k hk => by simp at hk, fun o ho => by cases ho⟩, (fun o ho => by cases ho), Nat.le_refl _, fun _ => rfl, by decide⟩
  · simp [Value.cells] at hcs
    obtain ⟨rfl, rfl, rfl⟩ := hcs
    obtain ⟨hspot, hblk⟩ := okw_slice49 hval
    obtain ⟨b, off, spot⟩ := a
    simp only at hspot hblk
    subst hspot
    have hd : d = .slice (elems.map (·.1)) (rest.map (·.1)) := congrArg Prod.fst hx
    have each : ∀ i, i < len0 → ∃ o : BV, W.cell? ⟨b, off + i, none⟩ = some (.slice o.A o.b.length o.c) ∧ Bytes8 W.heap.size W o.A o.b ∧ o.b.length ≤ 140737488351232 := by
      intro i hi
      have h1 := hel i hi
      have hi2 : i < elems.length := by omega
      rw [List.getElem?_eq_getElem hi2, Option.bind_eq_some_iff] at h1
      obtain ⟨cs, hcs, hy⟩ := h1
      rw [sl_cells] at hcs
      obtain ⟨_, hcl, hcell⟩ := World.cells?_some hcs
      obtain ⟨oA, ob, oc, rfl, hbb, hlc, hn, hsm⟩ := open_bytes hy
      have hq := hsm (fun m hm => hw m (by
        rw [hd]
        simp only [DataW.weights, Try.underlying49, List.mem_cons, List.mem_append]
        exact .inr (.inl (weights_all (List.mem_map_of_mem (List.getElem_mem hi2)) hm))))
      have c0 := hcell 0 (by decide)
      simp only [add_off, Nat.add_zero, Nat.mul_one, List.getElem?_cons_zero] at c0
      exact ⟨⟨oA, ob, oc⟩, c0, hbb, by simp only; omega⟩
    obtain ⟨l, hl0, hq⟩ := list_of len0 each
    refine ⟨some ⟨b, off, none⟩, l, cap0, by rw [hl0], ⟨fun k hk => ⟨b, off, rfl, hblk, (hq k hk).1⟩, fun o ho => ?_⟩, fun o ho => ?_, by omega, (fun e => by cases e), hm⟩
    · obtain ⟨k, hk, rfl⟩ := List.getElem_of_mem ho
      exact (hq k hk).2.1
    · obtain ⟨k, hk, rfl⟩ := List.getElem_of_mem ho
      exact (hq k hk).2.2
end
/-- append(all, o), as a step of a walk. -/
theorem wpList_append_pv {ops : Array Oper} {rest : List Oper} {o : Oper} {a : Act} {Q : Exit → Act → World → Prop} {w : World} (hgd : o.guard = none) (s x : Operand)
    (ho : o.op = .call { callee := .builtin .append, args := #[s, x], argTypes := #[23, 23] }) (base : Nat) (v : Value) (D : List PV) (p : PV) (n g : Nat) (hs : a.eval s = v) (hown : w.ownsRow base 32 2 v n (pvRow D))
    (hx : a.eval x = .slice (some ⟨g, 0, none⟩) 1 1) (hg : w.heap[g]? = some (.cells (pvCells p).toArray 32 (0, 0))) (hl : n ≤ 1000000) (hbase : base ≤ w.heap.size)
    (h : ∀ v' w', w'.ownsRow base 32 2 v' (n + 1) (pvRow (D ++ [p])) → w.grownBy w' v.ownBlock → (v'.ownBlock = v.ownBlock ∨ v'.ownBlock = some w.heap.size) → wpList Try.prog ops Q rest (a.put o.dst v') w') : wpList Try.prog ops Q (o :: rest) a w := by
  obtain ⟨i0, hi, hz0, hz1, hz2⟩ := info_parts pv_info
  obtain ⟨v', w', hr, h2, h3, _, h5⟩ := run_append_own_at (P := Try.prog) w base 23 o.type 32 i0 (.agg #[.int .u8 0, .slice none 0 0]) 2 32 Try.underlying23 hi hz0 hz1 hz2 rfl (by decide) v n (pvRow D) hown ⟨g, 0, none⟩ 1 1 (pvCells p) rfl (fun j u hj => by
    rw [add_off, Nat.zero_add, cell_of_row w g j _ _ _ hg]
    simpa using hj) (fun u hu => by
      simp only [pvCells, List.mem_cons, List.not_mem_nil, or_false] at hu
      rcases hu with rfl | rfl <;> rfl) (by unfold maxLen; omega) (by omega) hbase
  refine wpList_plain hgd fun K hK => ?_
  unfold Oper.wp execOp
  simp only [ho, resolve, invoke, builtin, Sem.run_bind, Sem.run_pure, Result.andThen_ok, List.map_toArray, List.map_cons, List.map_nil, hs, hx, hr]
  exact hK _ _ (h v' w' (by rw [pvRow_snoc]; exact h2) h3 h5)
theorem pushC_le (n : Nat) : pushC n ≤ 77 := by
  unfold pushC
  split
  · omega
  · split <;> omega
/-- What Push answers may be, pushes what it was given, and is as long as this. -/
theorem push_valid (pc : UInt8) (bs : List UInt8) (h : pc.toNat = pushC bs.length) (hl : bs.length ≤ 65535) : validB (pc, bs) = true := by
  unfold validB
  dsimp only
  rw [h]
  unfold pushC
  by_cases h1 : bs.length ≤ 75
  · rw [if_pos h1, if_pos h1]; simp
  · rw [if_neg h1]
    by_cases h2 : bs.length ≤ 255
    · rw [if_pos h2, if_neg (by decide), if_pos rfl]; simpa using h2
    · rw [if_neg h2, if_neg (by decide), if_neg (by decide), if_pos rfl]; simpa using hl
theorem push_val (pc : UInt8) (bs : List UInt8) (h : pc.toNat = pushC bs.length) (hl : bs.length ≤ 65535) : valB (pc, bs) = some bs := by
  unfold valB
  rw [if_pos (push_valid pc bs h hl)]
  dsimp only
  rw [if_pos (by rw [h]; exact pushC_le _)]
theorem push_no (pc : UInt8) (bs : List UInt8) (h : pc.toNat = pushC bs.length) (hl : bs.length ≤ 65535) : noB (pc, bs) = false := by
  unfold noB
  rw [push_val pc bs h hl]
  rfl
theorem joinB_one (o : UInt8 × List UInt8) : joinB [o] = opBytes o := by simp [joinB]
def pushLen (n : Nat) : Nat := if n ≤ 75 then 1 + n else if n ≤ 255 then 2 + n else 3 + n
theorem push_len (pc : UInt8) (bs : List UInt8) (h : pc.toNat = pushC bs.length) : (joinB [(pc, bs)]).length = pushLen bs.length := by
  rw [joinB_one, opBytes_length]
  unfold headOf pushLen
  dsimp only
  rw [h]
  unfold pushC
  by_cases h1 : bs.length ≤ 75
  · rw [if_pos h1, if_pos h1, if_neg (by omega), if_neg (by omega)]; rfl
  · rw [if_neg h1, if_neg h1]
    by_cases h2 : bs.length ≤ 255
    · rw [if_pos h2, if_pos h2, if_pos rfl]; rfl
    · rw [if_neg h2, if_neg h2, if_neg (by decide), if_pos rfl]; rfl
theorem len_76 (bs : List UInt8) : (joinB [((76 : UInt8), bs)]).length = 2 + bs.length := by
  rw [joinB_one, opBytes_length]
  unfold headOf
  rw [if_pos (by rfl)]
  rfl
theorem len_77 (bs : List UInt8) : (joinB [((77 : UInt8), bs)]).length = 3 + bs.length := by
  rw [joinB_one, opBytes_length]
  unfold headOf
  dsimp only
  rw [if_neg (by decide), if_pos (by rfl)]
  rfl
theorem valid_76 (bs : List UInt8) : validB ((76 : UInt8), bs) = decide (bs.length ≤ 255) := by
  unfold validB
  dsimp only
  rw [if_neg (by decide), if_pos (by rfl)]
theorem valid_77 (bs : List UInt8) : validB ((77 : UInt8), bs) = decide (bs.length ≤ 65535) := by
  unfold validB
  dsimp only
  rw [if_neg (by decide), if_neg (by decide), if_pos (by rfl)]
/-- One operation, laid in a block of its own. -/
theorem pvs_one {W : World} {g : Nat} {p : PV} (hg : W.heap[g]? = some (.cells (pvCells p).toArray 32 (0, 0))) (hh : Bytes8 W.heap.size W p.A p.b) : PvsAt W.heap.size W (some ⟨g, 0, none⟩) [p] :=
  pvs_cur hg [p] (by simp [pvRow, pvCells]) (fun q hq => by rw [List.mem_singleton.1 hq]; exact hh)
end Go.Proofs.Ytkecldmjjhhlgaa.Oct
