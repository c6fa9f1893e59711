/- Appending bytes to a row of the call's own, and slices.Clone. No condition beyond the memory's reach. -/
import Derived.Test.YtfpgjabbpcndfaaByt
import Derived.Laws.OwnMore
import Derived.WalkSpells
import Derived.Lib.Hide
import Derived.Outline
namespace Go.Proofs.Ytfpgjabbpcndfaa.Oct
set_option linter.unusedVariables false
set_option linter.unusedSimpArgs false
open Go.Proofs.Ytfpgjabbpcndfaa Go.RowKit Go.ChangeShapes Go.WideShapes Go.ChangeAt

theorem own_row_ge {w : World} {base : Nat} {v : Value} {n : Nat} {xs : List Value} (h : w.ownsRow base 5 1 v n xs) : ∀ k, v.ownBlock = some k → base ≤ k := fun k e => (h.lt k e).1
theorem ownsRow_same {w w' : World} {base e s : Nat} {v : Value} {n : Nat} {xs : List Value} (h : w.ownsRow base e s v n xs) (hb : ∀ k, v.ownBlock = some k → w'.heap[k]? = w.heap[k]?) : w'.ownsRow base e s v n xs := by
  refine ⟨h.1, ?_⟩
  rcases h.2 with h | ⟨g, cap, cur, rfl, hb0, hh, r⟩
  · exact .inl h
  · exact .inr ⟨g, cap, cur, rfl, hb0, by rw [hb g rfl]; exact hh, r⟩
theorem ownsRow_below {w w' : World} {base e s : Nat} {v : Value} {n : Nat} {xs : List Value} (h : w.ownsRow base e s v n xs) (hb : Below w.heap.size w w') : w'.ownsRow base e s v n xs :=
  ownsRow_same h fun k hk => hb.block k (h.lt k hk).2
theorem ownsRow_base {w : World} {base base' e s : Nat} {v : Value} {n : Nat} {xs : List Value} (h : w.ownsRow base e s v n xs) (hb : base' ≤ base) : w.ownsRow base' e s v n xs := by
  refine ⟨h.1, ?_⟩
  rcases h.2 with h | ⟨g, cap, cur, rfl, hb0, r⟩
  · exact .inl h
  · exact .inr ⟨g, cap, cur, rfl, Nat.le_trans hb hb0, r⟩
theorem Holds8.front {n₀ : Nat} {W : World} {A : Option Addr} {l m : List UInt8} (h : Holds8 n₀ W A (l ++ m)) : Holds8 n₀ W A l := by
  rcases h with ⟨e1, e2⟩ | ⟨b, off, e, hb, hc⟩
  · exact .inl ⟨e1, (List.append_eq_nil_iff.1 e2).1⟩
  · exact .inr ⟨b, off, e, hb, fun j hj => by
      have := hc j (by rw [List.length_append]; omega)
      rwa [List.getElem_append_left hj] at this⟩
theorem append_none_any (ty : TypeId) (g n cap c : Nat) (hn : n ≤ cap) (w : World) : (Builtin.append_ #[22, 22] ty #[.slice (some ⟨g, 0, none⟩) n cap, .slice none 0 c]).run Try.prog w = .ok (.slice (some ⟨g, 0, none⟩) n cap) w := by
  obtain ⟨i0, hi, hz0, hz1, hz2⟩ := info_parts byte_info
  simp [Builtin.append_, run_underlying Try.underlying22, sizeOf, typeInfo, hi, Builtin.lenOf, Builtin.firstCells, storeCells, hn]
theorem append_nil_none (ty : TypeId) (c : Nat) (w : World) : (Builtin.append_ #[22, 22] ty #[.slice none 0 0, .slice none 0 c]).run Try.prog w = .ok (.slice none 0 0) w := append_nothing ty c w

/-- append(s, x...): s a row of the call's own, x any bytes. -/
theorem append_run (w : World) (ty : TypeId) (base n₀ : Nat) (v : Value) (xs bs : List UInt8) (hown : w.ownsRow base 5 1 v xs.length (vals xs)) (A : Option Addr) (c : Nat) (hh : Holds8 n₀ w A bs)
    (hl : xs.length + bs.length ≤ 140737488355328) (hbase : base ≤ w.heap.size) :
    ∃ v' w', (Builtin.append_ #[22, 22] ty #[v, .slice A bs.length c]).run Try.prog w = .ok v' w' ∧ w'.ownsRow base 5 1 v' (xs ++ bs).length (vals (xs ++ bs)) ∧ w.grownBy w' v.ownBlock ∧ (v'.ownBlock = v.ownBlock ∨ v'.ownBlock = some w.heap.size) := by
  obtain ⟨i0, hi, hz0, hz1, hz2⟩ := info_parts byte_info
  rcases hh with ⟨rfl, rfl⟩ | ⟨b, off, rfl, hb, hc⟩
  · refine ⟨v, w, ?_, by simpa using hown, ⟨rfl, rfl, rfl, Nat.le_refl _, fun _ _ _ => rfl⟩, .inl rfl⟩
    rcases hown.2 with ⟨rfl, _⟩ | ⟨g, cap, cur, rfl, _, _, hn, _⟩
    · exact append_nil_none ty c w
    · exact append_none_any ty g _ cap c hn w
  · obtain ⟨v', w', h1, h2, h3, _, h5⟩ := run_append_own_at (P := Try.prog) w base 22 ty 5 i0 (.int .u8 0) 1 1 Try.underlying22 hi hz0 hz1 hz2 rfl (by decide) v xs.length (vals xs) hown ⟨b, off, none⟩ bs.length c (vals bs) (by rw [vals_length, Nat.mul_one]) (fun j u hu => by
      have hj : j < bs.length := by
        have := (List.getElem?_eq_some_iff.1 hu).1
        rwa [vals_length] at this
      rw [vals_get bs j hj] at hu
      rw [add_off, hc j hj]
      exact hu) (vals_one bs) (by unfold maxLen; omega) (by omega) hbase
    exact ⟨v', w', h1, by rw [List.length_append, vals_append]; exact h2, h3, h5⟩

/-- append(s, x...), as a step of a walk. -/
theorem wpList_append_bytes {ops : Array Oper} {rest : List Oper} {o : Oper} {a : Act} {Q : Exit → Act → World → Prop} {w : World} (hgd : o.guard = none) (s x : Operand)
    (ho : o.op = .call { callee := .builtin .append, args := #[s, x], argTypes := #[22, 22] }) (base n₀ : Nat) (v : Value) (xs bs : List UInt8) (hs : a.eval s = v) (hown : w.ownsRow base 5 1 v xs.length (vals xs))
    (A : Option Addr) (c : Nat) (hx : a.eval x = .slice A bs.length c) (hh : Holds8 n₀ w A bs) (hl : xs.length + bs.length ≤ 140737488355328) (hbase : base ≤ w.heap.size)
    (h : ∀ v' w', w'.ownsRow base 5 1 v' (xs ++ bs).length (vals (xs ++ bs)) → w.grownBy w' v.ownBlock → (v'.ownBlock = v.ownBlock ∨ v'.ownBlock = some w.heap.size) → wpList Try.prog ops Q rest (a.put o.dst v') w') : wpList Try.prog ops Q (o :: rest) a w := by
  obtain ⟨v', w', hr, h2, h3, h4⟩ := append_run w o.type base n₀ v xs bs hown A c hh hl hbase
  refine wpList_plain hgd fun K hK => ?_
  unfold Oper.wp execOp
  simp only [ho, resolve, invoke, builtin, Sem.run_bind, Sem.run_pure, Result.andThen_ok, List.map_toArray, List.map_cons, List.map_nil, hs, hx, hr]
  exact hK _ _ (h v' w' h2 h3 h4)
/-- One byte, laid in a block of its own. -/
theorem holds_one (w : World) (y : UInt8) : Holds8 (w.alloc (.cells #[.int .u8 (y.toNat : Int)] 5)).heap.size (w.alloc (.cells #[.int .u8 (y.toNat : Int)] 5)) (some ⟨w.heap.size, 0, none⟩) [y] := by
  refine .inr ⟨w.heap.size, 0, rfl, by simp, fun j hj => ?_⟩
  have : j = 0 := by simpa using hj
  subst this
  rw [cell_of_row _ _ _ _ _ _ (heap_alloc_new w _)]
  rfl
/-- The bytes bs in a row of the call's own. -/
def OwnBytes (w : World) (bs : List UInt8) (e : Ending) (w' : World) : Prop := ∃ v, e = .returned v ∧ w'.ownsRow w.heap.size 5 1 v bs.length (vals bs) ∧ Below w.heap.size w w'
theorem own_empty (w : World) : (w.alloc (.cells #[] 5)).ownsRow w.heap.size 5 1 (.slice (some ⟨w.heap.size, 0, none⟩) 0 0) 0 [] :=
  ⟨rfl, .inr ⟨w.heap.size, 0, #[], rfl, Nat.le_refl _, heap_alloc_new w _, Nat.le_refl _, by simp, rfl, rfl⟩⟩
set_option maxHeartbeats 1000000 in
theorem clone_any (bs : List UInt8) (A : Option Addr) (c n₀ : Nat) (hA : A = none → c = 0) (w : World) (hh : Holds8 n₀ w A bs) (hn : n₀ ≤ w.heap.size) (hl : bs.length ≤ 140737488355328) :
    Calls Try.prog 19 #[.slice A bs.length c] w (OwnBytes w bs) := by
  rcases hh with ⟨rfl, rfl⟩ | ⟨b, off, rfl, hb, hc⟩
  · obtain rfl := hA rfl
    have hnil := @Lib.run_eql_slice_nil
    go_enter Try.func19, Try.ntmps19
    go_wp2
    go_ret
    exact ⟨_, rfl, World.ownsRow_nil _ _ _ _, Below.refl _ _⟩
  · have hh : Holds8 n₀ w (some ⟨b, off, none⟩) bs := .inr ⟨b, off, rfl, hb, hc⟩
    have HH := Lib.hid ((hh.more hn).later ((Below.refl _ w).alloc (Nat.le_refl _) (.cells #[] 5)))
    clear hh hc
    have hoe : (w.alloc (.cells #[] 5)).ownsRow w.heap.size 5 1 (.slice (some ⟨w.heap.size, 0, none⟩) 0 0) ([] : List UInt8).length (vals []) := own_empty w
    have hnil := @Lib.run_eql_slice_nil
    go_enter Try.func19, Try.ntmps19
    go_wp2_with (at_builtin; refine wpList_append_bytes rfl (.tmp 5) (.tmp 6) rfl w.heap.size _ _ [] bs rfl hoe (some ⟨b, off, none⟩) c rfl HH.out (by simpa using hl) (by simp) ?_; intro v' w1 hown' hgr hv)
    go_ret
    exact ⟨_, rfl, hown', ((Below.refl _ w).alloc (Nat.le_refl _) _).grown hgr (by simp) (fun k hk => by
      have h2 : some w.heap.size = some k := hk
      injection h2 with h2
      omega)⟩

theorem own_open {w : World} {base : Nat} {v : Value} {bs : List UInt8} (h : w.ownsRow base 5 1 v bs.length (vals bs)) :
    ∃ A c, v = .slice A bs.length c ∧ Holds8 w.heap.size w A bs ∧ bs.length ≤ c ∧ (A = none → c = 0) ∧ ∀ a, A = some a → base ≤ a.block ∧ a.block < w.heap.size := by
  obtain ⟨A, c, rfl, hh, _⟩ := own_holds rfl h
  refine ⟨A, c, rfl, hh, ?_, fun e => ?_, fun a e => ?_⟩
  · rcases h.2 with ⟨e, h0⟩ | ⟨g, cap, cur, e, _, _, hn, _⟩
    · omega
    · injection e with _ _ e3
      omega
  · subst e
    rcases h.2 with ⟨e, _⟩ | ⟨g, cap, cur, e, _⟩
    · injection e
    · cases e
  · subst e
    exact h.lt a.block rfl

/-- A literal of bytes, laid and marked. -/
def laid (w : World) (bs : List UInt8) : World := (w.alloc (.cells (vals bs).toArray 5)).freeze ⟨w.heap.size, bs.length, none⟩ 1
theorem heap_freeze (W : World) (g n : Nat) (cs : Array Value) (hh : W.heap[g]? = some (.cells cs 5 (0, 0))) : (W.freeze ⟨g, n, none⟩ 1).heap[g]? = some (.cells cs 5 (n, n + 1)) := by
  unfold World.freeze
  simp only [Nat.succ_ne_self, if_false, Array.getElem?_modify, if_true, hh]
  simp
theorem conv_mark (W : World) (g k c : Nat) (cs : Array Value) (hh : W.heap[g]? = some (.cells cs 5 (0, 0))) : (convert 22 22 (.slice (some ⟨g, 0, none⟩) k c)).run Try.prog W = .ok (.slice (some ⟨g, 0, none⟩) k c) (W.freeze ⟨g, cs.size, none⟩ 1) := by
  unfold convert markStringish
  simp [run_underlying Try.underlying22, run_underlying Try.underlying5, World.shape?, hh]
theorem laid_conv (w : World) (bs : List UInt8) (cs : Array Value) (hc : cs = (vals bs).toArray) (n : Nat) : (convert 22 22 (.slice (some ⟨w.heap.size, 0, none⟩) n n)).run Try.prog (w.alloc (.cells cs 5)) = .ok (.slice (some ⟨w.heap.size, 0, none⟩) n n) (laid w bs) := by
  subst hc
  rw [conv_mark _ w.heap.size n n (vals bs).toArray (heap_alloc_new w _)]
  unfold laid
  rw [show (vals bs).toArray.size = bs.length by simp [vals]]
theorem laid_size (w : World) (bs : List UInt8) : (laid w bs).heap.size = w.heap.size + 1 := by
  unfold laid World.freeze
  simp
theorem laid_below (w : World) (bs : List UInt8) : Below w.heap.size w (laid w bs) := by
  refine ((Below.refl _ w).alloc (Nat.le_refl _) (.cells (vals bs).toArray 5)).trans ?_
  unfold laid World.freeze
  exact ⟨rfl, rfl, rfl, by simp, fun k hk => by
    simp only [Nat.succ_ne_self, if_false, Array.getElem?_modify]
    rw [if_neg (by omega)]⟩
theorem laid_holds (w : World) (bs : List UInt8) : Holds8 (laid w bs).heap.size (laid w bs) (some ⟨w.heap.size, 0, none⟩) bs := by
  refine .inr ⟨w.heap.size, 0, rfl, by rw [laid_size]; omega, fun j hj => ?_⟩
  rw [Nat.zero_add, cell_of_row (laid w bs) w.heap.size j (vals bs).toArray 5 (bs.length, bs.length + 1) (heap_freeze _ _ _ _ (heap_alloc_new w _))]
  simpa using vals_get bs j hj

end Go.Proofs.Ytfpgjabbpcndfaa.Oct
