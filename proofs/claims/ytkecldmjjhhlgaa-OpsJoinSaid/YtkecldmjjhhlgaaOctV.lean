/- Bytes of none, at any address, appended; the contracts of purserref01.Bytes and Twin at bytes that come in. No condition beyond the memory's reach. -/
import Derived.Test.YtkecldmjjhhlgaaOctU
namespace Go.Proofs.Ytkecldmjjhhlgaa.Oct
open Go.Proofs.Ytkecldmjjhhlgaa Go.RowKit Go.Shelf

theorem load_none (a : Addr) (w : World) : (loadCells a 0).run Try.prog w = .ok #[] w := by
  simpa using run_loadCells_list (P := Try.prog) w a [] (fun j v hj => by simp at hj)
theorem append_odd (ty : TypeId) (g n cap c : Nat) (a : Addr) (hn : n ≤ cap) (w : World) : (Builtin.append_ #[22, 22] ty #[.slice (some ⟨g, 0, none⟩) n cap, .slice (some a) 0 c]).run Try.prog w = .ok (.slice (some ⟨g, 0, none⟩) n cap) w := by
  obtain ⟨i0, hi, hz0, hz1, hz2⟩ := info_parts byte_info
  have hl := load_none a w
  simp [Builtin.append_, run_underlying Try.underlying22, sizeOf, typeInfo, hi, Builtin.lenOf, Builtin.firstCells, storeCells, hn, hl, Result.andThen]
theorem append_odd_nil (ty : TypeId) (c : Nat) (a : Addr) (w : World) : (Builtin.append_ #[22, 22] ty #[.slice none 0 0, .slice (some a) 0 c]).run Try.prog w = .ok (.slice none 0 0) w := by
  obtain ⟨i0, hi, hz0, hz1, hz2⟩ := info_parts byte_info
  have hl := load_none a w
  simp [Builtin.append_, run_underlying Try.underlying22, sizeOf, typeInfo, hi, Builtin.lenOf, Builtin.firstCells, storeCells, hl, Result.andThen]
theorem str_odd (c : Nat) (a : Addr) (w : World) : (convert 22 9 (.slice (some a) 0 c)).run Try.prog w = .ok (.string ⟨#[]⟩) w := by
  rw [run_convert_bytes_string w 22 9 5 _ 0 c Try.underlying22 Try.underlying5 Try.underlying9, run_bytesToString w _ 0 c [] (by simpa using load_none a w)]
  simp
  rfl
/-- Bytes that come in, as a string. -/
theorem str_bytes {n : Nat} {W : World} {A : Option Addr} {bs : List UInt8} (h : Bytes8 n W A bs) (c : Nat) : (convert 22 9 (.slice A bs.length c)).run Try.prog W = .ok (.string ⟨bs.toArray⟩) W := by
  rcases h with h | ⟨rfl, a, rfl⟩
  · exact str_of h c
  · exact str_odd c a W
theorem append_any (w : World) (ty : TypeId) (base n₀ : Nat) (v : Value) (xs bs : List UInt8) (hown : w.ownsRow base 5 1 v xs.length (vals xs)) (A : Option Addr) (c : Nat) (hh : Bytes8 n₀ w A bs)
    (hl : xs.length + bs.length ≤ 140737488355328) (hbase : base ≤ w.heap.size) :
    ∃ v' w', (Builtin.append_ #[22, 22] ty #[v, .slice A bs.length c]).run Try.prog w = .ok v' w' ∧ w'.ownsRow base 5 1 v' (xs ++ bs).length (vals (xs ++ bs)) ∧ w.grownBy w' v.ownBlock ∧ (v'.ownBlock = v.ownBlock ∨ v'.ownBlock = some w.heap.size) := by
  rcases hh with h | ⟨rfl, a, rfl⟩
  · exact append_run w ty base n₀ v xs bs hown A c h hl hbase
  · refine ⟨v, w, ?_, by simpa using hown, ⟨rfl, rfl, rfl, Nat.le_refl _, fun _ _ _ => rfl⟩, .inl rfl⟩
    rcases hown.2 with ⟨rfl, _⟩ | ⟨g, cap, cur, rfl, _, _, hn, _⟩
    · exact append_odd_nil ty c a w
    · exact append_odd ty g _ cap c a hn w
theorem wpList_append_in {ops : Array Oper} {rest : List Oper} {o : Oper} {a : Act} {Q : Exit → Act → World → Prop} {w : World} (hgd : o.guard = none) (s x : Operand)
    (ho : o.op = .call { callee := .builtin .append, args := #[s, x], argTypes := #[22, 22] }) (base n₀ : Nat) (v : Value) (xs bs : List UInt8) (hs : a.eval s = v) (hown : w.ownsRow base 5 1 v xs.length (vals xs))
    (A : Option Addr) (c : Nat) (hx : a.eval x = .slice A bs.length c) (hh : Bytes8 n₀ w A bs) (hl : xs.length + bs.length ≤ 140737488355328) (hbase : base ≤ w.heap.size)
    (h : ∀ v' w', w'.ownsRow base 5 1 v' (xs ++ bs).length (vals (xs ++ bs)) → w.grownBy w' v.ownBlock → (v'.ownBlock = v.ownBlock ∨ v'.ownBlock = some w.heap.size) → wpList Try.prog ops Q rest (a.put o.dst v') w') : wpList Try.prog ops Q (o :: rest) a w := by
  obtain ⟨v', w', hr, h2, h3, h4⟩ := append_any w o.type base n₀ v xs bs hown A c hh hl hbase
  refine wpList_plain hgd fun K hK => ?_
  unfold Oper.wp execOp
  simp only [ho, resolve, invoke, builtin, Sem.run_bind, Sem.run_pure, Result.andThen_ok, List.map_toArray, List.map_cons, List.map_nil, hs, hx, hr]
  exact hK _ _ (h v' w' h2 h3 h4)
theorem Bytes8.below {n₀ n₁ : Nat} {A B : World} (h : Below n₁ A B) (hn : n₀ ≤ n₁) {sv : Option Addr} {bs : List UInt8} : Bytes8 n₀ A sv bs → Bytes8 n₀ B sv bs
  | .inl e => .inl (e.below h hn)
  | .inr e => .inr e
theorem Bytes8.more {n₀ n₁ : Nat} {W : World} {A : Option Addr} {bs : List UInt8} (h : Bytes8 n₀ W A bs) (hn : n₀ ≤ n₁) : Bytes8 n₁ W A bs := by
  rcases h with h | h
  · exact .inl (h.more hn)
  · exact .inr h
theorem twin_in (bs : List UInt8) (A : Option Addr) (c n₀ : Nat) (w : World) (hh : Bytes8 n₀ w A bs) (hl : bs.length ≤ 140737488355328) :
    Calls Try.prog 30 #[.slice A bs.length c] w (OwnBytes w bs) := by
  have hoe : w.ownsRow w.heap.size 5 1 (.slice none 0 0) ([] : List UInt8).length (vals []) := World.ownsRow_nil _ _ _ _
  have HH := Lib.hid hh
  clear hh
  go_enter Try.func30, Try.ntmps30
  go_wp2_with (at_builtin; refine wpList_append_in rfl (.tmp 4) (.tmp 5) rfl w.heap.size _ _ [] bs rfl hoe A c rfl HH.out (by simpa using hl) (Nat.le_refl _) ?_; intro v' w1 hown' hgr hv)
  go_ret
  exact ⟨_, rfl, hown', (Below.refl _ w).grown hgr (Nat.le_refl _) (fun k hk => by cases hk)⟩
end Go.Proofs.Ytkecldmjjhhlgaa.Oct
