/- Words appended to nothing: a row of the call's own. -/
import Derived.Test.YtfpgjabbpcndfaaRefSC
namespace Go.Proofs.Ytfpgjabbpcndfaa.Oct
set_option linter.unusedVariables false
set_option linter.unusedSimpArgs false
open Go.Proofs.Ytfpgjabbpcndfaa Go.RowKit Go.Lib

theorem Keeps.renew {W0 W : World} {l : List (Nat × Array Value × TypeId)} {x : Nat × Array Value × TypeId} (h : Keeps W0 (l ++ [x]) W) (cs : Array Value) (t : TypeId) : Keeps W0 (l ++ [(W.heap.size, cs, t)]) (W.alloc (.cells cs t)) := h.pre.new cs t

/-- append(nil, a row's eight words...). -/
theorem wpList_append_words {w W : World} {l : List (Nat × Array Value × TypeId)} (hK : Keeps w l W) (i : Nat) {g : Nat} (s : St) (hi : l[i]? = some (g, vals32 (words s), 42))
    {ops : Array Oper} {rest : List Oper} {o : Oper} {a : Act} {Q : Exit → Act → World → Prop} (hgd : o.guard = none) (x y : Operand)
    (ho : o.op = .call { callee := .builtin .append, args := #[x, y], argTypes := #[40, 40] }) (hx : a.eval x = .slice none 0 0) (hy : a.eval y = .slice (some ⟨g, 0, none⟩) 8 8)
    (h : ∀ g' c cur W', Keeps w (l ++ [(g', cur, 42)]) W' → (∀ j, j < 8 → cur[j]? = some (v32 ((words s).getD j 0))) → wpList Try.prog ops Q rest (a.put o.dst (.slice (some ⟨g', 0, none⟩) 8 c)) W') : wpList Try.prog ops Q (o :: rest) a W := by
  have hnews : ∀ (j : Nat) (u : Value), ((words s).map v32)[j]? = some u → W.cell? (Addr.add ⟨g, 0, none⟩ j) = some u := fun j u hu => by
    have h1 := hK.cell i hi j
    have h2 : (Addr.add ⟨g, 0, none⟩ j) = ⟨g, j, none⟩ := by rw [add_off, Nat.zero_add]
    rw [h2, h1]
    simpa [vals32] using hu
  obtain ⟨v', w', hr, h2, h3, h4, h5⟩ := run_append_own_at (P := Try.prog) W W.heap.size 40 o.type 42 _ (.int .u32 0) 1 4 Try.underlying40 rfl rfl rfl rfl rfl (by decide) (.slice none 0 0) 0 [] (World.ownsRow_nil _ _ _ _) ⟨g, 0, none⟩ 8 8 ((words s).map v32) rfl hnews (by intro u hu; obtain ⟨x, _, rfl⟩ := List.mem_map.1 hu; rfl) (by decide) (by decide) (Nat.le_refl _)
  have hb : Below W.heap.size W w' := (Below.refl _ W).grown h3 (Nat.le_refl _) (fun k hk => by cases hk)
  rcases h2.2 with ⟨_, h0⟩ | ⟨g', cap, cur, rfl, hg, hc, hn, _, hs, ht⟩
  · omega
  · refine wpList_plain hgd fun K hKK => ?_
    unfold Oper.wp execOp
    simp only [ho, resolve, invoke, builtin, Sem.run_bind, Sem.run_pure, Result.andThen_ok, List.map_toArray, List.map_cons, List.map_nil, hx, hy, hr]
    refine hKK _ _ (h g' cap cur w' (hK.gain hb hg hc) fun j hj => ?_)
    have h1 : ((words s).map v32)[j]? = some (v32 ((words s).getD j 0)) := by
      have hl : j < (words s).length := hj
      rw [List.getElem?_map, List.getD, List.getElem?_eq_getElem hl]
      rfl
    rw [List.nil_append] at ht
    rw [← ht, List.getElem?_take_of_lt (by omega), Array.getElem?_toList] at h1
    exact h1

/-- The blocks that stay, the state under way. -/
def base5 (B h k g : Nat) (r : List Nat) (cur : Array Value) : List (Nat × Array Value × TypeId) := [(B, arr8 zero32, 25), (h, vals32 r, 42), (k, vals32 cub, 42), (g, cur, 5)]
theorem new0 (h p q k w r s : Nat) : ((h : Int) + (p : Int) + (q : Int) + (k : Int) + (w : Int) + ((r : Int) + (s : Int))) % 4294967296 = ((((h + p + q + k + w) % 4294967296 + (r + s) % 4294967296) % 4294967296 : Nat) : Int) := by
  omega
theorem newe (h p q k w d : Nat) : ((d : Int) + ((h : Int) + (p : Int) + (q : Int) + (k : Int) + (w : Int))) % 4294967296 = (((d + (h + p + q + k + w) % 4294967296) % 4294967296 : Nat) : Int) := by
  omega
theorem cells8 (X a b c Y e f g : Nat) (j : Nat) (hj : j < 8) : (#[Value.int .u32 (X : Int), Value.int .u32 (a : Int), Value.int .u32 (b : Int), Value.int .u32 (c : Int), Value.int .u32 (Y : Int), Value.int .u32 (e : Int), Value.int .u32 (f : Int), Value.int .u32 (g : Int)] : Array Value)[j]? = some (v32 (([X, a, b, c, Y, e, f, g] : List Nat).getD j 0)) := by
  match j, hj with
  | 0, _ => rfl
  | 1, _ => rfl
  | 2, _ => rfl
  | 3, _ => rfl
  | 4, _ => rfl
  | 5, _ => rfl
  | 6, _ => rfl
  | 7, _ => rfl
/-- The words of a round, as the walk has them. -/
theorem rnd_cells (a b c d e f g h k w : Nat) (j : Nat) (hj : j < 8) :
    (#[Value.int .u32 (((h : Int) + (t1 e : Int) + (ch e f g : Int) + (k : Int) + (w : Int) + ((t0 a : Int) + (maj a b c : Int))) % 4294967296), Value.int .u32 (a : Int), Value.int .u32 (b : Int), Value.int .u32 (c : Int), Value.int .u32 (((d : Int) + ((h : Int) + (t1 e : Int) + (ch e f g : Int) + (k : Int) + (w : Int))) % 4294967296), Value.int .u32 (e : Int), Value.int .u32 (f : Int), Value.int .u32 (g : Int)] : Array Value)[j]? = some (v32 ((words (rnd ⟨a, b, c, d, e, f, g, h⟩ k w)).getD j 0)) := by
  rw [new0, newe]
  simp only [rnd, words, one, two]
  exact cells8 _ _ _ _ _ _ _ _ j hj
theorem mixRow_zero (s t : St) : mixRow s t 0 = words s := rfl
theorem v32_add (x y : Nat) : Value.int .u32 (((x : Int) + (y : Int)) % 4294967296) = v32 ((x + y) % 4294967296) := by
  unfold v32
  congr 1
theorem base5_zero (B h k g : Nat) (S t : St) (cur : Array Value) : base5 B h k g (mixRow S t 0) cur = base5 B h k g (words S) cur := by rw [mixRow_zero]
theorem base5_all (B h k g : Nat) (S t : St) (cur : Array Value) : base5 B h k g (mixRow S t 8) cur = base5 B h k g (words (add8 S t)) cur := by rw [mixRow_all]
theorem rel13 {w W9 : World} {L : List (Nat × Array Value × TypeId)} {gl : Nat} {arr : Array Value} (hK : Keeps w (L ++ [(gl, arr, 42)]) W9) (S : St) (ws : List Nat) (k : Nat) (hk : k < 64) (a b c d e f g h ck wk : Nat)
    (hnx : rnds S ws (k + 1) = rnd ⟨a, b, c, d, e, f, g, h⟩ ck wk) :
    ∃ (k_1 g_1 c_1 : Nat) (cl : Array Value), k_1 ≤ 64 ∧ Value.slice (some { block := W9.heap.size, off := 0 }) 8 8 = Value.slice (some { block := g_1, off := 0 }) 8 c_1 ∧ Value.int IntKind.i64 ((k : Int) + 1) = Value.int IntKind.i64 (k_1 : Int) ∧
      (∀ (j : Nat), j < 8 → cl[j]? = some (v32 ((words (rnds S ws k_1)).getD j 0))) ∧
      Keeps w (L ++ [(g_1, cl, 42)]) (W9.alloc (Obj.cells #[Value.int .u32 (((h : Int) + (t1 e : Int) + (ch e f g : Int) + (ck : Int) + (wk : Int) + ((t0 a : Int) + (maj a b c : Int))) % 4294967296), Value.int .u32 (a : Int), Value.int .u32 (b : Int), Value.int .u32 (c : Int), Value.int .u32 (((d : Int) + ((h : Int) + (t1 e : Int) + (ch e f g : Int) + (ck : Int) + (wk : Int))) % 4294967296), Value.int .u32 (e : Int), Value.int .u32 (f : Int), Value.int .u32 (g : Int)] 42)).drew := by
  refine ⟨k + 1, W9.heap.size, 8, _, by omega, rfl, by go_num, fun j hj => ?_, (Keeps.renew hK _ _).drew⟩
  rw [hnx]
  exact rnd_cells a b c d e f g h ck wk j hj
end Go.Proofs.Ytfpgjabbpcndfaa.Oct
