/- The contract of ops.Split. No condition beyond the memory's reach. -/
import Derived.Test.YtkecldmjjhhlgaaOpsB
import Derived.Test.YtkecldmjjhhlgaaRng2
import Derived.Maps.OwnIn
namespace Go.Proofs.Ytkecldmjjhhlgaa.Oct
open Go.Proofs.Ytkecldmjjhhlgaa Go.RowKit Go.Shelf
attribute [local go_sem] Oper.semAt_some
/-- An operation in memory. -/
structure PV where
  code : UInt8
  A : Option Addr
  b : List UInt8
  c : Nat
def pvCells (p : PV) : List Value := [.int .u8 (p.code.toNat : Int), .slice p.A p.b.length p.c]
def pvRow (l : List PV) : List Value := l.flatMap pvCells
theorem pvRow_length (l : List PV) : (pvRow l).length = l.length * 2 := by
  induction l with
  | nil => rfl
  | cons o l ih =>
    have : pvRow (o :: l) = pvCells o ++ pvRow l := by simp [pvRow]
    rw [this, List.length_append, ih, List.length_cons]
    simp [pvCells]
    omega
theorem pvRow_snoc (l : List PV) (o : PV) : pvRow (l ++ [o]) = pvRow l ++ pvCells o := by simp [pvRow]
theorem pv_info : (Try.prog.info? 32).map (fun i => (i.zero, i.size, i.bytes)) = some (some (.agg #[.int .u8 0, .slice none 0 0]), 2, 32) := by kernel_rfl
/-- What an operation is. -/
def opAt (s : List UInt8) (p : Nat) : UInt8 × List UInt8 := (s.getD p 0, (s.drop (p + (ext (s.drop p)).1)).take (ext (s.drop p)).2)
def PV.is (p : PV) : UInt8 × List UInt8 := (p.code, p.b)
def KS (Bs n₀ : Nat) (W W' : World) : Prop := KB Bs n₀ W W' ∧ W.heap.size ≤ W'.heap.size
theorem operations_any (n c : Nat) (A : Option Addr) (w : World) : Calls Try.prog 28 #[.slice A n c] w fun e w' => e = .returned (.func (.func 39) #[] #[.pointer (some ⟨w.heap.size, 0, none⟩)]) ∧ w' = w.alloc (.cells #[.slice A n c] 22) := by
  go_enter Try.func28, Try.ntmps28
  go_wp2
  go_ret
  exact ⟨rfl, rfl⟩
theorem ops_stops (n : Nat) (hn : 1 ≤ n) (Bs n₀ c : Nat) (A : Option Addr) (s : List UInt8) (hsl : s.length ≤ 1000000) (hsc : s.length ≤ c) (hcm : c ≤ 9223372036854775807)
    (w : World) (hBs : w.cell? ⟨Bs, 0, none⟩ = some (.slice A s.length c)) (hh : Holds8 n₀ w A s) (hn0 : n₀ ≤ w.heap.size) (hBl : Bs < w.heap.size) :
    SeqOwn Fence.wide n Try.prog 39 #[.pointer (some ⟨Bs, 0, none⟩)] (encO A s c) (fun X Y => Below X.heap.size X Y) (KS Bs n₀) (fun xs => ∃ k, xs = poss s k ∧ s.length ≤ posN s k) (fun xs => ∃ k, xs = poss s (k + 1) ∧ posN s k < s.length) s.length w := fun l J Jx W hW hJo hY h0 => by
  refine (ops1_in n hn l Bs n₀ c A s hsl hsc hcm J Jx hJo (fun pre x W hJ hl => ?_) W ((hW.cell (p := ⟨Bs, 0, none⟩) hBl).trans hBs) (hh.below hW hn0) (Nat.le_trans hn0 hW.size) (Nat.lt_of_lt_of_le hBl hW.size) h0).mono ?_
  · obtain ⟨fn, t, a, b, h1, h2⟩ := hY pre x W hJ hl
    refine ⟨fn, t, a, b, h1, h2.mono fun e W' h => ?_⟩
    rcases h with ⟨e1, h3, h4⟩ | h
    · exact .inl ⟨e1, h3, h4.1, h4.2⟩
    · exact .inr h
  · rintro e W' ⟨he, ⟨k, hk, hj⟩ | ⟨k, hk, hj⟩⟩
    · exact ⟨he, .inl ⟨_, ⟨k, rfl, hk⟩, hj⟩⟩
    · exact ⟨he, .inr ⟨_, ⟨k, rfl, hk⟩, hj⟩⟩
/-- What stands in memory behind so many rounds: the operations so far, and how far they reach. -/
structure SoFar (w0 : World) (s : List UInt8) (A : Option Addr) (c : Nat) (pre : List Nat) (W : World) : Prop where
  below : Below w0.heap.size w0 W
  script : W.heap[w0.heap.size]? = some (.cells #[.slice A s.length c] 22 (0, 0))
  its : W.heap[w0.heap.size + 3]? = some (.cells #[.slice A s.length c] 22 (0, 0))
  fits : ∀ p ∈ pre, aft s p ≤ s.length
  end_ : W.heap[w0.heap.size + 2]? = some (.cells #[.int .i64 (pre.foldl (fun _ p => (aft s p : Int)) 0)] 3 (0, 0))
  row : ∃ v rs, W.heap[w0.heap.size + 1]? = some (.cells #[v] 23 (0, 0)) ∧ W.ownsRow (w0.heap.size + 4) 32 2 v rs.length (pvRow rs) ∧ rs.map PV.is = pre.map (opAt s) ∧ (∀ p ∈ rs, Holds8 W.heap.size W p.A p.b ∧ ∀ a, p.A = some a → w0.heap.size + 4 ≤ a.block ∧ v.ownBlock ≠ some a.block)
theorem SoFar.same {w0 : World} {s : List UInt8} {A : Option Addr} {c : Nat} {pre : List Nat} {W W' : World} (h : SoFar w0 s A c pre W) (hb : Below w0.heap.size w0 W') (hk : ∀ (k : Nat) (cs : Array Value) (t : TypeId) (fr : Nat × Nat), W.heap[k]? = some (.cells cs t fr) → W'.heap[k]? = some (.cells cs t fr)) (hs : W.heap.size ≤ W'.heap.size) : SoFar w0 s A c pre W' := by
  obtain ⟨h1, h2, h3, h4, h5, v, rs, h6, h7, h8, h9⟩ := h
  refine ⟨hb, hk _ _ _ _ h2, hk _ _ _ _ h3, h4, hk _ _ _ _ h5, v, rs, hk _ _ _ _ h6, ?_, h8, fun p hp => ⟨?_, (h9 p hp).2⟩⟩
  · refine ⟨h7.1, ?_⟩
    rcases h7.2 with q | ⟨g, cap, cur, e, hg, hh, r⟩
    · exact .inl q
    · exact .inr ⟨g, cap, cur, e, hg, hk _ _ _ _ hh, r⟩
  · rcases (h9 p hp).1 with q | ⟨b, off, e, hbl, hc⟩
    · exact .inl q
    · refine .inr ⟨b, off, e, Nat.lt_of_lt_of_le hbl hs, fun j hj => ?_⟩
      have h := hc j hj
      cases ho : W.heap[b]? with
      | none => unfold World.cell? at h; simp only [ho] at h; cases h
      | some o =>
        cases o with
        | cells cs t fr =>
          have h2 := hk _ _ _ _ ho
          unfold World.cell? at h ⊢
          simp only [ho, h2] at h ⊢
          exact h
        | _ => unfold World.cell? at h; simp [ho] at h
theorem SoFar.lt {w0 : World} {s : List UInt8} {A : Option Addr} {c : Nat} {pre : List Nat} {W : World} (h : SoFar w0 s A c pre W) : w0.heap.size + 4 ≤ W.heap.size := by
  have := (Array.getElem?_eq_some_iff.1 h.its).1
  omega
theorem SoFar.later {w0 : World} {s : List UInt8} {A : Option Addr} {c : Nat} {pre : List Nat} {W W' : World} (h : SoFar w0 s A c pre W) (hb : Below W.heap.size W W') : SoFar w0 s A c pre W' :=
  h.same (h.below.trans (hb.mono (by have := h.lt; omega))) (fun k cs t fr e => (hb.block k (Array.getElem?_eq_some_iff.1 e).1).trans e) hb.size
theorem sofar_own (w0 : World) (s : List UInt8) (A : Option Addr) (c : Nat) (B : Nat) (hB : w0.heap.size ≤ B) : OwnFrom B (SoFar w0 s A c) := by
  intro pre W W' row h hg hr
  refine h.same (h.below.grown hg (by have := h.lt; omega) (fun r e => Nat.le_trans hB (hr r e).1)) (fun k cs t fr e => (hg.block k (Array.getElem?_eq_some_iff.1 e).1 fun er => ?_).trans e) hg.size
  obtain ⟨o, ho, hno⟩ := (hr k er.symm).2
  rw [e] at ho
  injection ho with ho
  subst ho
  cases hno
theorem dataV_is {s : List UInt8} {A : Option Addr} {c n₀ p : Nat} {W : World} (hh : Holds8 n₀ W A s) (hsc : s.length ≤ c) (hp : aft s p ≤ s.length) : ∃ D dc, dataV A s c p = .slice D (opAt s p).2.length dc ∧ Holds8 n₀ W D (opAt s p).2 ∧ (D = none → dc = 0) := by
  unfold aft at hp
  have h1 := hh.drop_ (p + (ext (s.drop p)).1) c (by omega) hsc
  have hl : (opAt s p).2.length = (ext (s.drop p)).2 := by unfold opAt; simp only [List.length_take, List.length_drop]; omega
  rw [hl]
  unfold dataV
  by_cases h0 : 0 < (ext (s.drop p)).2
  · rw [if_pos ⟨h0, hp⟩]
    have h2 := h1.take_ (ext (s.drop p)).2
    unfold cutAt at h2
    rw [if_neg (by omega)] at h2
    refine ⟨_, _, rfl, h2, fun e => ?_⟩
    cases A with
    | none =>
      rcases hh with ⟨_, rfl⟩ | ⟨b, off, e, _⟩
      · rw [List.length_nil] at hp; omega
      · cases e
    | some a => cases e
  · rw [if_neg (fun q => h0 q.1)]
    have h0' : (ext (s.drop p)).2 = 0 := by omega
    refine ⟨none, 0, by rw [h0'], .inl ⟨rfl, ?_⟩, fun _ => rfl⟩
    unfold opAt
    simp only
    rw [h0', List.take_zero]
def endOf (s : List UInt8) (pre : List Nat) : Int := pre.foldl (fun _ p => (aft s p : Int)) 0
theorem endOf_snoc (s : List UInt8) (pre : List Nat) (p : Nat) : endOf s (pre ++ [p]) = (aft s p : Int) := by simp [endOf]
theorem end_poss (s : List UInt8) (k : Nat) : endOf s (poss s k) = (posN s k : Int) := by
  cases k with
  | zero => rfl
  | succ k => rw [poss_succ, endOf_snoc]; rfl
theorem done_eq (s : List UInt8) (k : Nat) (hf : ∀ p ∈ poss s k, aft s p ≤ s.length) (hk : s.length ≤ posN s k) : posN s k = s.length := by
  cases k with
  | zero => have : posN s 0 = 0 := rfl; omega
  | succ k =>
    have := hf (posN s k) (by rw [poss_succ]; simp)
    have e : aft s (posN s k) = posN s (k + 1) := rfl
    omega
def SplitPost (w : World) (s : List UInt8) (e : Ending) (w' : World) : Prop :=
  Below w.heap.size w w' ∧ ((∃ k v rs, posN s k = s.length ∧ (∀ p ∈ poss s k, aft s p ≤ s.length) ∧ e = .returned (.tuple #[v, .int .i64 0]) ∧ w'.ownsRow w.heap.size 32 2 v rs.length (pvRow rs) ∧ rs.map PV.is = (poss s k).map (opAt s) ∧ (∀ p ∈ rs, Holds8 w'.heap.size w' p.A p.b ∧ ∀ a, p.A = some a → w.heap.size ≤ a.block ∧ v.ownBlock ≠ some a.block)) ∨
    ((∃ k, posN s k < s.length ∧ s.length < posN s (k + 1)) ∧ e = .returned (.tuple #[.slice none 0 0, .int .i64 100])))
/-- Bytes in memory that the round has made. -/
def NewH (W : World) (E : Option Addr) (ds : List UInt8) (U : World) : Prop := Holds8 U.heap.size U E ds ∧ ∀ a, E = some a → W.heap.size ≤ a.block
theorem NewH.keep {W : World} {E : Option Addr} {ds : List UInt8} {U U' : World} (h : NewH W E ds U) (hk : ∀ k, W.heap.size ≤ k → k < U.heap.size → U'.heap[k]? = U.heap[k]?) (hs : U.heap.size ≤ U'.heap.size) : NewH W E ds U' := by
  refine ⟨?_, h.2⟩
  rcases h.1 with q | ⟨b, off, e, hb, hc⟩
  · exact .inl q
  · exact .inr ⟨b, off, e, Nat.lt_of_lt_of_le hb hs, fun j hj => (World.cell?_of_block (a := ⟨b, off + j, none⟩) (hk b (h.2 _ e) hb)).trans (hc j hj)⟩
/-- The row behind a round's appending. -/
def RowGot (w W : World) (v : Value) (rs : List PV) (x : UInt8) (ds : List UInt8) (v' : Value) (pv : PV) (U : World) : Prop :=
  U.ownsRow (w.heap.size + 4) 32 2 v' (rs.length + 1) (pvRow (rs ++ [pv])) ∧ pv.code = x ∧ pv.b = ds ∧ NewH W pv.A ds U ∧ (∀ a, pv.A = some a → v'.ownBlock ≠ some a.block) ∧ (v'.ownBlock = v.ownBlock ∨ ∃ g, v'.ownBlock = some g ∧ W.heap.size ≤ g)
/-- What stands in memory at each phase of a round's appending. -/
structure BodyI (w W : World) (v : Value) (rs : List PV) (x : UInt8) (ds : List UInt8) (af : Int) (p : Nat) (U : World) : Prop where
  base : ∀ k, k < W.heap.size → k ≠ w.heap.size + 1 → k ≠ w.heap.size + 2 → v.ownBlock ≠ some k → U.heap[k]? = W.heap[k]?
  size : W.heap.size ≤ U.heap.size
  os : U.os = W.os
  tape : U.tape = W.tape
  output : U.output = W.output
  zero : p = 0 → Below W.heap.size W U
  one : p ≤ 1 → U.heap[w.heap.size + 1]? = W.heap[w.heap.size + 1]?
  two : p ≤ 2 → U.heap[w.heap.size + 2]? = W.heap[w.heap.size + 2]?
  got : 2 ≤ p → ∃ v' pv, U.heap[w.heap.size + 1]? = some (.cells #[v'] 23 (0, 0)) ∧ RowGot w W v rs x ds v' pv U
  end_ : 3 ≤ p → U.heap[w.heap.size + 2]? = some (.cells #[.int .i64 af] 3 (0, 0))
theorem BodyI.start {w W : World} {v : Value} {rs : List PV} {x : UInt8} {ds : List UInt8} {af : Int} {U : World} (hb : Below W.heap.size W U) (h1 : w.heap.size + 4 ≤ W.heap.size) : BodyI w W v rs x ds af 0 U :=
  ⟨fun k hk _ _ _ => hb.block k hk, hb.size, hb.os, hb.tape, hb.output, fun _ => hb, fun _ => hb.block _ (by omega), fun _ => hb.block _ (by omega), fun h => by omega, fun h => by omega⟩
def RegR (W : World) (p d : Nat) (U U' : World) : Prop := (∀ k, W.heap.size ≤ k → k < U.heap.size → U'.heap[k]? = U.heap[k]?) ∧ U.heap.size ≤ U'.heap.size ∧ (p = 0 → d = 0 → Below U.heap.size U U') ∧ (1 ≤ p → d = 0 → U' = U)
theorem RegR.refl (W : World) (p d : Nat) (U : World) : RegR W p d U U := ⟨fun _ _ _ => rfl, Nat.le_refl _, fun _ _ => Below.refl _ _, fun _ _ => rfl⟩
theorem RegR.of_below {W U U' : World} (h : Below U.heap.size U U') : RegR W 0 0 U U' := ⟨fun k _ hk => h.block k hk, h.size, fun _ _ => h, fun h => by omega⟩
theorem cell_heap {U : World} {b : Nat} {v : Value} {t : TypeId} (h : U.heap[b]? = some (.cells #[v] t (0, 0))) : U.cell? ⟨b, 0, none⟩ = some v ∧ U.frozen? ⟨b, 0, none⟩ = false := by
  refine ⟨(cell_of_row _ _ 0 _ _ _ h).trans rfl, ?_⟩
  unfold World.frozen?
  simp only [h]
  simp
theorem put_heap {U : World} {b : Nat} {v u : Value} {t : TypeId} (h : U.heap[b]? = some (.cells #[v] t (0, 0))) : (U.setCell ⟨b, 0, none⟩ u).heap[b]? = some (.cells #[u] t (0, 0)) := by
  unfold World.setCell
  simp only [Array.getElem?_modify, if_true, h]
  rfl
set_option maxRecDepth 100000 in
set_option maxHeartbeats 4000000 in
theorem split_any (s : List UInt8) (A : Option Addr) (c n₀ : Nat) (w : World) (hsl : s.length ≤ 1000000) (hsc : s.length ≤ c) (hcm : c ≤ 9223372036854775807) (hh : Holds8 n₀ w A s) (hn0 : n₀ ≤ w.heap.size) :
    Calls Try.prog 9 #[.slice A s.length c] w (SplitPost w s) := by
  refine (callsIn_wide (n := 9)).1 ?_
  refine callsIn_of_wp_marks Try.func9 rfl trivial ?_ rfl
  simp only [Try.ntmps9, List.size_toArray, List.length_cons, List.length_nil, Nat.reduceAdd, Nat.reduceSub, Array.replicate_succ, Array.replicate_zero, List.push_toArray, List.append_toArray, List.nil_append, List.cons_append]
  refine wpIn_wide.2 ?_
  have HH := Lib.hid hh
  clear hh
  go_wp2_with fail
  refine wp_scope_straight ?_
  go_wp2_with fail
  refine wp_label ?_
  go_wp2_with (go_at_call 28; refine (operations_any _ _ _ _).mono ?_; rintro e w1 ⟨rfl, rfl⟩)
  have HB4 := Lib.hid ((((((Below.refl _ w).alloc (Nat.le_refl _) (.cells #[.slice A s.length c] 22)).alloc (by simp) (.cells #[.slice none 0 0] 23)).alloc (by simp; omega) (.cells #[.int .i64 0] 3)).alloc (by simp; omega) (.cells #[.slice A s.length c] 22)))
  obtain ⟨w4, hw4⟩ : ∃ w4, ((((w.alloc (.cells #[.slice A s.length c] 22)).alloc (.cells #[.slice none 0 0] 23)).alloc (.cells #[.int .i64 0] 3)).alloc (.cells #[.slice A s.length c] 22)) = w4 := ⟨_, rfl⟩
  have hsz4 : w4.heap.size = w.heap.size + 4 := by rw [← hw4]; simp
  have hS0 : SoFar w s A c [] w4 := by
    rw [← hw4]
    refine ⟨HB4.out, ?_, ?_, (fun p hp => by cases hp), ?_, .slice none 0 0, [], ?_, World.ownsRow_nil _ _ _ _, rfl, (fun p hp => by cases hp)⟩
    · rw [Below.heap_alloc _ _ _ (by simp <;> omega), Below.heap_alloc _ _ _ (by simp <;> omega), Below.heap_alloc _ _ _ (by simp <;> omega), World.alloc_heap_new]
    · have := World.alloc_heap_new (((w.alloc (.cells #[.slice A s.length c] 22)).alloc (.cells #[.slice none 0 0] 23)).alloc (.cells #[.int .i64 0] 3)) (.cells #[.slice A s.length c] 22)
      simpa using this
    · rw [Below.heap_alloc _ _ _ (by simp <;> omega)]
      have := World.alloc_heap_new ((w.alloc (.cells #[.slice A s.length c] 22)).alloc (.cells #[.slice none 0 0] 23)) (.cells #[.int .i64 0] 3)
      simpa using this
    · rw [Below.heap_alloc _ _ _ (by simp <;> omega), Below.heap_alloc _ _ _ (by simp)]
      have := World.alloc_heap_new (w.alloc (.cells #[.slice A s.length c] 22)) (.cells #[.slice none 0 0] 23)
      simpa using this
  rw [hw4] at HB4 ⊢
  have hcs : w4.cell? ⟨w.heap.size + 3, 0, none⟩ = some (.slice A s.length c) := by rw [cell_of_row _ _ 0 _ _ _ hS0.its]; rfl
  refine (wpIn_wide (n := 9)).1 ?_
  refine wpIn_rangeFunc_boxed (own := fun X Y => Below X.heap.size X Y) (Kp := KS (w.heap.size + 3) n₀) rfl (by decide) (gf := 39) (lb := #[.pointer (some ⟨w.heap.size + 3, 0, none⟩)]) rfl trivial (enters_of Try.func39 (by kernel_rfl) rfl)
    (ops_stops 8 (by omega) (w.heap.size + 3) n₀ c A s hsl hsc hcm w4 hcs (HH.out.below HB4.out hn0) (by omega) (by omega))
    (fun h k => ⟨h.1.trans k.1, Nat.le_trans h.2 k.2⟩) (fun W l o o' hl h1 h2 h3 => ⟨kb_put (w := w4) (by omega) (by omega) W l o o' hl h1 h2 h3, by simp⟩)
    (fun X Y k o h _ hk _ => (h.block k (Array.getElem?_eq_some_iff.1 hk).1).trans hk) (fun _ => rfl)
    (SoFar w s A c) (fun cd xs W => cd = .exit 0 ∧ ∃ pre p, xs = pre ++ [p] ∧ SoFar w s A c pre W ∧ s.length < aft s p)
    (sofar_own w s A c _ (by omega)) (fun cd => ?own) (fun pre X Y h hb => h.later hb) hS0
    (fun p => .cells #[.int .u8 ((s.getD p 0).toNat : Int), dataV A s c p] 32) (fun W x h => ⟨⟨((Below.refl _ W).alloc (by omega) _), Below.heap_alloc _ _ _ (by omega)⟩, by simp⟩)
    (fun p B => { tmps := #[.slice A s.length c, .pointer (some ⟨w.heap.size, 0, none⟩), .slice none 0 0, .int .i64 0, .pointer (some ⟨w.heap.size + 1, 0, none⟩), .pointer (some ⟨w.heap.size + 2, 0, none⟩), .int .i64 ((p : Int) + ((ext (s.drop p)).1 : Int) + ((ext (s.drop p)).2 : Int)), .pointer (some ⟨B, 0, none⟩), .slice A s.length c, .func (.func 39) #[] #[.pointer (some ⟨w.heap.size + 3, 0, none⟩)], .int .i64 ((p : Int) + ((ext (s.drop p)).1 : Int) + ((ext (s.drop p)).2 : Int)), .agg #[.int .u8 ((s.getD p 0).toNat : Int), dataV A s c p], undef, undef, undef, undef, undef, undef, undef, undef, undef, undef, undef, undef, undef, undef, undef, undef, undef, undef, undef], defers := [] }) ?assign ?body ?done ?stop
  case own =>
    intro xs W W' row h hg hr
    obtain ⟨e, pre, p, e2, h1, h2⟩ := h
    exact ⟨e, pre, p, e2, sofar_own w s A c _ (by omega) pre W W' row h1 hg hr, h2⟩
  case assign =>
    intro l p W K hK
    obtain ⟨X, nn, cc, hD⟩ : ∃ X nn cc, dataV A s c p = .slice X nn cc := by unfold dataV; split <;> exact ⟨_, _, _, rfl⟩
    obtain ⟨x, hx⟩ : ∃ x, ((s.getD p 0).toNat : Int) = x := ⟨_, rfl⟩
    unfold encO
    simp only [hD, hx] at hK ⊢
    clear hD hx
    generalize (p : Int) + ((ext (s.drop p)).1 : Int) + ((ext (s.drop p)).2 : Int) = y at hK ⊢
    gi_wp2
    exact hK
  case body =>
    intro l pre p B W hS hlen hB hbx
    have h1 := (cell_of_row _ _ 0 _ _ _ hS.script).trans rfl
    have hbe : W.cell? ⟨w.heap.size + 1, 0, none⟩ = W.cell? ⟨w.heap.size + 1, 0, none⟩ := rfl
    clear hbe
    by_cases hfit : s.length < aft s p
    · have i1 : (s.length : Int) < (p : Int) + ((ext (s.drop p)).1 : Int) + ((ext (s.drop p)).2 : Int) := by unfold aft at hfit; omega
      have HS := Lib.hid hS
      have HF := Lib.hid hfit
      clear hfit hS
      generalize (ext (s.drop p)).1 = f at i1 ⊢
      generalize (ext (s.drop p)).2 = m at i1 ⊢
      gi_wp2
      exact ⟨(KeepsOthers.refl _).from _, rfl, pre, p, rfl, HS.out, HF.out⟩
    · have i1 : (p : Int) + ((ext (s.drop p)).1 : Int) + ((ext (s.drop p)).2 : Int) ≤ (s.length : Int) := by unfold aft at hfit; omega
      obtain ⟨D, dc, hdv, hD, hDn⟩ := dataV_is (n₀ := n₀) (HH.out.below (hS.below) hn0) hsc (by omega : aft s p ≤ s.length)
      have e0 := (cell_of_row _ _ 0 _ _ _ hbx).trans rfl
      have e1 := (cell_of_row _ _ 1 _ _ _ hbx).trans rfl
      rw [hdv] at e1
      simp only [List.getElem?_toArray, List.getElem?_cons_zero, List.getElem?_cons_succ] at e0 e1
      obtain ⟨v, rs, hv, hrow, hmap, hdat⟩ := hS.row
      have hcv := (cell_of_row _ _ 0 _ _ _ hv).trans rfl
      have HS := Lib.hid hS
      have HF := Lib.hid hfit
      have HAF := Lib.hid (show ((aft s p : Nat) : Int) = (p : Int) + ((ext (s.drop p)).1 : Int) + ((ext (s.drop p)).2 : Int) from by unfold aft; omega)
      have HDS := Lib.hid (show opAt s p = (s.getD p 0, (opAt s p).2) from rfl)
      obtain ⟨x, hx⟩ : ∃ x, s.getD p 0 = x := ⟨_, rfl⟩
      obtain ⟨ds, hds⟩ : ∃ ds, (opAt s p).2 = ds := ⟨_, rfl⟩
      rw [hds] at hD e1 HDS
      rw [hx] at e0 HDS
      rw [hds] at hdv
      rw [hx, hdv]
      obtain ⟨f, hf⟩ : ∃ f, (ext (s.drop p)).1 = f := ⟨_, rfl⟩
      obtain ⟨m, hm⟩ : ∃ m, (ext (s.drop p)).2 = m := ⟨_, rfl⟩
      rw [hf, hm] at i1 HAF
      rw [hf, hm]
      obtain ⟨y, hy⟩ : ∃ y : Int, (p : Int) + (f : Int) + (m : Int) = y := ⟨_, rfl⟩
      rw [hy] at i1 HAF
      rw [hy]
      have HDL := Lib.hid (show ds.length = min m (s.length - (p + f)) by rw [← hds, ← hf, ← hm]; unfold opAt; simp [List.length_take, List.length_drop])
      clear hfit hdv hx hds hf hm hS hy
      gi_wp2
      have hend := HS.out.end_
      have hW4 := HS.out.lt
      have hBW : B < W.heap.size := (Array.getElem?_eq_some_iff.1 hbx).1
      have hn0W : n₀ ≤ W.heap.size := by omega
      have hfl : rs.length ≤ 1000000 := by
        have h1 := congrArg List.length hmap
        rw [List.length_map, List.length_map] at h1
        omega
      have hdl : ds.length ≤ 140737488355328 := by rw [HDL.out]; omega
      refine wpIn_region_phased 31 rfl (RegR W) (BodyI w W v rs x ds (y)) [.is (v), .is (.pointer (some ⟨B, 0, none⟩)), .is (.int .u8 (x.toNat : Int)), .is (.pointer (some ⟨B, 1, none⟩)), .is (.slice D ds.length dc), ⟨0, 1000, fun u U => ∃ E ec, u = .slice E ds.length ec ∧ NewH W E ds U, fun k d u U U' _ _ ⟨E, ec, e, h⟩ hr => ⟨E, ec, e, h.keep hr.1 hr.2.1⟩⟩, ⟨0, 1000, fun u U => ∃ E ec, u = .agg #[.int .u8 (x.toNat : Int), .slice E ds.length ec] ∧ NewH W E ds U, fun k d u U U' _ _ ⟨E, ec, e, h⟩ hr => ⟨E, ec, e, h.keep hr.1 hr.2.1⟩⟩, ⟨0, 1000, fun u U => ∃ E ec g, u = .slice (some ⟨g, 0, none⟩) 1 1 ∧ W.heap.size ≤ g ∧ U.heap[g]? = some (.cells (pvCells ⟨x, E, ds, ec⟩).toArray 32 (0, 0)) ∧ NewH W E ds U, fun k d u U U' _ _ ⟨E, ec, g, e, hg, hh, h⟩ hr => ⟨E, ec, g, e, hg, (hr.1 g hg (Array.getElem?_eq_some_iff.1 hh).1).trans hh, h.keep hr.1 hr.2.1⟩⟩, ⟨1, 1, fun u U => ∃ X c pv, u = .slice X (rs.length + 1) c ∧ RowGot w W v rs x ds (.slice X (rs.length + 1) c) pv U, fun k d u U U' hk hd h hr => by rw [hr.2.2.2 hk (by omega)]; exact h⟩, .is (.int .i64 (y)), .is undef, .is undef] [8, 10, 11] [0, 0, 0, 0, 0, 0, 0, 0, 0, 0, 1, 2] [0, 0, 0, 0, 0, 0, 0, 0, 0, 2, 1, 2] ?hL (by kernel_rfl) (by kernel_rfl) (by kernel_rfl) (by kernel_rfl) (RegR.refl W) (BodyI.start ((Below.refl _ _).drew) hW4) ⟨?ob0, ?ob1, ?ob2, ?ob3, ?ob4, ?ob5, ?ob6, ?ob7, ?ob8, ?ob9, ?ob10, ?ob11, trivial⟩ ?obend
      case ob0 =>
        intro p vals W1 F hF hlo hhi hI hd
        have hp : p = 0 := Nat.le_antisymm hhi hlo
        subst hp
        clear hlo hhi
        have E4 : F.eval (.tmp 4) = .pointer (some ⟨w.heap.size + 1, 0, none⟩) := hF.out_ (by kernel_rfl) rfl
        refine .inr ⟨wanted_none rfl, ?_⟩
        have hcl := ((hI.zero rfl).cell (p := ⟨w.heap.size + 1, 0, none⟩) (show w.heap.size + 1 < W.heap.size by omega)).trans hcv
        refine .inl ⟨v, ?_, hI, TyP.of_is rfl⟩
        have Ec : ∀ v, F.eval (.const v) = v := fun _ => rfl; have Ef : ∀ f, F.eval (.func f) = .func (.func f) #[] #[] := fun _ => rfl; clear hF hd; generalize F.eval = ρ at E4 Ec Ef ⊢
        simp [execOp, go_sem, Ec, E4, hcl]
      case ob1 =>
        intro p vals W1 F hF hlo hhi hI hd
        have hp : p = 0 := Nat.le_antisymm hhi hlo
        subst hp
        clear hlo hhi
        have E7 : F.eval (.tmp 7) = .pointer (some ⟨B, 0, none⟩) := hF.out_ (by kernel_rfl) rfl
        refine .inr ⟨wanted_none rfl, .inl ⟨.pointer (some ⟨B, 0, none⟩), ?_, hI, TyP.of_is rfl⟩⟩
        have Ec : ∀ v, F.eval (.const v) = v := fun _ => rfl; have Ef : ∀ f, F.eval (.func f) = .func (.func f) #[] #[] := fun _ => rfl; clear hF hd; generalize F.eval = ρ at E7 Ec Ef ⊢
        simp [execOp, go_sem, Ec, E7]
      case ob2 =>
        intro p vals W1 F hF hlo hhi hI hd
        have hp : p = 0 := Nat.le_antisymm hhi hlo
        subst hp
        clear hlo hhi
        have d1 : vals 1 = .pointer (some ⟨B, 0, none⟩) := hd ⟨1, .data⟩ (Array.mem_of_getElem? (i := 0) rfl) rfl (show (0 : Nat) ≤ 1000 by decide)
        have E17 := eval_some (hF.own_ 1 rfl rfl (by kernel_rfl) (by decide)); rw [d1] at E17
        refine .inr ⟨wanted_none rfl, ?_⟩
        have hcl := ((hI.zero rfl).cell (p := ⟨B, 0, none⟩) hBW).trans e0
        refine .inl ⟨_, ?_, hI, TyP.of_is rfl⟩
        have Ec : ∀ v, F.eval (.const v) = v := fun _ => rfl; have Ef : ∀ f, F.eval (.func f) = .func (.func f) #[] #[] := fun _ => rfl; clear hF hd; generalize F.eval = ρ at E17 Ec Ef ⊢
        simp [execOp, go_sem, Ec, E17, hcl]
      case ob3 =>
        intro p vals W1 F hF hlo hhi hI hd
        have hp : p = 0 := Nat.le_antisymm hhi hlo
        subst hp
        clear hlo hhi
        have E7 : F.eval (.tmp 7) = .pointer (some ⟨B, 0, none⟩) := hF.out_ (by kernel_rfl) rfl
        refine .inr ⟨wanted_none rfl, .inl ⟨.pointer (some ⟨B, 1, none⟩), ?_, hI, TyP.of_is rfl⟩⟩
        have Ec : ∀ v, F.eval (.const v) = v := fun _ => rfl; have Ef : ∀ f, F.eval (.func f) = .func (.func f) #[] #[] := fun _ => rfl; clear hF hd; generalize F.eval = ρ at E7 Ec Ef ⊢
        simp [execOp, go_sem, Ec, E7]
      case ob4 =>
        intro p vals W1 F hF hlo hhi hI hd
        have hp : p = 0 := Nat.le_antisymm hhi hlo
        subst hp
        clear hlo hhi
        have d3 : vals 3 = .pointer (some ⟨B, 1, none⟩) := hd ⟨3, .data⟩ (Array.mem_of_getElem? (i := 0) rfl) rfl (show (0 : Nat) ≤ 1000 by decide)
        have E19 := eval_some (hF.own_ 3 rfl rfl (by kernel_rfl) (by decide)); rw [d3] at E19
        refine .inr ⟨wanted_none rfl, ?_⟩
        have hcl := ((hI.zero rfl).cell (p := ⟨B, 1, none⟩) hBW).trans e1
        refine .inl ⟨_, ?_, hI, TyP.of_is rfl⟩
        have Ec : ∀ v, F.eval (.const v) = v := fun _ => rfl; have Ef : ∀ f, F.eval (.func f) = .func (.func f) #[] #[] := fun _ => rfl; clear hF hd; generalize F.eval = ρ at E19 Ec Ef ⊢
        simp [execOp, go_sem, Ec, E19, hcl]
      case ob5 =>
        intro p vals W1 F hF hlo hhi hI hd
        have hp : p = 0 := Nat.le_antisymm hhi hlo
        subst hp
        clear hlo hhi
        have d4 : vals 4 = .slice D ds.length dc := hd ⟨4, .data⟩ (Array.mem_of_getElem? (i := 0) rfl) rfl (show (0 : Nat) ≤ 1000 by decide)
        have E20 := eval_some (hF.own_ 4 rfl rfl (by kernel_rfl) (by decide)); rw [d4] at E20
        refine .inr ⟨wanted_none rfl, ?_⟩
        refine .inr (.inr (.inl ⟨29, #[.slice D ds.length dc], ?_, (clone_any ds D dc n₀ hDn W1 (hD.below (hI.zero rfl) hn0W) (Nat.le_trans hn0W hI.size) (by omega)).mono ?_⟩))
        · have Ec : ∀ v, F.eval (.const v) = v := fun _ => rfl; have Ef : ∀ f, F.eval (.func f) = .func (.func f) #[] #[] := fun _ => rfl; clear hF hd; generalize F.eval = ρ at E20 Ec Ef ⊢
          simp [execOp, go_sem, Ec, Ef, E20]
        rintro e W2 ⟨u, rfl, hr2, hb2⟩
        obtain ⟨E, ec, rfl, hhe, _, _, hha⟩ := own_open hr2
        exact ⟨_, rfl, RegR.of_below hb2, BodyI.start ((hI.zero rfl).trans (hb2.mono hI.size)) hW4, E, ec, rfl, hhe, fun a ea => Nat.le_trans hI.size (hha a ea).1⟩
      case ob6 =>
        intro p vals W1 F hF hlo hhi hI hd
        have hp : p = 0 := Nat.le_antisymm hhi hlo
        subst hp
        clear hlo hhi
        have d2 : vals 2 = .int .u8 (x.toNat : Int) := hd ⟨2, .data⟩ (Array.mem_of_getElem? (i := 0) rfl) rfl (show (0 : Nat) ≤ 1000 by decide)
        obtain ⟨E5, c5, hspec5, hn5⟩ := hd ⟨5, .data⟩ (Array.mem_of_getElem? (i := 1) rfl) rfl (show (0 : Nat) ≤ 1000 by decide)
        have d5 : vals 5 = .slice E5 ds.length c5 := hspec5
        have E18 := eval_some (hF.own_ 2 rfl rfl (by kernel_rfl) (by decide)); rw [d2] at E18
        have E21 := eval_some (hF.own_ 5 rfl rfl (by kernel_rfl) (by decide)); rw [d5] at E21
        refine .inr ⟨wanted_none rfl, ?_⟩
        refine .inl ⟨_, ?_, hI, E5, c5, rfl, hn5⟩
        have Ec : ∀ v, F.eval (.const v) = v := fun _ => rfl; have Ef : ∀ f, F.eval (.func f) = .func (.func f) #[] #[] := fun _ => rfl; clear hF hd; generalize F.eval = ρ at E18 E21 Ec Ef ⊢
        simp [execOp, go_sem, Ec, E18, E21]
      case ob7 =>
        intro p vals W1 F hF hlo hhi hI hd
        have hp : p = 0 := Nat.le_antisymm hhi hlo
        subst hp
        clear hlo hhi
        obtain ⟨E6, c6, hspec6, hn6⟩ := hd ⟨6, .data⟩ (Array.mem_of_getElem? (i := 0) rfl) rfl (show (0 : Nat) ≤ 1000 by decide)
        have d6 : vals 6 = .agg #[.int .u8 (x.toNat : Int), .slice E6 ds.length c6] := hspec6
        have E22 := eval_some (hF.own_ 6 rfl rfl (by kernel_rfl) (by decide)); rw [d6] at E22
        refine .inr ⟨wanted_none rfl, ?_⟩
        have hnb := (Below.refl W1.heap.size W1).alloc (Nat.le_refl _) (.cells #[.int .u8 (x.toNat : Int), .slice E6 ds.length c6] 32)
        refine .inr (.inl ⟨.slice (some ⟨W1.heap.size, 0, none⟩) 1 1, W1.alloc (.cells #[.int .u8 (x.toNat : Int), .slice E6 ds.length c6] 32), ?_, RegR.of_below hnb, BodyI.start ((hI.zero rfl).trans (hnb.mono hI.size)) hW4, E6, c6, W1.heap.size, rfl, hI.size, World.alloc_heap_new W1 _, hn6.keep (fun k _ hk => hnb.block k hk) hnb.size⟩)
        have Ec : ∀ v, F.eval (.const v) = v := fun _ => rfl; have Ef : ∀ f, F.eval (.func f) = .func (.func f) #[] #[] := fun _ => rfl; clear hF hd; generalize F.eval = ρ at E22 Ec Ef ⊢
        simp [execOp, go_sem, Ec, E22]
      case ob8 =>
        intro p vals W1 F hF hlo hhi hI hd
        have hp : p = 0 := Nat.le_antisymm hhi hlo
        subst hp
        clear hlo hhi
        have d0 : vals 0 = v := hd ⟨0, .data⟩ (Array.mem_of_getElem? (i := 0) rfl) rfl (show (0 : Nat) ≤ 1000 by decide)
        obtain ⟨E7, c7, g7, hspec7, hg7, hh7, hn7⟩ := hd ⟨7, .data⟩ (Array.mem_of_getElem? (i := 1) rfl) rfl (show (0 : Nat) ≤ 1000 by decide)
        have d7 : vals 7 = .slice (some ⟨g7, 0, none⟩) 1 1 := hspec7
        have E16 := eval_some (hF.own_ 0 rfl rfl (by kernel_rfl) (by decide)); rw [d0] at E16
        have E23 := eval_some (hF.own_ 7 rfl rfl (by kernel_rfl) (by decide)); rw [d7] at E23
        refine .inr ⟨wanted_none rfl, ?_⟩
        have hrow2 := ownsRow_below (hrow) ((hI.zero rfl))
        obtain ⟨i0, hi, hz0, hz1, hz2⟩ := info_parts pv_info
        obtain ⟨v', w', hr, h2, h3, _, h5⟩ := run_append_own_at (P := Try.prog) W1 (w.heap.size + 4) 23 23 32 i0 (.agg #[.int .u8 0, .slice none 0 0]) 2 32 Try.underlying23 hi hz0 hz1 hz2 rfl (by decide) _ _ _ hrow2 ⟨g7, 0, none⟩ 1 1 (pvCells ⟨x, E7, ds, c7⟩) rfl (fun j u hj => by
          rw [add_off, Nat.zero_add, cell_of_row W1 g7 j _ _ _ hh7]
          simpa using hj) (fun u hu => by
            simp only [pvCells, List.mem_cons, List.not_mem_nil, or_false] at hu
            rcases hu with rfl | rfl <;> rfl) (by unfold maxLen; omega) (by omega) (by have := hI.size; omega)
        have hkeep : ∀ k, W.heap.size ≤ k → k < W1.heap.size → w'.heap[k]? = W1.heap[k]? := fun k hk1 hk2 => h3.block k hk2 (fun ek => by have := (hrow.lt k ek.symm).2; omega)
        have hn8 := hn7.keep hkeep h3.size
        rw [← pvRow_snoc] at h2
        have hgot : RowGot w W v rs x ds v' ⟨x, E7, ds, c7⟩ w' := ⟨h2, rfl, rfl, hn8, fun a ea ev => by
          have hal : W.heap.size ≤ a.block ∧ a.block < W1.heap.size := ⟨hn7.2 a ea, by
            rcases hn7.1 with ⟨q, _⟩ | ⟨b, off, q, hb, _⟩
            · rw [q] at ea; cases ea
            · rw [q] at ea; injection ea with ea; rw [← ea]; exact hb⟩
          rcases h5 with q | q
          · rw [q] at ev; have := (hrow.lt _ ev).2; omega
          · rw [q] at ev; injection ev with ev; omega, h5.imp id fun q => ⟨_, q, hI.size⟩⟩
        obtain ⟨X, cx, hX⟩ : ∃ X cx, v' = .slice X (rs.length + 1) cx := by
          rcases h2.2 with ⟨_, q⟩ | ⟨g, cap, cur, q, _⟩
          · omega
          · exact ⟨_, _, q⟩
        subst hX
        refine .inr (.inl ⟨.slice X (rs.length + 1) cx, w', ?_, ⟨hkeep, h3.size, (fun _ q => absurd q (by decide)), fun q => absurd q (by decide)⟩, ⟨fun k hk _ _ hkv => (h3.block k (Nat.lt_of_lt_of_le hk hI.size) (fun ek => hkv ek.symm)).trans ((hI.zero rfl).block k hk), Nat.le_trans hI.size h3.size, h3.os.trans hI.os, h3.tape.trans hI.tape, h3.output.trans hI.output, (fun q => absurd q (by decide)), (fun _ => (h3.block _ (by have := hI.size; omega) (fun ek => by have := (hrow.lt _ ek.symm).1; omega)).trans (hI.one (by decide))), (fun _ => (h3.block _ (by have := hI.size; omega) (fun ek => by have := (hrow.lt _ ek.symm).1; omega)).trans (hI.two (by decide))), (fun q => absurd q (by decide)), fun q => absurd q (by decide)⟩, X, cx, _, rfl, hgot⟩)
        have Ec : ∀ v, F.eval (.const v) = v := fun _ => rfl; have Ef : ∀ f, F.eval (.func f) = .func (.func f) #[] #[] := fun _ => rfl; clear hF hd; generalize F.eval = ρ at E16 E23 Ec Ef ⊢
        unfold execOp
        simp only [resolve, invoke, builtin, Sem.run_bind, Sem.run_pure, Result.andThen_ok, List.map_toArray, List.map_cons, List.map_nil, E16, E23, hr]
      case ob9 =>
        intro p vals W1 F hF hlo hhi hI hd
        have E6 : F.eval (.tmp 6) = .int .i64 (y) := hF.out_ (by kernel_rfl) rfl
        refine .inr ⟨wanted_none rfl, .inl ⟨.int .i64 (y), ?_, hI, TyP.of_is rfl⟩⟩
        simp only [execOp, E6, Sem.run_pure]
      case ob10 =>
        intro p vals W1 F hF hlo hhi hI hd
        have hp : p = 1 := Nat.le_antisymm hhi hlo
        subst hp
        clear hlo hhi
        obtain ⟨X8, c8, pv8, hspec8, hgot8⟩ := hd ⟨8, .data⟩ (Array.mem_of_getElem? (i := 0) rfl) rfl (show (1 : Nat) ≤ 1 by decide)
        have d8 : vals 8 = .slice X8 (rs.length + 1) c8 := hspec8
        have E4 : F.eval (.tmp 4) = .pointer (some ⟨w.heap.size + 1, 0, none⟩) := hF.out_ (by kernel_rfl) rfl
        have E24 := eval_some (hF.own_ 8 rfl rfl (by kernel_rfl) (by decide)); rw [d8] at E24
        refine .inr ⟨wanted_none rfl, ?_⟩
        obtain ⟨hcl, hfz⟩ := cell_heap ((hI.one (by decide)).trans hv)
        have hcw : ∀ k, k ≠ w.heap.size + 1 → (W1.setCell ⟨w.heap.size + 1, 0, none⟩ (.slice X8 (rs.length + 1) c8)).heap[k]? = W1.heap[k]? := fun k hk => Below.heap_setCell _ _ _ _ hk
        have hszw : (W1.setCell ⟨w.heap.size + 1, 0, none⟩ (.slice X8 (rs.length + 1) c8)).heap.size = W1.heap.size := by unfold World.setCell; simp
        refine .inr (.inr (.inr ⟨W1.setCell ⟨w.heap.size + 1, 0, none⟩ (.slice X8 (rs.length + 1) c8), ?_, ⟨fun k hk _ => hcw k (by omega), by omega, (fun q => absurd q (by decide)), (fun _ q => absurd q (by decide))⟩, ⟨fun k hk h1 h2 h3 => (hcw k h1).trans (hI.base k hk h1 h2 h3), by have := hI.size; omega, hI.os, hI.tape, hI.output, (fun q => absurd q (by decide)), (fun q => absurd q (by decide)), (fun _ => (hcw _ (by omega)).trans (hI.two (by decide))), (fun _ => ⟨_, pv8, put_heap ((hI.one (by decide)).trans hv), ?_⟩), fun q => absurd q (by decide)⟩, TyP.of_is rfl⟩))
        · have Ec : ∀ v, F.eval (.const v) = v := fun _ => rfl; have Ef : ∀ f, F.eval (.func f) = .func (.func f) #[] #[] := fun _ => rfl; clear hF hd; generalize F.eval = ρ at E4 E24 Ec Ef ⊢
          simp [execOp, go_sem, Ec, E4, E24, hcl, hfz]
        · obtain ⟨q1, q2, q3, q4, q5, q6⟩ := hgot8
          exact ⟨ownsRow_same q1 fun k hk => hcw k (by have := (q1.lt k hk).1; omega), q2, q3, q4.keep (fun k hk _ => hcw k (by omega)) (by omega), q5, q6⟩
      case ob11 =>
        intro p vals W1 F hF hlo hhi hI hd
        have hp : p = 2 := Nat.le_antisymm hhi hlo
        subst hp
        clear hlo hhi
        have d9 : vals 9 = .int .i64 (y) := hd ⟨9, .data⟩ (Array.mem_of_getElem? (i := 0) rfl) rfl (show (2 : Nat) ≤ 1000 by decide)
        have E5 : F.eval (.tmp 5) = .pointer (some ⟨w.heap.size + 2, 0, none⟩) := hF.out_ (by kernel_rfl) rfl
        have E25 := eval_some (hF.own_ 9 rfl rfl (by kernel_rfl) (by decide)); rw [d9] at E25
        refine .inr ⟨wanted_none rfl, ?_⟩
        obtain ⟨hcl, hfz⟩ := cell_heap ((hI.two (by decide)).trans hend)
        have hcw : ∀ k, k ≠ w.heap.size + 2 → (W1.setCell ⟨w.heap.size + 2, 0, none⟩ (.int .i64 (y))).heap[k]? = W1.heap[k]? := fun k hk => Below.heap_setCell _ _ _ _ hk
        have hszw : (W1.setCell ⟨w.heap.size + 2, 0, none⟩ (.int .i64 (y))).heap.size = W1.heap.size := by unfold World.setCell; simp
        obtain ⟨v', pv, hv', q1, q2, q3, q4, q5, q6⟩ := hI.got (by decide)
        refine .inr (.inr (.inr ⟨W1.setCell ⟨w.heap.size + 2, 0, none⟩ (.int .i64 (y)), ?_, ⟨fun k hk _ => hcw k (by omega), by omega, (fun q => absurd q (by decide)), (fun _ q => absurd q (by decide))⟩, ⟨fun k hk h1 h2 h3 => (hcw k h2).trans (hI.base k hk h1 h2 h3), by have := hI.size; omega, hI.os, hI.tape, hI.output, (fun q => absurd q (by decide)), (fun q => absurd q (by decide)), (fun q => absurd q (by decide)), (fun _ => ⟨v', pv, (hcw _ (by omega)).trans hv', ownsRow_same q1 fun k hk => hcw k (by have := (q1.lt k hk).1; omega), q2, q3, q4.keep (fun k hk _ => hcw k (by omega)) (by omega), q5, q6⟩), fun _ => put_heap ((hI.two (by decide)).trans hend)⟩, TyP.of_is rfl⟩))
        have Ec : ∀ v, F.eval (.const v) = v := fun _ => rfl; have Ef : ∀ f, F.eval (.func f) = .func (.func f) #[] #[] := fun _ => rfl; clear hF hd; generalize F.eval = ρ at E5 E25 Ec Ef ⊢
        simp [execOp, go_sem, Ec, E5, E25, hcl, hfz]
      case obend =>
        intro vals W1 F hF hdef hI hT
        clear hF hT
        have hsame : ∀ k, k < W.heap.size → k ≠ w.heap.size + 1 → k ≠ w.heap.size + 2 → v.ownBlock ≠ some k → W1.heap[k]? = W.heap[k]? := hI.base
        obtain ⟨v', pv, hv', q1, q2, q3, q4, q5, q6⟩ := hI.got (by decide)
        refine ⟨?_, ⟨⟨⟨hI.os, hI.tape, hI.output, hI.size, fun k hk => hsame k (by omega) (by omega) (by omega) (fun ek => by have := (hrow.lt k ek).1; omega)⟩, hsame _ (by omega) (by omega) (by omega) (fun ek => by have := (hrow.lt _ ek).1; omega)⟩, hI.size⟩, ?_⟩
        · refine ⟨hI.size, ?_⟩
          intro k o hk ho hno
          exact (hsame k (Array.getElem?_eq_some_iff.1 ho).1 (by omega) (by omega) (fun ek => by
            rcases hrow.2 with ⟨z, _⟩ | ⟨g, cap, cur, z, _, hh, _⟩
            · rw [z] at ek; cases ek
            · rw [z] at ek
              injection ek with ek
              rw [← ek, hh] at ho
              injection ho with ho
              rw [← ho] at hno
              cases hno)).trans ho
        · refine ⟨⟨hI.os.trans HS.out.below.os, hI.tape.trans HS.out.below.tape, hI.output.trans HS.out.below.output, Nat.le_trans HS.out.below.size hI.size, fun k hk => (hsame k (by omega) (by omega) (by omega) (fun ek => by have := (hrow.lt k ek).1; omega)).trans (HS.out.below.block k hk)⟩, (hsame _ (by omega) (by omega) (by omega) (fun ek => by have := (hrow.lt _ ek).1; omega)).trans HS.out.script, (hsame _ (by omega) (by omega) (by omega) (fun ek => by have := (hrow.lt _ ek).1; omega)).trans HS.out.its, ?_, ?_, v', rs ++ [pv], hv', by rw [List.length_append]; exact q1, ?_, ?_⟩
          · intro q hq
            rcases List.mem_append.1 hq with hq | hq
            · exact HS.out.fits q hq
            · rw [List.mem_singleton.1 hq]
              have := HF.out
              omega
          · have he := hI.end_ (by decide)
            rw [← HAF.out] at he
            show _ = some (Obj.cells #[Value.int .i64 (endOf s (pre ++ [p]))] _ _)
            rw [endOf_snoc]
            exact he
          · rw [List.map_append, List.map_append, hmap, List.map_singleton, List.map_singleton, HDS.out]
            unfold PV.is
            rw [q2, q3]
          · intro q hq
            rcases List.mem_append.1 hq with hq | hq
            · obtain ⟨d1, d2⟩ := hdat q hq
              have hb1 : ∀ a, q.A = some a → a.block < W.heap.size := fun a ea => by
                rcases d1 with ⟨z, _⟩ | ⟨b, off, z, hb, _⟩
                · rw [z] at ea; cases ea
                · rw [z] at ea; injection ea with ea; rw [← ea]; exact hb
              refine ⟨?_, fun a ea => ⟨(d2 a ea).1, fun ev => ?_⟩⟩
              · rcases d1 with z | ⟨b, off, z, hb, hc⟩
                · exact .inl z
                · have := d2 _ z
                  exact .inr ⟨b, off, z, Nat.lt_of_lt_of_le hb hI.size, fun j hj => (World.cell?_of_block (a := ⟨b, off + j, none⟩) (hsame b hb (by have := this.1; simp only at this; omega) (by have := this.1; simp only at this; omega) this.2)).trans (hc j hj)⟩
              · rcases q6 with z | ⟨g, z, hg⟩
                · rw [z] at ev; exact (d2 a ea).2 ev
                · rw [z] at ev; injection ev with ev; have := hb1 a ea; omega
            · rw [List.mem_singleton.1 hq]
              rw [q3]
              exact ⟨q4.1, fun a ea => ⟨by have := q4.2 a ea; omega, q5 a ea⟩⟩
      case hL =>
        rintro ⟨a, W9, h⟩
        exact h
  case done =>
    rintro D ys W hD ⟨k, rfl, hk⟩ hS hK
    have hfin := (sofar_own w s A c w4.heap.size (by omega)).putObj (.deferred none) hS hD hK rfl
    have hend := hS.end_
    have hee : ((poss s k).foldl (fun _ p => (aft s p : Int)) 0) = (posN s k : Int) := end_poss s k
    have heq := done_eq s k hS.fits hk
    rw [hee, heq] at hend
    have h1 := (cell_of_row _ _ 0 _ _ _ hS.script).trans rfl
    have h2 := (cell_of_row _ _ 0 _ _ _ hend).trans rfl
    obtain ⟨v, rs, hv, hrow, hmap, hdat⟩ := hS.row
    have h3 := (cell_of_row _ _ 0 _ _ _ hv).trans rfl
    have HFIN := Lib.hid hfin
    have HEQ := Lib.hid heq
    have HV := Lib.hid hv
    simp only [List.getElem?_toArray, List.getElem?_cons_zero] at h1 h2 h3
    clear hfin heq hee hend hS hv hrow hmap hdat hk
    go_wp2
    refine ⟨by simp, .inl ⟨_, _, rfl, run_takeDeferred hK, ?_⟩⟩
    obtain ⟨v2, rs2, hv2, hrow2, hmap2, hdat2⟩ := HFIN.out.row
    have hvv : v2 = v := by
      have e9 : (W.putObj D (.deferred none)).heap[w.heap.size + 1]? = W.heap[w.heap.size + 1]? := World.putObj_heap_other (by omega)
      have := e9.symm.trans hv2
      rw [HV.out] at this
      injection this with this
      injection this with this
      simpa using this.symm
    subst hvv
    refine ⟨_, results_tmp2 rfl _ _ _, HFIN.out.below, .inl ⟨k, v2, rs2, HEQ.out, HFIN.out.fits, rfl, ownsRow_base hrow2 (by omega), hmap2, fun q hq => ⟨(hdat2 q hq).1, fun a ea => ⟨by have := ((hdat2 q hq).2 a ea).1; omega, ((hdat2 q hq).2 a ea).2⟩⟩⟩⟩
  case stop =>
    rintro D cd xs W hD ⟨k, rfl, hk⟩ ⟨rfl, pre, p, he, hS, hlt⟩ hK
    rw [poss_succ] at he
    obtain ⟨rfl, hp⟩ := List.append_inj' he rfl
    obtain rfl : posN s k = p := by simpa using hp
    have hfin := (sofar_own w s A c w4.heap.size (by omega)).putObj (.deferred none) hS hD hK rfl
    have hend := hS.end_
    have hee : ((poss s k).foldl (fun _ p => (aft s p : Int)) 0) = (posN s k : Int) := end_poss s k
    rw [hee] at hend
    have h1 := (cell_of_row _ _ 0 _ _ _ hS.script).trans rfl
    have h2 := (cell_of_row _ _ 0 _ _ _ hend).trans rfl
    simp only [List.getElem?_toArray, List.getElem?_cons_zero] at h1 h2
    have i1 : ((posN s k : Int) != (s.length : Int)) = true := by rw [bne_iff_ne]; omega
    have HFIN := Lib.hid hfin
    have HLT := Lib.hid hlt
    have HK1 := Lib.hid hk
    clear hfin hend hee hS hlt he hp hk
    refine wpIn_wide.2 ?_
    go_wp2
    refine ⟨by simp, .inl ⟨_, _, rfl, run_takeDeferred hK, ?_⟩⟩
    exact ⟨_, results_tmp2 rfl _ _ _, HFIN.out.below, .inr ⟨⟨k, HK1.out, HLT.out⟩, rfl⟩⟩
end Go.Proofs.Ytkecldmjjhhlgaa.Oct
