/- The contract of wide.Div: quotient and rest, or the error. Both arguments are below 2^256. -/
import Derived.Test.YtgmgejjlhlibkaaWidR
import Derived.Scope
namespace Go.Proofs.Ytgmgejjlhlibkaa
set_option linter.unusedVariables false
open Go.RowKit Go.Shelf
attribute [local go_sem] Oper.semAt_some

section
variable {P : Program} {ops : Array Oper} {Q : Exit → Act → World → Prop} {a : Act} {fuel : Nat} {listed : Array Bool} {o : Oper} {C : World → Prop}
/-- A region that draws its order, at worlds of a class that its stores keep. -/
def AnyC (P : Program) (ops : Array Oper) (Q : Exit → Act → World → Prop) (C : World → Prop) (fuel : Nat) (listed : Array Bool) (a : Act) : Prop := ∀ W, C W → wpAnyH P .any ops Q C fuel listed a W
def StepC (P : Program) (ops : Array Oper) (Q : Exit → Act → World → Prop) (C : World → Prop) (fuel : Nat) (listed : Array Bool) (a : Act) (i : Nat) : Prop :=
  ∀ W, C W → wpOp P ops Q i (fun a' w' => C w' ∧ wpAnyH P .any ops Q C fuel (listed.setIfInBounds i true) a' w') a W
theorem AnyC.start {id : Nat} {W : World} (n : Nat) (hn : ops.size = n) (hm : P.follows .mixedOrders = true) (hH : C W.drew) (h : AnyC P ops Q C n (Array.replicate n false) a) : (Code.region id ops true).wp P Q a W := by
  subst hn
  exact wp_region_held hm (h _ hH)
theorem AnyC.take {v : Value} (i : Nat) (d : Option Tmp) (hi : ops[i]? = some o) (hd : o.dst = d) (hs : Region.noSelect ops = true) (hf : Region.free .any ops listed i = true) (hr : (Region.ready .any ops listed).contains i = true)
    (hQ : ∀ c a w, Q (.panic c) (a.put o.dst v) w → Q (.panic c) a w) (hy : YieldsIf P ops C o v a) (h : AnyC P ops Q C fuel (listed.setIfInBounds i true) (a.put d v)) : AnyC P ops Q C (fuel + 1) listed a := by
  subst hd
  exact fun W hW => wpAnyH_take hi hs hf hr hQ hy hW (h W hW)
theorem yieldsIf_row (hw : Region.wanted o (yielded ops a.tmps) = true) (ty : TypeId) (x : Operand) (ho : o.op = .load ty x) {b : Nat} {cs : Array Value} (hx : a.eval x = .pointer (some ⟨b, 0, none⟩)) (hk : ∀ W, C W → W.heap[b]? = some (.cells cs ty (0, 0))) (d : TypeDesc)
    (hu : P.underlying ty = some d) (hd : (match d with | .struct _ | .array _ _ => true | _ => false) = true) (hs : (P.info? ty).map (·.size) = some cs.size) : YieldsIf P ops C o (.agg cs) a :=
  .inl ⟨hw, fun W hW => by
    unfold execOp
    simp only [ho, hx, Instr.loadAt, Instr.sureAddr, Sem.run_bind, Sem.run_pure, Result.andThen_ok, run_loadVar_row W b ty ty cs (0, 0) d (hk W hW) hu hd hs]⟩
theorem AnyC.ready (rs : List Nat) (hr : Region.ready .any ops listed = rs) (hne : rs ≠ []) (h : ∀ i ∈ rs, StepC P ops Q C fuel listed a i) : AnyC P ops Q C (fuel + 1) listed a :=
  fun W hW => wpAnyH_all hr hne fun i hi => h i hi W hW
theorem StepC.same {i : Nat} (hi : ops[i]? = some o) (hd : o.dst = none) (hw : Region.wanted o (yielded ops a.tmps) = true) (ty : TypeId) (x y : Operand) (ho : o.op = .store ty x y) {g : Nat} {cs : Array Value}
    (hx : a.eval x = .pointer (some ⟨g, 0, none⟩)) (hk : ∀ W, C W → W.heap[g]? = some (.cells cs ty (0, 0))) (hp : ∀ W, C W → C (W.setRow g cs)) (hy : a.eval y = .agg cs) (hs : (P.info? ty).map (·.size) = some cs.size) (h1 : cs.all (·.oneCell') = true)
    (h : AnyC P ops Q C fuel (listed.setIfInBounds i true) a) : StepC P ops Q C fuel listed a i := fun W hW => by
  have hp' : a.put o.dst undef = a := by rw [hd]; rfl
  exact wpOp_now hi hw (wp_store_row ty x y ho g cs hx hy ty cs (hk W hW) hs rfl h1 ⟨hp W hW, by rw [hp']; exact h _ (hp W hW)⟩)
theorem AnyC.done (hr : Region.ready .any ops listed = []) (h : ∀ W, C W → Q .normal a W) : AnyC P ops Q C fuel listed a :=
  fun W hW => wpAnyH_done hr (h W hW) fuel
theorem wp_class {c : Code} {W : World} {F : Act} (hreg : c.wp P (fun e a' W' => e = .normal ∧ a' = F ∧ C W') a W) (hcont : ∀ W', C W' → Q .normal F W') : c.wp P Q a W :=
  Code.wp_mono (fun e a' W' ⟨he, ha, hk⟩ => by subst he; subst ha; exact hcont W' hk) hreg
end
/-- What is known behind the loop: both results, and the loop's own block. -/
structure DivEnd (w : World) (gq gr D : Nat) (cq cr : Array Value) (W : World) : Prop where
  q : W.heap[gq]? = some (.cells cq 24 (0, 0))
  r : W.heap[gr]? = some (.cells cr 24 (0, 0))
  d : W.heap[D]? = some (.deferred (some []))
  bel : Below w.heap.size w W
theorem DivEnd.putq {w W : World} {gq gr D : Nat} {cq cr : Array Value} (h : DivEnd w gq gr D cq cr W) (h1 : gr ≠ gq) (h2 : D ≠ gq) (h3 : w.heap.size ≤ gq) : DivEnd w gq gr D cq cr (W.setRow gq cq) :=
  ⟨setRow_heap _ _ _ _ _ _ h.q, (setRow_other _ _ _ _ h1).trans h.r, (setRow_other _ _ _ _ h2).trans h.d, h.bel.trans ⟨rfl, rfl, rfl, by simp [World.setRow], fun i hi => setRow_other _ _ _ _ (by omega)⟩⟩
theorem DivEnd.putr {w W : World} {gq gr D : Nat} {cq cr : Array Value} (h : DivEnd w gq gr D cq cr W) (h1 : gq ≠ gr) (h2 : D ≠ gr) (h3 : w.heap.size ≤ gr) : DivEnd w gq gr D cq cr (W.setRow gr cr) :=
  ⟨(setRow_other _ _ _ _ h1).trans h.q, setRow_heap _ _ _ _ _ _ h.r, (setRow_other _ _ _ _ h2).trans h.d, h.bel.trans ⟨rfl, rfl, rfl, by simp [World.setRow], fun i hi => setRow_other _ _ _ _ (by omega)⟩⟩

theorem keeps4 (w : World) (a b : Nat) : Keeps w [(w.heap.size, wcells a, 24), (w.heap.size + 1, wcells b, 24), (w.heap.size + 1 + 1, wcells 0, 24), (w.heap.size + 1 + 1 + 1, wcells 0, 24)]
    ((((w.alloc (.cells (wcells a) 24)).alloc (.cells (wcells b) 24)).alloc (.cells #[.int .u64 0, .int .u64 0, .int .u64 0, .int .u64 0] 24)).alloc (.cells #[.int .u64 0, .int .u64 0, .int .u64 0, .int .u64 0] 24)) := by
  have h := ((((Keeps.nil w).new (wcells a) 24).new (wcells b) 24).new (wcells 0) 24).new (wcells 0) 24
  simp only [World.size_alloc, List.nil_append, List.cons_append] at h
  exact h
theorem results_div (tmps : Array Value) (w : World) (gq gr x y : Nat) (e : Int) (h4 : tmps[4]? = some (.pointer (some ⟨gq, 0, none⟩))) (h5 : tmps[5]? = some (.pointer (some ⟨gr, 0, none⟩))) (h6 : tmps[6]? = some (.int .i64 e))
    (hq : w.heap[gq]? = some (.cells (wcells x) 24 (0, 0))) (hr : w.heap[gr]? = some (.cells (wcells y) 24 (0, 0))) :
    (results Try.f38 tmps).run Try.prog w = .ok (.tuple #[.agg (wcells x), .agg (wcells y), .int .i64 e]) w := by
  have q0 := cell_of_row w gq 0 _ _ _ hq
  have q1 := cell_of_row w gq 1 _ _ _ hq
  have q2 := cell_of_row w gq 2 _ _ _ hq
  have q3 := cell_of_row w gq 3 _ _ _ hq
  have r0 := cell_of_row w gr 0 _ _ _ hr
  have r1 := cell_of_row w gr 1 _ _ _ hr
  have r2 := cell_of_row w gr 2 _ _ _ hr
  have r3 := cell_of_row w gr 3 _ _ _ hr
  simp only [wc] at q0 q1 q2 q3 r0 r1 r2 r3
  simp [results, Try.results38, go_sem, h4, h5, h6, q0, q1, q2, q3, r0, r1, r2, r3, wc]

set_option maxRecDepth 100000 in
set_option maxHeartbeats 1000000 in
theorem div_zero (a : Nat) (w : World) :
    Calls Try.prog 38 #[.agg (wcells a), .agg (wcells 0)] w fun e w' => e = .returned (.tuple #[.agg (wcells 0), .agg (wcells 0), .int .i64 30]) ∧ Below w.heap.size w w' := by
  have hE : ∀ w, (Op.equalIn 10000 24 (.agg (wcells 0)) (.agg #[.int .u64 0, .int .u64 0, .int .u64 0, .int .u64 0])).run Try.prog w = .ok true w := fun w => eqW 0 w
  have hH := keeps4 w a 0
  go_enter Try.func38, Try.ntmps38
  go_wp2_with fail
  refine wp_scope_straight ?_
  generalize (((w.alloc (.cells (wcells a) 24)).alloc _).alloc _).alloc _ = W0 at *
  go_wp2_with (first | (refine wpList_box hH 1 rfl 24 _ rfl rfl rfl _ Try.underlying24 rfl (infoW _) ?_) | (refine wpList_put hH 2 rfl 24 _ _ rfl rfl rfl rfl (infoW 0) rfl (oneW 0) ?_; clear hH; intro W1 hH) | (refine wpList_put hH 3 rfl 24 _ _ rfl rfl rfl rfl (infoW 0) rfl (oneW 0) ?_; clear hH; intro W1 hH))
  rw [Exit.noGoto_ret]
  exact bodyPost_ret (results_div _ _ _ _ _ _ _ rfl rfl rfl (hH.get 2 rfl) (hH.get 3 rfl)) rfl ⟨rfl, hH.bel⟩

set_option maxRecDepth 100000 in
set_option maxHeartbeats 4000000 in
theorem div_some (a b : Nat) (ha : a < top) (hb : b < top) (hb0 : 0 < b) (w : World) :
    Calls Try.prog 38 #[.agg (wcells a), .agg (wcells b)] w fun e w' => e = .returned (.tuple #[.agg (wcells (a / b)), .agg (wcells (a % b)), .int .i64 0]) ∧ Below w.heap.size w w' := by
  have hE : ∀ w, (Op.equalIn 10000 24 (.agg (wcells b)) (.agg #[.int .u64 0, .int .u64 0, .int .u64 0, .int .u64 0])).run Try.prog w = .ok false w := fun w => by
    have h := run_eqw b 0 hb top_pos w
    rw [decide_eq_false (by omega)] at h
    exact h
  have hH := keeps4 w a b
  refine (callsIn_wide (n := 9)).1 ?_
  refine callsIn_of_wp_marks Try.func38 rfl trivial ?_ rfl
  simp only [Try.ntmps38, List.size_toArray, List.length_cons, List.length_nil, Nat.reduceAdd, Nat.reduceSub, Array.replicate_succ, Array.replicate_zero, List.push_toArray, List.append_toArray, List.nil_append, List.cons_append]
  refine wpIn_wide.2 ?_
  go_wp2_with fail
  refine wp_scope_straight ?_
  generalize (((w.alloc (.cells (wcells a) 24)).alloc _).alloc _).alloc _ = W0 at *
  go_wp2_with (refine wpList_box hH 1 rfl 24 _ rfl rfl rfl _ Try.underlying24 rfl (infoW _) ?_)
  refine wp_label ?_
  go_wp2_with (first | (refine wpList_box hH 0 rfl 24 _ rfl rfl rfl _ Try.underlying24 rfl (infoW _) ?_) | (refine wpList_box hH 1 rfl 24 _ rfl rfl rfl _ Try.underlying24 rfl (infoW _) ?_) | (go_at_call 55; refine (dOf_any _ _ _ _).mono ?_; rintro e w2 ⟨rfl, rfl⟩))
  have hH2 := ((hH.new (wcells a) 24).new (wcells b) 24).new (pcell (w.heap.size + 1 + 1 + 1)) 81
  simp only [World.size_alloc, List.nil_append, List.cons_append, pcell] at hH2
  obtain ⟨z, hz⟩ : ∃ z, W0.heap.size = z := ⟨_, rfl⟩
  have hz4 : w.heap.size + 1 + 1 + 1 < z := by rw [← hz]; exact hH.lt 3 rfl
  rw [hz] at hH2 ⊢
  have hsz : ((W0.alloc (.cells (wcells a) 24)).alloc (.cells (wcells b) 24)).heap.size + 1 = z + 1 + 1 + 1 := by rw [World.size_alloc, World.size_alloc, hz]
  rw [← World.size_alloc _ (.cells #[.pointer (some ⟨w.heap.size + 1 + 1 + 1, 0, none⟩)] 81)] at hsz
  clear hH hz
  generalize ((W0.alloc (.cells (wcells a) 24)).alloc (.cells (wcells b) 24)).alloc (.cells #[.pointer (some ⟨w.heap.size + 1 + 1 + 1, 0, none⟩)] 81) = W2 at *
  have hK : Kept W2 (w.heap.size + 1 + 1 + 1) (rows4 z (w.heap.size + 1 + 1 + 1) (z + 1) (z + 1 + 1) a b 0) W2 := by
    refine Kept.refl _ _ _ (fun i p hi => ?_) (fun i j p q hi hj hij => ?_)
    · match i, hi with
      | 0, hi => cases hi; exact hH2.get 4 rfl
      | 1, hi => cases hi; exact hH2.get 6 rfl
      | 2, hi => cases hi; exact hH2.get 5 rfl
      | 3, hi => cases hi; exact hH2.get 3 rfl
    · match i, j, hi, hj with
      | 0, 0, _, _ => exact absurd rfl hij
      | 0, 1, hi, hj => cases hi; cases hj; simp; omega
      | 0, 2, hi, hj => cases hi; cases hj; simp
      | 0, 3, hi, hj => cases hi; cases hj; simp; omega
      | 1, 0, hi, hj => cases hi; cases hj; simp; omega
      | 1, 1, _, _ => exact absurd rfl hij
      | 1, 2, hi, hj => cases hi; cases hj; simp
      | 1, 3, hi, hj => cases hi; cases hj; simp; omega
      | 2, 0, hi, hj => cases hi; cases hj; simp
      | 2, 1, hi, hj => cases hi; cases hj; simp
      | 2, 2, _, _ => exact absurd rfl hij
      | 2, 3, hi, hj => cases hi; cases hj; simp; omega
      | 3, 0, hi, hj => cases hi; cases hj; simp; omega
      | 3, 1, hi, hj => cases hi; cases hj; simp; omega
      | 3, 2, hi, hj => cases hi; cases hj; simp; omega
      | 3, 3, _, _ => exact absurd rfl hij
  have hq0 := hH2.get 2 rfl
  have hB0 := hH2.bel
  clear hH2
  refine (wpIn_wide (n := 9)).1 ?_
  refine wpIn_rangeFunc_stepsT (own := fun A B => A.grownBy B (some (w.heap.size + 1 + 1 + 1))) (Kp := DigKeeps z (w.heap.size + 1 + 1 + 1) (z + 1) (z + 1 + 1)) rfl (by decide) (gf := 66) rfl trivial (enters_of Try.func66 (by kernel_rfl) rfl)
    (dig_stops 8 (by decide) z (w.heap.size + 1 + 1 + 1) (z + 1) (z + 1 + 1) a b ha hb hb0 W2 hK)
    (fun W l o o' hl ho hc ht => (World.putObj_heap_other (by omega)).trans ht)
    (fun h k g hg => (k g hg).trans (h g hg))
    (fun W l o o' hl _ _ _ g hg => World.putObj_heap_other (by omega))
    (fun A B k o hg hk ho hc => (hg.block k (Array.getElem?_eq_some_iff.1 ho).1 (fun e => by injection e with e; omega)).trans ho) (fun _ => rfl)
    (fun (pre : List Dig) W => W.heap[w.heap.size + 1 + 1]? = some (.cells (wcells (acc (pre.map (·.1)))) 24 (0, 0)) ∧ Below w.heap.size w W)
    (fun _ _ _ => False)
    (OwnFrom.and (fun s W W' row hs hg hr => (hg.block _ (Array.getElem?_eq_some_iff.1 hs).1 (fun e => by have := hr _ e.symm; omega)).trans hs) (ownFrom_below (Nat.le_refl _) hB0.size))
    (fun _ _ _ _ _ hs _ _ => hs)
    (fun s A B ⟨h1, h2⟩ hg => ⟨(hg.block _ (Array.getElem?_eq_some_iff.1 h1).1 (fun e => by injection e with e; omega)).trans h1, h2.grown hg h2.size (fun k e => by injection e with e; omega)⟩)
    ⟨hq0, hB0⟩
    (fun x => { tmps := #[.agg (wcells a), .agg (wcells b), .pointer (some ⟨w.heap.size, 0, none⟩), .pointer (some ⟨w.heap.size + 1, 0, none⟩), .pointer (some ⟨w.heap.size + 1 + 1, 0, none⟩), .pointer (some ⟨w.heap.size + 1 + 1 + 1, 0, none⟩), .int .i64 0, .int .i64 (x.1.1 : Int), .bool x.1.2, .agg (wcells b), .agg #[.int .u64 0, .int .u64 0, .int .u64 0, .int .u64 0], .bool false, undef, undef, .agg (wcells a), .agg (wcells b), .func (.func 66) #[] #[.pointer (some ⟨z, 0, none⟩), .pointer (some ⟨z + 1 + 1, 0, none⟩), .pointer (some ⟨z + 1, 0, none⟩)], .int .i64 (x.1.1 : Int), .bool x.1.2, undef, undef, undef, undef, undef, undef, undef, undef, undef, undef, undef, undef, undef], defers := [] }) ?assign ?body ?done ?stop
  case assign =>
    intro l x W K hK
    gi_wp2
    exact hK
  case body =>
    rintro l pre ⟨⟨k, o⟩, hk⟩ W ⟨hq, hB⟩ hlen
    have hk : k < 256 := hk
    dsimp only
    have hacc := acc_snoc (pre.map (·.1)) (k, o)
    obtain ⟨q, hqq⟩ : ∃ q, acc (pre.map (·.1)) = q := ⟨_, rfl⟩
    rw [hqq] at hq hacc
    have HACC := Lib.hid hacc
    clear hacc hqq
    cases o
    · gi_wp2
      exact ⟨(KeepsOthers.refl _).from _, fun g _ => rfl, by rw [List.map_append, List.map_singleton, HACC.out]; exact hq, hB⟩
    · have hc := cell_of_row W (w.heap.size + 1 + 1) (k / 64) _ _ _ hq
      rw [wcells_at q _ (by omega)] at hc
      have hf := frozen_of_row W (w.heap.size + 1 + 1) (k / 64) _ _ hq
      have hw := word_at q (k / 64)
      unfold word at hw
      have z1 : IntKind.i64.wrap ((k : Int) / 64) = (k : Int) / 64 := IntWalk.i64_in _ (by omega)
      have z2 : IntKind.i64.wrap ((k : Int) % 64) = (k : Int) % 64 := IntWalk.i64_in _ (by omega)
      have z3 : ((k : Int) / 64).toNat = k / 64 := by omega
      have z4 : ((k : Int) % 64).toNat = k % 64 := by omega
      have z5 : (0 : Int) ≤ (k : Int) / 64 := by omega
      have z6 : (k : Int) / 64 < 4 := by omega
      have z7 : (0 : Int) ≤ (k : Int) % 64 := by omega
      have z8 : (k : Int) % 64 ≤ 64 := by omega
      have z9 : (k : Int).tmod 64 = (k : Int) % 64 := Int.tmod_eq_emod_of_nonneg (by omega)
      have hp64 : 2 ^ (k % 64) < 18446744073709551616 := Nat.pow_lt_pow_right (n := 64) (by decide) (by omega)
      have ev : IntKind.u64.wrap ((1 : Int) * 2 ^ (k % 64)) = ((2 ^ (k % 64) : Nat) : Int) := by
        rw [Int.one_mul, IntKind.wrap_u64, show ((2 : Int) ^ (k % 64)) = ((2 ^ (k % 64) : Nat) : Int) by simp]
        generalize 2 ^ (k % 64) = y at *
        omega
      have ev1 : IntKind.u64.wrap ((2 : Int) ^ (k % 64)) = ((2 ^ (k % 64) : Nat) : Int) := by rw [← ev, Int.one_mul]
      have ev2 : bits .or .u64 (wAt q (k / 64) : Int) ((2 ^ (k % 64) : Nat) : Int) = ((wAt q (k / 64) ||| 2 ^ (k % 64) : Nat) : Int) := u64_or_nat _ _ hw hp64
      have hnew : (W.setCell ⟨w.heap.size + 1 + 1, k / 64, none⟩ (.int .u64 ((wAt q (k / 64) ||| 2 ^ (k % 64) : Nat) : Int))).heap[w.heap.size + 1 + 1]? = some (.cells (wcells (q ||| 2 ^ k)) 24 (0, 0)) := by
        rw [← set_or q k hk]
        simp [World.setCell, Array.getElem?_modify, hq]
      generalize 2 ^ (k % 64) = P at *
      have HNEW := Lib.hid hnew
      clear hnew
      gi_wp2
      gi_region
      all_goals
        gi_wp2
        exact ⟨((KeepsOthers.setCell W _ _).trans (KeepsOthers.drew _)).from _, fun g hg => heap_setCell_other W _ g _ (by show g ≠ w.heap.size + 1 + 1; omega),
          by rw [List.map_append, List.map_singleton, HACC.out]; exact HNEW.out, (hB.setCell (by show w.heap.size ≤ w.heap.size + 1 + 1; omega) _).drew⟩
  case stop =>
    rintro D c pre W _ _ h _
    exact h.elim
  case done =>
    rintro D xs W hD hS ⟨hq, hB⟩ ht hKD
    have hS' : xs.map (·.1) = digs a b 0 := hS
    rw [hS', acc_digs a b 0 hb0 (Nat.zero_le _), quo_zero] at hq
    rw [rem_zero] at ht
    clear hS hS'
    gi_wp2
    go_wp2_with fail
    have hD3 : z + 1 + 1 + 1 ≤ D := by omega
    have hE0 : DivEnd w (w.heap.size + 1 + 1) (w.heap.size + 1 + 1 + 1) D (wcells (a / b)) (wcells (a % b)) W.drew := ⟨hq, ht, hKD, hB.drew⟩
    apply wp_class (C := DivEnd w (w.heap.size + 1 + 1) (w.heap.size + 1 + 1 + 1) D (wcells (a / b)) (wcells (a % b)))
    case hreg =>
      refine AnyC.start 5 rfl (by kernel_rfl) hE0 ?_
      refine AnyC.take 0 (some 30) rfl rfl (by kernel_rfl) (by kernel_rfl) (by kernel_rfl) (fun _ _ _ h => nomatch h.1) (yieldsIf_row rfl 24 _ rfl rfl (fun W h => h.q) _ Try.underlying24 rfl (infoW _)) ?_
      simp only [Act.put, List.setIfInBounds_toArray, List.set_cons_zero, List.set_cons_succ]
      refine AnyC.take 1 (some 31) rfl rfl (by kernel_rfl) (by kernel_rfl) (by kernel_rfl) (fun _ _ _ h => nomatch h.1) (yieldsIf_row rfl 24 _ rfl rfl (fun W h => h.r) _ Try.underlying24 rfl (infoW _)) ?_
      simp only [Act.put, List.setIfInBounds_toArray, List.set_cons_zero, List.set_cons_succ]
      refine AnyC.ready [2] (by kernel_rfl) (by simp) ?_
      refine steps_cons ?_ steps_nil
      refine StepC.same (i := 2) rfl rfl rfl 24 _ _ rfl rfl (fun W h => h.q) (fun W h => h.putq (by omega) (by omega) (by omega)) rfl (infoW _) (oneW _) ?_
      refine AnyC.ready [3] (by kernel_rfl) (by simp) ?_
      refine steps_cons ?_ steps_nil
      refine StepC.same (i := 3) rfl rfl rfl 24 _ _ rfl rfl (fun W h => h.r) (fun W h => h.putr (by omega) (by omega) (by omega)) rfl (infoW _) (oneW _) ?_
      refine AnyC.take 4 (some 6) rfl rfl (by kernel_rfl) (by kernel_rfl) (by kernel_rfl) (fun _ _ _ h => nomatch h.1) (v := _) (.inl ⟨by rfl, fun W hW => by first | (go_simp; done) | (go_simp; rfl)⟩) ?_
      simp only [Act.put, List.setIfInBounds_toArray, List.set_cons_zero, List.set_cons_succ]
      refine AnyC.done (by kernel_rfl) ?_
      intro W hW
      exact ⟨rfl, rfl, hW⟩
    case hcont =>
      clear hE0 hq ht hKD hB
      intro W hW
      go_wp2
      rw [Exit.noGoto_ret]
      refine ⟨by simp, .inl ⟨_, _, rfl, run_takeDeferred hW.d, ?_⟩⟩
      refine ⟨_, results_div _ _ _ _ _ _ _ rfl rfl rfl ((World.putObj_heap_other (by omega)).trans hW.q) ((World.putObj_heap_other (by omega)).trans hW.r), rfl, ?_⟩
      exact hW.bel.trans (belowK_b (w := w) (Nat.le_refl _) W D _ _ (by omega) hW.d rfl rfl)
end Go.Proofs.Ytgmgejjlhlibkaa
