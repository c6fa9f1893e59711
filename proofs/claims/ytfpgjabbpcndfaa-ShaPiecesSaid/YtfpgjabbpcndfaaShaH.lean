/- Contract of (*sha.Sum).add: the sum of a message becomes that of the message with more behind it. The bytes lie in another block. -/
import Derived.Test.YtfpgjabbpcndfaaShaG
import Derived.Test.YtfpgjabbpcndfaaRegIn
import Derived.Scope
namespace Go.Proofs.Ytfpgjabbpcndfaa.Oct
set_option linter.unusedVariables false
set_option linter.unusedSimpArgs false
open Go.Proofs.Ytfpgjabbpcndfaa Go.RowKit Go.Lib Go.Shelf
attribute [local go_sem] Oper.semAt_some

/-- What stands in memory behind so many pieces. -/
structure AddI (w : World) (g : Nat) (x : Sm) (bs : List UInt8) (room nn : Nat) (pre : List Nat) (W : World) : Prop where
  sum : W.heap[g]? = some (.cells (sumc (stS x bs room pre).1 (stS x bs room pre).2.1 (stS x bs room pre).2.2 nn) 49 (0, 0))
  box : W.heap[w.heap.size]? = some (.cells #[.pointer (some ⟨g, 0, none⟩)] 29 (0, 0))
  grown : w.grownBy W (some g)
  big : w.heap.size + 3 ≤ W.heap.size
theorem AddI.same {w : World} {g : Nat} {x : Sm} {bs : List UInt8} {room nn : Nat} {pre : List Nat} {W W' : World} (h : AddI w g x bs room nn pre W) (hs : ∀ k, k ≤ w.heap.size → W'.heap[k]? = W.heap[k]?) (hgl : g < w.heap.size) (hos : W'.os = W.os) (htape : W'.tape = W.tape) (hout : W'.output = W.output) (hsz : W.heap.size ≤ W'.heap.size) : AddI w g x bs room nn pre W' :=
  ⟨(hs g (by omega)).trans h.sum, (hs _ (Nat.le_refl _)).trans h.box, ⟨hos.trans h.grown.os, htape.trans h.grown.tape, hout.trans h.grown.output, Nat.le_trans h.grown.size hsz, fun k hk hn => (hs k (by omega)).trans (h.grown.block k hk hn)⟩, Nat.le_trans h.big hsz⟩
theorem addI_own (w : World) (g : Nat) (x : Sm) (bs : List UInt8) (room nn : Nat) (hgl : g < w.heap.size) (B : Nat) (hB : w.heap.size < B) : OwnFrom B (AddI w g x bs room nn) := by
  intro pre W W' row h hg hr
  have hlt : w.heap.size < W.heap.size := (Array.getElem?_eq_some_iff.1 h.box).1
  exact h.same (fun k hk => hg.block k (by omega) (fun e => by have := (hr k e.symm).1; omega)) hgl hg.os hg.tape hg.output hg.size
theorem addI_own2 {w : World} {g : Nat} {x : Sm} {bs : List UInt8} {room nn : Nat} {pre : List Nat} {W W' : World} (hgl : g < w.heap.size) (h : AddI w g x bs room nn pre W) (ho : Own2 (w.heap.size + 1) (w.heap.size + 1 + 1) W W') : AddI w g x bs room nn pre W' := by
  have hlt : w.heap.size < W.heap.size := (Array.getElem?_eq_some_iff.1 h.box).1
  exact h.same (fun k hk => ho.block k (by omega) (by omega) (by omega)) hgl ho.os ho.tape ho.output ho.size

/-- The world at each phase: as it was, with the block's cells turned, with one cell more. -/
def phs (W : World) (g : Nat) (c1 : Array Value) (z : Value) : Nat → World
  | 0 => W.drew
  | 1 => W.drew.setRow g c1
  | _ => (W.drew.setRow g c1).setCell ⟨g, 72, none⟩ z
theorem phs_other (W : World) (g : Nat) (c1 : Array Value) (z : Value) (p k : Nat) (hk : k ≠ g) : (phs W g c1 z p).heap[k]? = W.heap[k]? := by
  unfold phs
  split
  · rfl
  · rw [setRow_other _ _ _ _ hk]; rfl
  · rw [heap_setCell_other _ _ _ _ hk, setRow_other _ _ _ _ hk]; rfl
theorem slice_tail (g v : Nat) (hv : v < 64) (W : World) : (Instr.sliceAt 47 (.pointer (some ⟨g, 8, none⟩)) (some (.int .i64 (v : Int))) none none).run Try.prog W = .ok (.slice (some ⟨g, 8 + v, none⟩) (64 - v) (64 - v)) W := by
  have h1 : ¬ 64 = v := by omega
  have h2 : v ≤ 64 := by omega
  have h3 : ¬ (64 : Int) < (v : Int) := by omega
  simp [Instr.sliceAt, go_sem, h1, h2, h3]
theorem run_copy_none (w : World) (dT sT ty elem : TypeId) (a : Addr) (dLen dCap c : Nat) (hu : Try.prog.underlying dT = some (.slice elem)) (hs : ((Try.prog.info? elem).map (·.size)).isSome = true) :
    (Builtin.copy_ #[dT, sT] ty #[.slice (some a) dLen dCap, .slice none 0 c]).run Try.prog w = .ok (goInt 0) w := by
  cases hq : Try.prog.info? elem with
  | none => simp [hq] at hs
  | some i => simp [Builtin.copy_, run_underlying hu, Builtin.lenOf, Builtin.firstCells, sizeOf, typeInfo, hq, storeCells]
theorem copy_in {W : World} {g v nn n0 : Nat} {s1 : St} {tl p : List UInt8} {PA : Option Addr} {pn pc : Nat} (htl : tl.length = 64) (hv : v < 64) (hg : W.heap[g]? = some (.cells (sumc s1 tl v nn) 49 (0, 0)))
    (h8 : Holds8 n0 W PA p) (hpl : p.length = pn) (hpn : PA = none → pn = 0) (ty : TypeId) :
    (Builtin.copy_ #[22, 22] ty #[.slice (some ⟨g, 8 + v, none⟩) (64 - v) (64 - v), .slice PA pn pc]).run Try.prog W = .ok (.int .i64 ((min (64 - v) p.length : Nat) : Int)) (W.setRow g (sumc s1 (mixT (s1, tl, v) p) v nn)) := by
  rcases h8 with ⟨rfl, rfl⟩ | ⟨b, off, rfl, hb, hc⟩
  · have : pn = 0 := hpn rfl
    subst this
    rw [run_copy_none W _ _ ty 5 _ _ _ _ Try.underlying22 (by kernel_rfl)]
    have e : mixT (s1, tl, v) [] = tl := by unfold mixT; simp
    rw [e, setRow_self W g _ _ _ hg]
    simp [goInt]
  · have hq : min pn (64 - v) = min (64 - v) p.length := by omega
    have hl : (vals (p.take (min (64 - v) p.length))).length = min (64 - v) p.length := by rw [vals_length, List.length_take]; omega
    have h := run_copy_row (P := Try.prog) W 22 22 ty 5 g (8 + v) (64 - v) (64 - v) ⟨b, off, none⟩ pn pc (sumc s1 tl v nn) 49 (vals (p.take (min (64 - v) p.length))) Try.underlying22 (by kernel_rfl) hg (by rw [hl]; exact hq.symm)
      (fun j x hx => by
        have hj : j < p.length := by
          have := (List.getElem?_eq_some_iff.1 hx).1
          rw [hl] at this
          omega
        rw [add_off, hc j hj, ← hx]
        have hj2 : j < min (64 - v) p.length := by
          have := (List.getElem?_eq_some_iff.1 hx).1
          rwa [hl] at this
        rw [vals_get _ _ (by rw [List.length_take]; omega)]
        simp only [List.getElem_take])
      (by rw [hl, sumc_size, htl]; omega) (vals_one _)
    rw [h, hl]
    congr 2
    have hs := sumc_splice s1 tl (p.take (min (64 - v) p.length)) v nn v (by rw [List.length_take, htl]; omega)
    rw [List.length_take, show min (min (64 - v) p.length) p.length = min (64 - v) p.length by omega] at hs
    exact hs

theorem stepS_lt (s1 : St) (tl : List UInt8) (v vq : Nat) (p : List UInt8) (h : v + min (64 - v) p.length = vq) (hlt : vq < 64) : stepS (s1, tl, v) p = (s1, mixT (s1, tl, v) p, vq) := by
  unfold stepS
  dsimp only
  rw [h, if_pos hlt]
theorem stepS_ge (s1 : St) (tl : List UInt8) (v vq : Nat) (p : List UInt8) (h : v + min (64 - v) p.length = vq) (hge : ¬ vq < 64) : stepS (s1, tl, v) p = (comp s1 (mixT (s1, tl, v) p), mixT (s1, tl, v) p, 0) := by
  unfold stepS
  dsimp only
  rw [h, if_neg hge]
/-- The world at each phase of the mixing. -/
def phq (W : World) (g : Nat) (c2 : Array Value) : Nat → World → Prop
  | 0, W1 => Below W.heap.size W W1
  | 1, W1 => Below W.heap.size W W1
  | _, W1 => ∃ U, Below W.heap.size W U ∧ W1 = U.setRow g c2
theorem phq_low {W W1 : World} {g : Nat} {c2 : Array Value} {p : Nat} (hp : p ≤ 1) (h : phq W g c2 p W1) : Below W.heap.size W W1 := by
  rcases (show p = 0 ∨ p = 1 by omega) with rfl | rfl
  · exact h
  · exact h
theorem sumc_part_st (s : St) (tl : List UInt8) (u n : Nat) (j : Nat) (v : Value) (h : (stc s)[j]? = some v) : (sumc s tl u n)[0 + j]? = some v := by
  have hj : j < 8 := (Array.getElem?_eq_some_iff.1 h).1
  rw [Nat.zero_add, sumc_st s tl u n j hj, ← h]
  have e : stc s = vals32 (words s) := rfl
  rw [e, vals32_get _ _ hj]
theorem sumc_part_tl (s : St) (tl : List UInt8) (u n : Nat) (j : Nat) (v : Value) (h : (arr8 tl)[j]? = some v) : (sumc s tl u n)[8 + j]? = some v := by
  have hj : j < tl.length := by
    have := (Array.getElem?_eq_some_iff.1 h).1
    rwa [arr8_size] at this
  rw [sumc_tl s tl u n j hj, ← h, arr8_get tl j hj]

theorem pcA_block {A : Option Addr} {c room L j : Nat} {a : Addr} (h : (pcA A c room L j).1 = some a) : ∃ a0, A = some a0 ∧ a.block = a0.block := by
  induction j generalizing a with
  | zero => exact ⟨a, h, rfl⟩
  | succ j ih =>
    unfold pcA cutS at h
    dsimp only at h
    split at h
    · exact ih h
    · cases hq : (pcA A c room L j).1 with
      | none => rw [hq] at h; cases h
      | some a1 =>
        rw [hq] at h
        obtain ⟨a0, h0, h1⟩ := ih hq
        simp only [Option.map_some, Option.some.injEq] at h
        exact ⟨a0, h0, by rw [← h]; exact h1⟩

set_option maxRecDepth 100000 in
set_option maxHeartbeats 4000000 in
theorem add_any (w : World) (g : Nat) (m : List UInt8) (nn : Nat) (A : Option Addr) (c : Nat) (bs : List UInt8) (h : SumIn w g m nn) (h8 : Holds8 w.heap.size w A bs) (hc : bs.length ≤ c) (hm : bs.length < 1152921504606846976) (hg : ∀ a, A = some a → a.block ≠ g) :
    Calls Try.prog 26 #[.pointer (some ⟨g, 0, none⟩), .slice A bs.length c] w fun e w' => (∃ v, e = .returned v) ∧ SumIn w' g (m ++ bs) nn ∧ w.grownBy w' (some g) := by
  obtain ⟨x, hx, hgx⟩ := h.rep
  have hok := hx.ok
  have hcu : w.cell? ⟨g, 72, none⟩ = some (.int .i64 (x.2.2 : Int)) := by rw [cell_of_row w g 72 _ _ _ hgx, sumc_u _ _ _ _ hok.2.1]
  have hgl := (Array.getElem?_eq_some_iff.1 hgx).1
  obtain ⟨u, hu⟩ : ∃ u, x.2.2 = u := ⟨_, rfl⟩
  rw [hu] at hcu
  have hu64 : u < 64 := by have := hok.2.2; omega
  have H8 := Lib.hid h8
  have HG := Lib.hid hg
  have HX := Lib.hid hx
  have HGX := Lib.hid hgx
  have HU := Lib.hid hu
  have HOK := Lib.hid hok
  clear h8 hg hx hgx hu hok h
  obtain ⟨L, hL⟩ : ∃ L, bs.length = L := ⟨_, rfl⟩
  have HL := Lib.hid hL
  rw [hL] at hc hm ⊢
  clear hL
  have hr64 : (64 : Int) - (u : Int) = ((64 - u : Nat) : Int) := by omega
  refine (callsIn_wide (n := 9)).1 ?_
  refine callsIn_of_wp_marks Try.func26 rfl trivial ?_ rfl
  simp only [Try.ntmps26, List.size_toArray, List.length_cons, List.length_nil, Nat.reduceAdd, Nat.reduceSub, Array.replicate_succ, Array.replicate_zero, List.push_toArray, List.append_toArray, List.nil_append, List.cons_append]
  refine wpIn_wide.2 ?_
  go_wp2_with fail
  refine wp_scope_straight ?_
  go_wp2_with fail
  refine wp_label ?_
  go_wp2_with (go_at_call 29; refine (pieces_any A L c (64 - u) _).mono ?_; rintro e w1 ⟨rfl, rfl⟩)
  have hb1 : (((w.alloc (.cells #[.pointer (some ⟨g, 0, none⟩)] 29)).alloc (.cells #[.slice A L c] 22)).alloc (.cells #[.int .i64 ((64 - u : Nat) : Int)] 3)).heap[w.heap.size + 1]? = some (.cells #[.slice A L c] 22 (0, 0)) := by
    have h := heap_alloc_new (w.alloc (.cells #[.pointer (some ⟨g, 0, none⟩)] 29)) (.cells #[.slice A L c] 22)
    rw [World.size_alloc] at h
    rw [Below.heap_alloc _ _ _ (by rw [World.size_alloc, World.size_alloc]; omega)]
    exact h
  have hb2 : (((w.alloc (.cells #[.pointer (some ⟨g, 0, none⟩)] 29)).alloc (.cells #[.slice A L c] 22)).alloc (.cells #[.int .i64 ((64 - u : Nat) : Int)] 3)).heap[w.heap.size + 1 + 1]? = some (.cells #[.int .i64 ((64 - u : Nat) : Int)] 3 (0, 0)) := by
    have h := heap_alloc_new ((w.alloc (.cells #[.pointer (some ⟨g, 0, none⟩)] 29)).alloc (.cells #[.slice A L c] 22)) (.cells #[.int .i64 ((64 - u : Nat) : Int)] 3)
    rw [World.size_alloc, World.size_alloc] at h
    exact h
  have hb0 : AddI w g x bs (64 - u) nn [] (((w.alloc (.cells #[.pointer (some ⟨g, 0, none⟩)] 29)).alloc (.cells #[.slice A L c] 22)).alloc (.cells #[.int .i64 ((64 - u : Nat) : Int)] 3)) := by
    have hB := (((Below.refl w.heap.size w).alloc (Nat.le_refl _) (.cells #[.pointer (some ⟨g, 0, none⟩)] 29)).alloc (by simp) (.cells #[.slice A L c] 22)).alloc (by simp; omega) (.cells #[.int .i64 ((64 - u : Nat) : Int)] 3)
    refine ⟨(hB.block g hgl).trans HGX.out, ?_, ⟨hB.os, hB.tape, hB.output, hB.size, fun k hk _ => hB.block k hk⟩, by rw [World.size_alloc, World.size_alloc, World.size_alloc]; omega⟩
    rw [Below.heap_alloc _ _ _ (by rw [World.size_alloc, World.size_alloc]; omega), Below.heap_alloc _ _ _ (by rw [World.size_alloc]; omega)]
    exact heap_alloc_new _ _
  have hsz : (((w.alloc (.cells #[.pointer (some ⟨g, 0, none⟩)] 29)).alloc (.cells #[.slice A L c] 22)).alloc (.cells #[.int .i64 ((64 - u : Nat) : Int)] 3)).heap.size = w.heap.size + 1 + 1 + 1 := by rw [World.size_alloc, World.size_alloc, World.size_alloc]
  generalize (((w.alloc (.cells #[.pointer (some ⟨g, 0, none⟩)] 29)).alloc (.cells #[.slice A L c] 22)).alloc (.cells #[.int .i64 ((64 - u : Nat) : Int)] 3)) = W0 at *
  clear hcu
  have hAs : A = none ∨ ∃ b off, A = some ⟨b, off, none⟩ := by
    rcases H8.out with ⟨e, _⟩ | ⟨b, off, e, _⟩
    · exact .inl e
    · exact .inr ⟨b, off, e⟩
  have hA0 : A = none → L = 0 := fun e => by
    rcases H8.out with ⟨_, e2⟩ | ⟨b, off, e2, _⟩
    · rw [← HL.out, e2]; rfl
    · rw [e] at e2; cases e2
  refine (wpIn_wide (n := 9)).1 ?_
  refine wpIn_rangeFunc_steps (own := Own2 (w.heap.size + 1) (w.heap.size + 1 + 1)) (Kp := Kp2 (w.heap.size + 1) (w.heap.size + 1 + 1)) rfl (by decide) (gf := 31) (lb := #[.pointer (some ⟨w.heap.size + 1, 0, none⟩), .pointer (some ⟨w.heap.size + 1 + 1, 0, none⟩)]) rfl trivial (enters_of Try.func31 (by kernel_rfl) rfl)
    (pcs_stops 8 (by decide) (w.heap.size + 1) (w.heap.size + 1 + 1) (by omega) A c (64 - u) L hAs hA0 hc hm (by omega) (by omega) W0 hb1 hb2)
    Kp2.trans (fun W l o o' hl _ _ _ => ⟨World.putObj_heap_other (by omega), World.putObj_heap_other (by omega)⟩)
    (fun A' B' k o ho hk hA' _ => (ho.block k (Array.getElem?_eq_some_iff.1 hA').1 (by omega) (by omega)).trans hA') (fun _ => rfl)
    (AddI w g x bs (64 - u) nn) (fun _ _ _ => False) (addI_own w g x bs (64 - u) nn hgl _ (by omega)) (fun _ _ _ _ _ hs _ _ => hs)
    (fun s A' B' h ho => addI_own2 hgl h ho) hb0
    (fun j => { tmps := #[.pointer (some ⟨g, 0, none⟩), .slice A L c, .pointer (some ⟨w.heap.size, 0, none⟩), undef, .slice (pcA A c (64 - u) L j).1 (plen (64 - u) L (pst (64 - u) L j) j) (pcA A c (64 - u) L j).2, .slice A L c, .pointer (some ⟨g, 0, none⟩), .pointer (some ⟨g, 0, none⟩), .pointer (some ⟨g, 72, none⟩), .int .i64 (u : Int), .int .i64 ((64 - u : Nat) : Int), .func (.func 31) #[] #[.pointer (some ⟨w.heap.size + 1, 0, none⟩), .pointer (some ⟨w.heap.size + 1 + 1, 0, none⟩)], .slice (pcA A c (64 - u) L j).1 (plen (64 - u) L (pst (64 - u) L j) j) (pcA A c (64 - u) L j).2, undef, undef, undef, undef, undef, undef, undef, undef, undef, undef, undef, undef, undef, undef, undef, undef, undef, undef, undef, undef, undef, undef, undef, undef, undef, undef, undef, undef, undef, undef, undef, undef, undef, undef, undef, undef, undef], defers := [] }) ?assign ?body ?done ?stop
  case assign =>
    intro l j W K hK
    unfold encP
    gi_wp2
    exact hK
  case stop =>
    rintro D cc pre W _ _ h _
    exact h.elim
  case done =>
    rintro D ys W hD ⟨k, hk, rfl⟩ hI hK
    obtain ⟨hr, _⟩ := HX.out.pieces bs (64 - u) (by rw [HU.out]) k
    rw [HL.out, hk, ← HL.out, List.take_length] at hr
    refine ⟨by simp, .inl ⟨_, _, rfl, run_takeDeferred hK, ?_⟩⟩
    refine ⟨_, results_none rfl _ _ _, ?_⟩
    refine ⟨⟨_, rfl⟩, hr.sumIn ?_, ?_⟩
    · exact (World.putObj_heap_other (by omega)).trans hI.sum
    · exact ⟨hI.grown.os, hI.grown.tape, hI.grown.output, by simpa [World.putObj] using hI.grown.size, fun i hi hn => (World.putObj_heap_other (by omega)).trans (hI.grown.block i hi hn)⟩
  case body =>
    intro l pre j W hI hlen
    obtain ⟨hsum, hbox, hgrow, hbig⟩ := hI
    have hoky := okS_st x bs (64 - u) pre HOK.out
    have hsn := stS_snoc x bs (64 - u) pre j
    obtain ⟨y, hy⟩ : ∃ y, stS x bs (64 - u) pre = y := ⟨_, rfl⟩
    rw [hy] at hsum hoky hsn
    clear hy
    obtain ⟨s1, tl, v⟩ := y
    have hwl : w.heap.size < W.heap.size := (Array.getElem?_eq_some_iff.1 hbox).1
    have hp8 : Holds8 w.heap.size W (pcA A c (64 - u) L j).1 (pieceB bs (64 - u) j) := by
      have h1 := pcA_holds c (64 - u) H8.out (by rw [HL.out]; exact hc) j
      rw [HL.out] at h1
      have h2 := h1.takeS (plen (64 - u) L (pst (64 - u) L j) j)
      unfold pieceB
      rw [HL.out]
      rcases h2 with ⟨e1, e2⟩ | ⟨b, off, e, hb, hcell⟩
      · exact .inl ⟨e1, e2⟩
      · obtain ⟨a0, ha0, hb0⟩ := pcA_block e
        refine .inr ⟨b, off, e, hb, fun i hi => (World.cell?_of_block (hgrow.block b hb (fun er => ?_))).trans (hcell i hi)⟩
        injection er with er
        exact HG.out a0 ha0 (by rw [← hb0]; exact er)
    have hpl := pieceB_length bs (64 - u) j
    rw [HL.out] at hpl
    have hpn : (pcA A c (64 - u) L j).1 = none → plen (64 - u) L (pst (64 - u) L j) j = 0 := fun e => by
      have h := hA0 (pcA_none e)
      unfold plen
      omega
    have hpr : plen (64 - u) L (pst (64 - u) L j) j ≤ 64 := by
      unfold plen
      split <;> omega
    obtain ⟨PA, hPA⟩ : ∃ PA, (pcA A c (64 - u) L j).1 = PA := ⟨_, rfl⟩
    obtain ⟨pn, hpne⟩ : ∃ pn, plen (64 - u) L (pst (64 - u) L j) j = pn := ⟨_, rfl⟩
    obtain ⟨pc, hpce⟩ : ∃ pc, (pcA A c (64 - u) L j).2 = pc := ⟨_, rfl⟩
    obtain ⟨p, hpe⟩ : ∃ p, pieceB bs (64 - u) j = p := ⟨_, rfl⟩
    rw [hPA, hpe] at hp8
    rw [hpe, hpne] at hpl
    rw [hPA, hpne] at hpn
    rw [hpne] at hpr
    rw [hpe] at hsn
    rw [hPA, hpne, hpce]
    clear hPA hpne hpce hpe
    have HOY := Lib.hid hoky
    have HSN := Lib.hid hsn
    have HP8 := Lib.hid hp8
    have HPL := Lib.hid hpl
    have HPN := Lib.hid hpn
    have hv64 : v < 64 := hoky.2.2
    clear hoky hsn hp8 hpl hpn
    gi_wp2
    obtain ⟨q, hq⟩ : ∃ q, min (64 - v) p.length = q := ⟨_, rfl⟩
    obtain ⟨c1, hc1⟩ : ∃ c1, sumc s1 (mixT (s1, tl, v) p) v nn = c1 := ⟨_, rfl⟩
    have hq64 : v + q ≤ 64 := by omega
    have hvq : IntKind.i64.wrap ((v : Int) + (q : Int)) = ((v + q : Nat) : Int) := IntWalk.i64_in _ (by omega)
    have HQ := Lib.hid hq
    have HC1 := Lib.hid hc1
    have htl' := mixT_length (s1, tl, v) p HOY.out
    have hne : w.heap.size ≠ g := by omega
    have HBX : Hid (∀ p W1, W1 = phs W g c1 (.int .i64 ((v + q : Nat) : Int)) p → W1.cell? ⟨w.heap.size, 0, none⟩ = some (.pointer (some ⟨g, 0, none⟩))) := Lib.hid fun p W1 e => by
      rw [e]
      exact cell_of_row _ _ _ _ _ _ ((phs_other W g c1 _ p _ hne).trans hbox)
    have HU72 : Hid (∀ p W1, p ≤ 1 → W1 = phs W g c1 (.int .i64 ((v + q : Nat) : Int)) p → W1.cell? ⟨g, 72, none⟩ = some (.int .i64 (v : Int))) := Lib.hid fun p W1 hp e => by
      rw [e]
      rcases (show p = 0 ∨ p = 1 by omega) with rfl | rfl
      · show W.drew.cell? ⟨g, 72, none⟩ = _
        rw [cell_of_row W.drew g 72 _ _ (0, 0) hsum, sumc_u _ _ _ _ HOY.out.2.1]
      · show (W.drew.setRow g c1).cell? ⟨g, 72, none⟩ = _
        rw [cell_of_row _ g 72 _ _ (0, 0) (setRow_heap W.drew g _ c1 _ _ hsum), ← HC1.out, sumc_u _ _ _ _ htl']
    have HF72 : Hid (∀ W1, W1 = phs W g c1 (.int .i64 ((v + q : Nat) : Int)) 1 → W1.frozen? ⟨g, 72, none⟩ = false) := Lib.hid fun W1 e => by
      rw [e]
      exact frozen_of_row _ g 72 _ _ (setRow_heap W.drew g _ c1 _ _ hsum)
    clear hq hc1
    refine wpIn_region_phased 50 rfl (fun _ _ _ _ => True) (fun p W1 => W1 = phs W g c1 (.int .i64 ((v + q : Nat) : Int)) p) [.is (.pointer (some ⟨g, 0, none⟩)), .is (.pointer (some ⟨g, 0, none⟩)), .is (.pointer (some ⟨g, 72, none⟩)), .is (.int .i64 (v : Int)), .is (.pointer (some ⟨g, 0, none⟩)), .is (.pointer (some ⟨g, 0, none⟩)), .is (.pointer (some ⟨g, 8, none⟩)), .is (.pointer (some ⟨g, 0, none⟩)), .is (.pointer (some ⟨g, 0, none⟩)), .is (.pointer (some ⟨g, 72, none⟩)), .is (.int .i64 (v : Int)), .is (.slice (some ⟨g, 8 + v, none⟩) (64 - v) (64 - v)), .is (.slice PA pn pc), .is (.int .i64 (q : Int)), .is (.int .i64 ((v + q : Nat) : Int)), .is (.pointer (some ⟨g, 0, none⟩)), .is (.pointer (some ⟨g, 72, none⟩)), .is undef] [13, 17] [0, 0, 0, 0, 0, 0, 0, 0, 0, 0, 0, 0, 0, 0, 1, 1, 1, 1] [1, 1, 1, 1, 0, 0, 0, 0, 0, 0, 0, 0, 0, 0, 1, 1, 1, 1] ?hL (by kernel_rfl) (by kernel_rfl) (by kernel_rfl) (by kernel_rfl) (fun _ _ _ => trivial) (rfl) ⟨?ob0, ?ob1, ?ob2, ?ob3, ?ob4, ?ob5, ?ob6, ?ob7, ?ob8, ?ob9, ?ob10, ?ob11, ?ob12, ?ob13, ?ob14, ?ob15, ?ob16, ?ob17, trivial⟩ ?obend
    case ob0 =>
      intro p vals W1 F hF hlo hhi hI hd
      have E2 : F.eval (.tmp 2) = .pointer (some ⟨w.heap.size, 0, none⟩) := hF.out_ (by kernel_rfl) rfl
      have hcl := HBX.out _ _ hI
      refine .inr ⟨wanted_none rfl, .inl ⟨.pointer (some ⟨g, 0, none⟩), ?_, hI, TyP.of_is rfl⟩⟩
      have Ec : ∀ v, F.eval (.const v) = v := fun _ => rfl; have Ef : ∀ f, F.eval (.func f) = .func (.func f) #[] #[] := fun _ => rfl; clear hF hd; generalize F.eval = ρ at E2 Ec Ef ⊢
      simp [execOp, go_sem, Ec, E2, hcl]
    case ob1 =>
      intro p vals W1 F hF hlo hhi hI hd
      have d0 : vals 0 = .pointer (some ⟨g, 0, none⟩) := hd ⟨0, .data⟩ (Array.mem_of_getElem? (i := 0) rfl) rfl (Nat.le_trans hhi (show (1 : Nat) ≤ 1000 by decide))
      have E13 := eval_some (hF.own_ 0 rfl rfl (by kernel_rfl) (by decide)); rw [d0] at E13
      refine .inr ⟨wanted_none rfl, .inl ⟨.pointer (some ⟨g, 0, none⟩), ?_, hI, TyP.of_is rfl⟩⟩
      have Ec : ∀ v, F.eval (.const v) = v := fun _ => rfl; have Ef : ∀ f, F.eval (.func f) = .func (.func f) #[] #[] := fun _ => rfl; clear hF hd; generalize F.eval = ρ at E13 Ec Ef ⊢
      simp [execOp, go_sem, Ec, E13]
    case ob2 =>
      intro p vals W1 F hF hlo hhi hI hd
      have d1 : vals 1 = .pointer (some ⟨g, 0, none⟩) := hd ⟨1, .data⟩ (Array.mem_of_getElem? (i := 0) rfl) rfl (Nat.le_trans hhi (show (1 : Nat) ≤ 1000 by decide))
      have E14 := eval_some (hF.own_ 1 rfl rfl (by kernel_rfl) (by decide)); rw [d1] at E14
      refine .inr ⟨wanted_none rfl, .inl ⟨.pointer (some ⟨g, 72, none⟩), ?_, hI, TyP.of_is rfl⟩⟩
      have Ec : ∀ v, F.eval (.const v) = v := fun _ => rfl; have Ef : ∀ f, F.eval (.func f) = .func (.func f) #[] #[] := fun _ => rfl; clear hF hd; generalize F.eval = ρ at E14 Ec Ef ⊢
      simp [execOp, go_sem, Ec, E14]
    case ob3 =>
      intro p vals W1 F hF hlo hhi hI hd
      have d2 : vals 2 = .pointer (some ⟨g, 72, none⟩) := hd ⟨2, .data⟩ (Array.mem_of_getElem? (i := 0) rfl) rfl (Nat.le_trans hhi (show (1 : Nat) ≤ 1000 by decide))
      have E15 := eval_some (hF.own_ 2 rfl rfl (by kernel_rfl) (by decide)); rw [d2] at E15
      have hcl := HU72.out _ _ (Nat.le_trans hhi (by decide)) hI
      refine .inr ⟨wanted_none rfl, .inl ⟨.int .i64 (v : Int), ?_, hI, TyP.of_is rfl⟩⟩
      have Ec : ∀ v, F.eval (.const v) = v := fun _ => rfl; have Ef : ∀ f, F.eval (.func f) = .func (.func f) #[] #[] := fun _ => rfl; clear hF hd; generalize F.eval = ρ at E15 Ec Ef ⊢
      simp [execOp, go_sem, Ec, E15, hcl]
    case ob4 =>
      intro p vals W1 F hF hlo hhi hI hd
      have hp : p = 0 := Nat.le_antisymm hhi hlo
      subst hp
      clear hlo hhi
      have E2 : F.eval (.tmp 2) = .pointer (some ⟨w.heap.size, 0, none⟩) := hF.out_ (by kernel_rfl) rfl
      have hcl := HBX.out _ _ hI
      refine .inr ⟨wanted_none rfl, .inl ⟨.pointer (some ⟨g, 0, none⟩), ?_, hI, TyP.of_is rfl⟩⟩
      have Ec : ∀ v, F.eval (.const v) = v := fun _ => rfl; have Ef : ∀ f, F.eval (.func f) = .func (.func f) #[] #[] := fun _ => rfl; clear hF hd; generalize F.eval = ρ at E2 Ec Ef ⊢
      simp [execOp, go_sem, Ec, E2, hcl]
    case ob5 =>
      intro p vals W1 F hF hlo hhi hI hd
      have hp : p = 0 := Nat.le_antisymm hhi hlo
      subst hp
      clear hlo hhi
      have d4 : vals 4 = .pointer (some ⟨g, 0, none⟩) := hd ⟨4, .data⟩ (Array.mem_of_getElem? (i := 0) rfl) rfl (show (0 : Nat) ≤ 1000 by decide)
      have E17 := eval_some (hF.own_ 4 rfl rfl (by kernel_rfl) (by decide)); rw [d4] at E17
      refine .inr ⟨wanted_none rfl, .inl ⟨.pointer (some ⟨g, 0, none⟩), ?_, hI, TyP.of_is rfl⟩⟩
      have Ec : ∀ v, F.eval (.const v) = v := fun _ => rfl; have Ef : ∀ f, F.eval (.func f) = .func (.func f) #[] #[] := fun _ => rfl; clear hF hd; generalize F.eval = ρ at E17 Ec Ef ⊢
      simp [execOp, go_sem, Ec, E17]
    case ob6 =>
      intro p vals W1 F hF hlo hhi hI hd
      have hp : p = 0 := Nat.le_antisymm hhi hlo
      subst hp
      clear hlo hhi
      have d5 : vals 5 = .pointer (some ⟨g, 0, none⟩) := hd ⟨5, .data⟩ (Array.mem_of_getElem? (i := 0) rfl) rfl (show (0 : Nat) ≤ 1000 by decide)
      have E18 := eval_some (hF.own_ 5 rfl rfl (by kernel_rfl) (by decide)); rw [d5] at E18
      refine .inr ⟨wanted_none rfl, .inl ⟨.pointer (some ⟨g, 8, none⟩), ?_, hI, TyP.of_is rfl⟩⟩
      have Ec : ∀ v, F.eval (.const v) = v := fun _ => rfl; have Ef : ∀ f, F.eval (.func f) = .func (.func f) #[] #[] := fun _ => rfl; clear hF hd; generalize F.eval = ρ at E18 Ec Ef ⊢
      simp [execOp, go_sem, Ec, E18]
    case ob7 =>
      intro p vals W1 F hF hlo hhi hI hd
      have hp : p = 0 := Nat.le_antisymm hhi hlo
      subst hp
      clear hlo hhi
      have E2 : F.eval (.tmp 2) = .pointer (some ⟨w.heap.size, 0, none⟩) := hF.out_ (by kernel_rfl) rfl
      have hcl := HBX.out _ _ hI
      refine .inr ⟨wanted_none rfl, .inl ⟨.pointer (some ⟨g, 0, none⟩), ?_, hI, TyP.of_is rfl⟩⟩
      have Ec : ∀ v, F.eval (.const v) = v := fun _ => rfl; have Ef : ∀ f, F.eval (.func f) = .func (.func f) #[] #[] := fun _ => rfl; clear hF hd; generalize F.eval = ρ at E2 Ec Ef ⊢
      simp [execOp, go_sem, Ec, E2, hcl]
    case ob8 =>
      intro p vals W1 F hF hlo hhi hI hd
      have hp : p = 0 := Nat.le_antisymm hhi hlo
      subst hp
      clear hlo hhi
      have d7 : vals 7 = .pointer (some ⟨g, 0, none⟩) := hd ⟨7, .data⟩ (Array.mem_of_getElem? (i := 0) rfl) rfl (show (0 : Nat) ≤ 1000 by decide)
      have E20 := eval_some (hF.own_ 7 rfl rfl (by kernel_rfl) (by decide)); rw [d7] at E20
      refine .inr ⟨wanted_none rfl, .inl ⟨.pointer (some ⟨g, 0, none⟩), ?_, hI, TyP.of_is rfl⟩⟩
      have Ec : ∀ v, F.eval (.const v) = v := fun _ => rfl; have Ef : ∀ f, F.eval (.func f) = .func (.func f) #[] #[] := fun _ => rfl; clear hF hd; generalize F.eval = ρ at E20 Ec Ef ⊢
      simp [execOp, go_sem, Ec, E20]
    case ob9 =>
      intro p vals W1 F hF hlo hhi hI hd
      have hp : p = 0 := Nat.le_antisymm hhi hlo
      subst hp
      clear hlo hhi
      have d8 : vals 8 = .pointer (some ⟨g, 0, none⟩) := hd ⟨8, .data⟩ (Array.mem_of_getElem? (i := 0) rfl) rfl (show (0 : Nat) ≤ 1000 by decide)
      have E21 := eval_some (hF.own_ 8 rfl rfl (by kernel_rfl) (by decide)); rw [d8] at E21
      refine .inr ⟨wanted_none rfl, .inl ⟨.pointer (some ⟨g, 72, none⟩), ?_, hI, TyP.of_is rfl⟩⟩
      have Ec : ∀ v, F.eval (.const v) = v := fun _ => rfl; have Ef : ∀ f, F.eval (.func f) = .func (.func f) #[] #[] := fun _ => rfl; clear hF hd; generalize F.eval = ρ at E21 Ec Ef ⊢
      simp [execOp, go_sem, Ec, E21]
    case ob10 =>
      intro p vals W1 F hF hlo hhi hI hd
      have hp : p = 0 := Nat.le_antisymm hhi hlo
      subst hp
      clear hlo hhi
      have d9 : vals 9 = .pointer (some ⟨g, 72, none⟩) := hd ⟨9, .data⟩ (Array.mem_of_getElem? (i := 0) rfl) rfl (show (0 : Nat) ≤ 1000 by decide)
      have E22 := eval_some (hF.own_ 9 rfl rfl (by kernel_rfl) (by decide)); rw [d9] at E22
      have hcl := HU72.out _ _ (Nat.zero_le _) hI
      refine .inr ⟨wanted_none rfl, .inl ⟨.int .i64 (v : Int), ?_, hI, TyP.of_is rfl⟩⟩
      have Ec : ∀ v, F.eval (.const v) = v := fun _ => rfl; have Ef : ∀ f, F.eval (.func f) = .func (.func f) #[] #[] := fun _ => rfl; clear hF hd; generalize F.eval = ρ at E22 Ec Ef ⊢
      simp [execOp, go_sem, Ec, E22, hcl]
    case ob11 =>
      intro p vals W1 F hF hlo hhi hI hd
      have hp : p = 0 := Nat.le_antisymm hhi hlo
      subst hp
      clear hlo hhi
      have d6 : vals 6 = .pointer (some ⟨g, 8, none⟩) := hd ⟨6, .data⟩ (Array.mem_of_getElem? (i := 0) rfl) rfl (show (0 : Nat) ≤ 1000 by decide)
      have d10 : vals 10 = .int .i64 (v : Int) := hd ⟨10, .data⟩ (Array.mem_of_getElem? (i := 1) rfl) rfl (show (0 : Nat) ≤ 1000 by decide)
      have E19 := eval_some (hF.own_ 6 rfl rfl (by kernel_rfl) (by decide)); rw [d6] at E19
      have E23 := eval_some (hF.own_ 10 rfl rfl (by kernel_rfl) (by decide)); rw [d10] at E23
      refine .inr ⟨wanted_none rfl, ?_⟩
      refine .inl ⟨.slice (some ⟨g, 8 + v, none⟩) (64 - v) (64 - v), ?_, hI, TyP.of_is rfl⟩
      have hs := slice_tail g v hv64 W1
      have Ec : ∀ v, F.eval (.const v) = v := fun _ => rfl; have Ef : ∀ f, F.eval (.func f) = .func (.func f) #[] #[] := fun _ => rfl; clear hF hd; generalize F.eval = ρ at E19 E23 Ec Ef ⊢
      simp only [execOp, Option.map_some, Option.map_none, Ec, E19, E23, hs, Sem.run_bind, Sem.run_pure, Result.andThen_ok]
    case ob12 =>
      intro p vals W1 F hF hlo hhi hI hd
      have hp : p = 0 := Nat.le_antisymm hhi hlo
      subst hp
      clear hlo hhi
      have E4 : F.eval (.tmp 4) = .slice PA pn pc := hF.out_ (by kernel_rfl) rfl
      refine .inr ⟨wanted_none rfl, .inl ⟨.slice PA pn pc, ?_, hI, TyP.of_is rfl⟩⟩
      simp only [execOp, E4, Sem.run_pure]
    case ob13 =>
      intro p vals W1 F hF hlo hhi hI hd
      have hp : p = 0 := Nat.le_antisymm hhi hlo
      subst hp
      clear hlo hhi
      have d11 : vals 11 = .slice (some ⟨g, 8 + v, none⟩) (64 - v) (64 - v) := hd ⟨11, .data⟩ (Array.mem_of_getElem? (i := 0) rfl) rfl (show (0 : Nat) ≤ 1000 by decide)
      have d12 : vals 12 = .slice PA pn pc := hd ⟨12, .data⟩ (Array.mem_of_getElem? (i := 1) rfl) rfl (show (0 : Nat) ≤ 1000 by decide)
      have E24 := eval_some (hF.own_ 11 rfl rfl (by kernel_rfl) (by decide)); rw [d11] at E24
      have E25 := eval_some (hF.own_ 12 rfl rfl (by kernel_rfl) (by decide)); rw [d12] at E25
      refine .inr ⟨wanted_none rfl, ?_⟩
      have hr := copy_in (W := W1) (pc := pc) HOY.out.2.1 hv64 (by rw [hI]; exact hsum) (n0 := w.heap.size) (by rw [hI]; exact HP8.out) HPL.out HPN.out
      refine .inr (.inl ⟨.int .i64 (q : Int), phs W g c1 (.int .i64 ((v + q : Nat) : Int)) 1, ?_, trivial, rfl, TyP.of_is rfl⟩)
      rw [HQ.out, HC1.out] at hr
      have Ec : ∀ v, F.eval (.const v) = v := fun _ => rfl; have Ef : ∀ f, F.eval (.func f) = .func (.func f) #[] #[] := fun _ => rfl; clear hF hd; generalize F.eval = ρ at E24 E25 Ec Ef ⊢
      unfold execOp
      simp only [resolve, invoke, builtin, Sem.run_bind, Sem.run_pure, Result.andThen_ok, List.map_toArray, List.map_cons, List.map_nil, E24, E25, hr]
      rw [hI]
      rfl
    case ob14 =>
      intro p vals W1 F hF hlo hhi hI hd
      have hp : p = 1 := Nat.le_antisymm hhi hlo
      subst hp
      clear hlo hhi
      have d3 : vals 3 = .int .i64 (v : Int) := hd ⟨3, .data⟩ (Array.mem_of_getElem? (i := 0) rfl) rfl (show (1 : Nat) ≤ 1000 by decide)
      have d13 : vals 13 = .int .i64 (q : Int) := hd ⟨13, .data⟩ (Array.mem_of_getElem? (i := 1) rfl) rfl (show (1 : Nat) ≤ 1000 by decide)
      have E16 := eval_some (hF.own_ 3 rfl rfl (by kernel_rfl) (by decide)); rw [d3] at E16
      have E26 := eval_some (hF.own_ 13 rfl rfl (by kernel_rfl) (by decide)); rw [d13] at E26
      refine .inr ⟨wanted_none rfl, .inl ⟨.int .i64 ((v + q : Nat) : Int), ?_, hI, TyP.of_is rfl⟩⟩
      have Ec : ∀ v, F.eval (.const v) = v := fun _ => rfl; have Ef : ∀ f, F.eval (.func f) = .func (.func f) #[] #[] := fun _ => rfl; clear hF hd; generalize F.eval = ρ at E16 E26 Ec Ef ⊢
      simp [execOp, go_sem, Ec, E16, E26, hvq]
    case ob15 =>
      intro p vals W1 F hF hlo hhi hI hd
      have hp : p = 1 := Nat.le_antisymm hhi hlo
      subst hp
      clear hlo hhi
      have d0 : vals 0 = .pointer (some ⟨g, 0, none⟩) := hd ⟨0, .data⟩ (Array.mem_of_getElem? (i := 0) rfl) rfl (show (1 : Nat) ≤ 1000 by decide)
      have E13 := eval_some (hF.own_ 0 rfl rfl (by kernel_rfl) (by decide)); rw [d0] at E13
      refine .inr ⟨wanted_none rfl, .inl ⟨.pointer (some ⟨g, 0, none⟩), ?_, hI, TyP.of_is rfl⟩⟩
      have Ec : ∀ v, F.eval (.const v) = v := fun _ => rfl; have Ef : ∀ f, F.eval (.func f) = .func (.func f) #[] #[] := fun _ => rfl; clear hF hd; generalize F.eval = ρ at E13 Ec Ef ⊢
      simp [execOp, go_sem, Ec, E13]
    case ob16 =>
      intro p vals W1 F hF hlo hhi hI hd
      have hp : p = 1 := Nat.le_antisymm hhi hlo
      subst hp
      clear hlo hhi
      have d15 : vals 15 = .pointer (some ⟨g, 0, none⟩) := hd ⟨15, .data⟩ (Array.mem_of_getElem? (i := 0) rfl) rfl (show (1 : Nat) ≤ 1000 by decide)
      have E28 := eval_some (hF.own_ 15 rfl rfl (by kernel_rfl) (by decide)); rw [d15] at E28
      refine .inr ⟨wanted_none rfl, .inl ⟨.pointer (some ⟨g, 72, none⟩), ?_, hI, TyP.of_is rfl⟩⟩
      have Ec : ∀ v, F.eval (.const v) = v := fun _ => rfl; have Ef : ∀ f, F.eval (.func f) = .func (.func f) #[] #[] := fun _ => rfl; clear hF hd; generalize F.eval = ρ at E28 Ec Ef ⊢
      simp [execOp, go_sem, Ec, E28]
    case ob17 =>
      intro p vals W1 F hF hlo hhi hI hd
      have hp : p = 1 := Nat.le_antisymm hhi hlo
      subst hp
      clear hlo hhi
      have d14 : vals 14 = .int .i64 ((v + q : Nat) : Int) := hd ⟨14, .data⟩ (Array.mem_of_getElem? (i := 1) rfl) rfl (show (1 : Nat) ≤ 1000 by decide)
      have d16 : vals 16 = .pointer (some ⟨g, 72, none⟩) := hd ⟨16, .data⟩ (Array.mem_of_getElem? (i := 0) rfl) rfl (show (1 : Nat) ≤ 1000 by decide)
      have E29 := eval_some (hF.own_ 16 rfl rfl (by kernel_rfl) (by decide)); rw [d16] at E29
      have E27 := eval_some (hF.own_ 14 rfl rfl (by kernel_rfl) (by decide)); rw [d14] at E27
      refine .inr ⟨wanted_none rfl, ?_⟩
      have hcl := HU72.out _ _ (Nat.le_refl _) hI
      have hfr := HF72.out _ hI
      have e2 : phs W g c1 (.int .i64 ((v + q : Nat) : Int)) 2 = W1.setCell ⟨g, 72, none⟩ (.int .i64 ((v + q : Nat) : Int)) := by rw [hI]; rfl
      refine .inr (.inr (.inr ⟨phs W g c1 (.int .i64 ((v + q : Nat) : Int)) 2, ?_, trivial, rfl, TyP.of_is rfl⟩))
      rw [e2]
      have Ec : ∀ v, F.eval (.const v) = v := fun _ => rfl; have Ef : ∀ f, F.eval (.func f) = .func (.func f) #[] #[] := fun _ => rfl; clear hF hd; generalize F.eval = ρ at E29 E27 Ec Ef ⊢
      simp [execOp, go_sem, Ec, E29, E27, hcl, hfr]
    case obend =>
      intro vals W1 F hF hdef hI hT
      have hW1 : W1 = phs W g c1 (.int .i64 ((v + q : Nat) : Int)) 2 := hI
      rw [hF.act]
      simp only [fin, Act.put, List.setIfInBounds_toArray, List.set_cons_succ, List.set_cons_zero]
      clear hF hT hI
      rename_i K hK
      refine hK _ _ ?_
      have hsum2 : W1.heap[g]? = some (.cells (sumc s1 (mixT (s1, tl, v) p) (v + q) nn) 49 (0, 0)) := by
        rw [hW1]
        show ((W.drew.setRow g c1).setCell ⟨g, 72, none⟩ (.int .i64 ((v + q : Nat) : Int))).heap[g]? = _
        rw [heap_setCell_same _ _ _ _ _ _ (setRow_heap W.drew g _ c1 _ _ hsum), ← HC1.out, sumc_set_u _ _ _ _ _ htl']
      have hbox2 : W1.heap[w.heap.size]? = some (.cells #[.pointer (some ⟨g, 0, none⟩)] 29 (0, 0)) := by rw [hW1, phs_other W g c1 _ 2 _ hne]; exact hbox
      have hkeep2 : ∀ k, k ≠ g → W1.heap[k]? = W.heap[k]? := fun k hk => by rw [hW1, phs_other W g c1 _ 2 _ hk]
      have hsz2 : W1.heap.size = W.heap.size := by
        rw [hW1]
        show ((W.drew.setRow g c1).setCell ⟨g, 72, none⟩ _).heap.size = _
        simp [World.setCell, World.setRow]
      have hrest2 : W1.os = W.os ∧ W1.tape = W.tape ∧ W1.output = W.output := by rw [hW1]; exact ⟨rfl, rfl, rfl⟩
      clear hW1 HU72 HF72 HBX
      have hc2 : W1.cell? ⟨w.heap.size, 0, none⟩ = some (.pointer (some ⟨g, 0, none⟩)) := cell_of_row _ _ _ _ _ _ hbox2
      have hu2 : W1.cell? ⟨g, 72, none⟩ = some (.int .i64 ((v + q : Nat) : Int)) := by rw [cell_of_row _ _ _ _ _ _ hsum2, sumc_u _ _ _ _ htl']
      have HS2 := Lib.hid hsum2
      have HB2 := Lib.hid hbox2
      have HK2 := Lib.hid hkeep2
      have HZ2 := Lib.hid hsz2
      have HR2 := Lib.hid hrest2
      clear hsum2 hbox2 hkeep2 hsz2 hrest2
      obtain ⟨vq, hvqe⟩ : ∃ vq, v + q = vq := ⟨_, rfl⟩
      rw [hvqe] at hu2 HS2 hq64
      have HVQ := Lib.hid hvqe
      clear hvqe hvq
      by_cases hlt : vq < 64
      · have hst : stS x bs (64 - u) (pre ++ [j]) = (s1, mixT (s1, tl, v) p, vq) := by rw [HSN.out]; exact stepS_lt _ _ _ _ _ (by rw [HQ.out]; exact HVQ.out) hlt
        gi_wp2
        refine ⟨⟨by rw [HZ2.out]; exact Nat.le_refl _, fun k o hk ho _ => (HK2.out k (by omega)).trans ho⟩, ⟨HK2.out _ (by omega), HK2.out _ (by omega)⟩, ⟨by rw [hst]; exact HS2.out, HB2.out, ?_, by rw [HZ2.out]; exact hbig⟩⟩
        exact ⟨HR2.out.1.trans hgrow.os, HR2.out.2.1.trans hgrow.tape, HR2.out.2.2.trans hgrow.output, by rw [HZ2.out]; exact hgrow.size, fun k hk hn => (HK2.out k (fun e => hn (by rw [e]))).trans (hgrow.block k hk hn)⟩
      · have hst : stS x bs (64 - u) (pre ++ [j]) = (comp s1 (mixT (s1, tl, v) p), mixT (s1, tl, v) p, 0) := by rw [HSN.out]; exact stepS_ge _ _ _ _ _ (by rw [HQ.out]; exact HVQ.out) hlt
        have HST := Lib.hid hst
        clear hst
        gi_wp2
        obtain ⟨W5, rfl⟩ : ∃ W5 : World, W5 = W1 := ⟨_, rfl⟩
        obtain ⟨t5, ht5⟩ : ∃ t5, mixT (s1, tl, v) p = t5 := ⟨_, rfl⟩
        rw [ht5] at HS2 htl' HST
        obtain ⟨c2, hc2e⟩ : ∃ c2, sumc (comp s1 t5) t5 vq nn = c2 := ⟨_, rfl⟩
        have HC2 := Lib.hid hc2e
        clear hc2e
        have hgl5 : g < W5.heap.size := by have := HZ2.out; omega
        have HBX5 : Hid (∀ p W1, p ≤ 1 → phq W5 g c2 p W1 → W1.cell? ⟨w.heap.size, 0, none⟩ = some (.pointer (some ⟨g, 0, none⟩))) := Lib.hid fun p W1 hp e =>
          ((phq_low hp e).cell (p := ⟨w.heap.size, 0, none⟩) (show w.heap.size < W5.heap.size by have := HZ2.out; omega)).trans hc2
        refine wpIn_region_phased 50 rfl (fun _ _ _ _ => True) (phq W5 g c2) [.is (.pointer (some ⟨g, 0, none⟩)), .is (.pointer (some ⟨g, 0, none⟩)), .is (.pointer (some ⟨g, 0, none⟩)), .is (.pointer (some ⟨g, 0, none⟩)), .is (.agg (stc s1)), .is (.pointer (some ⟨g, 0, none⟩)), .is (.pointer (some ⟨g, 0, none⟩)), .is (.pointer (some ⟨g, 8, none⟩)), .is (.agg (arr8 t5)), .is (.agg (stc (comp s1 t5))), .is (.pointer (some ⟨g, 0, none⟩)), .is (.pointer (some ⟨g, 0, none⟩)), .is undef] [9, 12] [0, 0, 0, 0, 0, 0, 0, 0, 0, 0, 1, 1, 1] [1, 0, 0, 0, 0, 0, 0, 0, 0, 0, 1, 1, 1] ?hM (by kernel_rfl) (by kernel_rfl) (by kernel_rfl) (by kernel_rfl) (fun _ _ _ => trivial) ((Below.refl _ _).drew) ⟨?qb0, ?qb1, ?qb2, ?qb3, ?qb4, ?qb5, ?qb6, ?qb7, ?qb8, ?qb9, ?qb10, ?qb11, ?qb12, trivial⟩ ?qbend
        case qb0 =>
          intro p vals W1 F hF hlo hhi hI hd
          have E2 : F.eval (.tmp 2) = .pointer (some ⟨w.heap.size, 0, none⟩) := hF.out_ (by kernel_rfl) rfl
          have hcl := HBX5.out _ _ (Nat.le_trans hhi (by decide)) hI
          refine .inr ⟨wanted_none rfl, .inl ⟨.pointer (some ⟨g, 0, none⟩), ?_, hI, TyP.of_is rfl⟩⟩
          have Ec : ∀ v, F.eval (.const v) = v := fun _ => rfl; have Ef : ∀ f, F.eval (.func f) = .func (.func f) #[] #[] := fun _ => rfl; clear hF hd; generalize F.eval = ρ at E2 Ec Ef ⊢
          simp [execOp, go_sem, Ec, E2, hcl]
        case qb1 =>
          intro p vals W1 F hF hlo hhi hI hd
          have hp : p = 0 := Nat.le_antisymm hhi hlo
          subst hp
          clear hlo hhi
          have E2 : F.eval (.tmp 2) = .pointer (some ⟨w.heap.size, 0, none⟩) := hF.out_ (by kernel_rfl) rfl
          have hcl := HBX5.out _ _ (Nat.zero_le _) hI
          refine .inr ⟨wanted_none rfl, .inl ⟨.pointer (some ⟨g, 0, none⟩), ?_, hI, TyP.of_is rfl⟩⟩
          have Ec : ∀ v, F.eval (.const v) = v := fun _ => rfl; have Ef : ∀ f, F.eval (.func f) = .func (.func f) #[] #[] := fun _ => rfl; clear hF hd; generalize F.eval = ρ at E2 Ec Ef ⊢
          simp [execOp, go_sem, Ec, E2, hcl]
        case qb2 =>
          intro p vals W1 F hF hlo hhi hI hd
          have hp : p = 0 := Nat.le_antisymm hhi hlo
          subst hp
          clear hlo hhi
          have d1 : vals 1 = .pointer (some ⟨g, 0, none⟩) := hd ⟨1, .data⟩ (Array.mem_of_getElem? (i := 0) rfl) rfl (show (0 : Nat) ≤ 1000 by decide)
          have E36 := eval_some (hF.own_ 1 rfl rfl (by kernel_rfl) (by decide)); rw [d1] at E36
          refine .inr ⟨wanted_none rfl, .inl ⟨.pointer (some ⟨g, 0, none⟩), ?_, hI, TyP.of_is rfl⟩⟩
          have Ec : ∀ v, F.eval (.const v) = v := fun _ => rfl; have Ef : ∀ f, F.eval (.func f) = .func (.func f) #[] #[] := fun _ => rfl; clear hF hd; generalize F.eval = ρ at E36 Ec Ef ⊢
          simp [execOp, go_sem, Ec, E36]
        case qb3 =>
          intro p vals W1 F hF hlo hhi hI hd
          have hp : p = 0 := Nat.le_antisymm hhi hlo
          subst hp
          clear hlo hhi
          have d2 : vals 2 = .pointer (some ⟨g, 0, none⟩) := hd ⟨2, .data⟩ (Array.mem_of_getElem? (i := 0) rfl) rfl (show (0 : Nat) ≤ 1000 by decide)
          have E37 := eval_some (hF.own_ 2 rfl rfl (by kernel_rfl) (by decide)); rw [d2] at E37
          refine .inr ⟨wanted_none rfl, .inl ⟨.pointer (some ⟨g, 0, none⟩), ?_, hI, TyP.of_is rfl⟩⟩
          have Ec : ∀ v, F.eval (.const v) = v := fun _ => rfl; have Ef : ∀ f, F.eval (.func f) = .func (.func f) #[] #[] := fun _ => rfl; clear hF hd; generalize F.eval = ρ at E37 Ec Ef ⊢
          simp [execOp, go_sem, Ec, E37]
        case qb4 =>
          intro p vals W1 F hF hlo hhi hI hd
          have hp : p = 0 := Nat.le_antisymm hhi hlo
          subst hp
          clear hlo hhi
          have d3 : vals 3 = .pointer (some ⟨g, 0, none⟩) := hd ⟨3, .data⟩ (Array.mem_of_getElem? (i := 0) rfl) rfl (show (0 : Nat) ≤ 1000 by decide)
          have E38 := eval_some (hF.own_ 3 rfl rfl (by kernel_rfl) (by decide)); rw [d3] at E38
          refine .inr ⟨wanted_none rfl, ?_⟩
          have hl := run_loadVar_part (P := Try.prog) W1 g 0 49 45 _ (0, 0) (stc s1) _ ((hI.block g hgl5).trans HS2.out) (sumc_part_st _ _ _ _) Try.underlying45 rfl (info8 _)
          refine .inl ⟨.agg (stc s1), ?_, hI, TyP.of_is rfl⟩
          have Ec : ∀ v, F.eval (.const v) = v := fun _ => rfl; have Ef : ∀ f, F.eval (.func f) = .func (.func f) #[] #[] := fun _ => rfl; clear hF hd; generalize F.eval = ρ at E38 Ec Ef ⊢
          simp only [execOp, E38, Instr.loadAt, Instr.sureAddr, Sem.run_bind, Sem.run_pure, Result.andThen_ok, hl]
        case qb5 =>
          intro p vals W1 F hF hlo hhi hI hd
          have hp : p = 0 := Nat.le_antisymm hhi hlo
          subst hp
          clear hlo hhi
          have E2 : F.eval (.tmp 2) = .pointer (some ⟨w.heap.size, 0, none⟩) := hF.out_ (by kernel_rfl) rfl
          have hcl := HBX5.out _ _ (Nat.zero_le _) hI
          refine .inr ⟨wanted_none rfl, .inl ⟨.pointer (some ⟨g, 0, none⟩), ?_, hI, TyP.of_is rfl⟩⟩
          have Ec : ∀ v, F.eval (.const v) = v := fun _ => rfl; have Ef : ∀ f, F.eval (.func f) = .func (.func f) #[] #[] := fun _ => rfl; clear hF hd; generalize F.eval = ρ at E2 Ec Ef ⊢
          simp [execOp, go_sem, Ec, E2, hcl]
        case qb6 =>
          intro p vals W1 F hF hlo hhi hI hd
          have hp : p = 0 := Nat.le_antisymm hhi hlo
          subst hp
          clear hlo hhi
          have d5 : vals 5 = .pointer (some ⟨g, 0, none⟩) := hd ⟨5, .data⟩ (Array.mem_of_getElem? (i := 0) rfl) rfl (show (0 : Nat) ≤ 1000 by decide)
          have E40 := eval_some (hF.own_ 5 rfl rfl (by kernel_rfl) (by decide)); rw [d5] at E40
          refine .inr ⟨wanted_none rfl, .inl ⟨.pointer (some ⟨g, 0, none⟩), ?_, hI, TyP.of_is rfl⟩⟩
          have Ec : ∀ v, F.eval (.const v) = v := fun _ => rfl; have Ef : ∀ f, F.eval (.func f) = .func (.func f) #[] #[] := fun _ => rfl; clear hF hd; generalize F.eval = ρ at E40 Ec Ef ⊢
          simp [execOp, go_sem, Ec, E40]
        case qb7 =>
          intro p vals W1 F hF hlo hhi hI hd
          have hp : p = 0 := Nat.le_antisymm hhi hlo
          subst hp
          clear hlo hhi
          have d6 : vals 6 = .pointer (some ⟨g, 0, none⟩) := hd ⟨6, .data⟩ (Array.mem_of_getElem? (i := 0) rfl) rfl (show (0 : Nat) ≤ 1000 by decide)
          have E41 := eval_some (hF.own_ 6 rfl rfl (by kernel_rfl) (by decide)); rw [d6] at E41
          refine .inr ⟨wanted_none rfl, .inl ⟨.pointer (some ⟨g, 8, none⟩), ?_, hI, TyP.of_is rfl⟩⟩
          have Ec : ∀ v, F.eval (.const v) = v := fun _ => rfl; have Ef : ∀ f, F.eval (.func f) = .func (.func f) #[] #[] := fun _ => rfl; clear hF hd; generalize F.eval = ρ at E41 Ec Ef ⊢
          simp [execOp, go_sem, Ec, E41]
        case qb8 =>
          intro p vals W1 F hF hlo hhi hI hd
          have hp : p = 0 := Nat.le_antisymm hhi hlo
          subst hp
          clear hlo hhi
          have d7 : vals 7 = .pointer (some ⟨g, 8, none⟩) := hd ⟨7, .data⟩ (Array.mem_of_getElem? (i := 0) rfl) rfl (show (0 : Nat) ≤ 1000 by decide)
          have E42 := eval_some (hF.own_ 7 rfl rfl (by kernel_rfl) (by decide)); rw [d7] at E42
          refine .inr ⟨wanted_none rfl, ?_⟩
          have hl := run_loadVar_part (P := Try.prog) W1 g 8 49 47 _ (0, 0) (arr8 t5) _ ((hI.block g hgl5).trans HS2.out) (sumc_part_tl _ _ _ _) Try.underlying47 rfl (info8x _ htl')
          refine .inl ⟨.agg (arr8 t5), ?_, hI, TyP.of_is rfl⟩
          have Ec : ∀ v, F.eval (.const v) = v := fun _ => rfl; have Ef : ∀ f, F.eval (.func f) = .func (.func f) #[] #[] := fun _ => rfl; clear hF hd; generalize F.eval = ρ at E42 Ec Ef ⊢
          simp only [execOp, E42, Instr.loadAt, Instr.sureAddr, Sem.run_bind, Sem.run_pure, Result.andThen_ok, hl]
        case qb9 =>
          intro p vals W1 F hF hlo hhi hI hd
          have hp : p = 0 := Nat.le_antisymm hhi hlo
          subst hp
          clear hlo hhi
          have d4 : vals 4 = .agg (stc s1) := hd ⟨4, .data⟩ (Array.mem_of_getElem? (i := 0) rfl) rfl (show (0 : Nat) ≤ 1000 by decide)
          have d8 : vals 8 = .agg (arr8 t5) := hd ⟨8, .data⟩ (Array.mem_of_getElem? (i := 1) rfl) rfl (show (0 : Nat) ≤ 1000 by decide)
          have E39 := eval_some (hF.own_ 4 rfl rfl (by kernel_rfl) (by decide)); rw [d4] at E39
          have E43 := eval_some (hF.own_ 8 rfl rfl (by kernel_rfl) (by decide)); rw [d8] at E43
          refine .inr ⟨wanted_none rfl, ?_⟩
          refine .inr (.inr (.inl ⟨30, #[.agg (stc s1), .agg (arr8 t5)], ?_, (mixed_any s1 HOY.out.1 t5 htl' W1).mono ?_⟩))
          · have Ec : ∀ v, F.eval (.const v) = v := fun _ => rfl; have Ef : ∀ f, F.eval (.func f) = .func (.func f) #[] #[] := fun _ => rfl; clear hF hd; generalize F.eval = ρ at E39 E43 Ec Ef ⊢
            simp [execOp, go_sem, Ec, Ef, E39, E43]
          rintro e W2 ⟨rfl, hb⟩
          exact ⟨_, rfl, trivial, hI.trans (hb.mono hI.size), TyP.of_is rfl⟩
        case qb10 =>
          intro p vals W1 F hF hlo hhi hI hd
          have hp : p = 1 := Nat.le_antisymm hhi hlo
          subst hp
          clear hlo hhi
          have d0 : vals 0 = .pointer (some ⟨g, 0, none⟩) := hd ⟨0, .data⟩ (Array.mem_of_getElem? (i := 0) rfl) rfl (show (1 : Nat) ≤ 1000 by decide)
          have E35 := eval_some (hF.own_ 0 rfl rfl (by kernel_rfl) (by decide)); rw [d0] at E35
          refine .inr ⟨wanted_none rfl, .inl ⟨.pointer (some ⟨g, 0, none⟩), ?_, hI, TyP.of_is rfl⟩⟩
          have Ec : ∀ v, F.eval (.const v) = v := fun _ => rfl; have Ef : ∀ f, F.eval (.func f) = .func (.func f) #[] #[] := fun _ => rfl; clear hF hd; generalize F.eval = ρ at E35 Ec Ef ⊢
          simp [execOp, go_sem, Ec, E35]
        case qb11 =>
          intro p vals W1 F hF hlo hhi hI hd
          have hp : p = 1 := Nat.le_antisymm hhi hlo
          subst hp
          clear hlo hhi
          have d10 : vals 10 = .pointer (some ⟨g, 0, none⟩) := hd ⟨10, .data⟩ (Array.mem_of_getElem? (i := 0) rfl) rfl (show (1 : Nat) ≤ 1000 by decide)
          have E45 := eval_some (hF.own_ 10 rfl rfl (by kernel_rfl) (by decide)); rw [d10] at E45
          refine .inr ⟨wanted_none rfl, .inl ⟨.pointer (some ⟨g, 0, none⟩), ?_, hI, TyP.of_is rfl⟩⟩
          have Ec : ∀ v, F.eval (.const v) = v := fun _ => rfl; have Ef : ∀ f, F.eval (.func f) = .func (.func f) #[] #[] := fun _ => rfl; clear hF hd; generalize F.eval = ρ at E45 Ec Ef ⊢
          simp [execOp, go_sem, Ec, E45]
        case qb12 =>
          intro p vals W1 F hF hlo hhi hI hd
          have hp : p = 1 := Nat.le_antisymm hhi hlo
          subst hp
          clear hlo hhi
          have d9 : vals 9 = .agg (stc (comp s1 t5)) := hd ⟨9, .data⟩ (Array.mem_of_getElem? (i := 1) rfl) rfl (show (1 : Nat) ≤ 1000 by decide)
          have d11 : vals 11 = .pointer (some ⟨g, 0, none⟩) := hd ⟨11, .data⟩ (Array.mem_of_getElem? (i := 0) rfl) rfl (show (1 : Nat) ≤ 1000 by decide)
          have E46 := eval_some (hF.own_ 11 rfl rfl (by kernel_rfl) (by decide)); rw [d11] at E46
          have E44 := eval_some (hF.own_ 9 rfl rfl (by kernel_rfl) (by decide)); rw [d9] at E44
          refine .inr ⟨wanted_none rfl, ?_⟩
          have hst := run_storeVar_part (P := Try.prog) W1 g 0 49 45 _ (stc (comp s1 t5)) ((hI.block g hgl5).trans HS2.out) (by rw [sumc_size, htl']; exact (show 0 + 8 ≤ 64 + 11 by decide)) (fun x hx => by have := Array.all_eq_true_iff_forall_mem.1 (one8 (comp s1 t5)) x (by simpa using hx); exact this) (info8 _)
          rw [sumc_state] at hst
          refine .inr (.inr (.inr ⟨W1.setRow g c2, ?_, trivial, ⟨W1, hI, rfl⟩, TyP.of_is rfl⟩))
          have Ec : ∀ v, F.eval (.const v) = v := fun _ => rfl; have Ef : ∀ f, F.eval (.func f) = .func (.func f) #[] #[] := fun _ => rfl; clear hF hd; generalize F.eval = ρ at E46 E44 Ec Ef ⊢
          simp only [execOp, E46, E44, Instr.storeAt, Instr.sureAddr, Sem.run_bind, Sem.run_pure, Result.andThen_ok, hst, HC2.out]
        case qbend =>
          intro vals W1 F hF hdef hI hT
          obtain ⟨U, hU, hW1⟩ := hI
          rw [hF.act]
          simp only [fin, Act.put, List.setIfInBounds_toArray, List.set_cons_succ, List.set_cons_zero]
          clear hF hT
          rename_i K hK
          refine hK _ _ ?_
          have hgU := (hU.block g hgl5).trans HS2.out
          have hsum3 : W1.heap[g]? = some (.cells (sumc (comp s1 t5) t5 vq nn) 49 (0, 0)) := by
            rw [hW1, HC2.out]
            exact setRow_heap U g _ c2 _ _ hgU
          have hkeep3 : ∀ k, k ≠ g → k < W5.heap.size → W1.heap[k]? = W5.heap[k]? := fun k hk hl => by rw [hW1, setRow_other _ _ _ _ hk]; exact hU.block k hl
          have hsz3 : W5.heap.size ≤ W1.heap.size := by rw [hW1, size_setRow]; exact hU.size
          have hrest3 : W1.os = W5.os ∧ W1.tape = W5.tape ∧ W1.output = W5.output := by rw [hW1]; exact ⟨hU.os, hU.tape, hU.output⟩
          clear hU hW1 hgU hu2
          have hwl5 : w.heap.size < W5.heap.size := by have := HZ2.out; omega
          have hc3 : W1.cell? ⟨w.heap.size, 0, none⟩ = some (.pointer (some ⟨g, 0, none⟩)) := cell_of_row _ _ _ _ _ _ ((hkeep3 _ hne hwl5).trans HB2.out)
          have hu3 : W1.cell? ⟨g, 72, none⟩ = some (.int .i64 (vq : Int)) := by rw [cell_of_row _ _ _ _ _ _ hsum3, sumc_u _ _ _ _ htl']
          have hf3 : W1.frozen? ⟨g, 72, none⟩ = false := frozen_of_row _ _ _ _ _ hsum3
          have HS3 := Lib.hid hsum3
          have HK3 := Lib.hid hkeep3
          have HZ3 := Lib.hid hsz3
          have HR3 := Lib.hid hrest3
          clear hsum3 hkeep3 hsz3 hrest3
          gi_wp2
          have hZ2 := HZ2.out
          have hZ3 := HZ3.out
          refine ⟨⟨by simp [World.setCell]; omega, fun k o hk ho _ => ?_⟩, ⟨?_, ?_⟩, ⟨?_, ?_, ?_, by simp [World.setCell]; omega⟩⟩
          · have hkl := (Array.getElem?_eq_some_iff.1 ho).1
            rw [heap_setCell_other _ _ _ _ (show k ≠ g by omega), HK3.out k (by omega) (by omega), HK2.out k (by omega)]
            exact ho
          · rw [heap_setCell_other _ _ _ _ (show w.heap.size + 1 ≠ g by omega), HK3.out _ (by omega) (by omega), HK2.out _ (by omega)]
          · rw [heap_setCell_other _ _ _ _ (show w.heap.size + 1 + 1 ≠ g by omega), HK3.out _ (by omega) (by omega), HK2.out _ (by omega)]
          · rw [HST.out, heap_setCell_same _ _ _ _ _ _ HS3.out]
            show some (Obj.cells ((sumc (comp s1 t5) t5 vq nn).setIfInBounds 72 (.int .i64 ((0 : Nat) : Int))) _ _) = _
            rw [sumc_set_u _ _ _ _ _ htl']
          · rw [heap_setCell_other _ _ _ _ hne, HK3.out _ hne hwl5]
            exact HB2.out
          · refine ⟨HR3.out.1.trans (HR2.out.1.trans hgrow.os), HR3.out.2.1.trans (HR2.out.2.1.trans hgrow.tape), HR3.out.2.2.trans (HR2.out.2.2.trans hgrow.output), by have := hgrow.size; simp [World.setCell]; omega, fun k hk hn => ?_⟩
            have hkg : k ≠ g := fun e => hn (by rw [e])
            rw [heap_setCell_other _ _ _ _ hkg, HK3.out k hkg (by omega), HK2.out k hkg]
            exact hgrow.block k hk hn
        case hM =>
          rintro ⟨a, W9, h⟩
          simp only [Exit.then] at h
          exact h
    case hL =>
      rintro ⟨a, W9, h⟩
      simp only [Exit.then] at h
      exact h
end Go.Proofs.Ytfpgjabbpcndfaa.Oct
