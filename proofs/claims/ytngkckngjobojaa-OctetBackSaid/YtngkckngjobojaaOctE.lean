/- The contracts of a pen's Raw and Bytes. No condition beyond the memory's reach. -/
import Derived.Test.YtngkckngjobojaaOctD
namespace Go.Proofs.Ytngkckngjobojaa.Oct
open Go.Proofs.Ytngkckngjobojaa Go.RowKit Go.Shelf

/-- A block that is none of the pen's. -/
def Out (W : World) (b k : Nat) : Prop := k < W.heap.size ∧ k ≠ b ∧ rowOf W b ≠ some k
theorem Out.step {W W' : World} {b k : Nat} (h : Out W b k) (hs : PenStep b W W') : Out W' b k ∧ W'.heap[k]? = W.heap[k]? :=
  ⟨⟨Nat.lt_of_lt_of_le h.1 hs.size, h.2.1, (hs.keep k h.1 h.2.1 h.2.2).2⟩, (hs.keep k h.1 h.2.1 h.2.2).1⟩
theorem Out.below {W W' : World} {b k : Nat} (h : Out W b k) (hb : b < W.heap.size) (hs : Below W.heap.size W W') : Out W' b k := (h.step (PenStep.of_below hb hs)).1
/-- Bytes that are none of the pen's. -/
def Apart8 (W : World) (b : Nat) (A : Option Addr) (bs : List UInt8) : Prop := Holds8 W.heap.size W A bs ∧ ∀ a, A = some a → Out W b a.block
theorem Apart8.step {W W' : World} {b : Nat} {A : Option Addr} {bs : List UInt8} (h : Apart8 W b A bs) (hs : PenStep b W W') : Apart8 W' b A bs :=
  ⟨(hs.holds h.1 fun a e => by have := h.2 a e; exact ⟨this.1, this.2.1, this.2.2⟩).more hs.size, fun a e => ((h.2 a e).step hs).1⟩
theorem Apart8.below {W W' : World} {b : Nat} {A : Option Addr} {bs : List UInt8} (h : Apart8 W b A bs) (hb : b < W.heap.size) (hs : Below W.heap.size W W') : Apart8 W' b A bs := h.step (PenStep.of_below hb hs)
/-- Bytes below all that is the pen's. -/
theorem Apart8.low {base b n₀ : Nat} {W : World} {A : Option Addr} {bs xs : List UInt8} (hp : PenAt base W b xs) (hn : n₀ ≤ base) (hs : base ≤ W.heap.size) (h : Holds8 n₀ W A bs) : Apart8 W b A bs := by
  refine ⟨h.more (by omega), fun a e => ?_⟩
  rcases h with ⟨rfl, _⟩ | ⟨c, off, rfl, hc, _⟩
  · cases e
  · cases e
    refine ⟨by simp only; omega, by have := hp.1; simp only; omega, fun hr => ?_⟩
    obtain ⟨_, v, hh, hrow, _⟩ := hp
    rw [rowOf_at hh] at hr
    have := own_row_ge hrow _ hr
    simp only at this
    omega
/-- Bytes in memory that was made behind the pen's. -/
theorem Apart8.new {base b : Nat} {W : World} {A : Option Addr} {bs xs : List UInt8} {W0 : World} (hp : PenAt base W0 b xs) (hl : Below W0.heap.size W0 W) (h : Holds8 W.heap.size W A bs) (ha : ∀ a, A = some a → W0.heap.size ≤ a.block) : Apart8 W b A bs := by
  refine ⟨h, fun a e => ?_⟩
  have h0 := ha a e
  have hb := hp.lt
  refine ⟨?_, by omega, fun hr => ?_⟩
  · rcases h with ⟨rfl, _⟩ | ⟨c, off, rfl, hc, _⟩
    · cases e
    · cases e; exact hc
  · rw [rowOf_same (hl.block b hb)] at hr
    obtain ⟨_, v, hh, hrow, _⟩ := hp
    rw [rowOf_at hh] at hr
    have := (hrow.lt _ hr).2
    omega
def flat (ps : List (Option Addr × List UInt8 × Nat)) : List UInt8 := (ps.map fun p => p.2.1).flatten
theorem flat_snoc (ps : List (Option Addr × List UInt8 × Nat)) (k : Nat) (hk : k < ps.length) : flat (ps.take (k + 1)) = flat (ps.take k) ++ ps[k].2.1 := by
  unfold flat
  rw [List.take_succ_eq_append_getElem hk, List.map_append, List.flatten_append]
  simp only [List.map_cons, List.map_nil, List.flatten_cons, List.flatten_nil, List.append_nil]
theorem flat_take_le (ps : List (Option Addr × List UInt8 × Nat)) (k : Nat) : (flat (ps.take k)).length ≤ (flat ps).length := by
  conv => rhs; rw [← List.take_append_drop k ps]
  unfold flat
  simp only [List.map_append, List.flatten_append, List.length_append]
  omega
/-- The parts, as a slice of slices that is none of the pen's. -/
structure PartsAt (W : World) (b : Nat) (A : Option Addr) (ps : List (Option Addr × List UInt8 × Nat)) : Prop where
  cell : ∀ k (h : k < ps.length), ∃ g off, A = some ⟨g, off, none⟩ ∧ Out W b g ∧ W.cell? ⟨g, off + k, none⟩ = some (.slice ps[k].1 ps[k].2.1.length ps[k].2.2)
  each : ∀ p ∈ ps, Apart8 W b p.1 p.2.1

set_option maxRecDepth 100000 in
set_option maxHeartbeats 2000000 in
theorem penRaw_any (base b : Nat) (bs : List UInt8) (ps : List (Option Addr × List UInt8 × Nat)) (n : Nat) (hn : n = ps.length) (A : Option Addr) (c : Nat) (w : World) (hp : PenAt base w b bs) (hq : PartsAt w b A ps) (hl : bs.length + (flat ps).length ≤ 100000000000000) (hps : ps.length ≤ 1000000) (hbase : base ≤ w.heap.size) :
    Calls Try.prog 30 #[.pointer (some ⟨b, 0, none⟩), .slice A n c] w (Wrote base b bs (flat ps) 0 w) := by
  have HN := Lib.hid hn
  have hn6 : n ≤ 1000000 := by omega
  clear hn hps
  go_enter Try.func30, Try.ntmps30
  go_wp2
  go_loopw [6, 11] (fun _ i wr => ∃ k : Nat, k ≤ n ∧ i = .int .i64 (k : Int) ∧ PenAt base wr b (bs ++ flat (ps.take k)) ∧ PenStep b w wr) (fun _ i _ => n - (intOf i).toNat)
  case atStart => exact ⟨0, Nat.zero_le _, rfl, by simpa [flat] using hp, PenStep.refl _ _⟩
  case round =>
    obtain ⟨k, hk, rfl, hpk, hst⟩ := hrel
    by_cases hlt : k < n
    · have hkp : k < ps.length := by rw [← HN.out]; exact hlt
      obtain ⟨g, off, hA, hog, hcg⟩ := hq.cell k hkp
      subst hA
      have heg := hq.each _ (List.getElem_mem hkp)
      have HF := Lib.hid (flat_snoc ps k hkp)
      have HLE := Lib.hid (by have h := flat_take_le ps (k + 1); rw [flat_snoc ps k hkp, List.length_append] at h; exact h)
      obtain ⟨p, hpe⟩ : ∃ p, ps[k] = p := ⟨_, rfl⟩
      rw [hpe] at hcg heg HF HLE
      clear hpe
      obtain ⟨B, ls, cc⟩ := p
      dsimp only at hcg heg HF HLE
      have hcw := (World.cell?_of_block (a := ⟨g, off + k, none⟩) (hog.step hst).2).trans hcg
      have hew := heg.step hst
      obtain ⟨ys, hys⟩ : ∃ ys, bs ++ flat (ps.take k) = ys := ⟨_, rfl⟩
      have hyl : ys.length + ls.length ≤ 100000000000000 := by rw [← hys, List.length_append]; have := HLE.out; omega
      have HX := Lib.hid (show bs ++ flat (ps.take (k + 1)) = ys ++ ls by rw [HF.out, ← List.append_assoc, hys])
      rw [hys] at hpk
      clear hys
      obtain ⟨hgb, v0, hheap, hrow, hne⟩ := hpk
      obtain ⟨A0, c0, rfl, _, _⟩ := own_holds rfl hrow
      have hcell : wr.cell? ⟨b, 0, none⟩ = some (.slice A0 ys.length c0) := by rw [cell_of_row _ _ _ _ _ _ hheap]; rfl
      have HE := Lib.hid hew.1
      have hs0 := hst.size
      clear heg hew
      go_wp2_with (at_builtin; refine wpList_append_bytes rfl (.tmp 19) (.tmp 20) rfl base _ _ ys ls rfl hrow B cc rfl HE.out (by omega) (by omega) ?_; intro v' w1 hown' hgr hv; have hck := pen_cell_kept hheap hne (Below.refl _ _) hgr; have hc1 := hck.1; have hf1 := hck.2; obtain ⟨A', c', rfl, _, _⟩ := own_holds rfl hown'; have hpp := pen_put hgb hheap hrow hne (Below.refl _ _) hgr hown' hv; clear hown' hgr hv hck; simp only [List.length_append] at hpp; have HPP := Lib.hid hpp; clear hpp)
      go_roundw
      case rel => exact ⟨k + 1, by omega, by go_num, by rw [HX.out]; exact HPP.out.1, hst.trans HPP.out.2⟩
      case measure => simp [intOf]; omega
    · have HT := Lib.hid (show ps.take k = ps from List.take_of_length_le (by rw [← HN.out]; omega))
      have hkn : k = n := by omega
      have HK := Lib.hid hkn
      clear hkn
      go_wp2
      go_ret
      exact ⟨rfl, by rw [HT.out] at hpk; exact hpk, hst⟩

theorem out_new {base b : Nat} {W : World} {xs : List UInt8} (hp : PenAt base W b xs) (o : Obj) : Out (W.alloc o) b W.heap.size := by
  have hb := hp.lt
  refine ⟨by simp, by omega, fun hr => ?_⟩
  rw [rowOf_same (Below.heap_alloc W o b hb)] at hr
  obtain ⟨_, v, hh, hrow, _⟩ := hp
  rw [rowOf_at hh] at hr
  have := (hrow.lt _ hr).2
  omega
/-- One part, laid in a row of its own. -/
theorem parts_one {base b : Nat} {W : World} {xs bs : List UInt8} {A : Option Addr} {c : Nat} (hp : PenAt base W b xs) (ha : Apart8 W b A bs) (o : Obj) (ho : o = .cells #[.slice A bs.length c] 25 (0, 0)) : PartsAt (W.alloc o) b (some ⟨W.heap.size, 0, none⟩) [(A, bs, c)] := by
  subst ho
  refine ⟨fun k hk => ?_, fun p hq => ?_⟩
  · obtain rfl : k = 0 := by simpa using hk
    exact ⟨W.heap.size, 0, rfl, out_new hp _, by rw [cell_of_row _ _ _ _ _ _ (heap_alloc_new W _)]; rfl⟩
  · obtain rfl : p = (A, bs, c) := by simpa using hq
    exact ha.below hp.lt ((Below.refl _ _).alloc (Nat.le_refl _) _)

set_option maxRecDepth 100000 in
set_option maxHeartbeats 2000000 in
theorem penBytes_any (base b : Nat) (bs xs : List UInt8) (A : Option Addr) (c : Nat) (w : World) (hp : PenAt base w b bs) (hx : Apart8 w b A xs) (hl : bs.length + xs.length + 9 ≤ 100000000000000) (hbase : base ≤ w.heap.size) :
    Calls Try.prog 29 #[.pointer (some ⟨b, 0, none⟩), .slice A xs.length c] w (Wrote base b bs (sizeB xs.length ++ xs) 0 w) := by
  have hsl := sizeB_length xs.length
  have hcl : cmpL xs.length ≤ 9 := by unfold cmpL; (repeat' split) <;> omega
  have HSL := Lib.hid hsl
  have hsz := penSize_any base b bs xs.length (by omega) w hp (by omega) hbase
  have HP := Lib.hid hp
  have HX := Lib.hid hx
  clear hp hx hsl
  go_enter Try.func29, Try.ntmps29
  go_wp2_with (first
    | (go_at_call 28; refine hsz.mono ?_; rintro e w1 ⟨rfl, hp1, hs1⟩)
    | (go_at_call 30; refine (penRaw_any base b (bs ++ sizeB xs.length) [(A, xs, c)] 1 rfl _ 1 _ (hp1.below ((Below.refl _ _).alloc (Nat.le_refl _) _)) (parts_one hp1 (HX.out.step hs1) _ rfl) (by simp only [flat, List.map_cons, List.map_nil, List.flatten_cons, List.flatten_nil, List.append_nil, List.length_append]; have := HSL.out; omega) (by simp) (by have := hs1.size; simp; omega)).mono ?_; rintro e w2 ⟨rfl, hp2, hs2⟩))
  go_ret
  refine ⟨rfl, ?_, (hs1.trans (PenStep.of_below hp1.lt ((Below.refl _ _).alloc (Nat.le_refl _) _))).trans hs2⟩
  have : bs ++ (sizeB xs.length ++ xs) = bs ++ sizeB xs.length ++ flat [(A, xs, c)] := by simp [flat]
  rw [this]
  exact hp2
end Go.Proofs.Ytngkckngjobojaa.Oct
