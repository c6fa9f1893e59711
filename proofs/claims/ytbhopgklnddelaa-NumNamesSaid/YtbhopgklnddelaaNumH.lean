/- The contract of num's encoded. No condition but that the number is below 2^40. -/
import Derived.Test.YtbhopgklnddelaaNumG
import Derived.Test.YtbhopgklnddelaaByt
import Derived.Maps.OwnIn
import Derived.Laws.BitsAllLaws
namespace Go.Proofs.Ytbhopgklnddelaa
open Go.RowKit Go.Shelf
attribute [local go_sem] Oper.semAt_some

theorem magL_length (k m : Nat) (h : m < 256 ^ k) : (magL m).length ≤ k := by
  induction k generalizing m with
  | zero =>
    have : m = 0 := by simpa using h
    subst this
    rw [magL_zero]
    simp
  | succ k ih =>
    by_cases hm : m = 0
    · subst hm
      rw [magL_zero]
      simp
    · rw [magL_pos hm]
      have := ih (m / 256) (by rw [Nat.pow_succ] at h; omega)
      simp
      omega
theorem magL_nil {m : Nat} (h : magL m = []) : m = 0 := by
  by_cases hm : m = 0
  · exact hm
  · rw [magL_pos hm] at h
    cases h

/-- A number's bytes. -/
def topped (L : List UInt8) : List UInt8 := if 128 ≤ (L.getLastD 0).toNat then L ++ [0] else L
def encB (n : Int) : List UInt8 := if n < 0 then (topped (magL n.natAbs)).set ((topped (magL n.natAbs)).length - 1) (UInt8.ofNat (((topped (magL n.natAbs)).getLastD 0).toNat + 128)) else topped (magL n.natAbs)

/-- Behind the return: the block of the rounds' deferred calls is shut. -/
theorem fin_new {w W : World} {D c : Nat} {bs : List UInt8} {A : Option Addr} (hB : Below w.heap.size w W) (hh : Holds8 W.heap.size W A bs) (hfr : ∀ a, A = some a → w.heap.size ≤ a.block) (hK : W.heap[D]? = some (.deferred (some []))) (hD : w.heap.size ≤ D) :
    NewBytes w bs (.returned (.slice A bs.length c)) (W.putObj D (.deferred none)) := by
  refine ⟨A, c, rfl, ?_, hfr, hB.trans (belowK_b (w := w) (Nat.le_refl _) W D _ _ hD hK rfl rfl)⟩
  rcases hh with ⟨e1, e2⟩ | ⟨b, off, e, hb, hc⟩
  · exact .inl ⟨e1, e2⟩
  · exact .inr ⟨b, off, e, by simpa using hb, fun j hj => cell_kept (hc j hj) (grownBy_putObj' W D (.deferred none)) (fun r e => by cases e; exact ⟨_, hK, rfl⟩)⟩

theorem setCell_size (W : World) (p : Addr) (v : Value) : (W.setCell p v).heap.size = W.heap.size := by simp [World.setCell]
theorem and128_hi (x : UInt8) (h : 128 ≤ x.toNat) : bits .and .u8 (x.toNat : Int) 128 = 128 := by
  have h1 := u8_and_nat x.toNat 128 (UInt8.toNat_lt x) (by omega)
  have h2 : ∀ y : Fin 256, 128 ≤ y.val → y.val &&& 128 = 128 := by decide +kernel
  rw [h2 ⟨x.toNat, UInt8.toNat_lt x⟩ h] at h1
  exact h1
theorem and128_lo (x : UInt8) (h : x.toNat < 128) : bits .and .u8 (x.toNat : Int) 128 = 0 := by
  have h1 := u8_and_nat x.toNat 128 (UInt8.toNat_lt x) (by omega)
  have h2 : ∀ y : Fin 256, y.val < 128 → y.val &&& 128 = 0 := by decide +kernel
  rw [h2 ⟨x.toNat, UInt8.toNat_lt x⟩ h] at h1
  exact h1
theorem or128_lo (x : UInt8) (h : x.toNat < 128) : bits .or .u8 (x.toNat : Int) 128 = ((UInt8.ofNat (x.toNat + 128)).toNat : Int) := by
  have h1 := u8_or_nat x.toNat 128 (UInt8.toNat_lt x) (by omega)
  have h2 : ∀ y : Fin 256, y.val < 128 → y.val ||| 128 = y.val + 128 := by decide +kernel
  have h3 := h2 ⟨x.toNat, UInt8.toNat_lt x⟩ h
  simp only at h3
  rw [h3] at h1
  have h4 : (UInt8.ofNat (x.toNat + 128)).toNat = x.toNat + 128 := by rw [UInt8.toNat_ofNat']; omega
  rw [h4]
  exact h1

set_option maxRecDepth 100000 in
set_option maxHeartbeats 4000000 in
theorem encoded_any (n : Int) (h1 : -1099511627776 < n) (h2 : n < 1099511627776) (w : World) : Calls Try.prog 29 #[.int .i64 n] w (NewBytes w (encB n)) := by
  obtain ⟨i0, hi, hz0, hz1, hz2⟩ := info_parts byte_info
  refine (callsIn_wide (n := 9)).1 ?_
  refine callsIn_of_wp_marks Try.func29 rfl trivial ?_ rfl
  simp only [Try.ntmps29, List.size_toArray, List.length_cons, List.length_nil, Nat.reduceAdd, Nat.reduceSub, Array.replicate_succ, Array.replicate_zero, List.push_toArray, List.append_toArray, List.nil_append, List.cons_append]
  refine wpIn_wide.2 ?_
  obtain ⟨m, hmm⟩ : ∃ m : Nat, n.natAbs = m := ⟨_, rfl⟩
  have hm : m < 1099511627776 := by omega
  have HMM := Lib.hid hmm
  by_cases hneg : n < 0
  · have hmi : -n = (m : Int) := by omega
    have hmpos : 0 < m := by omega
    clear hmm
    go_wp2_with ((go_at_call 38; refine (callsIn_wide.1 (mag_in Fence.wide 9 trivial rfl _ _)).mono ?_; rintro e w2 ⟨rfl, rfl⟩))
    have bO := Boxed.new w 22 (.slice none 0 0)
    have bN := Boxed.new (w.alloc (.cells #[.slice none 0 0] 22)) 2 (.int .i64 (m : Int))
    rw [World.size_alloc] at bN
    have hB0 : Below w.heap.size w ((w.alloc (.cells #[.slice none 0 0] 22)).alloc (.cells #[.int .i64 (m : Int)] 2)) := ((Below.refl _ w).alloc (Nat.le_refl _) _).alloc (by simp) _
    refine (wpIn_wide (n := 9)).1 ?_
    refine wpIn_rangeFunc_steps (own := fun A B => ∃ v, B = A.setCell ⟨w.heap.size + 1, 0, none⟩ v) (Kp := fun A B => B.heap[w.heap.size + 1]? = A.heap[w.heap.size + 1]?) rfl (by decide) (gf := 58) (lb := #[.pointer (some ⟨w.heap.size + 1, 0, none⟩)]) rfl trivial (enters_of Try.func58 (by kernel_rfl) rfl)
      (mag_stops Fence.wide 8 trivial rfl (by omega) (w.heap.size + 1) m hm _ (by simp) bN) (fun h k => k.trans h) (fun W l o o' hl _ _ _ => World.putObj_heap_other (by simp at hl; omega))
      (fun A B k o ⟨v, e⟩ _ hk ho => by rw [e]; exact (KeepsOthers.setCell A _ v).same k o hk ho) (fun _ => rfl)
      (fun pre W => (∃ v, Boxed W w.heap.size 22 v ∧ W.ownsRow w.heap.size 5 1 v pre.length (vals pre) ∧ True) ∧ (∃ u, Boxed W (w.heap.size + 1) 2 u) ∧ Below w.heap.size w W)
      (fun _ _ _ => False)
      (OwnFrom.and (Own.from (holdsRow_own w.heap.size w.heap.size 22 5 1 List.length vals (fun _ _ => True)) _) (OwnFrom.and (Own.from (fun s X Y row ⟨u, hs⟩ hg hrow => ⟨u, boxed_own (w.heap.size + 1) 2 (fun _ : List UInt8 => u) s X Y row hs hg hrow⟩) _) (ownFrom_below (Nat.le_refl _) (by simp; omega))))
      (fun _ _ _ _ _ hs _ _ => hs)
      (fun s A B ⟨⟨v, h1, h2, _⟩, ⟨u, h3⟩, h4⟩ ⟨z, e⟩ => by
        subst e
        exact ⟨⟨v, h1.other (by omega) z, h2.kept (grownBy_setCell' A (w.heap.size + 1) z) (.inr (h3.not_row (by decide) h2).symm), trivial⟩, ⟨z, h3.set z⟩, h4.setCell (p := ⟨w.heap.size + 1, 0, none⟩) (by simp) z⟩)
      ⟨⟨_, bO.alloc _, World.ownsRow_nil _ _ _ _, trivial⟩, ⟨_, bN⟩, hB0⟩
      (fun x => { tmps := #[.int .i64 n, undef, .slice none 0 0, .pointer (some ⟨w.heap.size, 0, none⟩), .int .u8 (x.toNat : Int), .int .i64 n, .int .i64 n, .int .i64 (m : Int), .int .i64 (m : Int), .func (.func 58) #[] #[.pointer (some ⟨w.heap.size + 1, 0, none⟩)], .int .u8 (x.toNat : Int), undef, undef, undef, undef, undef, undef, undef, undef, undef, undef, undef, undef, undef, undef, undef, undef, undef, undef, undef, undef, undef, undef, undef, undef, undef, undef, undef, undef, undef, undef, undef], defers := [] }) ?assign1 ?body1 ?done1 ?stop1
    case assign1 =>
      intro l x W K hK
      gi_wp2
      exact hK
    case body1 =>
      rintro l pre x W ⟨⟨v, hv, hrow, _⟩, ⟨u, hu⟩, hB⟩ hlen
      have hc := hv.cell
      have hlen2 : pre.length < 100 := hlen
      have hle := hB.size
      gi_wp2_with (gi_at_builtin; refine wpListIn_append_own _ rfl _ _ 22 rfl w.heap.size 5 i0 (.int .u8 0) 1 1 Try.underlying22 hi hz0 hz1 hz2 rfl (by decide) _ _ _ rfl (hrow.alloc _) ⟨W.heap.size, 0, none⟩ 1 1 [.int .u8 (x.toNat : Int)] rfl rfl (cell_one_new _ _ _) (by simp [Value.oneCell']) (by unfold maxLen; omega) (by omega) (by have := hB.size; simp; omega) ?_; intro v' w1 hown' hgrow _; obtain ⟨g', cap', rfl⟩ := ownsRow_succ hown'; obtain ⟨hv1, hv2, hr2, hk2, hb2⟩ := hv.appended (by decide) hrow hB.size (Nat.le_refl _) hown' hgrow; have hu1 := (hu.alloc (.cells #[.int .u8 (x.toNat : Int)] 5)).kept hgrow (hu.not_row (by decide) hrow); have hc1 := hv1.cell; have hf1 := hv1.frozen)
      have hu2 := hu1.other (B' := w.heap.size) (by omega) (.slice (some ⟨g', 0, none⟩) (pre.length + 1) cap')
      exact ⟨hk2.from _, hu2.trans hu.symm, ⟨_, hv2, by rw [vals_append, List.length_append]; exact hr2, trivial⟩, ⟨u, hu2⟩, hB.trans hb2⟩
    case stop1 =>
      rintro D c pre W _ _ h _
      exact h.elim
    case done1 =>
      rintro D ys W hD rfl ⟨⟨v, hv, hrow, _⟩, _, hB⟩ hK
      have hDw : w.heap.size ≤ D := by have := hB0.size; omega
      have hc := hv.cell
      have hf := hv.frozen
      have HV := Lib.hid hv
      clear hv
      have hmp : magL m ≠ [] := fun h => absurd (magL_nil h) (by omega)
      have hL5 := magL_length 5 m (by simpa using hm)
      have HEL := Lib.hid (show encB n = (topped (magL m)).set ((topped (magL m)).length - 1) (UInt8.ofNat (((topped (magL m)).getLastD 0).toNat + 128)) by unfold encB; rw [if_pos hneg, HMM.out])
      obtain ⟨L, hL⟩ : ∃ L, magL m = L := ⟨_, rfl⟩
      rw [hL] at hrow hmp hL5 HEL
      clear hL
      have hLpos : 0 < L.length := List.length_pos_iff.2 hmp
      obtain ⟨g, c, rfl, hgb, hgl, hLc, hcs, hfz⟩ := own_form rfl hLpos hrow
      obtain ⟨k, hk⟩ : ∃ k, L.length = k + 1 := ⟨L.length - 1, by omega⟩
      have hck := hcs k (by omega)
      rw [Nat.zero_add] at hck
      obtain ⟨x, hx⟩ : ∃ x, L[k]'(by omega) = x := ⟨_, rfl⟩
      have hub := UInt8.toNat_lt x
      have hlast : L.getLastD 0 = x := by rw [List.getLastD_eq_getLast?, List.getLast?_eq_getElem?]; simp [hk, hx]
      rw [hx] at hck
      rw [hk] at hc hrow hLc HV
      have hk5 : k < 5 := by omega
      have HK := Lib.hid hk
      have HCS := Lib.hid hcs
      clear hk hcs hx hL5 hmp hLpos
      clear h1 h2 hm

      have HLAST := Lib.hid hlast
      clear hlast
      by_cases hx128 : 128 ≤ x.toNat
      · have e1 : bits .and .u8 (x.toNat : Int) 128 = 128 := and128_hi x hx128
        have HT := Lib.hid (show topped L = L ++ [0] by unfold topped; rw [HLAST.out, if_pos hx128])
        have e3 : bits .or .u8 0 128 = 128 := by decide
        go_wp2_with (at_builtin; refine wpList_append_own_at _ rfl (.tmp 28) (.tmp 29) _ rfl w.heap.size 5 i0 (.int .u8 0) 1 1 Try.underlying22 hi hz0 hz1 hz2 rfl (by decide) _ _ _ rfl (hrow.alloc _) ⟨W.heap.size, 0, none⟩ 1 1 [.int .u8 0] rfl rfl (cell_one_new _ _ _) (by simp [Value.oneCell']) (by unfold maxLen; omega) (by omega) (by have := hB.size; simp; omega) ?_; intro v' w1 hown' hgrow _ _; obtain ⟨g', cap', rfl⟩ := ownsRow_succ hown'; obtain ⟨hv1, hv2, hr2, hk2, hb2⟩ := HV.out.appended (by decide) hrow hB.size (Nat.le_refl _) hown' hgrow; have hc1 := hv1.cell; have hf1 := hv1.frozen; obtain ⟨g2, c2, hge, hgb2, hgl2, hLc2, hcs2, hfz2⟩ := own_form (bs := L ++ [0]) (by rw [List.length_append, HK.out]; first | done | rfl) (by omega) (by rw [vals_append]; exact hr2); injection hge with hge1 hge2 hge3; injection hge1 with hge4; injection hge4 with hge5; subst hge5; subst hge3; have hck2 := hcs2 (k + 1) (by rw [List.length_append, HK.out]; simp); rw [Nat.zero_add] at hck2; have HCS2 := Lib.hid hcs2; clear hcs2 hge2; simp only [List.getElem_append_right (show L.length ≤ k + 1 by rw [HK.out]; exact Nat.le_refl _), List.getElem_singleton, UInt8.toNat_zero] at hck2; have hfz3 := hfz2 (k + 1); clear hfz2)
        have hK2 := hk2.same D _ hK rfl
        refine ⟨by simp, .inl ⟨_, _, rfl, run_takeDeferred ((KeepsOthers.setCell _ _ _).same D _ hK2 rfl), ?_⟩⟩
        refine ⟨_, results_tmp rfl _ _ _, ?_⟩
        have hln : (L ++ [0]).length = k + 1 + 1 := by rw [List.length_append, HK.out]; rfl
        rw [HEL.out, HT.out, List.getLastD_concat, hln]
        have h8 := Holds8.store (n₀ := (w1.setCell ⟨w.heap.size, 0, none⟩ (.slice (some ⟨g', 0, none⟩) (k + 1 + 1) cap')).heap.size) hln hgl2 HCS2.out (k + 1) (UInt8.ofNat 128)
        have hsz := setCell_size (w1.setCell ⟨w.heap.size, 0, none⟩ (.slice (some ⟨g', 0, none⟩) (k + 1 + 1) cap')) ⟨g', k + 1, none⟩ (.int .u8 128)
        have := fin_new (c := cap') (bs := (L ++ [0]).set (k + 1) (UInt8.ofNat 128)) ((hB.trans hb2).setCell (p := ⟨g', k + 1, none⟩) hgb2 (.int .u8 128)) (by rw [hsz]; exact h8) (fun a e => by cases e; exact hgb2) ((KeepsOthers.setCell _ _ _).same D _ hK2 rfl) hDw
        rw [List.length_set, hln] at this
        exact this
      · have e1 : bits .and .u8 (x.toNat : Int) 128 = 0 := and128_lo x (by omega)
        have HT := Lib.hid (show topped L = L by unfold topped; rw [HLAST.out, if_neg hx128])
        have e3 : bits .or .u8 (x.toNat : Int) 128 = ((UInt8.ofNat (x.toNat + 128)).toNat : Int) := or128_lo x (by omega)
        have hfk := hfz k
        have hne : (⟨g, k, none⟩ : Addr) ≠ ⟨w.heap.size, 0, none⟩ := fun e => by injection e with e _; exact HV.out.not_row (by decide) hrow (by rw [← e]; rfl)
        have hc4 : ∀ u, (W.setCell ⟨g, k, none⟩ u).cell? ⟨w.heap.size, 0, none⟩ = some (.slice (some ⟨g, 0, none⟩) (k + 1) c) := fun u => by rw [World.cell?_setCell_other _ _ _ _ hne]; exact hc
        go_wp2
        refine ⟨by simp, .inl ⟨_, _, rfl, run_takeDeferred ((KeepsOthers.setCell _ _ _).same D _ hK rfl), ?_⟩⟩
        refine ⟨_, results_tmp rfl _ _ _, ?_⟩
        rw [HEL.out, HT.out, HLAST.out, HK.out]
        have ev : ((x.toNat : Int) + 128) % 256 = ((UInt8.ofNat (x.toNat + 128)).toNat : Int) := by rw [UInt8.toNat_ofNat']; omega
        rw [ev]
        have h8 := Holds8.store (n₀ := W.heap.size) HK.out hgl HCS.out k (UInt8.ofNat (x.toNat + 128))
        have hsz := setCell_size W ⟨g, k, none⟩ (.int .u8 ((UInt8.ofNat (x.toNat + 128)).toNat : Int))
        have := fin_new (c := c) (bs := L.set k (UInt8.ofNat (x.toNat + 128))) (hB.setCell (p := ⟨g, k, none⟩) hgb (.int .u8 ((UInt8.ofNat (x.toNat + 128)).toNat : Int))) (by rw [hsz]; exact h8) (fun a e => by cases e; exact hgb) ((KeepsOthers.setCell _ _ _).same D _ hK rfl) hDw
        rw [List.length_set, HK.out] at this
        exact this
  · obtain rfl : n = (m : Int) := by omega
    clear hmm
    go_wp2_with ((go_at_call 38; refine (callsIn_wide.1 (mag_in Fence.wide 9 trivial rfl _ _)).mono ?_; rintro e w2 ⟨rfl, rfl⟩))
    have bO := Boxed.new w 22 (.slice none 0 0)
    have bN := Boxed.new (w.alloc (.cells #[.slice none 0 0] 22)) 2 (.int .i64 (m : Int))
    rw [World.size_alloc] at bN
    have hB0 : Below w.heap.size w ((w.alloc (.cells #[.slice none 0 0] 22)).alloc (.cells #[.int .i64 (m : Int)] 2)) := ((Below.refl _ w).alloc (Nat.le_refl _) _).alloc (by simp) _
    refine (wpIn_wide (n := 9)).1 ?_
    refine wpIn_rangeFunc_steps (own := fun A B => ∃ v, B = A.setCell ⟨w.heap.size + 1, 0, none⟩ v) (Kp := fun A B => B.heap[w.heap.size + 1]? = A.heap[w.heap.size + 1]?) rfl (by decide) (gf := 58) (lb := #[.pointer (some ⟨w.heap.size + 1, 0, none⟩)]) rfl trivial (enters_of Try.func58 (by kernel_rfl) rfl)
      (mag_stops Fence.wide 8 trivial rfl (by omega) (w.heap.size + 1) m hm _ (by simp) bN) (fun h k => k.trans h) (fun W l o o' hl _ _ _ => World.putObj_heap_other (by simp at hl; omega))
      (fun A B k o ⟨v, e⟩ _ hk ho => by rw [e]; exact (KeepsOthers.setCell A _ v).same k o hk ho) (fun _ => rfl)
      (fun pre W => (∃ v, Boxed W w.heap.size 22 v ∧ W.ownsRow w.heap.size 5 1 v pre.length (vals pre) ∧ True) ∧ (∃ u, Boxed W (w.heap.size + 1) 2 u) ∧ Below w.heap.size w W)
      (fun _ _ _ => False)
      (OwnFrom.and (Own.from (holdsRow_own w.heap.size w.heap.size 22 5 1 List.length vals (fun _ _ => True)) _) (OwnFrom.and (Own.from (fun s X Y row ⟨u, hs⟩ hg hrow => ⟨u, boxed_own (w.heap.size + 1) 2 (fun _ : List UInt8 => u) s X Y row hs hg hrow⟩) _) (ownFrom_below (Nat.le_refl _) (by simp; omega))))
      (fun _ _ _ _ _ hs _ _ => hs)
      (fun s A B ⟨⟨v, h1, h2, _⟩, ⟨u, h3⟩, h4⟩ ⟨z, e⟩ => by
        subst e
        exact ⟨⟨v, h1.other (by omega) z, h2.kept (grownBy_setCell' A (w.heap.size + 1) z) (.inr (h3.not_row (by decide) h2).symm), trivial⟩, ⟨z, h3.set z⟩, h4.setCell (p := ⟨w.heap.size + 1, 0, none⟩) (by simp) z⟩)
      ⟨⟨_, bO.alloc _, World.ownsRow_nil _ _ _ _, trivial⟩, ⟨_, bN⟩, hB0⟩
      (fun x => { tmps := #[.int .i64 (m : Int), undef, .slice none 0 0, .pointer (some ⟨w.heap.size, 0, none⟩), .int .u8 (x.toNat : Int), .int .i64 (m : Int), .int .i64 (m : Int), .int .i64 (-(m : Int)), .int .i64 (m : Int), .func (.func 58) #[] #[.pointer (some ⟨w.heap.size + 1, 0, none⟩)], .int .u8 (x.toNat : Int), undef, undef, undef, undef, undef, undef, undef, undef, undef, undef, undef, undef, undef, undef, undef, undef, undef, undef, undef, undef, undef, undef, undef, undef, undef, undef, undef, undef, undef, undef, undef], defers := [] }) ?assign2 ?body2 ?done2 ?stop2
    case assign2 =>
      intro l x W K hK
      gi_wp2
      exact hK
    case body2 =>
      rintro l pre x W ⟨⟨v, hv, hrow, _⟩, ⟨u, hu⟩, hB⟩ hlen
      have hc := hv.cell
      have hlen2 : pre.length < 100 := hlen
      have hle := hB.size
      gi_wp2_with (gi_at_builtin; refine wpListIn_append_own _ rfl _ _ 22 rfl w.heap.size 5 i0 (.int .u8 0) 1 1 Try.underlying22 hi hz0 hz1 hz2 rfl (by decide) _ _ _ rfl (hrow.alloc _) ⟨W.heap.size, 0, none⟩ 1 1 [.int .u8 (x.toNat : Int)] rfl rfl (cell_one_new _ _ _) (by simp [Value.oneCell']) (by unfold maxLen; omega) (by omega) (by have := hB.size; simp; omega) ?_; intro v' w1 hown' hgrow _; obtain ⟨g', cap', rfl⟩ := ownsRow_succ hown'; obtain ⟨hv1, hv2, hr2, hk2, hb2⟩ := hv.appended (by decide) hrow hB.size (Nat.le_refl _) hown' hgrow; have hu1 := (hu.alloc (.cells #[.int .u8 (x.toNat : Int)] 5)).kept hgrow (hu.not_row (by decide) hrow); have hc1 := hv1.cell; have hf1 := hv1.frozen)
      have hu2 := hu1.other (B' := w.heap.size) (by omega) (.slice (some ⟨g', 0, none⟩) (pre.length + 1) cap')
      exact ⟨hk2.from _, hu2.trans hu.symm, ⟨_, hv2, by rw [vals_append, List.length_append]; exact hr2, trivial⟩, ⟨u, hu2⟩, hB.trans hb2⟩
    case stop2 =>
      rintro D c pre W _ _ h _
      exact h.elim
    case done2 =>
      rintro D ys W hD rfl ⟨⟨v, hv, hrow, _⟩, _, hB⟩ hK
      have hDw : w.heap.size ≤ D := by have := hB0.size; omega
      have hc := hv.cell
      have hf := hv.frozen
      have HV := Lib.hid hv
      clear hv
      by_cases hm0 : m = 0
      · subst hm0
        rw [magL_zero] at hrow
        obtain ⟨A, c, rfl, hh, hfr⟩ := own_holds (bs := []) rfl hrow
        have HE := Lib.hid (show encB ((0 : Nat) : Int) = [] by unfold encB topped; simp [magL_zero])
        go_wp2
        refine ⟨by simp, .inl ⟨_, _, rfl, run_takeDeferred hK, ?_⟩⟩
        refine ⟨_, results_tmp rfl _ _ _, ?_⟩
        rw [HE.out]
        exact fin_new hB hh hfr hK hDw
      · have hmp : magL m ≠ [] := fun h => absurd (magL_nil h) (by omega)
        have hL5 := magL_length 5 m (by simpa using hm)
        have HEL := Lib.hid (show encB (m : Int) = topped (magL m) by unfold encB; rw [if_neg (by omega), Int.natAbs_natCast])
        obtain ⟨L, hL⟩ : ∃ L, magL m = L := ⟨_, rfl⟩
        rw [hL] at hrow hmp hL5 HEL
        clear hL
        have hLpos : 0 < L.length := List.length_pos_iff.2 hmp
        obtain ⟨g, c, rfl, hgb, hgl, hLc, hcs, hfz⟩ := own_form rfl hLpos hrow
        obtain ⟨k, hk⟩ : ∃ k, L.length = k + 1 := ⟨L.length - 1, by omega⟩
        have hck := hcs k (by omega)
        rw [Nat.zero_add] at hck
        obtain ⟨x, hx⟩ : ∃ x, L[k]'(by omega) = x := ⟨_, rfl⟩
        have hub := UInt8.toNat_lt x
        have hlast : L.getLastD 0 = x := by rw [List.getLastD_eq_getLast?, List.getLast?_eq_getElem?]; simp [hk, hx]
        rw [hx] at hck
        rw [hk] at hc hrow hLc HV
        have hk5 : k < 5 := by omega
        have HK := Lib.hid hk
        have HCS := Lib.hid hcs
        clear hk hcs hx hL5 hmp hLpos
        clear h1 h2 hm
        have hmd : decide ((m : Int) < 0) = false := by simp
        have HLAST := Lib.hid hlast
        clear hlast
        by_cases hx128 : 128 ≤ x.toNat
        · have e1 : bits .and .u8 (x.toNat : Int) 128 = 128 := and128_hi x hx128
          have HT := Lib.hid (show topped L = L ++ [0] by unfold topped; rw [HLAST.out, if_pos hx128])
          go_wp2_with (at_builtin; refine wpList_append_own_at _ rfl (.tmp 28) (.tmp 29) _ rfl w.heap.size 5 i0 (.int .u8 0) 1 1 Try.underlying22 hi hz0 hz1 hz2 rfl (by decide) _ _ _ rfl (hrow.alloc _) ⟨W.heap.size, 0, none⟩ 1 1 [.int .u8 0] rfl rfl (cell_one_new _ _ _) (by simp [Value.oneCell']) (by unfold maxLen; omega) (by omega) (by have := hB.size; simp; omega) ?_; intro v' w1 hown' hgrow _ _; obtain ⟨g', cap', rfl⟩ := ownsRow_succ hown'; obtain ⟨hv1, hv2, hr2, hk2, hb2⟩ := HV.out.appended (by decide) hrow hB.size (Nat.le_refl _) hown' hgrow; have hc1 := hv1.cell; have hf1 := hv1.frozen; obtain ⟨g2, c2, hge, hgb2, hgl2, hLc2, hcs2, hfz2⟩ := own_form (bs := L ++ [0]) (by rw [List.length_append, HK.out]; first | done | rfl) (by omega) (by rw [vals_append]; exact hr2); injection hge with hge1 hge2 hge3; injection hge1 with hge4; injection hge4 with hge5; subst hge5; subst hge3; have hck2 := hcs2 (k + 1) (by rw [List.length_append, HK.out]; simp); rw [Nat.zero_add] at hck2; have HCS2 := Lib.hid hcs2; clear hcs2 hge2; simp only [List.getElem_append_right (show L.length ≤ k + 1 by rw [HK.out]; exact Nat.le_refl _), List.getElem_singleton, UInt8.toNat_zero] at hck2; have hfz3 := hfz2 (k + 1); clear hfz2)
          have hK2 := hk2.same D _ hK rfl
          refine ⟨by simp, .inl ⟨_, _, rfl, run_takeDeferred hK2, ?_⟩⟩
          refine ⟨_, results_tmp rfl _ _ _, ?_⟩
          rw [HEL.out, HT.out]
          have hln : (L ++ [0]).length = k + 1 + 1 := by rw [List.length_append, HK.out]; rfl
          have := fin_new (c := cap') (bs := L ++ [0]) (hB.trans hb2) (.inr ⟨g', 0, rfl, hgl2, HCS2.out⟩) (fun a e => by cases e; exact hgb2) hK2 hDw
          rw [hln] at this
          exact this
        · have e1 : bits .and .u8 (x.toNat : Int) 128 = 0 := and128_lo x (by omega)
          have HT := Lib.hid (show topped L = L by unfold topped; rw [HLAST.out, if_neg hx128])
          go_wp2
          refine ⟨by simp, .inl ⟨_, _, rfl, run_takeDeferred hK, ?_⟩⟩
          refine ⟨_, results_tmp rfl _ _ _, ?_⟩
          rw [HEL.out, HT.out]
          have := fin_new (c := c) (bs := L) hB (.inr ⟨g, 0, rfl, hgl, HCS.out⟩) (fun a e => by cases e; exact hgb) hK hDw
          rw [HK.out] at this
          exact this
end Go.Proofs.Ytbhopgklnddelaa
