/- The contract of num.True. No condition beyond the memory's reach. -/
import Derived.Test.YtbhopgklnddelaaNumK
import Derived.RangeFuncFrom
import Derived.Scope
import Derived.BigGuardIn
namespace Go.Proofs.Ytbhopgklnddelaa
open Go.RowKit Go.Shelf
attribute [local go_sem] Oper.semAt_some

/-- The bytes with their places. -/
def pairs (bs : List UInt8) (k : Nat) : List (Nat × UInt8) := (List.range k).map fun j => (j, bs[j]?.getD 0)
theorem pairs_succ (bs : List UInt8) (k : Nat) : pairs bs (k + 1) = pairs bs k ++ [(k, bs[k]?.getD 0)] := by simp [pairs, List.range_succ]
theorem pairs_length (bs : List UInt8) (k : Nat) : (pairs bs k).length = k := by simp [pairs]
def hit (n : Nat) (p : Nat × UInt8) : Prop := p.2.toNat ≠ 0 ∧ (p.2.toNat ≠ 128 ∨ p.1 + 1 ≠ n)
theorem trueB_iff (bs : List UInt8) : trueB bs = true ↔ ∃ j, ∃ h : j < bs.length, hit bs.length (j, bs[j]) := by
  induction bs with
  | nil => simp [trueB]
  | cons x l ih =>
    cases l with
    | nil =>
      simp only [trueB, decide_eq_true_eq, hit]
      constructor
      · intro h; exact ⟨0, by simp, h.1, .inl h.2⟩
      · rintro ⟨j, h, h1, h2⟩
        have : j = 0 := by simpa using h
        subst this
        simp at h1 h2
        exact ⟨h1, h2⟩
    | cons y l =>
      rw [trueB, Bool.or_eq_true, decide_eq_true_eq, ih]
      constructor
      · rintro (h | ⟨j, hj, h1, h2⟩)
        · exact ⟨0, by simp, h, .inr (by simp)⟩
        · refine ⟨j + 1, by simpa using hj, h1, ?_⟩
          rcases h2 with h2 | h2
          · exact .inl h2
          · refine .inr ?_
            simp only [List.length_cons] at h2 ⊢
            omega
      · rintro ⟨j, hj, h1, h2⟩
        cases j with
        | zero => exact .inl h1
        | succ j =>
          refine .inr ⟨j, by simpa using hj, h1, ?_⟩
          rcases h2 with h2 | h2
          · exact .inl h2
          · refine .inr ?_
            simp only [List.length_cons] at h2 ⊢
            omega

set_option maxRecDepth 100000 in
set_option maxHeartbeats 2000000 in
theorem up1_in (F : Fence) (n : Nat) (h39 : F.fn 39) (hro : F.round = none) (hn : 1 ≤ n) (l Bs n₀ len cap : Nat) (A : Option Addr) (bs : List UInt8) (hlen : bs.length = len) (hm : len ≤ 9223372036854775807) (J Jx : List (Nat × UInt8) → World → Prop)
    (hY : ∀ pre x W, J pre W → pre.length < len → YieldAt F (n - 1) Try.prog l #[.int .i64 (x.1 : Int), .int .u8 (x.2.toNat : Int)] W fun e W' =>
      (e = .returned (.bool true) ∧ J (pre ++ [x]) W' ∧ Below n₀ W W') ∨ (e = .returned (.bool false) ∧ Jx (pre ++ [x]) W'))
    (W : World) (hBs : W.cell? ⟨Bs, 0, none⟩ = some (.slice A len cap)) (hI : Holds8 n₀ W A bs) (h0 : J [] W) :
    CallsIn F n Try.prog 39 #[.func (.yield l) #[] #[], .pointer (some ⟨Bs, 0, none⟩)] W fun e W' => (∃ v, e = .returned v) ∧ (J (pairs bs len) W' ∨ ∃ k, k ≤ len ∧ Jx (pairs bs k) W') := by
  have HH := Lib.hid hlen
  have HI := Lib.hid hI
  clear hI hlen
  refine callsIn_of_wp Try.func39 rfl h39 ?_ hro
  simp only [Try.ntmps39, List.size_toArray, List.length_cons, List.length_nil, Nat.reduceAdd, Nat.reduceSub, Array.replicate_succ, Array.replicate_zero, List.push_toArray, List.append_toArray, List.nil_append, List.cons_append]
  gi_wp2
  gi_loopw [7] (fun i wr => ∃ k : Nat, k ≤ len ∧ i = .int .i64 k ∧ J (pairs bs k) wr ∧ Below n₀ W wr)
    (fun i _ => len - (intOf i).toNat)
  case atStart => exact ⟨0, Nat.zero_le _, rfl, h0, Below.refl _ _⟩
  case round =>
    obtain ⟨k, hk, rfl, hJs, hnx⟩ := hrel
    by_cases hlt : k < len
    · obtain ⟨b, off, rfl, hb, hc⟩ := HI.out.at_ (HH.out ▸ hlt : k < bs.length)
      have hcx := (hnx.cell (p := ⟨b, off + k, none⟩) hb).trans hc
      have hx : bs[k]?.getD 0 = bs[k]'(HH.out ▸ hlt) := by rw [List.getElem?_eq_getElem (HH.out ▸ hlt)]; rfl
      have hp := pairs_succ bs k
      rw [hx] at hp
      have HP := Lib.hid hp
      clear hp hx hc
      generalize (bs[k]'(HH.out ▸ hlt)) = c at *
      have hub := UInt8.toNat_lt c
      obtain ⟨f1, t1, a1, b1, hy1, hR1⟩ := hY _ (k, c) wr hJs (by rw [pairs_length]; exact hlt)
      dsimp only at hy1
      gi_wp2
      refine hR1.mono ?_
      rintro e W3 (⟨rfl, hJ3, hk3⟩ | ⟨rfl, hJx3⟩)
      · gi_wp2
        go_roundw
        case rel => exact ⟨k + 1, by omega, by simp, by rw [HP.out]; exact hJ3, hnx.trans hk3⟩
        case measure => simp [intOf]; omega
      · gi_wp2
        refine bodyPost_ret (results_none rfl _ _ _) rfl ?_
        exact ⟨⟨_, rfl⟩, .inr ⟨k + 1, by omega, by rw [HP.out]; exact hJx3⟩⟩
    · have hge : k = len := by omega
      have HG := Lib.hid hge
      clear hge
      gi_wp2
      go_end0
      exact ⟨⟨_, rfl⟩, .inl (HG.out ▸ hJs)⟩

theorem up_in (F : Fence) (n : Nat) (h31 : F.fn 31) (hro : F.round = none) (a : Option Addr) (len cap : Nat) (w : World) :
    CallsIn F n Try.prog 31 #[.slice a len cap] w fun e w' => e = .returned (.func (.func 39) #[] #[.pointer (some ⟨w.heap.size, 0, none⟩)]) ∧ w' = w.alloc (.cells #[.slice a len cap] 22) := by
  refine callsIn_of_wp Try.func31 rfl h31 ?_ hro
  simp only [Try.ntmps31, List.size_toArray, List.length_cons, List.length_nil, Nat.reduceAdd, Nat.reduceSub, Array.replicate_succ, Array.replicate_zero, List.push_toArray, List.append_toArray, List.nil_append, List.cons_append]
  gi_wp2
  go_ret
  exact ⟨rfl, rfl⟩

theorem up_stops (F : Fence) (n : Nat) (h39 : F.fn 39) (hro : F.round = none) (hn : 1 ≤ n) (Bs n₀ cap : Nat) (A : Option Addr) (bs : List UInt8) (hm : bs.length ≤ 9223372036854775807) (w : World) (hBs : Bs < w.heap.size) (hn₀ : n₀ ≤ w.heap.size)
    (hc : w.cell? ⟨Bs, 0, none⟩ = some (.slice A bs.length cap)) (hI : Holds8 n₀ w A bs) :
    SeqStopsK F n Try.prog 39 #[.pointer (some ⟨Bs, 0, none⟩)] (fun x : Nat × UInt8 => #[Value.int .i64 (x.1 : Int), Value.int .u8 (x.2.toNat : Int)]) (Below n₀) (fun ys => ys = pairs bs bs.length) (fun pre => ∃ k, k ≤ bs.length ∧ pre = pairs bs k) bs.length w := fun l J Jx W hW _ _ hY h0 => by
  have hc' := (hW.cell (p := ⟨Bs, 0, none⟩) hBs).trans hc
  refine (up1_in F n h39 hro hn l Bs n₀ bs.length cap A bs rfl hm J Jx hY W hc' (hI.below hW hn₀) h0).mono ?_
  rintro e W' ⟨he, hj | ⟨k, hk, hj⟩⟩
  · exact ⟨he, .inl ⟨_, rfl, hj⟩⟩
  · exact ⟨he, .inr ⟨_, ⟨k, hk, rfl⟩, hj⟩⟩

set_option maxRecDepth 100000 in
set_option maxHeartbeats 2000000 in
theorem true_any (bs : List UInt8) (hm : bs.length ≤ maxLen) (cap : Nat) (A : Option Addr) (w : World) (hI : Holds8 w.heap.size w A bs) :
    Calls Try.prog 14 #[.slice A bs.length cap] w fun e w' => e = .returned (.bool (trueB bs)) ∧ Below w.heap.size w w' := by
  unfold maxLen at hm
  refine (callsIn_wide (n := 9)).1 ?_
  refine callsIn_of_wp_marks Try.func14 rfl trivial ?_ rfl
  simp only [Try.ntmps14, List.size_toArray, List.length_cons, List.length_nil, Nat.reduceAdd, Nat.reduceSub, Array.replicate_succ, Array.replicate_zero, List.push_toArray, List.append_toArray, List.nil_append, List.cons_append]
  refine wpIn_wide.2 ?_
  go_wp2_with fail
  refine wp_scope_straight ?_
  go_wp2_with fail
  refine wp_label ?_
  have b1 := Boxed.new w 22 (.slice A bs.length cap)
  have hb1 := b1.cell
  have b2 := Boxed.new (w.alloc (.cells #[.slice A bs.length cap] 22)) 4 (.bool false)
  rw [World.size_alloc] at b2
  have b1' := b1.alloc (.cells #[.bool false] 4)
  have hb1' := b1'.cell
  go_wp2_with ((go_at_call 31; refine (callsIn_wide.1 (up_in Fence.wide 9 trivial rfl _ _ _ _)).mono ?_; rintro e w2 ⟨rfl, rfl⟩))
  have b3 := Boxed.new ((w.alloc (.cells #[.slice A bs.length cap] 22)).alloc (.cells #[.bool false] 4)) 22 (.slice A bs.length cap)
  rw [World.size_alloc, World.size_alloc] at b3
  have hB0 : Below w.heap.size w (((w.alloc (.cells #[.slice A bs.length cap] 22)).alloc (.cells #[.bool false] 4)).alloc (.cells #[.slice A bs.length cap] 22)) := (((Below.refl _ w).alloc (Nat.le_refl _) _).alloc (by simp) _).alloc (by simp; omega) _
  refine (wpIn_wide (n := 9)).1 ?_
  refine wpIn_rangeFunc_ownF rfl (by decide) (gf := 39) (lb := #[.pointer (some ⟨w.heap.size + 1 + 1, 0, none⟩)]) rfl trivial (enters_of Try.func39 (by kernel_rfl) rfl)
    (up_stops Fence.wide 8 trivial rfl (by omega) (w.heap.size + 1 + 1) w.heap.size cap A bs hm _ (by simp) hB0.size b3.cell (hI.below hB0 (Nat.le_refl _))) belowK_t (belowK_b hB0.size) (Below.refl _ _) (fun _ => rfl)
    (fun pre W => ((Boxed W w.heap.size 22 (.slice A bs.length cap) ∧ Boxed W (w.heap.size + 1) 4 (.bool false)) ∧ ∀ p ∈ pre, ¬ hit bs.length p) ∧ Below w.heap.size w W)
    (fun c pre W => (Boxed W (w.heap.size + 1) 4 (.bool true) ∧ (c = .exit 0 ∧ ∃ p ∈ pre, hit bs.length p)) ∧ Below w.heap.size w W)
    (OwnFrom.and (OwnFrom.and (OwnFrom.and (Own.from (boxed_own w.heap.size 22 (fun _ => .slice A bs.length cap)) _) (Own.from (boxed_own (w.heap.size + 1) 4 (fun _ => .bool false)) _)) (ownFrom_pure _ (fun pre => ∀ p ∈ pre, ¬ hit bs.length p))) (ownFrom_below (Nat.le_refl _) hB0.size))
    (fun c => OwnFrom.and (OwnFrom.and (Own.from (boxed_own (w.heap.size + 1) 4 (fun _ => .bool true)) _) (ownFrom_pure _ (fun pre => c = .exit 0 ∧ ∃ p ∈ pre, hit bs.length p))) (ownFrom_below (Nat.le_refl _) hB0.size))
    ⟨⟨⟨b1'.alloc _, b2.alloc _⟩, fun p hp => by cases hp⟩, hB0⟩
    (fun x => { tmps := #[.slice A bs.length cap, .pointer (some ⟨w.heap.size, 0, none⟩), .bool false, .pointer (some ⟨w.heap.size + 1, 0, none⟩), .int .i64 (x.1 : Int), .int .u8 (x.2.toNat : Int), .slice A bs.length cap, .func (.func 39) #[] #[.pointer (some ⟨w.heap.size + 1 + 1, 0, none⟩)], .int .i64 (x.1 : Int), .int .u8 (x.2.toNat : Int), undef, undef, undef, undef, undef, undef, undef, undef, undef, undef, undef, undef, undef, undef], defers := [] }) ?assign ?body ?done ?stop
  case assign =>
    intro l x W K hK
    gi_wp2
    exact hK
  case body =>
    rintro l pre x W ⟨⟨⟨hx1, hx2⟩, hno⟩, hB⟩ _
    have hc1 := hx1.cell
    have hc2 := hx2.cell
    have hf2 := hx2.frozen
    have hub := UInt8.toNat_lt x.2
    obtain ⟨k, y⟩ := x
    dsimp only at hub ⊢
    have HN := Lib.hid hno
    clear hno
    by_cases hy0 : y.toNat = 0
    · have e1 : ((y.toNat : Int) != 0) = false := by simp [hy0]
      have HNH := Lib.hid (show ¬ hit bs.length (k, y) from fun h => h.1 hy0)
      clear hy0
      gi_wp2
      all_goals (try (rename_i hbad _; simp [undef] at hbad; done))
      all_goals exact ⟨KeepsOthers.refl _, Below.refl _ _, ⟨⟨hx1, hx2⟩, fun p hp => by
        rcases List.mem_append.1 hp with hp | hp
        · exact HN.out p hp
        · rw [List.mem_singleton.1 hp]
          exact HNH.out⟩, hB⟩
    · have e1 : ((y.toNat : Int) != 0) = true := by rw [bne_iff_ne]; omega
      by_cases hy1 : y.toNat = 128
      · have e2 : ((y.toNat : Int) != 128) = false := by simp [hy1]
        by_cases hk : k + 1 = bs.length
        · have e3 : ((k : Int) != (bs.length : Int) - 1) = false := by rw [← Bool.not_eq_true, bne_iff_ne]; omega
          have HNH := Lib.hid (show ¬ hit bs.length (k, y) from fun h => h.2.elim (fun h => h hy1) (fun h => h hk))
          clear hy0 hy1 hk
          gi_wp2
          all_goals (try (rename_i hbad _; simp [undef] at hbad; done))
          all_goals exact ⟨KeepsOthers.refl _, Below.refl _ _, ⟨⟨hx1, hx2⟩, fun p hp => by
        rcases List.mem_append.1 hp with hp | hp
        · exact HN.out p hp
        · rw [List.mem_singleton.1 hp]
          exact HNH.out⟩, hB⟩
        · have e3 : ((k : Int) != (bs.length : Int) - 1) = true := by rw [bne_iff_ne]; omega
          have HNH := Lib.hid (show hit bs.length (k, y) from ⟨hy0, .inr hk⟩)
          clear hy0 hy1 hk
          gi_wp2
          have hle : w.heap.size ≤ w.heap.size + 1 := by omega
          exact ⟨KeepsOthers.setCell _ _ _, ⟨hx2.set _, rfl, (k, y), by simp, HNH.out⟩, hB.setCell (p := ⟨w.heap.size + 1, 0, none⟩) hle _⟩
      · have e2 : ((y.toNat : Int) != 128) = true := by rw [bne_iff_ne]; omega
        have HNH := Lib.hid (show hit bs.length (k, y) from ⟨hy0, .inl hy1⟩)
        clear hy0 hy1
        gi_wp2
        have hle : w.heap.size ≤ w.heap.size + 1 := by omega
        exact ⟨KeepsOthers.setCell _ _ _, ⟨hx2.set _, rfl, (k, y), by simp, HNH.out⟩, hB.setCell (p := ⟨w.heap.size + 1, 0, none⟩) hle _⟩
  case done =>
    rintro D ys W hD rfl ⟨⟨⟨hx1, hx2⟩, hno⟩, hB⟩ hK
    have hc2 := hx2.cell
    have hf : trueB bs = false := by
      rw [← Bool.not_eq_true, trueB_iff]
      rintro ⟨j, hj, hh⟩
      refine hno (j, bs[j]) ?_ hh
      unfold pairs
      rw [List.mem_map]
      exact ⟨j, by simpa using hj, by rw [List.getElem?_eq_getElem hj]; rfl⟩
    have HF := Lib.hid hf
    clear hf hno
    have hDw : w.heap.size ≤ D := by have := hB0.size; omega
    go_wp2
    refine ⟨by simp, .inl ⟨_, _, rfl, run_takeDeferred hK, ?_⟩⟩
    exact ⟨_, results_tmp rfl _ _ _, by rw [HF.out]; rfl, hB.trans (belowK_b (w := w) (Nat.le_refl _) W D _ _ hDw hK rfl rfl)⟩
  case stop =>
    rintro D c pre W hD ⟨k, hk, rfl⟩ ⟨⟨hx2, rfl, p, hp, hh⟩, hB⟩ hK
    have hc2 := hx2.cell
    have hf : trueB bs = true := by
      rw [trueB_iff]
      unfold pairs at hp
      rw [List.mem_map] at hp
      obtain ⟨j, hj, rfl⟩ := hp
      have hj2 : j < bs.length := by have := List.mem_range.1 hj; omega
      rw [List.getElem?_eq_getElem hj2] at hh
      exact ⟨j, hj2, hh⟩
    have HF := Lib.hid hf
    clear hf hh hp
    have hDw : w.heap.size ≤ D := by have := hB0.size; omega
    refine wpIn_wide.2 ?_
    go_wp2
    refine ⟨by simp, .inl ⟨_, _, rfl, run_takeDeferred hK, ?_⟩⟩
    exact ⟨_, results_tmp rfl _ _ _, by rw [HF.out]; rfl, hB.trans (belowK_b (w := w) (Nat.le_refl _) W D _ _ hDw hK rfl rfl)⟩
end Go.Proofs.Ytbhopgklnddelaa
