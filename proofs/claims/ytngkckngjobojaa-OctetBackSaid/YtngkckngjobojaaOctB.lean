/- The contracts of octet.width, Compact, isSize, announced. No condition. -/
import Derived.Test.YtngkckngjobojaaOctA
import Derived.Deep.QuietTactic
import Derived.BigQuiet
import Derived.RegionTactic
namespace Go.Proofs.Ytngkckngjobojaa.Oct
open Go.Proofs.Ytngkckngjobojaa Go.RowKit Go.Shelf
attribute [local go_sem] Oper.semAt_some

theorem dn_in (F : Fence) (n : Nat) (h45 : F.fn 45) (hro : F.round = none) (x : Nat) (w : World) :
    CallsIn F n Try.prog 45 #[.int .u64 (x : Int)] w fun e w' => e = .returned (.func (.func 47) #[] #[.pointer (some ⟨w.heap.size, 0, none⟩)]) ∧ w' = w.alloc (.cells #[.int .u64 (x : Int)] 23) := by
  refine callsIn_of_wp Try.func45 rfl h45 ?_ hro
  simp only [Try.ntmps45, List.size_toArray, List.length_cons, List.length_nil, Nat.reduceAdd, Nat.reduceSub, Array.replicate_succ, Array.replicate_zero, List.push_toArray, List.append_toArray, List.nil_append, List.cons_append]
  gi_wp2
  go_ret
  exact ⟨rfl, rfl⟩

theorem dn_stops (F : Fence) (n : Nat) (h47 : F.fn 47) (hro : F.round = none) (hn : 1 ≤ n) (Bs n₀ : Nat) (x : Nat) (hx : x < 18446744073709551616) (w : World) (hBs : Bs < w.heap.size)
    (hc : w.cell? ⟨Bs, 0, none⟩ = some (.int .u64 (x : Int))) :
    SeqStopsK F n Try.prog 47 #[.pointer (some ⟨Bs, 0, none⟩)] (fun y : Nat × Nat => #[Value.int .i64 (y.1 : Int), Value.int .u8 (y.2 : Int)]) (KB Bs n₀) (fun ys => ys = dps x 8) (fun pre => ∃ k, k ≤ 8 ∧ pre = dps x k) 8 w := fun l J Jx W hW _ _ hY h0 => by
  have hc' := (hW.cell (p := ⟨Bs, 0, none⟩) hBs).trans hc
  refine (dn1_in F n h47 hro hn l Bs n₀ x hx J Jx hY W hc' h0).mono ?_
  rintro e W' ⟨he, hj | ⟨k, hk, hj⟩⟩
  · exact ⟨he, .inl ⟨_, rfl, hj⟩⟩
  · exact ⟨he, .inr ⟨_, ⟨k, hk, rfl⟩, hj⟩⟩

theorem lastW_snoc (q : List (Nat × Nat)) (x : Nat × Nat) : lastW (q ++ [x]) = wrap64 ((x.1 : Int) + 1) := by unfold lastW; rw [List.getLast?_append]; rfl

set_option maxRecDepth 100000 in
set_option maxHeartbeats 2000000 in
theorem width_any (x : Nat) (hx : x < 18446744073709551616) (w : World) :
    Calls Try.prog 37 #[.int .u64 (x : Int)] w fun e w' => e = .returned (.int .i64 (wid x : Int)) ∧ Below w.heap.size w w' := by
  refine (callsIn_wide (n := 9)).1 ?_
  refine callsIn_of_wp_marks Try.func37 rfl trivial ?_ rfl
  simp only [Try.ntmps37, List.size_toArray, List.length_cons, List.length_nil, Nat.reduceAdd, Nat.reduceSub, Array.replicate_succ, Array.replicate_zero, List.push_toArray, List.append_toArray, List.nil_append, List.cons_append]
  refine wpIn_wide.2 ?_
  go_wp2_with fail
  refine wp_scope_straight ?_
  go_wp2_with fail
  refine wp_label ?_
  have b1 := Boxed.new w 3 (.int .i64 0)
  have hb1 := b1.cell
  go_wp2_with ((go_at_call 45; refine (callsIn_wide.1 (dn_in Fence.wide 9 trivial rfl _ _)).mono ?_; rintro e w2 ⟨rfl, rfl⟩))
  have b3 := Boxed.new (w.alloc (.cells #[.int .i64 0] 3)) 23 (.int .u64 (x : Int))
  rw [World.size_alloc] at b3
  have hB0 : Below w.heap.size w ((w.alloc (.cells #[.int .i64 0] 3)).alloc (.cells #[.int .u64 (x : Int)] 23)) := ((Below.refl _ w).alloc (Nat.le_refl _) _).alloc (by simp) _
  refine (wpIn_wide (n := 9)).1 ?_
  refine wpIn_rangeFunc_ownF rfl (by decide) (gf := 47) (lb := #[.pointer (some ⟨w.heap.size + 1, 0, none⟩)]) rfl trivial (enters_of Try.func47 (by kernel_rfl) rfl)
    (dn_stops Fence.wide 8 trivial rfl (by omega) (w.heap.size + 1) w.heap.size x hx _ (by simp) b3.cell) KB.trans (kb_put (by simp) hB0.size) (Below.refl _ _) (fun _ => rfl)
    (fun (pre : List (Nat × Nat)) W => (Boxed W w.heap.size 3 (.int .i64 0) ∧ ∀ p ∈ pre, p.2 = 0) ∧ Below w.heap.size w W)
    (fun c pre W => (Boxed W w.heap.size 3 (.int .i64 (lastW pre)) ∧ (c = .exit 0 ∧ found pre)) ∧ Below w.heap.size w W)
    (OwnFrom.and (OwnFrom.and (Own.from (boxed_own w.heap.size 3 (fun _ => .int .i64 0)) _) (ownFrom_pure _ (fun (pre : List (Nat × Nat)) => ∀ p ∈ pre, p.2 = 0))) (ownFrom_below (Nat.le_refl _) hB0.size))
    (fun c => OwnFrom.and (OwnFrom.and (Own.from (boxed_own w.heap.size 3 (fun pre => .int .i64 (lastW pre))) _) (ownFrom_pure _ (fun pre => c = .exit 0 ∧ found pre))) (ownFrom_below (Nat.le_refl _) hB0.size))
    ⟨⟨b1.alloc _, fun p hp => by cases hp⟩, hB0⟩
    (fun y => { tmps := #[.int .u64 (x : Int), undef, .int .i64 0, .pointer (some ⟨w.heap.size, 0, none⟩), .int .i64 (y.1 : Int), .int .u8 (y.2 : Int), .int .u64 (x : Int), .func (.func 47) #[] #[.pointer (some ⟨w.heap.size + 1, 0, none⟩)], .int .i64 (y.1 : Int), .int .u8 (y.2 : Int), undef, undef, undef, undef, undef], defers := [] }) ?assign ?body ?done ?stop
  case assign =>
    intro l x W K hK
    gi_wp2
    exact hK
  case body =>
    rintro l pre y W ⟨⟨hx1, hno⟩, hB⟩ hlen
    have hc1 := hx1.cell
    have hf1 := hx1.frozen
    obtain ⟨k, y⟩ := y
    dsimp only
    have HN := Lib.hid hno
    clear hno
    by_cases hy0 : y = 0
    · have e1 : ((y : Int) != 0) = false := by simp [hy0]
      have HNH := Lib.hid hy0
      clear hy0
      gi_wp2
      all_goals exact ⟨KeepsOthers.refl _, KB.refl _ _ _, ⟨hx1, fun p hp => by
        rcases List.mem_append.1 hp with hp | hp
        · exact HN.out p hp
        · rw [List.mem_singleton.1 hp]
          exact HNH.out⟩, hB⟩
    · have e1 : ((y : Int) != 0) = true := by rw [bne_iff_ne]; omega
      have HNH := Lib.hid hy0
      have HL := Lib.hid (lastW_snoc pre (k, y))
      clear hy0
      gi_wp2
      exact ⟨KeepsOthers.setCell _ _ _, ⟨by rw [HL.out]; exact hx1.set _, rfl, pre, (k, y), rfl, HN.out, HNH.out⟩, hB.setCell (p := ⟨w.heap.size, 0, none⟩) (Nat.le_refl _) _⟩
  case done =>
    rintro D ys W hD rfl ⟨⟨hx1, hno⟩, hB⟩ hK
    have hc2 := hx1.cell
    have HF := Lib.hid (wid_none x hx hno)
    clear hno
    have hDw : w.heap.size ≤ D := by have := hB0.size; omega
    go_wp2
    refine ⟨by simp, .inl ⟨_, _, rfl, run_takeDeferred hK, ?_⟩⟩
    exact ⟨_, results_tmp rfl _ _ _, by rw [HF.out]; rfl, hB.trans (belowK_b (w := w) (Nat.le_refl _) W D _ _ hDw hK rfl rfl)⟩
  case stop =>
    rintro D c pre W hD ⟨k, hk, rfl⟩ ⟨⟨hx2, rfl, hf⟩, hB⟩ hK
    have hc2 := hx2.cell
    have HF := Lib.hid (wid_found x k hx hk hf)
    clear hf
    have hDw : w.heap.size ≤ D := by have := hB0.size; omega
    refine wpIn_wide.2 ?_
    go_wp2
    refine ⟨by simp, .inl ⟨_, _, rfl, run_takeDeferred hK, ?_⟩⟩
    exact ⟨_, results_tmp rfl _ _ _, by rw [HF.out]; rfl, hB.trans (belowK_b (w := w) (Nat.le_refl _) W D _ _ hDw hK rfl rfl)⟩

def sizeOkB (s : Int) : Bool := s == 1 || s == 2 || s == 4 || s == 8
set_option maxHeartbeats 1000000 in
theorem isSize_any (s : Int) (w : World) : Calls Try.prog 39 #[.int .i64 s] w fun e w' => e = .returned (.bool (sizeOkB s)) ∧ w = w' := by
  unfold sizeOkB
  by_cases h1 : s = 1
  · subst h1
    go_enter Try.func39, Try.ntmps39
    go_wp2
    go_ret
    exact ⟨rfl, rfl⟩
  · have e1 : (s == 1) = false := by simpa using h1
    by_cases h2 : s = 2
    · subst h2
      go_enter Try.func39, Try.ntmps39
      go_wp2
      go_ret
      exact ⟨rfl, rfl⟩
    · have e2 : (s == 2) = false := by simpa using h2
      by_cases h3 : s = 4
      · subst h3
        go_enter Try.func39, Try.ntmps39
        go_wp2
        go_ret
        exact ⟨rfl, rfl⟩
      · have e3 : (s == 4) = false := by simpa using h3
        go_enter Try.func39, Try.ntmps39
        go_wp2
        go_ret
        exact ⟨by simp [e1, e2, e3], rfl⟩

theorem compact_any (x : Nat) (hx : x < 18446744073709551616) (w : World) : Calls Try.prog 13 #[.int .u64 (x : Int)] w fun e w' => e = .returned (.int .i64 (cmpL x : Int)) ∧ Below w.heap.size w w' := by
  obtain ⟨W, hW⟩ : ∃ W, wid x = W := ⟨_, rfl⟩
  have hw := width_any x hx
  rw [hW] at hw
  unfold wid at hW
  by_cases h1 : x < 253
  · have hc : cmpL x = 1 := by unfold cmpL; rw [if_pos h1]
    have i1 : (x : Int) < 253 := by omega
    rw [hc]
    clear hW
    go_enter Try.func13, Try.ntmps13
    go_wp2_with (go_at_call 37; refine (hw _).mono ?_; rintro e w1 ⟨rfl, hb1⟩)
    go_ret
    exact ⟨rfl, hb1⟩
  · have i1 : decide ((x : Int) < 253) = false := by simp; omega
    by_cases h2 : x < 65536
    · have hc : cmpL x = 3 := by unfold cmpL; rw [if_neg h1, if_pos h2]
      have hW2 : W ≤ 2 := by rw [← hW]; (repeat' split) <;> omega
      have i2 : (W : Int) ≤ 2 := by omega
      rw [hc]
      clear hW hW2 h1 h2
      go_enter Try.func13, Try.ntmps13
      go_wp2_with (go_at_call 37; refine (hw _).mono ?_; rintro e w1 ⟨rfl, hb1⟩)
      go_ret
      exact ⟨rfl, hb1⟩
    · by_cases h3 : x < 4294967296
      · have hc : cmpL x = 5 := by unfold cmpL; rw [if_neg h1, if_neg h2, if_pos h3]
        have hW2 : 2 < W ∧ W ≤ 4 := by rw [← hW]; constructor <;> ((repeat' split) <;> omega)
        have i2 : decide ((W : Int) ≤ 2) = false := by simp; omega
        have i3 : (W : Int) ≤ 4 := by omega
        rw [hc]
        clear hW hW2 h1 h2 h3
        go_enter Try.func13, Try.ntmps13
        go_wp2_with (go_at_call 37; refine (hw _).mono ?_; rintro e w1 ⟨rfl, hb1⟩)
        go_ret
        exact ⟨rfl, hb1⟩
      · have hc : cmpL x = 9 := by unfold cmpL; rw [if_neg h1, if_neg h2, if_neg h3]
        have hW2 : 4 < W := by rw [← hW]; (repeat' split) <;> omega
        have i2 : decide ((W : Int) ≤ 2) = false := by simp; omega
        have i3 : decide ((W : Int) ≤ 4) = false := by simp; omega
        rw [hc]
        clear hW hW2 h1 h2 h3
        go_enter Try.func13, Try.ntmps13
        go_wp2_with (go_at_call 37; refine (hw _).mono ?_; rintro e w1 ⟨rfl, hb1⟩)
        go_ret
        exact ⟨rfl, hb1⟩
end Go.Proofs.Ytngkckngjobojaa.Oct
