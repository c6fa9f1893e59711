/- Contracts of cmp.isNaN, cmp.Compare, bytes.Compare and cmp.Or. No condition beyond what each names. -/
import Derived.Test.YtpcneodkcdpldaaRows
import Derived.Test.YtpcneodkcdpldaaPlain
import Derived.WalkKit
import Derived.WalkSpells
import Derived.WalkLawsBesides
import Derived.Lib.Hide
import Derived.Deep.RegionWith
import Derived.Deep.QuietTactic
import Derived.BigQuiet
import Derived.StillTailTactics
namespace Go.Proofs.Ytpcneodkcdpldaa
open Go.RowKit Go.Lib

set_option maxHeartbeats 400000 in
theorem isnan_any (n : Int) (w : World) :
    Calls Try.prog 16 #[.int .u32 n] w fun e w' => e = .returned (.bool false) ∧ w' = w := by
  go_enter Try.func16, Try.ntmps16
  go_wp2
  go_ret
  exact ⟨by simp, rfl⟩

set_option maxHeartbeats 400000 in
theorem cmp_any (n m : Int) (w : World) :
    Calls Try.prog 10 #[.int .u32 n, .int .u32 m] w fun e w' => e = .returned (.int .i64 (cmpInt n m)) ∧ w = w' := by
  by_cases h1 : n < m
  · have hv : cmpInt n m = -1 := by simp [cmpInt, h1]
    go_enter Try.func10, Try.ntmps10
    go_wp2_with (go_at_call 16; refine (isnan_any _ _).mono ?_; rintro e w' ⟨rfl, rfl⟩)
    go_ret
    exact ⟨by rw [hv]; rfl, rfl⟩
  · by_cases h2 : m < n
    · have hv : cmpInt n m = 1 := by simp [cmpInt, h1, h2]
      go_enter Try.func10, Try.ntmps10
      go_wp2_with (go_at_call 16; refine (isnan_any _ _).mono ?_; rintro e w' ⟨rfl, rfl⟩)
      go_ret
      exact ⟨by rw [hv]; rfl, rfl⟩
    · have hv : cmpInt n m = 0 := by simp [cmpInt, h1, h2]
      go_enter Try.func10, Try.ntmps10
      go_wp2_with (go_at_call 16; refine (isnan_any _ _).mono ?_; rintro e w' ⟨rfl, rfl⟩)
      go_ret
      exact ⟨by rw [hv]; rfl, rfl⟩

set_option maxHeartbeats 400000 in
theorem bcompare_any (a b : Addr) (na nb ca cb : Nat) (xs ys : List Int) (w : World) (ea : xs.length = na) (eb : ys.length = nb)
    (hx : ∀ (j : Nat) x, xs[j]? = some x → w.cell? (a.add j) = some (.int .u8 x)) (hy : ∀ (j : Nat) y, ys[j]? = some y → w.cell? (b.add j) = some (.int .u8 y)) :
    Calls Try.prog 9 #[.slice (some a) na ca, .slice (some b) nb cb] w fun e w' => e = .returned (.int .i64 (compareBytes (bytesOf xs) (bytesOf ys))) ∧ w = w' := by
  have hr := run_compareSlices (P := Try.prog) (w := w) a b ca cb xs ys hx hy
  subst ea eb
  clear hx hy
  go_enter Try.func9, Try.ntmps9
  go_wp2
  rw [run_callFunc_extern Try.func15 (by kernel_rfl) (by kernel_rfl) (by kernel_rfl) (e := Extern.BytealgCompare.compare) (by kernel_rfl), hr]
  simp only [Result.andThen]
  rw [Oper.upon_value]
  go_wp2
  go_ret
  exact ⟨rfl, rfl⟩

/-- What cmp.Or gives of two numbers. -/
def orOf (x y : Int) : Int := if x = 0 then y else x

set_option maxHeartbeats 400000 in
theorem or_any (x y : Int) (b : Nat) (w : World) (c0 : w.cell? ⟨b, 0, none⟩ = some (.int .i64 x)) (c1 : w.cell? ⟨b, 1, none⟩ = some (.int .i64 y)) :
    Calls Try.prog 8 #[.slice (some ⟨b, 0, none⟩) 2 2] w fun e w' => e = .returned (.int .i64 (orOf x y)) ∧ w = w' := by
  by_cases hx : x = 0
  · subst hx
    by_cases hy : y = 0
    · subst hy
      go_enter Try.func8, Try.ntmps8
      go_wp2
      refine wp_loop_rounds 3 ?_
      rw [rounds_succ]
      go_wp2
      rw [rounds_succ]
      go_wp2
      rw [rounds_succ]
      go_wp2
      go_ret
      exact ⟨by simp [orOf], rfl⟩
    · have h1 : (y == 0) = false := by simpa using hy
      go_enter Try.func8, Try.ntmps8
      go_wp2
      refine wp_loop_rounds 3 ?_
      rw [rounds_succ]
      go_wp2
      rw [rounds_succ]
      go_wp2
      go_ret
      exact ⟨by simp [orOf], rfl⟩
  · have h1 : (x == 0) = false := by simpa using hx
    go_enter Try.func8, Try.ntmps8
    go_wp2
    refine wp_loop_rounds 3 ?_
    rw [rounds_succ]
    go_wp2
    go_ret
    exact ⟨by simp [orOf, hx], rfl⟩

/-- The cells of an outpoint in memory: 32 bytes, and a number. -/
def IsOut (cs : Array Value) (xs : List Int) (n : Int) : Prop :=
  cs.size = 33 ∧ xs.length = 32 ∧ (∀ x ∈ xs, isByte x) ∧ (∀ (j : Nat) x, xs[j]? = some x → cs[j]? = some (Value.int .u8 x)) ∧ cs[32]? = some (Value.int .u32 n)

theorem below_both (w : World) (a b : Obj) : Below w.heap.size w ((w.alloc a).alloc b) :=
  ((Below.refl w.heap.size w).alloc (Nat.le_refl _) a).alloc (by simp) b

theorem below_two (w : World) (a b : Obj) : Below w.heap.size w ((w.alloc a).alloc b).drew :=
  (((Below.refl w.heap.size w).alloc (Nat.le_refl _) a).alloc (by simp) b).drew

theorem cell_first (w : World) (cs : Array Value) (t : TypeId) (b : Obj) (j : Nat) (v : Value) (h : cs[j]? = some v) : ((w.alloc (.cells cs t)).alloc b).drew.cell? ⟨w.heap.size, j, none⟩ = some v := by
  show ((w.alloc (.cells cs t)).alloc b).cell? ⟨w.heap.size, j, none⟩ = some v
  rw [World.cell?_alloc2_first, h]

theorem cell_second (w : World) (a : Obj) (cs : Array Value) (t : TypeId) (j : Nat) (v : Value) (h : cs[j]? = some v) : ((w.alloc a).alloc (.cells cs t)).drew.cell? ⟨w.heap.size + 1, j, none⟩ = some v := by
  show ((w.alloc a).alloc (.cells cs t)).cell? ⟨w.heap.size + 1, j, none⟩ = some v
  rw [World.cell?_alloc2_new, h]

theorem add_none (b j : Nat) : (⟨b, 0, none⟩ : Addr).add j = ⟨b, j, none⟩ := by
  unfold Addr.add
  by_cases h : j = 0
  · subst h; rfl
  · simp [h]

set_option maxHeartbeats 400000 in
theorem compare_any (cs ds : Array Value) (xs ys : List Int) (n m : Int) (w : World) (hc : IsOut cs xs n) (hd : IsOut ds ys m) :
    Calls Try.prog 5 #[.agg cs, .agg ds] w fun e w' => e = .returned (.int .i64 (cmpOut xs ys n m)) ∧ Below w.heap.size w w' := by
  obtain ⟨sc, lc, bc, kc, nc⟩ := hc
  obtain ⟨sd, ld, bd, kd, nd⟩ := hd
  have h1 := fun (j : Nat) x (h : xs[j]? = some x) => cell_first w cs 26 (.cells ds 26) j _ (kc j x h)
  have h2 := fun (j : Nat) x (h : ys[j]? = some x) => cell_second w (.cells cs 26) ds 26 j _ (kd j x h)
  have c1 := cell_first w cs 26 (.cells ds 26) 32 _ nc
  have c2 := cell_second w (.cells cs 26) ds 26 32 _ nd
  have hB := below_two w (.cells cs 26) (.cells ds 26)
  have H1 := Lib.hid h1
  have H2 := Lib.hid h2
  have HB := Lib.hid hB
  have Hn := Lib.hid (And.intro nc nd)
  have Hk := Lib.hid (And.intro kc kd)
  have Hb := Lib.hid (And.intro bc bd)
  have Hl := Lib.hid (And.intro lc ld)
  have Hs := Lib.hid (And.intro sc sd)
  have Hc := Lib.hid (And.intro c1 c2)
  clear h1 h2 hB nc nd kc kd bc bd lc ld sc sd c1 c2
  go_enter Try.func5, Try.ntmps5
  go_wp2
  go_still_tail 10, (by kernel_rfl)
  change wpStill _ _ ((w.alloc (.cells cs 26)).alloc (.cells ds 26)).drew (fun a' => wpList _ _ _ _ a' ((w.alloc (.cells cs 26)).alloc (.cells ds 26)).drew) _ _
  generalize ((w.alloc (.cells cs 26)).alloc (.cells ds 26)).drew = W at *
  still_call ((bcompare_any ⟨w.heap.size, 0, none⟩ ⟨w.heap.size + 1, 0, none⟩ 32 32 32 32 xs ys W Hl.out.1 Hl.out.2 (fun j x h => by rw [add_none]; exact H1.out j x h) (fun j x h => by rw [add_none]; exact H2.out j x h)).mono fun _ _ h => ⟨h.1, h.2.symm⟩)
  obtain ⟨c1, c2⟩ := Hc.out
  repeat still_step
  still_call ((cmp_any n m W).mono fun _ _ h => ⟨h.1, h.2.symm⟩)
  refine wpStill_nil ?_
  go_wp2_with fail
  refine (or_any (compareBytes (bytesOf xs) (bytesOf ys)) (cmpInt n m) W.heap.size _ (World.cell?_alloc_new ..) (World.cell?_alloc_new ..)).mono ?_
  rintro e w' ⟨rfl, rfl⟩
  go_wp2
  go_ret
  exact ⟨by rw [compareBytes_eq xs ys Hb.out.1 Hb.out.2]; rfl, HB.out.alloc HB.out.size _⟩

/-- The cells of an outpoint, as the loop of the reference reads them. -/
theorem inv_step (xs ys : List Int) (k : Nat) (hx : k < xs.length) (hy : k < ys.length) :
    cmpInts (xs.drop k) (ys.drop k) = if xs[k] < ys[k] then -1 else if ys[k] < xs[k] then 1 else cmpInts (xs.drop (k + 1)) (ys.drop (k + 1)) := by
  rw [List.drop_eq_getElem_cons hx, List.drop_eq_getElem_cons hy]
  rfl

set_option maxHeartbeats 400000 in
theorem refcompare_any (cs ds : Array Value) (xs ys : List Int) (n m : Int) (w : World) (hc : IsOut cs xs n) (hd : IsOut ds ys m) :
    Calls Try.prog 6 #[.agg cs, .agg ds] w fun e w' => e = .returned (.int .i64 (cmpOut xs ys n m)) ∧ Below w.heap.size w w' := by
  obtain ⟨sc, lc, bc, kc, nc⟩ := hc
  obtain ⟨sd, ld, bd, kd, nd⟩ := hd
  have HK := Lib.hid (And.intro kc kd)
  have HN := Lib.hid (And.intro nc nd)
  have HL := Lib.hid (And.intro lc ld)
  clear bc bd kc kd nc nd lc ld sc sd
  go_enter Try.func6, Try.ntmps6
  go_wp2
  go_loopw [5] (fun i wr => ∃ k : Nat, k ≤ 32 ∧ i = .int .i64 k ∧ cmpInts xs ys = cmpInts (xs.drop k) (ys.drop k) ∧ (∀ (j : Nat) v, cs[j]? = some v → wr.cell? ⟨w.heap.size, j, none⟩ = some v) ∧ (∀ (j : Nat) v, ds[j]? = some v → wr.cell? ⟨w.heap.size + 1, j, none⟩ = some v) ∧ Below w.heap.size w wr) (fun i _ => 32 - (intOf i).toNat)
  case atStart => exact ⟨0, by omega, rfl, by simp, fun j v h => cell_first w cs 26 (.cells ds 26) j v h, fun j v h => cell_second w (.cells cs 26) ds 26 j v h, below_both w (.cells cs 26) (.cells ds 26)⟩
  case round =>
    obtain ⟨k, hk, rfl, he, h1, h2, hB⟩ := hrel
    have HE := Lib.hid he
    have H1 := Lib.hid h1
    have H2 := Lib.hid h2
    have HB := Lib.hid hB
    clear he h1 h2 hB
    by_cases hlt : k < 32
    · have hx : k < xs.length := by rw [HL.out.1]; exact hlt
      have hy : k < ys.length := by rw [HL.out.2]; exact hlt
      have HS := Lib.hid (inv_step xs ys k hx hy)
      have d1 : wr.cell? ⟨w.heap.size, k, none⟩ = some (.int .u8 xs[k]) := H1.out k _ (HK.out.1 k _ (List.getElem?_eq_getElem hx))
      have d2 : wr.cell? ⟨w.heap.size + 1, k, none⟩ = some (.int .u8 ys[k]) := H2.out k _ (HK.out.2 k _ (List.getElem?_eq_getElem hy))
      generalize xs[k] = x at *
      generalize ys[k] = y at *
      clear hx hy
      have hk2 : (k : Int) < 32 := by omega
      by_cases hxy : x < y
      · have HV : Hid (cmpOut xs ys n m = -1) := by
          have : cmpInts xs ys = -1 := by rw [HE.out, HS.out, if_pos hxy]
          simp [Hid, cmpOut, this]
        clear HE HS
        go_wp2
        go_quiet (fail)
        go_wp2
        go_ret
        exact ⟨by rw [HV.out]; rfl, by have := HB.out; repeat (first | exact this | refine below_drewN ?_ _)⟩
      · by_cases hyx : y < x
        · have HV : Hid (cmpOut xs ys n m = 1) := by
            have : cmpInts xs ys = 1 := by rw [HE.out, HS.out, if_neg hxy, if_pos hyx]
            simp [Hid, cmpOut, this]
          clear HE HS
          go_wp2
          go_quiet (fail)
          go_wp2
          go_quiet (fail)
          go_wp2
          go_ret
          exact ⟨by rw [HV.out]; rfl, by have := HB.out; repeat (first | exact this | refine below_drewN ?_ _)⟩
        · have HV : Hid (cmpInts xs ys = cmpInts (xs.drop (k + 1)) (ys.drop (k + 1))) := by
            rw [HE.out, HS.out, if_neg hxy, if_neg hyx]
            exact rfl
          clear HE HS
          go_wp2
          go_quiet (fail)
          go_wp2
          go_quiet (fail)
          go_wp2
          go_roundw
          case rel => exact ⟨k + 1, by omega, by go_num, HV.out, H1.out, H2.out, by have := HB.out; repeat (first | exact this | refine below_drewN ?_ _)⟩
          case measure => simp [intOf]; omega
    · obtain rfl : k = 32 := by omega
      have d1 : wr.cell? ⟨w.heap.size, 32, none⟩ = some (.int .u32 n) := H1.out 32 _ HN.out.1
      have d2 : wr.cell? ⟨w.heap.size + 1, 32, none⟩ = some (.int .u32 m) := H2.out 32 _ HN.out.2
      have HZ : Hid (cmpInts xs ys = 0) := by
        rw [HE.out, List.drop_of_length_le (by rw [HL.out.1]; omega), List.drop_of_length_le (by rw [HL.out.2]; omega)]
        exact rfl
      clear HE
      by_cases h1 : n < m
      · have HV : Hid (cmpOut xs ys n m = -1) := by
          have := HZ.out
          simp [Hid, cmpOut, this, cmpInt, h1]
        go_wp2
        go_ret
        exact ⟨by rw [HV.out]; rfl, HB.out⟩
      · by_cases h2 : m < n
        · have HV : Hid (cmpOut xs ys n m = 1) := by
            have := HZ.out
            simp [Hid, cmpOut, this, cmpInt, h1, h2]
          go_wp2
          go_ret
          exact ⟨by rw [HV.out]; rfl, HB.out⟩
        · have HV : Hid (cmpOut xs ys n m = 0) := by
            have := HZ.out
            simp [Hid, cmpOut, this, cmpInt, h1, h2]
          go_wp2
          go_ret
          exact ⟨by rw [HV.out]; rfl, HB.out⟩

end Go.Proofs.Ytpcneodkcdpldaa
