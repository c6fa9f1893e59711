/- A call written, of the kinds 0, 1, 2: what the statements' write answers. No condition beyond the memory's reach. -/
import Derived.Test.YtngkckngjobojaaOctX
namespace Go.Proofs.Ytngkckngjobojaa.Oct
open Go.Proofs.Ytngkckngjobojaa Go.RowKit Go.Shelf

/-- What is new stands apart from a pen that was there. -/
theorem pen_apart {base b : Nat} {w w1 : World} {xs : List UInt8} (hp : PenAt base w b xs) (hb1 : Below w.heap.size w w1) (k : Nat) (hk : w.heap.size ≤ k) : k ≠ b ∧ rowOf w1 b ≠ some k := by
  have hb := hp.lt
  refine ⟨by omega, ?_⟩
  rw [rowOf_same (hb1.block b hb)]
  intro e
  have := (rowOf_lt hp e).2.1
  omega
theorem pen_keep {base b : Nat} {w w1 w2 : World} {xs : List UInt8} (hp : PenAt base w b xs) (hb1 : Below w.heap.size w w1) (hs2 : PenStep b w1 w2) (k : Nat) (hk : w.heap.size ≤ k) (hl : k < w1.heap.size) : w2.heap[k]? = w1.heap[k]? ∧ rowOf w2 b ≠ some k :=
  hs2.keep k hl (pen_apart hp hb1 k hk).1 (pen_apart hp hb1 k hk).2
theorem write_frame {base b G : Nat} {w w1 w2 w3 : World} {xs ys : List UInt8} (hp : PenAt base w b xs) (hb1 : Below w.heap.size w w1) (hp2 : PenAt base w2 b ys) (hs2 : PenStep b w1 w2) (hb3 : Below w2.heap.size w2 w3) (hGw : w.heap.size ≤ G) (hG1 : G < w1.heap.size)
    (W' : World) (hE : EyeStep G w3 W') : PenAt base W' b ys ∧ PenStep b w W' := by
  have hb := hp.lt
  have hb2 := hp2.lt
  have hk := pen_keep hp hb1 hs2 G hGw hG1
  refine ⟨(hp2.below hb3).eye hE (pen_apart hp hb1 G hGw).1 ?_, pen_then_eye (((PenStep.of_below hb hb1).trans hs2).trans (PenStep.of_below hb2 hb3)) hb hGw hE⟩
  rw [rowOf_same (hb3.block b hb2)]
  exact hk.2
/-- What write answers. -/
def WroteOp (base b : Nat) (xs ys : List UInt8) (E : Int) (w : World) (e : Ending) (w' : World) : Prop :=
  ∃ X cx, e = .returned (.tuple #[.int .i64 E, .slice X ys.length cx, .int .i64 E]) ∧ Bytes8 w'.heap.size w' X ys ∧ PenAt base w' b (xs ++ ys) ∧ PenStep b w w'
set_option maxRecDepth 100000 in
set_option maxHeartbeats 8000000 in
theorem write_0 (s : Int) (n : Nat) (hnn : n < 18446744073709551616) (bs xs : List UInt8) (A : Option Addr) (c b base n₀ : Nat) (w : World) (hh : Bytes8 n₀ w A bs) (hn : n₀ ≤ base) (hbase : base ≤ w.heap.size) (hp : PenAt base w b xs) (hl : bs.length ≤ 100000000) (hxl : xs.length ≤ 1000000000) :
    Calls Try.prog 10 #[.pointer (some ⟨b, 0, none⟩), .agg #[.int .i64 0, .int .i64 s, .int .u64 (n : Int), .slice A bs.length c]] w (WroteOp base b xs (fixedB s n) (fixedE s n) w) := by
  have HTW := Lib.hid (fun (W : World) h => twin_in bs A c n₀ W h (by omega))
  have HH := Lib.hid hh
  have HP := Lib.hid hp
  have HF := Lib.hid (fun W => refFixed_any s n hnn W)
  clear hh hp
  go_enter Try.func10, Try.ntmps10
  have hB0 : Below w.heap.size w (w.alloc (.cells #[.int .i64 0, .int .i64 s, .int .u64 (n : Int), .slice A bs.length c] 33)) := (Below.refl _ _).alloc (Nat.le_refl _) _
  have HBOX := Lib.hid (heap_alloc_new w (.cells #[.int .i64 0, .int .i64 s, .int .u64 (n : Int), .slice A bs.length c] 33))
  have HB0 := Lib.hid hB0
  clear hB0
  go_wp2_with (first
    | (go_at_call 15; refine (HTW.out _ (HH.out.below HB0.out (Nat.le_trans hn hbase))).mono ?_; rintro e w1 ⟨v, rfl, hr, hb⟩; obtain ⟨O, co, rfl, ho1, hoc, hO, hax⟩ := own_open hr; have hs0 : w.heap.size < w1.heap.size := (by have := hb.size; rw [World.size_alloc] at this; omega); have hb1 := HB0.out.trans (hb.mono HB0.out.size); have HB1 := Lib.hid hb1; have HP1 := Lib.hid (HP.out.below hb1); have hbx := hb.block w.heap.size (by rw [World.size_alloc]; omega); rw [HBOX.out] at hbx; have HBX := Lib.hid hbx; have HR := Lib.hid hr; have HAX := Lib.hid hax; have HO1 := Lib.hid ho1; have e0 := (cell_of_row w1 w.heap.size 0 _ _ _ hbx).trans rfl; have e1 := (cell_of_row w1 w.heap.size 1 _ _ _ hbx).trans rfl; have e2 := (cell_of_row w1 w.heap.size 2 _ _ _ hbx).trans rfl; clear hb hb1 hbx hr hax ho1 hoc hO)
    | (go_at_call 27; refine (penFixed_any base b xs s n hnn _ HP1.out (by omega) (Nat.le_trans hbase HB1.out.size)).mono ?_; rintro e w2 ⟨rfl, hp2, hs2⟩; have HK2 := Lib.hid (pen_keep HP.out HB1.out hs2); have hbx2 := ((HK2.out w.heap.size (Nat.le_refl _) hs0).1).trans HBX.out; have HBX2 := Lib.hid hbx2; have HO2 := Lib.hid ((hs2.holds HO1.out (fun a e => ⟨(HAX.out a e).2, pen_apart HP.out HB1.out a.block (Nat.le_trans HB0.out.size (HAX.out a e).1)⟩)).more hs2.size); have HBB := Lib.hid ((HB1.out.mono hbase).trans (hs2.below HP1.out (Nat.le_trans hbase HB1.out.size))); clear e0 e1 e2; have e1 := (cell_of_row w2 w.heap.size 1 _ _ _ hbx2).trans rfl; have e2 := (cell_of_row w2 w.heap.size 2 _ _ _ hbx2).trans rfl; have e3 := (cell_of_row w2 w.heap.size 3 _ _ _ hbx2).trans rfl; clear hbx2)
    | (go_at_call 34; refine (HF.out _).mono ?_; rintro e w3 ⟨v, rfl, hr3, hb3⟩; obtain ⟨X, cx, rfl, hx3, _, _, hax3⟩ := own_open hr3; have HB3 := Lib.hid hb3; have hn3 : base ≤ w2.heap.size := Nat.le_trans hbase HBB.out.size; have est1 := str_of (HO2.out.later hb3) co; have est2 := str_bytes (HH.out.below (HBB.out.trans (hb3.mono hn3)) hn) c; have hbx3 := (hb3.block w.heap.size (by have := hs2.size; omega)).trans HBX2.out; have HKB := Lib.hid (show ∀ k, w.heap.size ≤ k → k < w1.heap.size → w3.heap[k]? = w1.heap[k]? from fun k h1 h2 => (hb3.block k (by have := hs2.size; omega)).trans (HK2.out k h1 h2).1); clear e1 e2 e3; have e3 := (cell_of_row w3 w.heap.size 3 _ _ _ hbx3).trans rfl; clear hbx3 hb3 hr3))
  obtain ⟨G, hG, hGw, hG1⟩ : ∃ G : Nat, (∀ a, O = some a → a.block = G) ∧ w.heap.size ≤ G ∧ G < w1.heap.size := by
    cases O with
    | none => exact ⟨w.heap.size, (fun a e => by cases e), Nat.le_refl _, hs0⟩
    | some a => exact ⟨a.block, (fun b e => by injection e with e; rw [e]), Nat.le_trans HB0.out.size (HAX.out a rfl).1, (HAX.out a rfl).2⟩
  have HG := Lib.hid hG
  have HR3 := Lib.hid (ownsRow_same HR.out (w' := w3) fun k hk => (HKB.out k (Nat.le_trans HB0.out.size (HR.out.lt k hk).1) (HR.out.lt k hk).2))
  have HFR := Lib.hid (write_frame HP.out HB1.out hp2 hs2 HB3.out hGw hG1)
  have HXA := Lib.hid (show ∀ a, X = some a → a.block ≠ G from fun a e => by have := (hax3 a e).1; have := hs2.size; omega)
  have HX3 := Lib.hid hx3
  clear est1 est2 e3 hG hp2 hs2 hax3 hx3
  go_loopw [75] (fun i wr => ∃ (q : Nat) (ys : List UInt8), q ≤ bs.length ∧ i = .int .i64 (q : Int) ∧ ys.length = bs.length ∧ wr.ownsRow (w.alloc (.cells #[.int .i64 0, .int .i64 s, .int .u64 (n : Int), .slice A bs.length c] 33)).heap.size 5 1 (.slice O bs.length co) bs.length (Go.Proofs.Ytngkckngjobojaa.Oct.vals ys) ∧ EyeStep G w3 wr) (fun i _ => bs.length - (intOf i).toNat)
  case atStart => exact ⟨0, bs, Nat.zero_le _, rfl, rfl, HR3.out, EyeStep.refl _ _⟩
  case round =>
    obtain ⟨q, ys, hq, rfl, hyl, hrow, hE⟩ := hrel
    by_cases hlt : q < bs.length
    · obtain ⟨g, cg, hX, hgb, hgl, hgc, hgcell, hgf⟩ := own_form hyl (by omega) hrow
      rw [hyl] at hX
      have hcq := hgcell q (by omega)
      rw [Nat.zero_add] at hcq
      have hfq := hgf q
      obtain ⟨y, hy⟩ : ∃ y, ys[q]'(by omega) = y := ⟨_, rfl⟩
      rw [hy] at hcq
      have hub := UInt8.toNat_lt y
      obtain ⟨y2, hy2⟩ : ∃ y2 : UInt8, y + 1 = y2 := ⟨_, rfl⟩
      have ey : ((y.toNat : Int) + 1) % 256 = (y2.toNat : Int) := by
        rw [← hy2, UInt8.toNat_add]
        simp
      have hgG : G = g := by
        injection hX with h1 _ _
        exact (HG.out _ h1).symm
      have HX := Lib.hid hX
      rw [hX] at hrow ⊢
      have HS := Lib.hid (own_store hrow q y2)
      have HL := Lib.hid (show (ys.set q y2).length = bs.length by rw [List.length_set]; exact hyl)
      have HE := Lib.hid (show EyeStep G w3 (wr.setCell ⟨g, q, none⟩ (.int .u8 (y2.toNat : Int))) by rw [hgG] at hE ⊢; exact hE.store)
      clear hgcell hgf hy hy2 hrow hyl hX hE hgG
      go_wp2
      refine ⟨⟨q + 1, ys.set q y2, by omega, by go_num, HL.out, HS.out, HE.out⟩, ?_⟩
      simp [intOf]
      omega
    · have d1 : (bs.length : Int) ≤ (q : Int) := by omega
      have HE := Lib.hid hE
      clear hrow hyl hlt hq hE
      go_wp2
      go_ret3
      exact ⟨X, cx, rfl, .inl ((HE.out.holds (Nat.le_refl _) HX3.out HXA.out).more HE.out.size), (HFR.out _ HE.out).1, (HFR.out _ HE.out).2⟩
set_option maxRecDepth 100000 in
set_option maxHeartbeats 8000000 in
theorem write_1 (s : Int) (n : Nat) (hnn : n < 18446744073709551616) (bs xs : List UInt8) (A : Option Addr) (c b base n₀ : Nat) (w : World) (hh : Bytes8 n₀ w A bs) (hn : n₀ ≤ base) (hbase : base ≤ w.heap.size) (hp : PenAt base w b xs) (hl : bs.length ≤ 100000000) (hxl : xs.length ≤ 1000000000) :
    Calls Try.prog 10 #[.pointer (some ⟨b, 0, none⟩), .agg #[.int .i64 1, .int .i64 s, .int .u64 (n : Int), .slice A bs.length c]] w (WroteOp base b xs (sizeB n) (0) w) := by
  have HTW := Lib.hid (fun (W : World) h => twin_in bs A c n₀ W h (by omega))
  have HH := Lib.hid hh
  have HP := Lib.hid hp
  have HF := Lib.hid (fun W => refSize_any n hnn W)
  clear hh hp
  go_enter Try.func10, Try.ntmps10
  have hB0 : Below w.heap.size w (w.alloc (.cells #[.int .i64 1, .int .i64 s, .int .u64 (n : Int), .slice A bs.length c] 33)) := (Below.refl _ _).alloc (Nat.le_refl _) _
  have HBOX := Lib.hid (heap_alloc_new w (.cells #[.int .i64 1, .int .i64 s, .int .u64 (n : Int), .slice A bs.length c] 33))
  have HB0 := Lib.hid hB0
  clear hB0
  go_wp2_with (first
    | (go_at_call 15; refine (HTW.out _ (HH.out.below HB0.out (Nat.le_trans hn hbase))).mono ?_; rintro e w1 ⟨v, rfl, hr, hb⟩; obtain ⟨O, co, rfl, ho1, hoc, hO, hax⟩ := own_open hr; have hs0 : w.heap.size < w1.heap.size := (by have := hb.size; rw [World.size_alloc] at this; omega); have hb1 := HB0.out.trans (hb.mono HB0.out.size); have HB1 := Lib.hid hb1; have HP1 := Lib.hid (HP.out.below hb1); have hbx := hb.block w.heap.size (by rw [World.size_alloc]; omega); rw [HBOX.out] at hbx; have HBX := Lib.hid hbx; have HR := Lib.hid hr; have HAX := Lib.hid hax; have HO1 := Lib.hid ho1; have e0 := (cell_of_row w1 w.heap.size 0 _ _ _ hbx).trans rfl; have e1 := (cell_of_row w1 w.heap.size 1 _ _ _ hbx).trans rfl; have e2 := (cell_of_row w1 w.heap.size 2 _ _ _ hbx).trans rfl; clear hb hb1 hbx hr hax ho1 hoc hO)
    | (go_at_call 28; refine (penSize_any base b xs n hnn _ HP1.out (by omega) (Nat.le_trans hbase HB1.out.size)).mono ?_; rintro e w2 ⟨rfl, hp2, hs2⟩; have HK2 := Lib.hid (pen_keep HP.out HB1.out hs2); have hbx2 := ((HK2.out w.heap.size (Nat.le_refl _) hs0).1).trans HBX.out; have HBX2 := Lib.hid hbx2; have HO2 := Lib.hid ((hs2.holds HO1.out (fun a e => ⟨(HAX.out a e).2, pen_apart HP.out HB1.out a.block (Nat.le_trans HB0.out.size (HAX.out a e).1)⟩)).more hs2.size); have HBB := Lib.hid ((HB1.out.mono hbase).trans (hs2.below HP1.out (Nat.le_trans hbase HB1.out.size))); clear e0 e1 e2; have e1 := (cell_of_row w2 w.heap.size 1 _ _ _ hbx2).trans rfl; have e2 := (cell_of_row w2 w.heap.size 2 _ _ _ hbx2).trans rfl; have e3 := (cell_of_row w2 w.heap.size 3 _ _ _ hbx2).trans rfl; clear hbx2)
    | (go_at_call 14; refine (HF.out _).mono ?_; rintro e w3 ⟨v, rfl, hr3, hb3⟩; obtain ⟨X, cx, rfl, hx3, _, _, hax3⟩ := own_open hr3; have HB3 := Lib.hid hb3; have hn3 : base ≤ w2.heap.size := Nat.le_trans hbase HBB.out.size; have est1 := str_of (HO2.out.later hb3) co; have est2 := str_bytes (HH.out.below (HBB.out.trans (hb3.mono hn3)) hn) c; have hbx3 := (hb3.block w.heap.size (by have := hs2.size; omega)).trans HBX2.out; have HKB := Lib.hid (show ∀ k, w.heap.size ≤ k → k < w1.heap.size → w3.heap[k]? = w1.heap[k]? from fun k h1 h2 => (hb3.block k (by have := hs2.size; omega)).trans (HK2.out k h1 h2).1); clear e1 e2 e3; have e3 := (cell_of_row w3 w.heap.size 3 _ _ _ hbx3).trans rfl; clear hbx3 hb3 hr3))
  obtain ⟨G, hG, hGw, hG1⟩ : ∃ G : Nat, (∀ a, O = some a → a.block = G) ∧ w.heap.size ≤ G ∧ G < w1.heap.size := by
    cases O with
    | none => exact ⟨w.heap.size, (fun a e => by cases e), Nat.le_refl _, hs0⟩
    | some a => exact ⟨a.block, (fun b e => by injection e with e; rw [e]), Nat.le_trans HB0.out.size (HAX.out a rfl).1, (HAX.out a rfl).2⟩
  have HG := Lib.hid hG
  have HR3 := Lib.hid (ownsRow_same HR.out (w' := w3) fun k hk => (HKB.out k (Nat.le_trans HB0.out.size (HR.out.lt k hk).1) (HR.out.lt k hk).2))
  have HFR := Lib.hid (write_frame HP.out HB1.out hp2 hs2 HB3.out hGw hG1)
  have HXA := Lib.hid (show ∀ a, X = some a → a.block ≠ G from fun a e => by have := (hax3 a e).1; have := hs2.size; omega)
  have HX3 := Lib.hid hx3
  clear est1 est2 e3 hG hp2 hs2 hax3 hx3
  go_loopw [75] (fun i wr => ∃ (q : Nat) (ys : List UInt8), q ≤ bs.length ∧ i = .int .i64 (q : Int) ∧ ys.length = bs.length ∧ wr.ownsRow (w.alloc (.cells #[.int .i64 1, .int .i64 s, .int .u64 (n : Int), .slice A bs.length c] 33)).heap.size 5 1 (.slice O bs.length co) bs.length (Go.Proofs.Ytngkckngjobojaa.Oct.vals ys) ∧ EyeStep G w3 wr) (fun i _ => bs.length - (intOf i).toNat)
  case atStart => exact ⟨0, bs, Nat.zero_le _, rfl, rfl, HR3.out, EyeStep.refl _ _⟩
  case round =>
    obtain ⟨q, ys, hq, rfl, hyl, hrow, hE⟩ := hrel
    by_cases hlt : q < bs.length
    · obtain ⟨g, cg, hX, hgb, hgl, hgc, hgcell, hgf⟩ := own_form hyl (by omega) hrow
      rw [hyl] at hX
      have hcq := hgcell q (by omega)
      rw [Nat.zero_add] at hcq
      have hfq := hgf q
      obtain ⟨y, hy⟩ : ∃ y, ys[q]'(by omega) = y := ⟨_, rfl⟩
      rw [hy] at hcq
      have hub := UInt8.toNat_lt y
      obtain ⟨y2, hy2⟩ : ∃ y2 : UInt8, y + 1 = y2 := ⟨_, rfl⟩
      have ey : ((y.toNat : Int) + 1) % 256 = (y2.toNat : Int) := by
        rw [← hy2, UInt8.toNat_add]
        simp
      have hgG : G = g := by
        injection hX with h1 _ _
        exact (HG.out _ h1).symm
      have HX := Lib.hid hX
      rw [hX] at hrow ⊢
      have HS := Lib.hid (own_store hrow q y2)
      have HL := Lib.hid (show (ys.set q y2).length = bs.length by rw [List.length_set]; exact hyl)
      have HE := Lib.hid (show EyeStep G w3 (wr.setCell ⟨g, q, none⟩ (.int .u8 (y2.toNat : Int))) by rw [hgG] at hE ⊢; exact hE.store)
      clear hgcell hgf hy hy2 hrow hyl hX hE hgG
      go_wp2
      refine ⟨⟨q + 1, ys.set q y2, by omega, by go_num, HL.out, HS.out, HE.out⟩, ?_⟩
      simp [intOf]
      omega
    · have d1 : (bs.length : Int) ≤ (q : Int) := by omega
      have HE := Lib.hid hE
      clear hrow hyl hlt hq hE
      go_wp2
      go_ret3
      exact ⟨X, cx, rfl, .inl ((HE.out.holds (Nat.le_refl _) HX3.out HXA.out).more HE.out.size), (HFR.out _ HE.out).1, (HFR.out _ HE.out).2⟩
set_option maxRecDepth 100000 in
set_option maxHeartbeats 8000000 in
theorem write_2 (s : Int) (n : Nat) (hnn : n < 18446744073709551616) (bs xs : List UInt8) (A : Option Addr) (c b base n₀ : Nat) (w : World) (hh : Bytes8 n₀ w A bs) (hn : n₀ ≤ base) (hbase : base ≤ w.heap.size) (hp : PenAt base w b xs) (hl : bs.length ≤ 100000000) (hxl : xs.length ≤ 1000000000) :
    Calls Try.prog 10 #[.pointer (some ⟨b, 0, none⟩), .agg #[.int .i64 2, .int .i64 s, .int .u64 (n : Int), .slice A bs.length c]] w (WroteOp base b xs (sizeB bs.length ++ bs) (0) w) := by
  have HTW := Lib.hid (fun (W : World) h => twin_in bs A c n₀ W h (by omega))
  have HH := Lib.hid hh
  have HP := Lib.hid hp
  obtain ⟨ys, hys⟩ : ∃ ys, sizeB bs.length ++ bs = ys := ⟨_, rfl⟩
  have HF := Lib.hid (show ∀ W : World, Bytes8 n₀ W A bs → n₀ ≤ W.heap.size → Calls Try.prog 35 #[.slice A bs.length c] W (OwnBytes W ys) from fun W h1 h2 => by have q := refBytes_in bs A c n₀ W h1 h2 (by omega); rw [hys] at q; exact q)
  rw [hys]
  have HYS := Lib.hid hys
  clear hys
  clear hh hp
  go_enter Try.func10, Try.ntmps10
  have hB0 : Below w.heap.size w (w.alloc (.cells #[.int .i64 2, .int .i64 s, .int .u64 (n : Int), .slice A bs.length c] 33)) := (Below.refl _ _).alloc (Nat.le_refl _) _
  have HBOX := Lib.hid (heap_alloc_new w (.cells #[.int .i64 2, .int .i64 s, .int .u64 (n : Int), .slice A bs.length c] 33))
  have HB0 := Lib.hid hB0
  clear hB0
  go_wp2_with (first
    | (go_at_call 15; refine (HTW.out _ (HH.out.below HB0.out (Nat.le_trans hn hbase))).mono ?_; rintro e w1 ⟨v, rfl, hr, hb⟩; obtain ⟨O, co, rfl, ho1, hoc, hO, hax⟩ := own_open hr; have hs0 : w.heap.size < w1.heap.size := (by have := hb.size; rw [World.size_alloc] at this; omega); have hb1 := HB0.out.trans (hb.mono HB0.out.size); have HB1 := Lib.hid hb1; have HP1 := Lib.hid (HP.out.below hb1); have hbx := hb.block w.heap.size (by rw [World.size_alloc]; omega); rw [HBOX.out] at hbx; have HBX := Lib.hid hbx; have HR := Lib.hid hr; have HAX := Lib.hid hax; have HO1 := Lib.hid ho1; have e0 := (cell_of_row w1 w.heap.size 0 _ _ _ hbx).trans rfl; have e1 := (cell_of_row w1 w.heap.size 1 _ _ _ hbx).trans rfl; have e2 := (cell_of_row w1 w.heap.size 2 _ _ _ hbx).trans rfl; clear hb hb1 hbx hr hax ho1 hoc hO)
    | (go_at_call 29; refine (penBytes_any base b xs bs O co _ HP1.out ⟨HO1.out, fun a e => ⟨(HAX.out a e).2, pen_apart HP.out HB1.out a.block (Nat.le_trans HB0.out.size (HAX.out a e).1)⟩⟩ (by omega) (Nat.le_trans hbase HB1.out.size)).mono ?_; rintro e w2 ⟨rfl, hp2, hs2⟩; rw [HYS.out] at hp2; have HK2 := Lib.hid (pen_keep HP.out HB1.out hs2); have hbx2 := ((HK2.out w.heap.size (Nat.le_refl _) hs0).1).trans HBX.out; have HBX2 := Lib.hid hbx2; have HO2 := Lib.hid ((hs2.holds HO1.out (fun a e => ⟨(HAX.out a e).2, pen_apart HP.out HB1.out a.block (Nat.le_trans HB0.out.size (HAX.out a e).1)⟩)).more hs2.size); have HBB := Lib.hid ((HB1.out.mono hbase).trans (hs2.below HP1.out (Nat.le_trans hbase HB1.out.size))); clear e0 e1 e2; have e1 := (cell_of_row w2 w.heap.size 1 _ _ _ hbx2).trans rfl; have e2 := (cell_of_row w2 w.heap.size 2 _ _ _ hbx2).trans rfl; have e3 := (cell_of_row w2 w.heap.size 3 _ _ _ hbx2).trans rfl; clear hbx2)
    | (go_at_call 35; refine (HF.out _ (HH.out.below HBB.out hn) (Nat.le_trans hn (Nat.le_trans hbase HBB.out.size))).mono ?_; rintro e w3 ⟨v, rfl, hr3, hb3⟩; obtain ⟨X, cx, rfl, hx3, _, _, hax3⟩ := own_open hr3; have HB3 := Lib.hid hb3; have hn3 : base ≤ w2.heap.size := Nat.le_trans hbase HBB.out.size; have est1 := str_of (HO2.out.later hb3) co; have est2 := str_bytes (HH.out.below (HBB.out.trans (hb3.mono hn3)) hn) c; have hbx3 := (hb3.block w.heap.size (by have := hs2.size; omega)).trans HBX2.out; have HKB := Lib.hid (show ∀ k, w.heap.size ≤ k → k < w1.heap.size → w3.heap[k]? = w1.heap[k]? from fun k h1 h2 => (hb3.block k (by have := hs2.size; omega)).trans (HK2.out k h1 h2).1); clear e1 e2 e3; have e3 := (cell_of_row w3 w.heap.size 3 _ _ _ hbx3).trans rfl; clear hbx3 hb3 hr3))
  obtain ⟨G, hG, hGw, hG1⟩ : ∃ G : Nat, (∀ a, O = some a → a.block = G) ∧ w.heap.size ≤ G ∧ G < w1.heap.size := by
    cases O with
    | none => exact ⟨w.heap.size, (fun a e => by cases e), Nat.le_refl _, hs0⟩
    | some a => exact ⟨a.block, (fun b e => by injection e with e; rw [e]), Nat.le_trans HB0.out.size (HAX.out a rfl).1, (HAX.out a rfl).2⟩
  have HG := Lib.hid hG
  have HR3 := Lib.hid (ownsRow_same HR.out (w' := w3) fun k hk => (HKB.out k (Nat.le_trans HB0.out.size (HR.out.lt k hk).1) (HR.out.lt k hk).2))
  have HFR := Lib.hid (write_frame HP.out HB1.out hp2 hs2 HB3.out hGw hG1)
  have HXA := Lib.hid (show ∀ a, X = some a → a.block ≠ G from fun a e => by have := (hax3 a e).1; have := hs2.size; omega)
  have HX3 := Lib.hid hx3
  clear est1 est2 e3 hG hp2 hs2 hax3 hx3
  go_loopw [75] (fun i wr => ∃ (q : Nat) (ys : List UInt8), q ≤ bs.length ∧ i = .int .i64 (q : Int) ∧ ys.length = bs.length ∧ wr.ownsRow (w.alloc (.cells #[.int .i64 2, .int .i64 s, .int .u64 (n : Int), .slice A bs.length c] 33)).heap.size 5 1 (.slice O bs.length co) bs.length (Go.Proofs.Ytngkckngjobojaa.Oct.vals ys) ∧ EyeStep G w3 wr) (fun i _ => bs.length - (intOf i).toNat)
  case atStart => exact ⟨0, bs, Nat.zero_le _, rfl, rfl, HR3.out, EyeStep.refl _ _⟩
  case round =>
    obtain ⟨q, ys, hq, rfl, hyl, hrow, hE⟩ := hrel
    by_cases hlt : q < bs.length
    · obtain ⟨g, cg, hX, hgb, hgl, hgc, hgcell, hgf⟩ := own_form hyl (by omega) hrow
      rw [hyl] at hX
      have hcq := hgcell q (by omega)
      rw [Nat.zero_add] at hcq
      have hfq := hgf q
      obtain ⟨y, hy⟩ : ∃ y, ys[q]'(by omega) = y := ⟨_, rfl⟩
      rw [hy] at hcq
      have hub := UInt8.toNat_lt y
      obtain ⟨y2, hy2⟩ : ∃ y2 : UInt8, y + 1 = y2 := ⟨_, rfl⟩
      have ey : ((y.toNat : Int) + 1) % 256 = (y2.toNat : Int) := by
        rw [← hy2, UInt8.toNat_add]
        simp
      have hgG : G = g := by
        injection hX with h1 _ _
        exact (HG.out _ h1).symm
      have HX := Lib.hid hX
      rw [hX] at hrow ⊢
      have HS := Lib.hid (own_store hrow q y2)
      have HL := Lib.hid (show (ys.set q y2).length = bs.length by rw [List.length_set]; exact hyl)
      have HE := Lib.hid (show EyeStep G w3 (wr.setCell ⟨g, q, none⟩ (.int .u8 (y2.toNat : Int))) by rw [hgG] at hE ⊢; exact hE.store)
      clear hgcell hgf hy hy2 hrow hyl hX hE hgG
      go_wp2
      refine ⟨⟨q + 1, ys.set q y2, by omega, by go_num, HL.out, HS.out, HE.out⟩, ?_⟩
      simp [intOf]
      omega
    · have d1 : (bs.length : Int) ≤ (q : Int) := by omega
      have HE := Lib.hid hE
      clear hrow hyl hlt hq hE
      go_wp2
      go_ret3
      exact ⟨X, cx, rfl, .inl ((HE.out.holds (Nat.le_refl _) HX3.out HXA.out).more HE.out.size), (HFR.out _ HE.out).1, (HFR.out _ HE.out).2⟩
end Go.Proofs.Ytngkckngjobojaa.Oct
