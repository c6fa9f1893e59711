/- A call written: what the statements' write answers. No condition beyond the memory's reach. -/
import Derived.Test.YtngkckngjobojaaOctW
import Derived.Test.YtngkckngjobojaaOctL
namespace Go.Proofs.Ytngkckngjobojaa.Oct
open Go.Proofs.Ytngkckngjobojaa Go.RowKit Go.Shelf

theorem vals_set (ys : List UInt8) (k : Nat) (x : UInt8) : vals (ys.set k x) = (vals ys).set k (.int .u8 (x.toNat : Int)) := by unfold vals; rw [List.map_set]
/-- One byte of a row of the call's own is stored. -/
theorem own_store {W : World} {base g n cap : Nat} {ys : List UInt8} (h : W.ownsRow base 5 1 (.slice (some ⟨g, 0, none⟩) n cap) n (vals ys)) (k : Nat) (x : UInt8) : (W.setCell ⟨g, k, none⟩ (.int .u8 (x.toNat : Int))).ownsRow base 5 1 (.slice (some ⟨g, 0, none⟩) n cap) n (vals (ys.set k x)) := by
  rw [vals_set]
  exact (h.stored k _).1
theorem EyeStep.store {W W' : World} {g k : Nat} {v : Value} (h : EyeStep g W W') : EyeStep g W (W'.setCell ⟨g, k, none⟩ v) :=
  h.trans ⟨rfl, rfl, rfl, by unfold World.setCell; simp, fun i hi hne => Below.heap_setCell _ _ _ _ (fun e => hne e)⟩
theorem pen_then_eye {b g : Nat} {W W3 W' : World} (h : PenStep b W W3) (hb : b < W.heap.size) (hg : W.heap.size ≤ g) (he : EyeStep g W3 W') : PenStep b W W' :=
  ⟨he.os.trans h.os, he.tape.trans h.tape, he.output.trans h.output, Nat.le_trans h.size he.size, fun k hk hkb hr => by
    have h1 := h.keep k hk hkb hr
    have h2 := he.keep k (Nat.lt_of_lt_of_le hk h.size) (by omega)
    have h3 := he.keep b (Nat.lt_of_lt_of_le hb h.size) (by omega)
    exact ⟨h2.trans h1.1, by rw [rowOf_same h3]; exact h1.2⟩⟩
theorem PenAt.eye {base b g : Nat} {W W' : World} {bs : List UInt8} (h : PenAt base W b bs) (he : EyeStep g W W') (hg : g ≠ b) (hr : rowOf W b ≠ some g) : PenAt base W' b bs := by
  obtain ⟨h1, v, hh, hrow, hne⟩ := h
  rw [rowOf_at hh] at hr
  exact ⟨h1, v, by rw [he.keep b (Array.getElem?_eq_some_iff.1 hh).1 (fun e => hg e.symm)]; exact hh, ownsRow_same hrow fun k hk => he.keep k (hrow.lt k hk).2 (fun e => hr (by rw [hk, e])), hne⟩
theorem below_then_eye {g : Nat} {W W3 W' : World} (h : Below W.heap.size W W3) (hg : W.heap.size ≤ g) (he : EyeStep g W3 W') : Below W.heap.size W W' :=
  ⟨he.os.trans h.os, he.tape.trans h.tape, he.output.trans h.output, Nat.le_trans h.size he.size, fun k hk => (he.keep k (Nat.lt_of_lt_of_le hk h.size) (by omega)).trans (h.block k hk)⟩
set_option maxRecDepth 100000 in
set_option maxHeartbeats 4000000 in
theorem write_none (k s : Int) (n : Nat) (hk0 : (k == 0) = false) (hk1 : (k == 1) = false) (hk2 : (k == 2) = false) (hk3 : (k == 3) = false) (bs : List UInt8) (A : Option Addr) (c b n₀ : Nat) (w : World) (hh : Bytes8 n₀ w A bs) (hn : n₀ ≤ w.heap.size) (hl : bs.length ≤ 100000000) :
    Calls Try.prog 10 #[.pointer (some ⟨b, 0, none⟩), .agg #[.int .i64 k, .int .i64 s, .int .u64 (n : Int), .slice A bs.length c]] w fun e w' => e = .returned (.tuple #[.int .i64 0, .slice none 0 0, .int .i64 0]) ∧ Below w.heap.size w w' := by
  have HTW := Lib.hid (fun (W : World) h => twin_in bs A c n₀ W h (by omega))
  have HH := Lib.hid hh
  clear hh
  go_enter Try.func10, Try.ntmps10
  have hB0 : Below w.heap.size w (w.alloc (.cells #[.int .i64 k, .int .i64 s, .int .u64 (n : Int), .slice A bs.length c] 33)) := (Below.refl _ _).alloc (Nat.le_refl _) _
  have HBOX := Lib.hid (heap_alloc_new w (.cells #[.int .i64 k, .int .i64 s, .int .u64 (n : Int), .slice A bs.length c] 33))
  have HB0 := Lib.hid hB0
  clear hB0
  go_wp2_with (first
    | (go_at_call 15; refine (HTW.out _ (HH.out.below HB0.out hn)).mono ?_; rintro e w1 ⟨v, rfl, hr, hb⟩; obtain ⟨O, co, rfl, ho1, hoc, hO, hax⟩ := own_open hr; have est1 := str_of ho1 co; have hb1 := HB0.out.trans (hb.mono HB0.out.size); have est2 := str_bytes (HH.out.below hb1 hn) c; have HB1 := Lib.hid hb1; have hbx := hb.block w.heap.size (by rw [World.size_alloc]; omega); rw [HBOX.out] at hbx; have e0 := (cell_of_row w1 w.heap.size 0 _ _ _ hbx).trans rfl; have e3 := (cell_of_row w1 w.heap.size 3 _ _ _ hbx).trans rfl))
  obtain ⟨G, hG, hGw⟩ : ∃ G : Nat, (∀ a, O = some a → a.block = G) ∧ w.heap.size ≤ G := by
    cases O with
    | none => exact ⟨w.heap.size, (fun a e => by cases e), Nat.le_refl _⟩
    | some a => exact ⟨a.block, (fun b e => by injection e with e; rw [e]), Nat.le_trans HB0.out.size (hax a rfl).1⟩
  have HG := Lib.hid hG
  have HR := Lib.hid hr
  clear est1 est2 e0 e3 hbx hb1 hb ho1 hoc hO hax hr hG
  go_loopw [75] (fun i wr => ∃ (q : Nat) (ys : List UInt8), q ≤ bs.length ∧ i = .int .i64 (q : Int) ∧ ys.length = bs.length ∧ wr.ownsRow (w.alloc (.cells #[.int .i64 k, .int .i64 s, .int .u64 (n : Int), .slice A bs.length c] 33)).heap.size 5 1 (.slice O bs.length co) bs.length (Go.Proofs.Ytngkckngjobojaa.Oct.vals ys) ∧ EyeStep G w1 wr) (fun i _ => bs.length - (intOf i).toNat)
  case atStart => exact ⟨0, bs, Nat.zero_le _, rfl, rfl, HR.out, EyeStep.refl _ _⟩
  case round =>
    obtain ⟨q, ys, hq, rfl, hyl, hrow, hE⟩ := hrel
    by_cases hlt : q < bs.length
    · obtain ⟨g, cg, hX, hgb, hgl, hgc, hgcell, hgf⟩ := own_form hyl (by omega) hrow
      rw [hyl] at hX
      have hcq := hgcell q (by omega)
      rw [Nat.zero_add] at hcq
      have hfq := hgf q
      obtain ⟨y, hy⟩ : ∃ y, ys[q]'(by omega) = y := ⟨_, rfl⟩
      rw [hy] at hcq
      have hub := UInt8.toNat_lt y
      obtain ⟨y2, hy2⟩ : ∃ y2 : UInt8, y + 1 = y2 := ⟨_, rfl⟩
      have ey : ((y.toNat : Int) + 1) % 256 = (y2.toNat : Int) := by
        rw [← hy2, UInt8.toNat_add]
        simp
      have hgG : G = g := by
        injection hX with h1 _ _
        exact (HG.out _ h1).symm
      have HX := Lib.hid hX
      rw [hX] at hrow ⊢
      have HS := Lib.hid (own_store hrow q y2)
      have HL := Lib.hid (show (ys.set q y2).length = bs.length by rw [List.length_set]; exact hyl)
      have HE := Lib.hid (show EyeStep G w1 (wr.setCell ⟨g, q, none⟩ (.int .u8 (y2.toNat : Int))) by rw [hgG] at hE ⊢; exact hE.store)
      clear hgcell hgf hy hy2 hrow hyl hX hE hgG
      go_wp2
      refine ⟨⟨q + 1, ys.set q y2, by omega, by go_num, HL.out, HS.out, HE.out⟩, ?_⟩
      simp [intOf]
      omega
    · have d1 : (bs.length : Int) ≤ (q : Int) := by omega
      have HE := Lib.hid hE
      clear hrow hyl hlt hq hE
      go_wp2

      go_ret3
      exact ⟨rfl, below_then_eye HB1.out hGw HE.out⟩
end Go.Proofs.Ytngkckngjobojaa.Oct
