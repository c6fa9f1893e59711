/- Any operations' script, or the error, what each pushes, whether two lists are the same, and the operation that pushes any bytes, are the reference's; what is handed in stays: the walk. No condition beyond the memory's reach. -/
import Derived.Test.YtkecldmjjhhlgaaOpsV
import Derived.Test.YtkecldmjjhhlgaaOpsW
import Derived.Test.YtkecldmjjhhlgaaOpsX
import Derived.Test.YtkecldmjjhhlgaaOpsJ
namespace Go.Proofs.Ytkecldmjjhhlgaa.Oct
open Go.Proofs.Ytkecldmjjhhlgaa Go.ChangeShapes Go.WideShapes Go.ChangeAt Go.RowKit Go.Shelf
theorem vals_set (ys : List UInt8) (k : Nat) (x : UInt8) : vals (ys.set k x) = (vals ys).set k (.int .u8 (x.toNat : Int)) := by unfold vals; rw [List.map_set]
theorem own_store {W : World} {base g n cap : Nat} {ys : List UInt8} (h : W.ownsRow base 5 1 (.slice (some ⟨g, 0, none⟩) n cap) n (vals ys)) (k : Nat) (x : UInt8) : (W.setCell ⟨g, k, none⟩ (.int .u8 (x.toNat : Int))).ownsRow base 5 1 (.slice (some ⟨g, 0, none⟩) n cap) n (vals (ys.set k x)) := by
  rw [vals_set]
  exact (h.stored k _).1
theorem EyeStep.store {W W' : World} {g k : Nat} {v : Value} (h : EyeStep g W W') : EyeStep g W (W'.setCell ⟨g, k, none⟩ v) :=
  h.trans ⟨rfl, rfl, rfl, by unfold World.setCell; simp, fun i hi hne => Below.heap_setCell _ _ _ _ (fun e => hne e)⟩
theorem below_eye {g n : Nat} {W0 W3 W' : World} (h : Below n W0 W3) (hg : n ≤ g) (hn : n ≤ W3.heap.size) (he : EyeStep g W3 W') : Below n W0 W' :=
  ⟨he.os.trans h.os, he.tape.trans h.tape, he.output.trans h.output, Nat.le_trans h.size he.size, fun k hk => (he.keep k (by omega) (by omega)).trans (h.block k hk)⟩
def outB (M : List (UInt8 × List UInt8)) : List UInt8 := if M.all validB = true then joinB M else []
def errB (M : List (UInt8 × List UInt8)) : Int := if M.all validB = true then 0 else 100
theorem JoinR.all {w w' : World} {M : List (UInt8 × List UInt8)} {e : Ending} (h : JoinR w M e w') (u : List UInt8) (hu : outB M = u) (n : Nat) (hn : u.length = n) (z : Int) (hz : errB M = z) : ∃ X c, e = .returned (.tuple #[.slice X n c, .int .i64 z]) ∧ Holds8 w'.heap.size w' X u ∧ Below w.heap.size w w' := by
  subst hu hn hz
  by_cases hv : M.all validB = true
  · obtain ⟨X, c, he, h8, _, _, hb⟩ := h.ok hv rfl _ rfl
    refine ⟨X, c, ?_, ?_, hb⟩
    · unfold outB errB; rw [if_pos hv, if_pos hv]; exact he
    · unfold outB; rw [if_pos hv]; exact h8
  · obtain ⟨he, hb⟩ := h.bad (by simpa using hv)
    refine ⟨none, 0, ?_, ?_, hb⟩
    · unfold outB errB; rw [if_neg hv, if_neg hv]; exact he
    · unfold outB; rw [if_neg hv]; exact .inl ⟨rfl, rfl⟩
theorem ValR.all {w w' : World} {o : UInt8 × List UInt8} {e : Ending} (h : ValR w o e w') (u : List UInt8) (hu : (valB o).getD [] = u) (n : Nat) (hn : u.length = n) (b : Bool) (hb : (valB o).isSome = b) : ∃ X c, e = .returned (.tuple #[.slice X n c, .bool b]) ∧ w'.ownsRow w.heap.size 5 1 (.slice X n c) n (vals u) ∧ Holds8 w'.heap.size w' X u ∧ Below w.heap.size w w' := by
  subst hu hn hb
  cases hv : valB o with
  | none =>
    obtain ⟨he, hb⟩ := h.none hv
    exact ⟨_, 0, he, World.ownsRow_nil _ _ _ _, .inl ⟨rfl, rfl⟩, hb⟩
  | some u =>
    obtain ⟨v, he, ho, hb⟩ := h.some hv
    obtain ⟨X, c, rfl, h8, _⟩ := own_open ho
    exact ⟨X, c, he, ho, h8, hb⟩
def pcB (bs : List UInt8) : UInt8 := if bs.length ≤ 65535 then UInt8.ofNat (pushC bs.length) else 0
def puB (bs : List UInt8) : List UInt8 := if bs.length ≤ 65535 then bs else []
def pzB (bs : List UInt8) : Int := if bs.length ≤ 65535 then 0 else 100
theorem PushR.all {w w' : World} {bs : List UInt8} {e : Ending} (h : PushR w bs e w') (pc : UInt8) (hc : pcB bs = pc) (u : List UInt8) (hu : puB bs = u) (n : Nat) (hn : u.length = n) (z : Int) (hz : pzB bs = z) : ∃ X c, e = .returned (.tuple #[.agg #[.int .u8 (pc.toNat : Int), .slice X n c], .int .i64 z]) ∧ Holds8 w'.heap.size w' X u ∧ (∀ a, X = some a → w.heap.size ≤ a.block) ∧ Below w.heap.size w w' := by
  subst hc hu hn hz
  obtain ⟨hb, ⟨hl, X, c, he, h8, hx⟩ | ⟨hl, he⟩⟩ := h
  · refine ⟨X, c, ?_, ?_, hx, hb⟩
    · unfold pcB puB pzB
      rw [if_pos hl, if_pos hl, if_pos hl, ofNat_lt (by have := pushC_le bs.length; omega)]
      exact he
    · unfold puB; rw [if_pos hl]; exact h8
  · have hl2 : ¬ bs.length ≤ 65535 := by omega
    refine ⟨none, 0, ?_, ?_, (fun a e => by cases e), hb⟩
    · unfold pcB puB pzB
      rw [if_neg hl2, if_neg hl2, if_neg hl2]
      exact he
    · unfold puB; rw [if_neg hl2]; exact .inl ⟨rfl, rfl⟩
theorem same_sym {r m : List PV} (h : r.map PV.is = m.map PV.is) : sameL r m = true := same_true h
theorem val_small (o : UInt8 × List UInt8) : ((valB o).getD []).length ≤ 65535 := by
  unfold valB
  by_cases hv : validB o = true
  · rw [if_pos hv]
    have := valid_small hv
    by_cases h1 : o.1.toNat ≤ 77
    · rw [if_pos h1]; exact this
    · rw [if_neg h1]
      by_cases h2 : o.1.toNat = 79
      · rw [if_pos h2]; simp
      · rw [if_neg h2]
        by_cases h3 : 81 ≤ o.1.toNat ∧ o.1.toNat ≤ 96
        · rw [if_pos h3]; simp
        · rw [if_neg h3]; simp
  · rw [if_neg hv]; simp
theorem holds_lt {n : Nat} {W : World} {X : Option Addr} {bs : List UInt8} (h : Holds8 n W X bs) (a : Addr) (ea : X = some a) : a.block < n := by
  rcases h with ⟨e, _⟩ | ⟨b, off, e, hb, _⟩
  · rw [e] at ea; cases ea
  · rw [e] at ea; injection ea with ea; rw [← ea]; exact hb
set_option maxRecDepth 100000 in
set_option maxHeartbeats 8000000 in
theorem opsJoin_main (l m : List PV) (LA MA : Option Addr) (cl cm : Nat) (p : List UInt8) (A : Option Addr) (c : Nat) (w : World) (HL : Hid (PvsAt w.heap.size w LA l)) (HM : Hid (PvsAt w.heap.size w MA m)) (HP : Hid (Holds8 w.heap.size w A p)) (HSL : Hid (∀ q ∈ l, q.b.length ≤ 140737488351232)) (HSM : Hid (∀ q ∈ m, q.b.length ≤ 140737488351232)) (HGL : Hid (greatP l = false)) (HGM : Hid (greatP m = false)) (hl : l.length ≤ 100) (hm : m.length ≤ 100) (HJL : Hid ((joinB (l.map PV.is)).length ≤ 100000)) (pn : Nat) (HPN : Hid (p.length = pn)) (hp : pn ≤ 70000) :
    Calls Try.prog 4 #[.slice LA l.length cl, .slice MA m.length cm, .slice A pn c] w fun e w' => e = .returned (.bool true) ∧ Below w.heap.size w w' := by
  have d0 : decide ((70000 : Int) < (pn : Int)) = false := by simp; omega
  obtain ⟨u, hu⟩ : ∃ u, outB (l.map PV.is) = u := ⟨_, rfl⟩
  obtain ⟨un, hun⟩ : ∃ un, u.length = un := ⟨_, rfl⟩
  obtain ⟨z, hz⟩ : ∃ z, errB (l.map PV.is) = z := ⟨_, rfl⟩
  obtain ⟨b, hb⟩ : ∃ b, sameL l m = b := ⟨_, rfl⟩
  have HU := Lib.hid hu
  have HUN := Lib.hid hun
  have HZ := Lib.hid hz
  have HSB := Lib.hid hb
  have HG1 := Lib.hid (great_any l LA cl w.heap.size w HL.out HSL.out (by omega))
  have HG2 := Lib.hid (great_any m MA cm w.heap.size w HM.out HSM.out (by omega))
  rw [HGL.out] at HG1
  rw [HGM.out] at HG2
  clear hu hun hz hb
  go_enter Try.func4, Try.ntmps4
  go_wp2_with (first
    | (go_at_call 16; (with_reducible refine HG1.out.mono ?_); rintro e wg ⟨rfl, rfl⟩; clear HG1)
    | (go_at_call 16; (with_reducible refine HG2.out.mono ?_); rintro e wg ⟨rfl, rfl⟩; clear HG2; have HJ1 := Lib.hid (join_any l l.length rfl LA cl _ _ HL.out (Nat.le_refl _) (by omega) (by have := HJL.out; omega)))
    | (go_at_call 17; refine HJ1.out.mono ?_; intro e w1 hr; obtain ⟨X1, k1, rfl, h8, hb⟩ := hr.all u HU.out un HUN.out z HZ.out; have HB1 := Lib.hid hb; have H81 := Lib.hid h8; have HJ2 := Lib.hid (refJoin_any l l.length rfl LA cl _ w1 (HL.out.later hb) hb.size (by omega) (by have := HJL.out; omega)); clear hr h8 hb HJ1)
    | (go_at_call 18; refine HJ2.out.mono ?_; intro e w2 hr; obtain ⟨X2, k2, rfl, h8, hb⟩ := hr.all u HU.out un HUN.out z HZ.out; have HB2 := Lib.hid (btr HB1.out hb HB1.out.size); have est1 := str_of (H81.out.below hb (Nat.le_refl _)) k1; have est2 := str_of h8 k2; simp only [HUN.out] at est1 est2; have hs := same_any l m l.length m.length rfl rfl LA MA cl cm _ w2 (HL.out.later HB2.out) (HM.out.later HB2.out) HB2.out.size (by omega); rw [HSB.out] at hs; have HS1 := Lib.hid hs; clear hr h8 hb HJ2 hs)
    | (go_at_call 19; (with_reducible refine HS1.out.mono ?_); rintro e w3 ⟨rfl, hb⟩; have HB3 := Lib.hid (btr HB2.out hb HB2.out.size); have hs := refSame_any l m l.length m.length rfl rfl LA MA cl cm _ w3 (HL.out.later HB3.out) (HM.out.later HB3.out) HB3.out.size (by omega); rw [HSB.out] at hs; have HS2 := Lib.hid hs; clear hb HS1 hs)
    | (go_at_call 11; (with_reducible refine HS2.out.mono ?_); rintro e w4 ⟨rfl, hb⟩; have HB4 := Lib.hid (btr HB3.out hb HB3.out.size); have hs := same_any l l l.length l.length rfl rfl LA LA cl cl _ w4 (HL.out.later HB4.out) (HL.out.later HB4.out) HB4.out.size (by omega); rw [same_true rfl] at hs; have HS3 := Lib.hid hs; clear hb HS2 hs)
    | (go_at_call 19; (with_reducible refine HS3.out.mono ?_); rintro e w5 ⟨rfl, hb⟩; have HBS := Lib.hid (btr HB4.out hb HB4.out.size); clear hb HS3))
  clear est1 est2
  go_loopw [72] (fun i wr => ∃ q : Nat, q ≤ l.length ∧ i = .int .i64 (q : Int) ∧ Below w.heap.size w wr) (fun i _ => l.length - (intOf i).toNat)
  case atStart => exact ⟨0, Nat.zero_le _, rfl, HBS.out⟩
  case round =>
    obtain ⟨q, hq, rfl, hB⟩ := hrel
    rename World => wo
    by_cases hlt : q < l.length
    · obtain ⟨b1, off, rfl, hb1, ca, cb⟩ := HL.out.cells q hlt
      have hmem := List.getElem_mem hlt
      obtain ⟨⟨xc, xA, xb, xk⟩, hx⟩ : ∃ x, l[q] = x := ⟨_, rfl⟩
      rw [hx] at ca cb hmem
      simp only at ca cb
      obtain ⟨xn, hxn⟩ : ∃ xn, xb.length = xn := ⟨_, rfl⟩
      have HXN := Lib.hid hxn
      rw [hxn] at cb
      have HMEM := Lib.hid hmem
      have HB := Lib.hid hB
      have c1 := (hB.cell (p := ⟨b1, off + q * 2, none⟩) hb1).trans ca
      have c2 := (hB.cell (p := ⟨b1, off + q * 2 + 1, none⟩) hb1).trans cb
      have hbr1 := Nat.lt_of_lt_of_le hb1 hB.size
      have hheld := (HL.out.later hB).held _ hmem
      have est0 := str_bytes hheld xk
      simp only [hxn] at est0
      have hva := value_any ⟨xc, xA, xb, xk⟩ w.heap.size wo hheld hB.size
      simp only [hxn] at hva
      have HVA := Lib.hid hva
      have HHE := Lib.hid hheld
      have hra := fun (W : World) (hb : Below wo.heap.size wo W) => refValue_any ⟨xc, xA, xb, xk⟩ w.heap.size W (hheld.below (hb.mono hB.size) (Nat.le_refl _)) (Nat.le_trans hB.size hb.size)
      simp only [hxn] at hra
      have HRA := Lib.hid hra
      have cw := cb
      obtain ⟨u, hu⟩ : ∃ u, (valB (PV.is ⟨xc, xA, xb, xk⟩)).getD [] = u := ⟨_, rfl⟩
      obtain ⟨un, hun⟩ : ∃ un, u.length = un := ⟨_, rfl⟩
      obtain ⟨vb, hvb⟩ : ∃ vb, (valB (PV.is ⟨xc, xA, xb, xk⟩)).isSome = vb := ⟨_, rfl⟩
      have hun6 : un ≤ 65535 := by rw [← hun, ← hu]; exact val_small _
      have HU := Lib.hid hu
      have HUN := Lib.hid hun
      have HVB := Lib.hid hvb
      clear hB hmem hxn ca hva hra hheld hu hun hvb hx
      obtain ⟨S0, hS0⟩ : ∃ S0 : ByteArray, (⟨xb.toArray⟩ : ByteArray) = S0 := ⟨_, rfl⟩
      rw [hS0] at est0
      have HS0 := Lib.hid hS0
      clear hS0 cb
      go_wp2_with (first
        | (go_at_call 20; refine HVA.out.mono ?_; intro e w2 hr; obtain ⟨X, cx, rfl, hown, h8, hb⟩ := ValR.all hr u HU.out un HUN.out vb HVB.out; have HB2 := Lib.hid hb; have HROW := Lib.hid hown; have H8 := Lib.hid h8; have c3 := (hb.cell (p := ⟨b1, off + q * 2, none⟩) hbr1).trans c1; have c4 := (hb.cell (p := ⟨b1, off + q * 2 + 1, none⟩) hbr1).trans c2; have hbr2 := Nat.lt_of_lt_of_le hbr1 hb.size; have HRV := Lib.hid (HRA.out w2 hb); clear hr hown h8 hb HVA)
        | (go_at_call 21; refine HRV.out.mono ?_; intro e w3 hr; obtain ⟨Y, cy, rfl, _, h8, hb⟩ := ValR.all hr u HU.out un HUN.out vb HVB.out; have HB3 := Lib.hid hb; have est1 := str_of (H8.out.below hb (Nat.le_refl _)) cx; have est2 := str_of h8 cy; simp only [HUN.out] at est1 est2; clear hr h8 hb HRV))
      obtain ⟨G, hG, hGw⟩ : ∃ G : Nat, (∀ a, X = some a → a.block = G) ∧ wo.heap.size ≤ G := by
        cases X with
        | none => exact ⟨wo.heap.size, (fun a e => by cases e), Nat.le_refl _⟩
        | some a => exact ⟨a.block, (fun b e => by injection e with e; rw [e]), (HROW.out.lt a.block rfl).1⟩
      have HG := Lib.hid hG
      clear est1 est2 hG est0
      go_loopw [109] (fun i wj => ∃ (q : Nat) (ys : List UInt8), q ≤ un ∧ i = .int .i64 (q : Int) ∧ ys.length = un ∧ wj.ownsRow wo.heap.size 5 1 (.slice X un cx) un (Go.Proofs.Ytkecldmjjhhlgaa.Oct.vals ys) ∧ EyeStep G w3 wj) (fun i _ => un - (intOf i).toNat)
      case atStart => exact ⟨0, u, Nat.zero_le _, rfl, HUN.out, (ownsRow_below HROW.out HB3.out), EyeStep.refl _ _⟩
      case round =>
        obtain ⟨qb, ys, hqb, rfl, hyl, hrow, hE⟩ := hrel
        by_cases hltb : qb < un
        · obtain ⟨g, cg, hX, hgb, hgl, hgc, hgcell, hgf⟩ := own_form hyl (by omega) hrow
          rw [hyl] at hX
          have hcq := hgcell qb (by omega)
          rw [Nat.zero_add] at hcq
          have hfq := hgf qb
          obtain ⟨y, hy⟩ : ∃ y, ys[qb]'(by omega) = y := ⟨_, rfl⟩
          rw [hy] at hcq
          have hub := UInt8.toNat_lt y
          obtain ⟨y2, hy2⟩ : ∃ y2 : UInt8, y + 1 = y2 := ⟨_, rfl⟩
          have ey : ((y.toNat : Int) + 1) % 256 = (y2.toNat : Int) := by
            rw [← hy2, UInt8.toNat_add]
            simp
          have hgG : G = g := by
            injection hX with h1 _ _
            exact (HG.out _ h1).symm
          have HXX := Lib.hid hX
          rw [hX] at hrow ⊢
          have HST := Lib.hid (own_store hrow qb y2)
          have HYL := Lib.hid (show (ys.set qb y2).length = un by rw [List.length_set]; exact hyl)
          have HES := Lib.hid (show EyeStep G w3 (wr.setCell ⟨g, qb, none⟩ (.int .u8 (y2.toNat : Int))) by rw [hgG] at hE ⊢; exact hE.store)
          clear hgcell hgf hy hy2 hrow hyl hX hE hgG
          go_wp2
          refine ⟨⟨qb + 1, ys.set qb y2, by omega, by go_num, HYL.out, HST.out, HES.out⟩, ?_⟩
          simp [intOf]
          omega
        · obtain rfl : qb = un := by omega
          have HE := Lib.hid hE
          have HBJ := Lib.hid (below_eye (btr (btr HB.out HB2.out HB.out.size) HB3.out (btr HB.out HB2.out HB.out.size).size) (Nat.le_trans HB.out.size hGw) (btr (btr HB.out HB2.out HB.out.size) HB3.out (btr HB.out HB2.out HB.out.size).size).size hE)
          have est3 := str_bytes ((HL.out.later HBJ.out).held _ (HMEM.out)) xk
          have c9 := (HBJ.out.cell (p := ⟨b1, off + q * 2 + 1, none⟩) hb1).trans cw
          have hb9 := Nat.lt_of_lt_of_le hb1 HBJ.out.size
          simp only [HXN.out] at est3
          rw [HS0.out] at est3
          clear hrow hyl hE hqb hltb
          go_wp2
          refine ⟨⟨q + 1, by omega, by go_num, HBJ.out⟩, ?_⟩
          simp [intOf]
          omega
    · have hBx := hB
      have HBL := Lib.hid hB
      clear hB hBx
      obtain rfl : q = l.length := by omega
      have hz9 := below_new wo (.cells #[] 5)
      have hbz := btr HBL.out hz9 HBL.out.size
      obtain ⟨O, on, oc, w3, ha, hon, hown, hbw⟩ := app_row (wo.alloc (.cells #[] 5)) wo.heap.size (some ⟨wo.heap.size, 0, none⟩) 0 0 [] rfl (own_nil0 wo) w.heap.size A c pn p HPN.out.symm (.inl (HP.out.below hbz (Nat.le_refl _))) (by have := HPN.out; simp; omega) hz9.size
      rw [List.nil_append] at hon hown
      rw [HPN.out] at hon
      subst hon
      have HB3 := Lib.hid (hbw w HBL.out.size hbz)
      have hwo3 := (hbw wo (Nat.le_refl _) hz9).size
      have HROW := Lib.hid hown
      have h8o := (own_h8 HPN.out.symm hown).1
      have HPU := Lib.hid (push_any p on HPN.out.symm (by omega) O oc w3.heap.size w3 (.inl h8o) (Nat.le_refl _))
      obtain ⟨pc, hpc⟩ : ∃ x, pcB p = x := ⟨_, rfl⟩
      obtain ⟨yv, hyv⟩ : ∃ x, puB p = x := ⟨_, rfl⟩
      obtain ⟨yn, hyn⟩ : ∃ x, yv.length = x := ⟨_, rfl⟩
      obtain ⟨zz, hzz⟩ : ∃ x, pzB p = x := ⟨_, rfl⟩
      have HPC := Lib.hid hpc
      have HYV := Lib.hid hyv
      have HYN := Lib.hid hyn
      have HZZ := Lib.hid hzz
      clear hown hbw h8o hpc hyv hyn hzz hbz hz9 hlt hq
      go_wp2_with (first
        | (at_builtin; refine wpList_append_run (.tmp 128) (.tmp 129) 22 rfl (by rfl) _ _ rfl rfl _ _ ha ?_; clear ha)
        | (go_at_call 22; refine HPU.out.mono ?_; intro e w4 hr; obtain ⟨X, cx, rfl, h8, hxb, hb⟩ := PushR.all hr pc HPC.out yv HYV.out yn HYN.out zz HZZ.out; have HB4 := Lib.hid hb; have H8X := Lib.hid h8; have HXB := Lib.hid hxb; have HBW4 := Lib.hid (btr (btr HB3.out hb HB3.out.size) (below_new w4 (.cells #[.int .u8 (pc.toNat : Int), .slice X yn cx] 32)) (btr HB3.out hb HB3.out.size).size); have HRP := Lib.hid (refPush_any p on HPN.out.symm (by omega) A c w.heap.size (w4.alloc (.cells #[.int .u8 (pc.toNat : Int), .slice X yn cx] 32)) (.inl (HP.out.below HBW4.out (Nat.le_refl _))) HBW4.out.size); clear hr h8 hxb hb HPU)
        | (go_at_call 23; refine HRP.out.mono ?_; intro e w5 hr; obtain ⟨Y, cy, rfl, h8, hyb, hb⟩ := PushR.all hr pc HPC.out yv HYV.out yn HYN.out zz HZZ.out; have HB5 := Lib.hid hb; have H8Y := Lib.hid h8; have HYB := Lib.hid hyb; have HBW := Lib.hid (btr (btr HBW4.out hb HBW4.out.size) (below_new w5 (.cells #[.int .u8 (pc.toNat : Int), .slice Y yn cy] 32)) (btr HBW4.out hb HBW4.out.size).size); clear hr h8 hyb hb HRP))
      obtain ⟨G, hG, hGw, hGn⟩ : ∃ G : Nat, (∀ a, O = some a → a.block = G) ∧ wo.heap.size ≤ G ∧ (∀ k, w3.heap.size ≤ k → k < (w5.alloc (.cells #[.int .u8 (pc.toNat : Int), .slice Y yn cy] 32)).heap.size → k ≠ G) := by
        have hs1 := HB4.out.size
        have hs2 := HB5.out.size
        rw [World.size_alloc] at hs2
        have hs3 : (w5.alloc (.cells #[.int .u8 (pc.toNat : Int), .slice Y yn cy] 32)).heap.size = w5.heap.size + 1 := World.size_alloc ..
        cases O with
        | none => exact ⟨(w5.alloc (.cells #[.int .u8 (pc.toNat : Int), .slice Y yn cy] 32)).heap.size, (fun a e => by cases e), by omega, fun k h1 h2 => by omega⟩
        | some a =>
          have q := HROW.out.lt a.block rfl
          exact ⟨a.block, (fun b e => by injection e with e; rw [e]), q.1, fun k h1 h2 => by omega⟩
      have HG := Lib.hid hG
      have HGN := Lib.hid hGn
      have HRW := Lib.hid (ownsRow_below HROW.out (btr (btr (btr HB4.out (below_new w4 (.cells #[.int .u8 (pc.toNat : Int), .slice X yn cx] 32)) HB4.out.size) HB5.out (btr HB4.out (below_new w4 (.cells #[.int .u8 (pc.toNat : Int), .slice X yn cx] 32)) HB4.out.size).size) (below_new w5 (.cells #[.int .u8 (pc.toNat : Int), .slice Y yn cy] 32)) (btr (btr HB4.out (below_new w4 (.cells #[.int .u8 (pc.toNat : Int), .slice X yn cx] 32)) HB4.out.size) HB5.out (btr HB4.out (below_new w4 (.cells #[.int .u8 (pc.toNat : Int), .slice X yn cx] 32)) HB4.out.size).size).size))
      clear hG hGn
      go_loopw [143] (fun i wj => ∃ (q : Nat) (ys : List UInt8), q ≤ on ∧ i = .int .i64 (q : Int) ∧ ys.length = on ∧ wj.ownsRow wo.heap.size 5 1 (.slice O on oc) on (Go.Proofs.Ytkecldmjjhhlgaa.Oct.vals ys) ∧ EyeStep G (w5.alloc (.cells #[.int .u8 (pc.toNat : Int), .slice Y yn cy] 32)) wj) (fun i _ => on - (intOf i).toNat)
      case atStart => exact ⟨0, p, Nat.zero_le _, rfl, HPN.out, HRW.out, EyeStep.refl _ _⟩
      case round =>
        obtain ⟨qb, ys, hqb, rfl, hyl, hrow, hE⟩ := hrel
        by_cases hltb : qb < on
        · obtain ⟨g, cg, hX, hgb, hgl, hgc, hgcell, hgf⟩ := own_form hyl (by omega) hrow
          rw [hyl] at hX
          have hcq := hgcell qb (by omega)
          rw [Nat.zero_add] at hcq
          have hfq := hgf qb
          obtain ⟨y, hy⟩ : ∃ y, ys[qb]'(by omega) = y := ⟨_, rfl⟩
          rw [hy] at hcq
          have hub := UInt8.toNat_lt y
          obtain ⟨y2, hy2⟩ : ∃ y2 : UInt8, y + 1 = y2 := ⟨_, rfl⟩
          have ey : ((y.toNat : Int) + 1) % 256 = (y2.toNat : Int) := by
            rw [← hy2, UInt8.toNat_add]
            simp
          have hgG : G = g := by
            injection hX with h1 _ _
            exact (HG.out _ h1).symm
          have HXX := Lib.hid hX
          rw [hX] at hrow ⊢
          have HST := Lib.hid (own_store hrow qb y2)
          have HYL := Lib.hid (show (ys.set qb y2).length = on by rw [List.length_set]; exact hyl)
          have HES := Lib.hid (show EyeStep G (w5.alloc (.cells #[.int .u8 (pc.toNat : Int), .slice Y yn cy] 32)) (wr.setCell ⟨g, qb, none⟩ (.int .u8 (y2.toNat : Int))) by rw [hgG] at hE ⊢; exact hE.store)
          clear hgcell hgf hy hy2 hrow hyl hX hE hgG
          go_wp2
          refine ⟨⟨qb + 1, ys.set qb y2, by omega, by go_num, HYL.out, HST.out, HES.out⟩, ?_⟩
          simp [intOf]
          omega
        · obtain rfl : qb = on := by omega
          have HE := Lib.hid hE
          have h3G := HGN.out
          have hs3 : w5.heap.size + 1 = (w5.alloc (.cells #[.int .u8 (pc.toNat : Int), .slice Y yn cy] 32)).heap.size := (World.size_alloc ..).symm
          have hs4 := HB5.out.size
          rw [World.size_alloc] at hs4
          have hs5 := HB4.out.size
          have hx19 := (hE.keep w4.heap.size (by omega) (h3G _ hs5 (by omega))).trans (((below_new w5 (.cells #[.int .u8 (pc.toNat : Int), .slice Y yn cy] 32)).block w4.heap.size (by omega)).trans ((HB5.out.block w4.heap.size (by rw [World.size_alloc]; omega)).trans (World.alloc_heap_new w4 (.cells #[.int .u8 (pc.toNat : Int), .slice X yn cx] 32))))
          have hx21 := (hE.keep w5.heap.size (by omega) (h3G _ (by omega) (by omega))).trans (World.alloc_heap_new w5 (.cells #[.int .u8 (pc.toNat : Int), .slice Y yn cy] 32))
          have h8x := hE.holds (n₀ := w4.heap.size) (by omega) (H8X.out.below (btr (btr (below_new w4 (.cells #[.int .u8 (pc.toNat : Int), .slice X yn cx] 32)) HB5.out (below_new w4 (.cells #[.int .u8 (pc.toNat : Int), .slice X yn cx] 32)).size) (below_new w5 (.cells #[.int .u8 (pc.toNat : Int), .slice Y yn cy] 32)) (btr (below_new w4 (.cells #[.int .u8 (pc.toNat : Int), .slice X yn cx] 32)) HB5.out (below_new w4 (.cells #[.int .u8 (pc.toNat : Int), .slice X yn cx] 32)).size).size) (Nat.le_refl _)) (fun a ea => h3G _ (HXB.out a ea) (by have := holds_lt H8X.out a ea; omega))
          have h8y := hE.holds (n₀ := w5.heap.size) (by omega) (H8Y.out.below (below_new w5 (.cells #[.int .u8 (pc.toNat : Int), .slice Y yn cy] 32)) (Nat.le_refl _)) (fun a ea => h3G _ (by have := HYB.out a ea; rw [World.size_alloc] at this; omega) (by have := holds_lt H8Y.out a ea; omega))
          have HBJ := Lib.hid (below_eye HBW.out (Nat.le_trans HBL.out.size hGw) HBW.out.size hE)
          obtain ⟨e0, e1, _, _⟩ := two_cells hx19
          obtain ⟨f0, f1, _, _⟩ := two_cells hx21
          have hl19 : w4.heap.size < wr.heap.size := Nat.lt_of_lt_of_le (by omega) hE.size
          have hl21 : w5.heap.size < wr.heap.size := Nat.lt_of_lt_of_le (by omega) hE.size
          have hsz : (wr.alloc (.cells #[.int .u8 (pc.toNat : Int), .slice X yn cx] 32)).heap.size = wr.heap.size + 1 := World.size_alloc ..
          have hb9 := btr (below_new wr (.cells #[.int .u8 (pc.toNat : Int), .slice X yn cx] 32)) (below_new (wr.alloc (.cells #[.int .u8 (pc.toNat : Int), .slice X yn cx] 32)) (.cells #[.int .u8 (pc.toNat : Int), .slice Y yn cy] 32)) (below_new wr (.cells #[.int .u8 (pc.toNat : Int), .slice X yn cx] 32)).size
          have hq1 : PvsAt ((wr.alloc (.cells #[.int .u8 (pc.toNat : Int), .slice X yn cx] 32)).alloc (.cells #[.int .u8 (pc.toNat : Int), .slice Y yn cy] 32)).heap.size ((wr.alloc (.cells #[.int .u8 (pc.toNat : Int), .slice X yn cx] 32)).alloc (.cells #[.int .u8 (pc.toNat : Int), .slice Y yn cy] 32)) (some ⟨wr.heap.size, 0, none⟩) [⟨pc, X, yv, cx⟩] := pvs_one (by rw [(below_new (wr.alloc (.cells #[.int .u8 (pc.toNat : Int), .slice X yn cx] 32)) (.cells #[.int .u8 (pc.toNat : Int), .slice Y yn cy] 32)).block wr.heap.size (by omega), ← HYN.out]; exact World.alloc_heap_new wr _) (.inl ((h8x.more (by omega) |>.below hb9 (Nat.le_refl _)).more hb9.size))
          have hq2 : PvsAt ((wr.alloc (.cells #[.int .u8 (pc.toNat : Int), .slice X yn cx] 32)).alloc (.cells #[.int .u8 (pc.toNat : Int), .slice Y yn cy] 32)).heap.size ((wr.alloc (.cells #[.int .u8 (pc.toNat : Int), .slice X yn cx] 32)).alloc (.cells #[.int .u8 (pc.toNat : Int), .slice Y yn cy] 32)) (some ⟨wr.heap.size + 1, 0, none⟩) [⟨pc, Y, yv, cy⟩] := by
            have q := pvs_one (W := (wr.alloc (.cells #[.int .u8 (pc.toNat : Int), .slice X yn cx] 32)).alloc (.cells #[.int .u8 (pc.toNat : Int), .slice Y yn cy] 32)) (g := (wr.alloc (.cells #[.int .u8 (pc.toNat : Int), .slice X yn cx] 32)).heap.size) (p := ⟨pc, Y, yv, cy⟩) (by rw [← HYN.out]; exact World.alloc_heap_new _ _) (.inl ((h8y.more (by omega) |>.below hb9 (Nat.le_refl _)).more hb9.size))
            rwa [hsz] at q
          have hrs := refSame_any [⟨pc, X, yv, cx⟩] [⟨pc, Y, yv, cy⟩] 1 1 rfl rfl _ _ 1 1 _ _ hq1 hq2 (Nat.le_refl _) (by simp)
          rw [same_true (r := [⟨pc, X, yv, cx⟩]) (m := [⟨pc, Y, yv, cy⟩]) rfl] at hrs
          have HRS := Lib.hid hrs
          have HB9 := Lib.hid (btr HBJ.out hb9 HBJ.out.size)
          clear hx19 hx21 h8x h8y hsz hq1 hq2 hrs hb9 hrow hyl hE hqb h3G hs3 hs4 hs5
          go_wp2_with (go_at_call 11; (with_reducible refine HRS.out.mono ?_); rintro e w9 ⟨rfl, hb⟩)
          go_ret
          exact ⟨rfl, btr HB9.out hb HB9.out.size⟩
end Go.Proofs.Ytkecldmjjhhlgaa.Oct
