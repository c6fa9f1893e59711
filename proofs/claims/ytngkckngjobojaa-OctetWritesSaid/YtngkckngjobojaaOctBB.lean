/- OctetWrites is true at every input. No condition. -/
import Derived.Test.YtngkckngjobojaaOctAA
import Derived.Test.YtngkckngjobojaaOctOpen
import Derived.Test.YtngkckngjobojaaReg3
import Derived.SizedLaws
namespace Go.Proofs.Ytngkckngjobojaa.Oct
open Go.Proofs.Ytngkckngjobojaa Go.ChangeShapes Go.WideShapes Go.ChangeAt Go.RowKit Go.Shelf
def wrotB (l : List OpD) : List UInt8 := l.flatMap opB
theorem wrotB_snoc (l : List OpD) (q : Nat) (h : q < l.length) : wrotB (l.take (q + 1)) = wrotB (l.take q) ++ opB l[q] := by
  rw [List.take_succ_eq_append_getElem h]
  unfold wrotB
  rw [List.flatMap_append]
  simp
theorem wrotB_le (l : List OpD) : (wrotB l).length ≤ 9 * l.length + total l := by
  induction l with
  | nil => simp [wrotB, total]
  | cons o l ih =>
    have h := opB_le o
    have e1 : wrotB (o :: l) = opB o ++ wrotB l := by simp [wrotB]
    have e2 : total (o :: l) = o.b.length + total l := by simp [total]
    rw [e1, e2, List.length_append, List.length_cons]
    omega
theorem total_take (l : List OpD) (q : Nat) : total (l.take q) ≤ total l := by
  have : total l = total (l.take q) + total (l.drop q) := by
    conv => lhs; rw [← List.take_append_drop q l]
    unfold total
    rw [List.map_append, List.sum_append]
  omega
theorem total_each (l : List OpD) (q : Nat) (h : q < l.length) : l[q].b.length ≤ total l := by
  have h1 := total_snoc l q h
  have h2 := total_take l (q + 1)
  omega
theorem want_apart {N : Nat} {w1 w2 : World} {v v' : Value} {xs : List UInt8} (hp1 : PenAt N w1 N xs) (hrow2 : rowOf w2 N = rowOf w1 N) (h1 : ∀ k, v.ownBlock = some k → k ≠ N ∧ rowOf w1 N ≠ some k) (hv : v'.ownBlock = v.ownBlock ∨ v'.ownBlock = some w1.heap.size) : ∀ k, v'.ownBlock = some k → k ≠ N ∧ rowOf w2 N ≠ some k := by
  intro k hk
  rw [hrow2]
  rcases hv with hv | hv
  · exact h1 k (hv ▸ hk)
  · rw [hv] at hk
    injection hk with hk
    subst hk
    refine ⟨fun e => ?_, fun e => ?_⟩
    · have := hp1.lt
      omega
    · have := (rowOf_lt hp1 e).2.1
      omega
set_option maxRecDepth 100000 in
set_option maxHeartbeats 8000000 in
theorem writes_walk (l : List OpD) (A : Option Addr) (cap n : Nat) (hnn : n < 18446744073709551616) (w : World) (h : OpsAt w.heap.size w A l) (hl : l.length ≤ 9223372036854775807) :
    Calls Try.prog 3 #[.slice A l.length cap, .int .u64 (n : Int)] w fun e w' => e = .returned (.bool true) ∧ Below w.heap.size w w' := by
  have HGR := Lib.hid (great_any l A cap w.heap.size w h hl)
  cases hg : greatB l with
  | true =>
    rw [hg] at HGR
    clear h
    go_enter Try.func3, Try.ntmps3
    go_wp2_with (go_at_call 9; refine HGR.out.mono ?_; rintro e w' ⟨rfl, rfl⟩)
    go_ret
    exact ⟨rfl, Below.refl _ _⟩
  | false =>
    rw [hg] at HGR
    have hl100 : l.length ≤ 100 := by
      unfold greatB at hg
      simp at hg
      omega
    have htot : total l ≤ 100000 := by
      unfold greatB at hg
      simp at hg
      omega
    have H := Lib.hid h
    clear h hg
    go_enter Try.func3, Try.ntmps3
    go_wp2_with (go_at_call 9; refine HGR.out.mono ?_; rintro e w' ⟨rfl, rfl⟩)
    go_loopw [6, 18] (fun v i wr => ∃ q : Nat, q ≤ l.length ∧ i = .int .i64 (q : Int) ∧ wr.ownsRow w.heap.size 5 1 v (wrotB (l.take q)).length (vals (wrotB (l.take q))) ∧ PenAt w.heap.size wr w.heap.size (wrotB (l.take q)) ∧ (∀ k, v.ownBlock = some k → k ≠ w.heap.size ∧ rowOf wr w.heap.size ≠ some k) ∧ Below w.heap.size w wr) (fun _ i _ => l.length - (intOf i).toNat)
    case atStart => exact ⟨0, Nat.zero_le _, rfl, World.ownsRow_nil _ _ _ _, pen_new w, (fun k e => by cases e), (Below.refl _ _).alloc (Nat.le_refl _) _⟩
    case round =>
      obtain ⟨q, hq, rfl, hrow, hpen, hap, hB⟩ := hrel
      obtain ⟨Yv, cv, rfl, hyv, _, _, _⟩ := own_open hrow
      by_cases hlt : q < l.length
      · obtain ⟨b0, off, rfl, hb, c0, c1, c2, c3⟩ := H.out.cells q hlt
        have hok := H.out.ok _ (List.getElem_mem hlt)
        have hle := total_each l q hlt
        have hwl := wrotB_le (l.take q)
        have htt := total_take l q
        have htl : (l.take q).length ≤ 100 := by rw [List.length_take]; omega
        have HSN := Lib.hid (wrotB_snoc l q hlt)
        obtain ⟨o, ho⟩ : ∃ o, l[q] = o := ⟨_, rfl⟩
        rw [ho] at c0 c1 c2 c3 hok hle HSN
        obtain ⟨V, hV⟩ : ∃ V, wrotB (l.take q) = V := ⟨_, rfl⟩
        rw [hV] at hrow hpen hwl HSN hap ⊢
        clear hyv
        have hbl := opB_le o
        have hVl : V.length ≤ 200000 := by omega
        have hol : o.b.length ≤ 100000 := by omega
        have hopl : (opB o).length ≤ 200000 := by omega
        have hcell := fun (k : Nat) => hB.cell (p := ⟨b0, k, none⟩) hb
        have d0 := (hcell _).trans c0
        have d1 := (hcell _).trans c1
        have d2 := (hcell _).trans c2
        have d3 := (hcell _).trans c3
        have HWR := Lib.hid (write_any o w.heap.size w.heap.size w.heap.size V wr hok.n (hok.held.below hB (Nat.le_refl _)) (Nat.le_refl _) hB.size hpen (by omega) (by omega))
        have HB := Lib.hid hB
        have HROW := Lib.hid hrow
        have HAP := Lib.hid hap
        have HPEN := Lib.hid hpen
        have hsz : w.heap.size < wr.heap.size := hpen.lt
        clear c0 c1 c2 c3 hcell hok hle hwl htt htl hbl hol hB hrow hap hpen hV hb ho
        go_wp2_with (first
          | (go_at_call 10; refine HWR.out.mono ?_; rintro e w1 ⟨X, cx, rfl, hx, hp1, hs1⟩; have hn1 := hs1.size; have HX := Lib.hid hx; have HP1 := Lib.hid hp1; have HR1 := Lib.hid (ownsRow_same HROW.out (w' := w1) fun k hk => (hs1.keep k (HROW.out.lt k hk).2 (HAP.out k hk).1 (HAP.out k hk).2).1); have HAP1 := Lib.hid (fun k hk => (⟨(HAP.out k hk).1, (hs1.keep k (HROW.out.lt k hk).2 (HAP.out k hk).1 (HAP.out k hk).2).2⟩ : k ≠ w.heap.size ∧ rowOf w1 w.heap.size ≠ some k)); have HB1 := Lib.hid (HB.out.trans (hs1.below HPEN.out (Nat.le_of_lt hsz))))
          | (at_builtin; refine wpList_append_in rfl (.tmp 33) (.tmp 34) rfl w.heap.size w1.heap.size (.slice Yv V.length cv) V (opB o) rfl HR1.out X cx rfl HX.out (by omega) (by omega) ?_; intro v' w2 hown' hgr hv; obtain ⟨hp2, hrow2⟩ := HP1.out.grown hgr HAP1.out; have HAP2 := Lib.hid (want_apart HP1.out hrow2 HAP1.out hv); have HP2 := Lib.hid hp2; have HB2 := Lib.hid (HB1.out.grown hgr (by omega) (own_row_ge HR1.out)); have HR2 := Lib.hid hown'; obtain ⟨Y, cy, hYe, _, _, _, _⟩ := own_open hown'; subst hYe; clear hown' hgr hv hp2 hrow2)
          | (go_at_call 11; refine (penLen_any w.heap.size w.heap.size (V ++ opB o) _ HP2.out).mono ?_; rintro e w' ⟨rfl, rfl⟩))
        refine ⟨⟨q + 1, by omega, by go_num, by rw [HSN.out]; simpa only [List.length_append] using HR2.out, by rw [HSN.out]; exact HP2.out, by simpa only [List.length_append] using HAP2.out, HB2.out⟩, ?_⟩
        simp [intOf]
        omega
      · obtain rfl : q = l.length := by omega
        rw [List.take_length] at hrow hpen hyv
        rw [List.take_length]
        have hwl := wrotB_le l
        generalize wrotB l = V at hrow hpen hyv hwl ⊢
        have hVl : V.length ≤ 200000 := by omega
        rename World => wz
        have HB := Lib.hid hB
        have HROW := Lib.hid hrow
        have HAP := Lib.hid hap
        have HPEN := Lib.hid hpen
        have HYV := Lib.hid hyv
        have hsz : w.heap.size < wz.heap.size := hpen.lt
        clear hrow hpen hyv hwl hap hB hlt hq
        go_wp2_with (first
          | (go_at_call 12; refine (penAll_any w.heap.size w.heap.size V _ HPEN.out (by omega)).mono ?_; rintro e w3 ⟨vz, rfl, hr3, hb3⟩; obtain ⟨Z, cz, rfl, hz, _, _, haz⟩ := own_open hr3; have est1 := str_of hz cz; have est2 := str_of (HYV.out.later hb3) cv; have HB3 := Lib.hid hb3; have HR3 := Lib.hid hr3; have HAZ := Lib.hid haz; clear hb3 hr3 haz hz))
        obtain ⟨G, hG, hGw⟩ : ∃ G : Nat, (∀ a, Z = some a → a.block = G) ∧ wz.heap.size ≤ G := by
          cases Z with
          | none => exact ⟨wz.heap.size, (fun a e => by cases e), Nat.le_refl _⟩
          | some a => exact ⟨a.block, (fun b e => by injection e with e; rw [e]), (HAZ.out a rfl).1⟩
        have HG := Lib.hid hG
        clear est1 est2 hG
        go_loopw [49] (fun i wr => ∃ (q : Nat) (ys : List UInt8), q ≤ V.length ∧ i = .int .i64 (q : Int) ∧ ys.length = V.length ∧ wr.ownsRow wz.heap.size 5 1 (.slice Z V.length cz) V.length (Go.Proofs.Ytngkckngjobojaa.Oct.vals ys) ∧ EyeStep G w3 wr) (fun i _ => V.length - (intOf i).toNat)
        case atStart => exact ⟨0, V, Nat.zero_le _, rfl, rfl, HR3.out, EyeStep.refl _ _⟩
        case round =>
          obtain ⟨q, ys, hq, rfl, hyl, hrow, hE⟩ := hrel
          by_cases hlt : q < V.length
          · obtain ⟨g, cg, hX, hgb, hgl, hgc, hgcell, hgf⟩ := own_form hyl (by omega) hrow
            rw [hyl] at hX
            have hcq := hgcell q (by omega)
            rw [Nat.zero_add] at hcq
            have hfq := hgf q
            obtain ⟨y, hy⟩ : ∃ y, ys[q]'(by omega) = y := ⟨_, rfl⟩
            rw [hy] at hcq
            have hub := UInt8.toNat_lt y
            obtain ⟨y2, hy2⟩ : ∃ y2 : UInt8, y + 1 = y2 := ⟨_, rfl⟩
            have ey : ((y.toNat : Int) + 1) % 256 = (y2.toNat : Int) := by
              rw [← hy2, UInt8.toNat_add]
              simp
            have hgG : G = g := by
              injection hX with h1 _ _
              exact (HG.out _ h1).symm
            have HX := Lib.hid hX
            rw [hX] at hrow ⊢
            have HS := Lib.hid (own_store hrow q y2)
            have HL := Lib.hid (show (ys.set q y2).length = V.length by rw [List.length_set]; exact hyl)
            have HE := Lib.hid (show EyeStep G w3 (wr.setCell ⟨g, q, none⟩ (.int .u8 (y2.toNat : Int))) by rw [hgG] at hE ⊢; exact hE.store)
            clear hgcell hgf hy hy2 hrow hyl hX hE hgG
            go_wp2
            refine ⟨⟨q + 1, ys.set q y2, by omega, by go_num, HL.out, HS.out, HE.out⟩, ?_⟩
            simp [intOf]
            omega
          · have d1 : (V.length : Int) ≤ (q : Int) := by omega
            have hga := pen_apart HPEN.out HB3.out G hGw
            have HP5 := Lib.hid ((HPEN.out.below HB3.out).eye hE hga.1 hga.2)
            have HYW := Lib.hid ((hE.holds (Nat.le_refl _) (HYV.out.later HB3.out) (fun a e => by have := (HROW.out.lt a.block (by rw [e]; rfl)).2; omega)).more hE.size)
            have hn3 := HB3.out.size
            have hBW := below_then_eye (HB.out.trans (HB3.out.mono HB.out.size)) (Nat.le_trans HB.out.size hGw) hE
            have HBW := Lib.hid hBW
            clear hrow hyl hlt hq hE hga hBW
            go_wp2
            refine wp_region_phased 77 rfl (fun _ _ W W' => Below W.heap.size W W') (fun _ W' => Below wr.heap.size wr W') [.is (.bool true), .is (.bool true), ⟨0, 1000, fun v W => ∃ B cb, v = .slice B V.length cb ∧ Holds8 W.heap.size W B V, fun k d v W W' _ _ ⟨B, cb, e, h⟩ hr => ⟨B, cb, e, h.later hr⟩⟩, .is (.string ⟨V.toArray⟩), .is (.slice Yv V.length cv), .is (.string ⟨V.toArray⟩), .is (.bool true), .is (.bool true), .is (.bool true), .is (.int .u64 (n : Int)), .is (.int .i64 (cmpL n : Int)), .is (.int .u64 (n : Int)), ⟨0, 1000, fun v W => ∃ B cb, v = .slice B (cmpL n) cb, fun k d v W W' _ _ h hr => h⟩, .is (.int .i64 (cmpL n : Int)), .is (.bool true), .is (.bool true), .is (.bool true)] [] [0, 0, 0, 0, 0, 0, 0, 0, 0, 0, 0, 0, 0, 0, 0, 0, 0] [0, 0, 0, 0, 0, 0, 0, 0, 0, 0, 0, 0, 0, 0, 0, 0, 0] (by kernel_rfl) (by kernel_rfl) (by kernel_rfl) (fun _ _ _ => Below.refl _ _) ((Below.refl _ _).drew) ⟨?ob0, ?ob1, ?ob2, ?ob3, ?ob4, ?ob5, ?ob6, ?ob7, ?ob8, ?ob9, ?ob10, ?ob11, ?ob12, ?ob13, ?ob14, ?ob15, ?ob16, trivial⟩ ?obend
            case ob0 =>
              intro p vals W1 F hF hlo hhi hI hd
              have hp : p = 0 := Nat.le_antisymm hhi hlo
              subst hp
              clear hlo hhi
              have E12 : F.eval (.tmp 12) = .bool true := hF.out_ (by kernel_rfl) rfl
              refine .inr ⟨wanted_none rfl, .inl ⟨.bool true, ?_, hI, TyP.of_is rfl⟩⟩
              simp only [execOp, E12, Sem.run_pure]
            case ob1 =>
              intro p vals W1 F hF hlo hhi hI hd
              have hp : p = 0 := Nat.le_antisymm hhi hlo
              subst hp
              clear hlo hhi
              have d0 : vals 0 = .bool true := hd ⟨0, .data⟩ (Array.mem_of_getElem? (i := 0) rfl) rfl (show (0 : Nat) ≤ 1000 by decide)
              have E61 := eval_some (hF.own_ 0 rfl rfl (by kernel_rfl) (by decide)); rw [d0] at E61
              refine .inr ⟨wanted_none rfl, .inl ⟨.bool true, ?_, hI, TyP.of_is rfl⟩⟩
              simp only [execOp, E61, Sem.run_pure]
            case ob2 =>
              intro p vals W1 F hF hlo hhi hI hd
              have hp : p = 0 := Nat.le_antisymm hhi hlo
              subst hp
              clear hlo hhi
              have d1 : vals 1 = .bool true := hd ⟨1, .chain⟩ (Array.mem_of_getElem? (i := 0) rfl) rfl (show (0 : Nat) ≤ 1000 by decide)
              have E5 : F.eval (.tmp 5) = .pointer (some ⟨w.heap.size, 0, none⟩) := hF.out_ (by kernel_rfl) rfl
              have G := hF.own_ 1 rfl rfl (by kernel_rfl) (by decide); rw [d1] at G
              refine .inr ⟨wanted_yes rfl rfl rfl G, ?_⟩
              refine .inr (.inr (.inl ⟨12, #[.pointer (some ⟨w.heap.size, 0, none⟩)], ?_, (penAll_any w.heap.size w.heap.size V _ (HP5.out.below hI) (by omega)).mono ?_⟩))
              · have Ec : ∀ v, F.eval (.const v) = v := fun _ => rfl; have Ef : ∀ f, F.eval (.func f) = .func (.func f) #[] #[] := fun _ => rfl; clear hF hd; generalize F.eval = ρ at E5 Ec Ef ⊢
                simp [execOp, go_sem, Ec, Ef, E5]
              rintro e W2 ⟨v, rfl, hr2, hb⟩
              obtain ⟨B, cb, rfl, hh, _⟩ := own_open hr2
              exact ⟨_, rfl, hb, hI.trans (hb.mono hI.size), B, cb, rfl, hh⟩
            case ob3 =>
              intro p vals W1 F hF hlo hhi hI hd
              have hp : p = 0 := Nat.le_antisymm hhi hlo
              subst hp
              clear hlo hhi
              have d1 : vals 1 = .bool true := hd ⟨1, .guard⟩ (Array.mem_of_getElem? (i := 1) rfl) rfl (show (0 : Nat) ≤ 1000 by decide)
              obtain ⟨B2, c2, hspec2, hh2⟩ := hd ⟨2, .data⟩ (Array.mem_of_getElem? (i := 0) rfl) rfl (show (0 : Nat) ≤ 1000 by decide)
              have d2 : vals 2 = .slice B2 V.length c2 := hspec2
              have E63 := eval_some (hF.own_ 2 rfl rfl (by kernel_rfl) (by decide)); rw [d2] at E63
              have G := hF.own_ 1 rfl rfl (by kernel_rfl) (by decide); rw [d1] at G
              refine .inr ⟨wanted_yes rfl rfl rfl G, ?_⟩
              have hst := str_of hh2 c2
              refine .inl ⟨_, ?_, hI, TyP.of_is rfl⟩
              have Ec : ∀ v, F.eval (.const v) = v := fun _ => rfl; have Ef : ∀ f, F.eval (.func f) = .func (.func f) #[] #[] := fun _ => rfl; clear hF hd; generalize F.eval = ρ at E63 Ec Ef ⊢
              simp [execOp, go_sem, Ec, E63, hst]
            case ob4 =>
              intro p vals W1 F hF hlo hhi hI hd
              have hp : p = 0 := Nat.le_antisymm hhi hlo
              subst hp
              clear hlo hhi
              have d1 : vals 1 = .bool true := hd ⟨1, .guard⟩ (Array.mem_of_getElem? (i := 0) rfl) rfl (show (0 : Nat) ≤ 1000 by decide)
              have E6 : F.eval (.tmp 6) = .slice Yv V.length cv := hF.out_ (by kernel_rfl) rfl
              have G := hF.own_ 1 rfl rfl (by kernel_rfl) (by decide); rw [d1] at G
              refine .inr ⟨wanted_yes rfl rfl rfl G, .inl ⟨.slice Yv V.length cv, ?_, hI, TyP.of_is rfl⟩⟩
              simp only [execOp, E6, Sem.run_pure]
            case ob5 =>
              intro p vals W1 F hF hlo hhi hI hd
              have hp : p = 0 := Nat.le_antisymm hhi hlo
              subst hp
              clear hlo hhi
              have d1 : vals 1 = .bool true := hd ⟨1, .guard⟩ (Array.mem_of_getElem? (i := 1) rfl) rfl (show (0 : Nat) ≤ 1000 by decide)
              have d4 : vals 4 = .slice Yv V.length cv := hd ⟨4, .data⟩ (Array.mem_of_getElem? (i := 0) rfl) rfl (show (0 : Nat) ≤ 1000 by decide)
              have E65 := eval_some (hF.own_ 4 rfl rfl (by kernel_rfl) (by decide)); rw [d4] at E65
              have G := hF.own_ 1 rfl rfl (by kernel_rfl) (by decide); rw [d1] at G
              refine .inr ⟨wanted_yes rfl rfl rfl G, ?_⟩
              have hst := str_of (HYW.out.later hI) cv
              refine .inl ⟨_, ?_, hI, TyP.of_is rfl⟩
              have Ec : ∀ v, F.eval (.const v) = v := fun _ => rfl; have Ef : ∀ f, F.eval (.func f) = .func (.func f) #[] #[] := fun _ => rfl; clear hF hd; generalize F.eval = ρ at E65 Ec Ef ⊢
              simp [execOp, go_sem, Ec, E65, hst]
            case ob6 =>
              intro p vals W1 F hF hlo hhi hI hd
              have hp : p = 0 := Nat.le_antisymm hhi hlo
              subst hp
              clear hlo hhi
              have d1 : vals 1 = .bool true := hd ⟨1, .guard⟩ (Array.mem_of_getElem? (i := 2) rfl) rfl (show (0 : Nat) ≤ 1000 by decide)
              have d3 : vals 3 = .string ⟨V.toArray⟩ := hd ⟨3, .data⟩ (Array.mem_of_getElem? (i := 0) rfl) rfl (show (0 : Nat) ≤ 1000 by decide)
              have d5 : vals 5 = .string ⟨V.toArray⟩ := hd ⟨5, .data⟩ (Array.mem_of_getElem? (i := 1) rfl) rfl (show (0 : Nat) ≤ 1000 by decide)
              have E64 := eval_some (hF.own_ 3 rfl rfl (by kernel_rfl) (by decide)); rw [d3] at E64
              have E66 := eval_some (hF.own_ 5 rfl rfl (by kernel_rfl) (by decide)); rw [d5] at E66
              have G := hF.own_ 1 rfl rfl (by kernel_rfl) (by decide); rw [d1] at G
              refine .inr ⟨wanted_yes rfl rfl rfl G, .inl ⟨.bool true, ?_, hI, TyP.of_is rfl⟩⟩
              have Ec : ∀ v, F.eval (.const v) = v := fun _ => rfl; have Ef : ∀ f, F.eval (.func f) = .func (.func f) #[] #[] := fun _ => rfl; clear hF hd; generalize F.eval = ρ at E64 E66 Ec Ef ⊢
              simp [execOp, go_sem, Ec, E64, E66]
            case ob7 =>
              intro p vals W1 F hF hlo hhi hI hd
              have hp : p = 0 := Nat.le_antisymm hhi hlo
              subst hp
              clear hlo hhi
              have d1 : vals 1 = .bool true := hd ⟨1, .data⟩ (Array.mem_of_getElem? (i := 0) rfl) rfl (show (0 : Nat) ≤ 1000 by decide)
              have d6 : vals 6 = .bool true := hd ⟨6, .data⟩ (Array.mem_of_getElem? (i := 1) rfl) rfl (show (0 : Nat) ≤ 1000 by decide)
              have E62 := eval_some (hF.own_ 1 rfl rfl (by kernel_rfl) (by decide)); rw [d1] at E62
              have E67 := eval_some (hF.own_ 6 rfl rfl (by kernel_rfl) (by decide)); rw [d6] at E67
              refine .inr ⟨wanted_none rfl, .inl ⟨.bool true, ?_, hI, TyP.of_is rfl⟩⟩
              have Ec : ∀ v, F.eval (.const v) = v := fun _ => rfl; have Ef : ∀ f, F.eval (.func f) = .func (.func f) #[] #[] := fun _ => rfl; clear hF hd; generalize F.eval = ρ at E62 E67 Ec Ef ⊢
              simp [execOp, go_sem, Ec, E62, E67]
            case ob8 =>
              intro p vals W1 F hF hlo hhi hI hd
              have hp : p = 0 := Nat.le_antisymm hhi hlo
              subst hp
              clear hlo hhi
              have d7 : vals 7 = .bool true := hd ⟨7, .data⟩ (Array.mem_of_getElem? (i := 0) rfl) rfl (show (0 : Nat) ≤ 1000 by decide)
              have E68 := eval_some (hF.own_ 7 rfl rfl (by kernel_rfl) (by decide)); rw [d7] at E68
              refine .inr ⟨wanted_none rfl, .inl ⟨.bool true, ?_, hI, TyP.of_is rfl⟩⟩
              simp only [execOp, E68, Sem.run_pure]
            case ob9 =>
              intro p vals W1 F hF hlo hhi hI hd
              have hp : p = 0 := Nat.le_antisymm hhi hlo
              subst hp
              clear hlo hhi
              have d8 : vals 8 = .bool true := hd ⟨8, .guard⟩ (Array.mem_of_getElem? (i := 0) rfl) rfl (show (0 : Nat) ≤ 1000 by decide)
              have E1 : F.eval (.tmp 1) = .int .u64 (n : Int) := hF.out_ (by kernel_rfl) rfl
              have G := hF.own_ 8 rfl rfl (by kernel_rfl) (by decide); rw [d8] at G
              refine .inr ⟨wanted_yes rfl rfl rfl G, .inl ⟨.int .u64 (n : Int), ?_, hI, TyP.of_is rfl⟩⟩
              simp only [execOp, E1, Sem.run_pure]
            case ob10 =>
              intro p vals W1 F hF hlo hhi hI hd
              have hp : p = 0 := Nat.le_antisymm hhi hlo
              subst hp
              clear hlo hhi
              have d8 : vals 8 = .bool true := hd ⟨8, .chain⟩ (Array.mem_of_getElem? (i := 1) rfl) rfl (show (0 : Nat) ≤ 1000 by decide)
              have d9 : vals 9 = .int .u64 (n : Int) := hd ⟨9, .data⟩ (Array.mem_of_getElem? (i := 0) rfl) rfl (show (0 : Nat) ≤ 1000 by decide)
              have E70 := eval_some (hF.own_ 9 rfl rfl (by kernel_rfl) (by decide)); rw [d9] at E70
              have G := hF.own_ 8 rfl rfl (by kernel_rfl) (by decide); rw [d8] at G
              refine .inr ⟨wanted_yes rfl rfl rfl G, ?_⟩
              refine .inr (.inr (.inl ⟨13, #[.int .u64 (n : Int)], ?_, (compact_any n hnn _).mono ?_⟩))
              · have Ec : ∀ v, F.eval (.const v) = v := fun _ => rfl; have Ef : ∀ f, F.eval (.func f) = .func (.func f) #[] #[] := fun _ => rfl; clear hF hd; generalize F.eval = ρ at E70 Ec Ef ⊢
                simp [execOp, go_sem, Ec, Ef, E70]
              rintro e W2 ⟨rfl, hb⟩
              exact ⟨_, rfl, hb, hI.trans (hb.mono hI.size), TyP.of_is rfl⟩
            case ob11 =>
              intro p vals W1 F hF hlo hhi hI hd
              have hp : p = 0 := Nat.le_antisymm hhi hlo
              subst hp
              clear hlo hhi
              have d8 : vals 8 = .bool true := hd ⟨8, .guard⟩ (Array.mem_of_getElem? (i := 0) rfl) rfl (show (0 : Nat) ≤ 1000 by decide)
              have E1 : F.eval (.tmp 1) = .int .u64 (n : Int) := hF.out_ (by kernel_rfl) rfl
              have G := hF.own_ 8 rfl rfl (by kernel_rfl) (by decide); rw [d8] at G
              refine .inr ⟨wanted_yes rfl rfl rfl G, .inl ⟨.int .u64 (n : Int), ?_, hI, TyP.of_is rfl⟩⟩
              simp only [execOp, E1, Sem.run_pure]
            case ob12 =>
              intro p vals W1 F hF hlo hhi hI hd
              have hp : p = 0 := Nat.le_antisymm hhi hlo
              subst hp
              clear hlo hhi
              have d8 : vals 8 = .bool true := hd ⟨8, .guard⟩ (Array.mem_of_getElem? (i := 2) rfl) rfl (show (0 : Nat) ≤ 1000 by decide)
              have d11 : vals 11 = .int .u64 (n : Int) := hd ⟨11, .data⟩ (Array.mem_of_getElem? (i := 0) rfl) rfl (show (0 : Nat) ≤ 1000 by decide)
              have E72 := eval_some (hF.own_ 11 rfl rfl (by kernel_rfl) (by decide)); rw [d11] at E72
              have G := hF.own_ 8 rfl rfl (by kernel_rfl) (by decide); rw [d8] at G
              refine .inr ⟨wanted_yes rfl rfl rfl G, ?_⟩
              refine .inr (.inr (.inl ⟨14, #[.int .u64 (n : Int)], ?_, (refSize_any n hnn _).mono ?_⟩))
              · have Ec : ∀ v, F.eval (.const v) = v := fun _ => rfl; have Ef : ∀ f, F.eval (.func f) = .func (.func f) #[] #[] := fun _ => rfl; clear hF hd; generalize F.eval = ρ at E72 Ec Ef ⊢
                simp [execOp, go_sem, Ec, Ef, E72]
              rintro e W2 ⟨v, rfl, hr2, hb⟩
              obtain ⟨B, cb, rfl, _⟩ := own_open hr2
              exact ⟨_, rfl, hb, hI.trans (hb.mono hI.size), B, cb, by rw [sizeB_length]; rfl⟩
            case ob13 =>
              intro p vals W1 F hF hlo hhi hI hd
              have hp : p = 0 := Nat.le_antisymm hhi hlo
              subst hp
              clear hlo hhi
              have d8 : vals 8 = .bool true := hd ⟨8, .guard⟩ (Array.mem_of_getElem? (i := 1) rfl) rfl (show (0 : Nat) ≤ 1000 by decide)
              obtain ⟨B12, c12, hspec12⟩ := hd ⟨12, .data⟩ (Array.mem_of_getElem? (i := 0) rfl) rfl (show (0 : Nat) ≤ 1000 by decide)
              have d12 : vals 12 = .slice B12 (cmpL n) c12 := hspec12
              have E73 := eval_some (hF.own_ 12 rfl rfl (by kernel_rfl) (by decide)); rw [d12] at E73
              have G := hF.own_ 8 rfl rfl (by kernel_rfl) (by decide); rw [d8] at G
              refine .inr ⟨wanted_yes rfl rfl rfl G, .inl ⟨.int .i64 (cmpL n : Int), ?_, hI, TyP.of_is rfl⟩⟩
              have Ec : ∀ v, F.eval (.const v) = v := fun _ => rfl; have Ef : ∀ f, F.eval (.func f) = .func (.func f) #[] #[] := fun _ => rfl; clear hF hd; generalize F.eval = ρ at E73 Ec Ef ⊢
              simp [execOp, go_sem, Ec, E73]
            case ob14 =>
              intro p vals W1 F hF hlo hhi hI hd
              have hp : p = 0 := Nat.le_antisymm hhi hlo
              subst hp
              clear hlo hhi
              have d8 : vals 8 = .bool true := hd ⟨8, .guard⟩ (Array.mem_of_getElem? (i := 2) rfl) rfl (show (0 : Nat) ≤ 1000 by decide)
              have d10 : vals 10 = .int .i64 (cmpL n : Int) := hd ⟨10, .data⟩ (Array.mem_of_getElem? (i := 0) rfl) rfl (show (0 : Nat) ≤ 1000 by decide)
              have d13 : vals 13 = .int .i64 (cmpL n : Int) := hd ⟨13, .data⟩ (Array.mem_of_getElem? (i := 1) rfl) rfl (show (0 : Nat) ≤ 1000 by decide)
              have E71 := eval_some (hF.own_ 10 rfl rfl (by kernel_rfl) (by decide)); rw [d10] at E71
              have E74 := eval_some (hF.own_ 13 rfl rfl (by kernel_rfl) (by decide)); rw [d13] at E74
              have G := hF.own_ 8 rfl rfl (by kernel_rfl) (by decide); rw [d8] at G
              refine .inr ⟨wanted_yes rfl rfl rfl G, .inl ⟨.bool true, ?_, hI, TyP.of_is rfl⟩⟩
              have Ec : ∀ v, F.eval (.const v) = v := fun _ => rfl; have Ef : ∀ f, F.eval (.func f) = .func (.func f) #[] #[] := fun _ => rfl; clear hF hd; generalize F.eval = ρ at E71 E74 Ec Ef ⊢
              simp [execOp, go_sem, Ec, E71, E74]
            case ob15 =>
              intro p vals W1 F hF hlo hhi hI hd
              have hp : p = 0 := Nat.le_antisymm hhi hlo
              subst hp
              clear hlo hhi
              have d8 : vals 8 = .bool true := hd ⟨8, .data⟩ (Array.mem_of_getElem? (i := 0) rfl) rfl (show (0 : Nat) ≤ 1000 by decide)
              have d14 : vals 14 = .bool true := hd ⟨14, .data⟩ (Array.mem_of_getElem? (i := 1) rfl) rfl (show (0 : Nat) ≤ 1000 by decide)
              have E69 := eval_some (hF.own_ 8 rfl rfl (by kernel_rfl) (by decide)); rw [d8] at E69
              have E75 := eval_some (hF.own_ 14 rfl rfl (by kernel_rfl) (by decide)); rw [d14] at E75
              refine .inr ⟨wanted_none rfl, .inl ⟨.bool true, ?_, hI, TyP.of_is rfl⟩⟩
              have Ec : ∀ v, F.eval (.const v) = v := fun _ => rfl; have Ef : ∀ f, F.eval (.func f) = .func (.func f) #[] #[] := fun _ => rfl; clear hF hd; generalize F.eval = ρ at E69 E75 Ec Ef ⊢
              simp [execOp, go_sem, Ec, E69, E75]
            case ob16 =>
              intro p vals W1 F hF hlo hhi hI hd
              have hp : p = 0 := Nat.le_antisymm hhi hlo
              subst hp
              clear hlo hhi
              have d15 : vals 15 = .bool true := hd ⟨15, .data⟩ (Array.mem_of_getElem? (i := 0) rfl) rfl (show (0 : Nat) ≤ 1000 by decide)
              have E76 := eval_some (hF.own_ 15 rfl rfl (by kernel_rfl) (by decide)); rw [d15] at E76
              refine .inr ⟨wanted_none rfl, .inl ⟨.bool true, ?_, hI, TyP.of_is rfl⟩⟩
              simp only [execOp, E76, Sem.run_pure]
            case obend =>
              intro vals W1 F hF hdef hI hT
              rename_i K hK
              refine hK _ _ ?_
              have dl : vals 16 = .bool true := hT 16 (by decide) (show (0 : Nat) ≤ 1000 by decide)
              rw [hF.act]
              simp only [fin, Act.put, List.setIfInBounds_toArray, List.set_cons_succ, List.set_cons_zero, dl]
              clear hF hT dl
              go_wp2
              go_ret
              exact ⟨rfl, HBW.out.trans (hI.mono HBW.out.size)⟩
set_option maxRecDepth 100000 in
theorem writes_lifted (os : Os) (started : os.Started) (H : Type) (enc : TypeId × Value → H) :
    ReturnsInHanded {} Try.checked os 3 .any (Rows.octetWritesSpec.pre6 enc Try.prog Try.f3 Rows.octetWritesRow.domain false) (Rows.octetWritesSpec.post enc Try.prog Try.f3 false true false false) := by
  refine returnsInHanded_of_change_sized (C := Try.checked) own started (by kernel_rfl) Try.func3
    (ChangeSpec.witness6 (enc := enc) (C := Try.checked) false ⟨#[], #[.slice none 0 0, .int .u64 0], []⟩ 8 (by kernel_rfl) (by kernel_rfl) (by kernel_rfl) (by kernel_rfl)) ?_
  intro W base args ds gs before hval0 hW hcnd hsize _
  have hval : ∀ (j : Nat) t v, Try.f3.params[j]? = some t → args[j]? = some v → Value.okWide Try.prog W .any base t v := hval0
  have hW' := hW
  obtain ⟨p, q, hA0, hV, rfl, hfz, hnd⟩ := hW
  have hA : DataW.TrodAll enc Try.prog W 0 (fun _ => true) true Try.f3.params.toList args.toList ds p := hA0
  rw [Try.params3] at hA hval
  obtain ⟨v0, vs0, d0, ds0, p0, q0, hargs, rfl, rfl, h0, r0⟩ := trodAll_cons hA
  obtain ⟨v1, vs1, d1, ds1, p1, q1, rfl, rfl, rfl, h1, r1⟩ := trodAll_cons r0
  obtain ⟨rfl, rfl, rfl⟩ := trodAll_nil r1
  obtain rfl : args = #[v0, v1] := by cases args; simp_all
  obtain ⟨rfl, rfl⟩ := trodVars_none hV
  have k0 := h0
  have lt0 : ∀ x ∈ p0, x.block < W.heap.size := by obtain ⟨m, hm⟩ := k0; exact DataW.trod_lt m _ _ _ hm
  have k1 := h1
  have lt1 : ∀ x ∈ p1, x.block < W.heap.size := by obtain ⟨m, hm⟩ := k1; exact DataW.trod_lt m _ _ _ hm
  have hw0 : ∀ m ∈ d0.weights Try.prog 22, m ≤ reachBytes := fun m hm => by
    have q := List.all_eq_true.1 hsize m (DataW.weights_mem_each (j := 0) (t := 22) (d := d0) rfl rfl m hm)
    simpa using q
  obtain ⟨A0, l0, cap0, rfl, hh0, hlen0, hnil0, hcap0⟩ := open_ops (hval 0 22 v0 rfl rfl) k0 hw0
  obtain ⟨z1, rfl, rfl, rfl, wz1⟩ := open_int Try.underlying23 (hval 1 23 v1 rfl rfl) h1
  have hz1 := bounds_u64 wz1
  obtain ⟨x1, rfl⟩ : ∃ x : Nat, z1 = x := ⟨z1.toNat, by omega⟩
  clear hA0 hval0 hsize hw0
  refine (writes_walk l0 A0 cap0 x1 (by omega) W hh0 (by unfold maxLen at hcap0; omega)).mono fun e W' ⟨he, bel⟩ => ?_
  subst he
  exact ⟨_, rfl, _, _, _, [], _, [], hW', trodAll_mk1 (shut_bool Try.underlying4 _), (trodAll_cons_mk (Below.trod laidOut (by kernel_rfl) (of_decide_eq_true (by kernel_rfl)) k0 bel lt0) (trodAll_cons_mk (Below.trod laidOut (by kernel_rfl) (of_decide_eq_true (by kernel_rfl)) k1 bel lt1) trodAll_mk0)), rfl, bel.frame _, fun h => by cases h⟩

theorem writes_over : Rows.octetWritesRow.holds Try.pinned (OpenSpec.ofChange Rows.octetWritesSpec) :=
  OpenClaim.holds_of_wide 3 Try.f3 rfl rfl rfl rfl rfl rfl rfl ⟨rfl, rfl, rfl, rfl, rfl⟩ rfl rfl rfl rfl rfl (by kernel_rfl) Try.func3 (by kernel_rfl)
    (of_decide_eq_true (by kernel_rfl)) (by unfold Func.isWrapper; first | (rw [if_pos (by decide +kernel)]; kernel_rfl) | (rw [if_neg (by decide +kernel)]; exact ⟨rfl, rfl⟩))
    (fun os started H enc _ => writes_lifted os started H enc)

/-- Whatever a pen writes, errors and bytes are the reference's; what is handed in stays, and what is answered is new memory: whatever calls and number come in. No condition. -/
theorem writes_proved : Rows.OctetWritesSaid := writes_over
#print axioms writes_proved
end Go.Proofs.Ytngkckngjobojaa.Oct
