/- ShaParts is true at every input. No condition. -/
import Derived.Test.YtfpgjabbpcndfaaShaL
namespace Go.Proofs.Ytfpgjabbpcndfaa.Oct
set_option linter.unusedVariables false
set_option linter.unusedSimpArgs false
open Go.Proofs.Ytfpgjabbpcndfaa Go.RowKit Go.Lib Go.Shelf Go.ChangeShapes Go.WideShapes Go.ChangeAt

theorem SumIn.later {W W' : World} {g : Nat} {m : List UInt8} {n : Nat} (h : SumIn W g m n) (hb : Below W.heap.size W W') : SumIn W' g m n := h.below hb h.lt
theorem SumIn.other {W W' : World} {g g' : Nat} {m : List UInt8} {n : Nat} (h : SumIn W g m n) (hg : W.grownBy W' (some g')) (hne : g ≠ g') : SumIn W' g m n := by
  have hl := h.lt
  obtain ⟨tl, h1, h2, h3⟩ := h
  exact ⟨tl, h1, h2, by rw [hg.block g hl (fun e => hne (by injection e))]; exact h3⟩
theorem Below.grow_ {w W W' : World} {g : Nat} (h : Below w.heap.size w W) (hg : W.grownBy W' (some g)) (hb : w.heap.size ≤ g) : Below w.heap.size w W' :=
  ⟨hg.os.trans h.os, hg.tape.trans h.tape, hg.output.trans h.output, Nat.le_trans h.size hg.size, fun k hk => (hg.block k (Nat.lt_of_lt_of_le hk h.size) (fun e => by injection e with e; omega)).trans (h.block k hk)⟩
theorem write_any' (w : World) (g : Nat) (m : List UInt8) (nn : Nat) (A : Option Addr) (L c : Nat) (bs : List UInt8) (hL : bs.length = L) (h : SumIn w g m nn) (h8 : Holds8 w.heap.size w A bs) (hc : L ≤ c) (hm : L < 1152921504606846976) (hnn : nn < 1152921504606846976) (hg : ∀ a, A = some a → a.block ≠ g) :
    Calls Try.prog 15 #[.pointer (some ⟨g, 0, none⟩), .slice A L c] w fun e w' => e = .returned (.pointer (some ⟨g, 0, none⟩)) ∧ SumIn w' g (m ++ bs) (nn + L) ∧ w.grownBy w' (some g) := by
  subst hL
  exact write_any w g m nn A c bs h h8 hc hm hnn hg
theorem cutS_block {A : Option Addr} {i c : Nat} {a : Addr} (h : cutS A i c = some a) : ∃ a0, A = some a0 ∧ a.block = a0.block := by
  unfold cutS at h
  split at h
  · exact ⟨a, h, rfl⟩
  · cases A with
    | none => cases h
    | some a0 =>
      simp only [Option.map_some, Option.some.injEq] at h
      exact ⟨a0, rfl, by rw [← h]⟩
theorem slice_midS (A : Option Addr) (len cap i j : Nat) (hA : (A = none ∧ len = 0) ∨ ∃ b off, A = some ⟨b, off, none⟩) (hij : i ≤ j) (hjl : j ≤ len) (hl : len ≤ cap) (W : World) :
    (Instr.sliceAt 22 (.slice A len cap) (some (.int .i64 (i : Int))) (some (.int .i64 (j : Int))) none).run Try.prog W = .ok (.slice (cutS A i cap) (j - i) (cap - i)) W := by
  have h1 : ¬ ((j : Int) < (i : Int)) := by omega
  have h2 : ¬ ((cap : Int) < (j : Int)) := by omega
  rcases hA with ⟨rfl, rfl⟩ | ⟨b, off, rfl⟩
  · have hj0 : j = 0 := by omega
    have hi0 : i = 0 := by omega
    subst hj0 hi0
    simp [Instr.sliceAt, go_sem, cutS]
  · have hjc : j ≤ cap := by omega
    simp [Instr.sliceAt, go_sem, cutS, hij, hjc]
theorem eq32 (h : List UInt8) (hl : h.length = 32) (w : World) : (Op.equalIn 10000 25 (.agg (arr8 h)) (.agg (arr8 h))).run Try.prog w = .ok true w := by
  have e : arr8 h = ((h.map fun b => (b.toNat : Int)).map (Value.int .u8)).toArray := by
    unfold arr8 vals
    rw [List.map_map]
    rfl
  have := run_equalIn_row (P := Try.prog) 9998 25 5 .u8 32 (h.map fun b => (b.toNat : Int)) (h.map fun b => (b.toNat : Int)) Try.underlying25 Try.underlying5 (by kernel_rfl) (by simp [hl]) (by simp [hl]) w
  rw [e, this]
  simp

set_option maxRecDepth 100000 in
set_option maxHeartbeats 4000000 in
theorem parts_walk (bs : List UInt8) (A : Option Addr) (cap z : Nat) (hz : z < 65536) (hcap : bs.length ≤ cap) (hcm : cap ≤ 9223372036854775807) (w : World) (hh : Holds8 w.heap.size w A bs) :
    Calls Try.prog 5 #[.slice A bs.length cap, .int .u16 z] w fun e w' => e = .returned (.bool true) ∧ Below w.heap.size w w' := by
  have CA := Lib.hid (alive_any w)
  have HH := Lib.hid hh
  obtain ⟨L, hL⟩ : ∃ L, bs.length = L := ⟨_, rfl⟩
  rw [hL] at hcap ⊢
  have HL := Lib.hid hL
  clear hL hh
  by_cases hbig : 1000 < L
  · go_enter Try.func5, Try.ntmps5
    go_wp2_with (go_at_call 18; (with_reducible refine CA.out.mono ?_); rintro e W1 ⟨rfl, hb⟩)
    go_ret
    exact ⟨rfl, hb⟩
  · have hsm : L ≤ 1000 := by omega
    obtain ⟨n, hn⟩ : ∃ n, z % (L + 1) = n := ⟨_, rfl⟩
    have hnl : n ≤ L := by have := Nat.mod_lt z (show 0 < L + 1 by omega); omega
    have e2 : ((z : Int) % ((L : Int) + 1)) = (n : Int) := by
      rw [show ((L : Int) + 1) = ((L + 1 : Nat) : Int) by omega, ← Int.natCast_emod, hn]
    have d1 : decide ((1000 : Int) < (L : Int)) = false := by simp; omega
    have CO : Hid (∀ W, Below w.heap.size w W → Calls Try.prog 8 #[.slice A L cap] W fun e w' => e = .returned (.agg (arr8 (sha bs))) ∧ Below W.heap.size W w') :=
      Lib.hid fun W hb => of_any' W A L cap bs HL.out ((HH.out.below hb (Nat.le_refl _)).more hb.size) hcap (by omega)
    clear hn hbig
    go_enter Try.func5, Try.ntmps5
    go_wp2_with (first | (go_at_call 18; (with_reducible refine CA.out.mono ?_); rintro e W1 ⟨rfl, hb⟩; have hK := (Keeps.nil w).call hb) | (go_at_call 8; (with_reducible refine (CO.out _ hb).mono ?_); rintro e W2 ⟨rfl, hb2⟩; replace hK := hK.call hb2; clear hb hb2) | (refine wpList_alloc rfl 25 rfl (z := arr8 zero32) (by kernel_rfl) ?_; try simp only [World.size_alloc]) | (refine wpList_fill hK rfl 25 (.tmp 7) (.tmp 27) rfl rfl rfl (infoH _ rfl) (size_same rfl rfl) (one8x _) ?_; clear hK; intro Wb hK))
    obtain ⟨Bw, hBw⟩ : ∃ Bw, W2.heap.size = Bw := ⟨_, rfl⟩
    rw [hBw] at hK ⊢
    clear hBw
    go_frame
    have hHB := (HH.out.below hK.bel (Nat.le_refl _)).more hK.bel.size
    have HHB := Lib.hid hHB
    have hwb := hK.bel.size
    have HAB : Hid (∀ a, A = some a → a.block < Wb.heap.size) := Lib.hid fun a e => by
      rcases HHB.out with ⟨e1, _⟩ | ⟨b, off, e1, hb, _⟩
      · rw [e] at e1; cases e1
      · rw [e] at e1; injection e1 with e1; rw [e1]; exact hb
    have hAs : (A = none ∧ L = 0) ∨ ∃ b off, A = some ⟨b, off, none⟩ := by
      rcases HHB.out with ⟨e1, e2⟩ | ⟨b, off, e1, _⟩
      · exact .inl ⟨e1, by rw [← HL.out, e2]; rfl⟩
      · exact .inr ⟨b, off, e1⟩
    clear hHB
    refine wp_region_phased 79 rfl (fun k d W W' => d = 0 → W' = W) (fun p W1 => Below Wb.heap.size Wb W1) [⟨1, 1, fun v W => ∃ g, v = .pointer (some ⟨g, 0, none⟩) ∧ Wb.heap.size ≤ g ∧ SumIn W g ([]) (0), fun k d v W W' hk hd h hr => by rw [hr (by omega)]; exact h⟩, .is (.slice A L cap), .is (.int .i64 (n : Int)), .is (.slice A n cap), ⟨2, 2, fun v W => ∃ g, v = .pointer (some ⟨g, 0, none⟩) ∧ Wb.heap.size ≤ g ∧ SumIn W g (bs.take n) (n), fun k d v W W' hk hd h hr => by rw [hr (by omega)]; exact h⟩, .is (.slice A L cap), .is (.int .i64 (n : Int)), .is (.slice (cutS A n cap) (L - n) (cap - n)), ⟨3, 3, fun v W => ∃ g, v = .pointer (some ⟨g, 0, none⟩) ∧ Wb.heap.size ≤ g ∧ SumIn W g (bs) (L), fun k d v W W' hk hd h hr => by rw [hr (by omega)]; exact h⟩, ⟨3, 3, fun v W => ∃ g, v = .pointer (some ⟨g, 0, none⟩) ∧ Wb.heap.size ≤ g ∧ SumIn W g (bs) (L), fun k d v W W' hk hd h hr => by rw [hr (by omega)]; exact h⟩] [0, 4, 8] [0, 0, 0, 0, 1, 0, 0, 0, 2, 3] [0, 1, 1, 1, 1, 2, 2, 2, 2, 3] (by kernel_rfl) (by kernel_rfl) (by kernel_rfl) (fun _ _ _ _ => rfl) ((Below.refl _ _).drew) ⟨?ob0, ?ob1, ?ob2, ?ob3, ?ob4, ?ob5, ?ob6, ?ob7, ?ob8, ?ob9, trivial⟩ ?obend
    case ob0 =>
      intro p vals W1 F hF hlo hhi hI hd
      have hp : p = 0 := Nat.le_antisymm hhi hlo
      subst hp
      clear hlo hhi
      refine .inr ⟨wanted_none rfl, ?_⟩
      refine .inr (.inr (.inl ⟨13, #[], ?_, (new_any W1).mono ?_⟩))
      · have Ec : ∀ v, F.eval (.const v) = v := fun _ => rfl; have Ef : ∀ f, F.eval (.func f) = .func (.func f) #[] #[] := fun _ => rfl; clear hF hd; generalize F.eval = ρ at  Ec Ef ⊢
        simp [execOp, go_sem, Ec, Ef]
      rintro e W2 ⟨g, rfl, hg, hs, hb⟩
      exact ⟨_, rfl, fun h => absurd h (by decide), hI.trans (hb.mono hI.size), g, rfl, Nat.le_trans hI.size hg, hs⟩
    case ob1 =>
      intro p vals W1 F hF hlo hhi hI hd
      have E0 : F.eval (.tmp 0) = .slice A L cap := hF.out_ (by kernel_rfl) rfl
      refine .inr ⟨wanted_none rfl, .inl ⟨.slice A L cap, ?_, hI, TyP.of_is rfl⟩⟩
      simp only [execOp, E0, Sem.run_pure]
    case ob2 =>
      intro p vals W1 F hF hlo hhi hI hd
      have E6 : F.eval (.tmp 6) = .int .i64 (n : Int) := hF.out_ (by kernel_rfl) rfl
      refine .inr ⟨wanted_none rfl, .inl ⟨.int .i64 (n : Int), ?_, hI, TyP.of_is rfl⟩⟩
      simp only [execOp, E6, Sem.run_pure]
    case ob3 =>
      intro p vals W1 F hF hlo hhi hI hd
      have d1 : vals 1 = .slice A L cap := hd ⟨1, .data⟩ (Array.mem_of_getElem? (i := 0) rfl) rfl (Nat.le_trans hhi (show (1 : Nat) ≤ 1000 by decide))
      have d2 : vals 2 = .int .i64 (n : Int) := hd ⟨2, .data⟩ (Array.mem_of_getElem? (i := 1) rfl) rfl (Nat.le_trans hhi (show (1 : Nat) ≤ 1000 by decide))
      have E29 := eval_some (hF.own_ 1 rfl rfl (by kernel_rfl) (by decide)); rw [d1] at E29
      have E30 := eval_some (hF.own_ 2 rfl rfl (by kernel_rfl) (by decide)); rw [d2] at E30
      refine .inr ⟨wanted_none rfl, ?_⟩
      refine .inl ⟨.slice A n cap, ?_, hI, TyP.of_is rfl⟩
      have Ec : ∀ v, F.eval (.const v) = v := fun _ => rfl; have Ef : ∀ f, F.eval (.func f) = .func (.func f) #[] #[] := fun _ => rfl; clear hF hd; generalize F.eval = ρ at E29 E30 Ec Ef ⊢
      exact slice_toS A L cap n hAs E29 E30 hnl hcap W1
    case ob4 =>
      intro p vals W1 F hF hlo hhi hI hd
      have hp : p = 1 := Nat.le_antisymm hhi hlo
      subst hp
      clear hlo hhi
      obtain ⟨g0, hspec0, hg0, hs0⟩ := hd ⟨0, .data⟩ (Array.mem_of_getElem? (i := 0) rfl) rfl (show (1 : Nat) ≤ 1 by decide)
      have d0 : vals 0 = .pointer (some ⟨g0, 0, none⟩) := hspec0
      have d3 : vals 3 = .slice A n cap := hd ⟨3, .data⟩ (Array.mem_of_getElem? (i := 1) rfl) rfl (show (1 : Nat) ≤ 1000 by decide)
      have E28 := eval_some (hF.own_ 0 rfl rfl (by kernel_rfl) (by decide)); rw [d0] at E28
      have E31 := eval_some (hF.own_ 3 rfl rfl (by kernel_rfl) (by decide)); rw [d3] at E31
      refine .inr ⟨wanted_none rfl, ?_⟩
      have h8 := ((HHB.out.below hI (Nat.le_refl _)).more hI.size).takeS n
      refine .inr (.inr (.inl ⟨15, #[.pointer (some ⟨g0, 0, none⟩), .slice A n cap], ?_, (write_any' W1 g0 [] 0 A n cap (bs.take n) (by rw [List.length_take, HL.out]; omega) hs0 h8 (by omega) (by omega) (by decide) (fun a e => by have := HAB.out a e; omega)).mono ?_⟩))
      · have Ec : ∀ v, F.eval (.const v) = v := fun _ => rfl; have Ef : ∀ f, F.eval (.func f) = .func (.func f) #[] #[] := fun _ => rfl; clear hF hd; generalize F.eval = ρ at E28 E31 Ec Ef ⊢
        simp [execOp, go_sem, Ec, Ef, E28, E31]
      rintro e W2 ⟨rfl, hs, hb⟩
      exact ⟨_, rfl, fun h => absurd h (by decide), Below.grow_ hI hb hg0, g0, rfl, hg0, by rw [List.nil_append, Nat.zero_add] at hs; exact hs⟩
    case ob5 =>
      intro p vals W1 F hF hlo hhi hI hd
      have E0 : F.eval (.tmp 0) = .slice A L cap := hF.out_ (by kernel_rfl) rfl
      refine .inr ⟨wanted_none rfl, .inl ⟨.slice A L cap, ?_, hI, TyP.of_is rfl⟩⟩
      simp only [execOp, E0, Sem.run_pure]
    case ob6 =>
      intro p vals W1 F hF hlo hhi hI hd
      have E6 : F.eval (.tmp 6) = .int .i64 (n : Int) := hF.out_ (by kernel_rfl) rfl
      refine .inr ⟨wanted_none rfl, .inl ⟨.int .i64 (n : Int), ?_, hI, TyP.of_is rfl⟩⟩
      simp only [execOp, E6, Sem.run_pure]
    case ob7 =>
      intro p vals W1 F hF hlo hhi hI hd
      have d5 : vals 5 = .slice A L cap := hd ⟨5, .data⟩ (Array.mem_of_getElem? (i := 0) rfl) rfl (Nat.le_trans hhi (show (2 : Nat) ≤ 1000 by decide))
      have d6 : vals 6 = .int .i64 (n : Int) := hd ⟨6, .data⟩ (Array.mem_of_getElem? (i := 1) rfl) rfl (Nat.le_trans hhi (show (2 : Nat) ≤ 1000 by decide))
      have E33 := eval_some (hF.own_ 5 rfl rfl (by kernel_rfl) (by decide)); rw [d5] at E33
      have E34 := eval_some (hF.own_ 6 rfl rfl (by kernel_rfl) (by decide)); rw [d6] at E34
      refine .inr ⟨wanted_none rfl, ?_⟩
      refine .inl ⟨.slice (cutS A n cap) (L - n) (cap - n), ?_, hI, TyP.of_is rfl⟩
      have Ec : ∀ v, F.eval (.const v) = v := fun _ => rfl; have Ef : ∀ f, F.eval (.func f) = .func (.func f) #[] #[] := fun _ => rfl; clear hF hd; generalize F.eval = ρ at E33 E34 Ec Ef ⊢
      exact slice_fromS A L cap n hAs E33 E34 hnl hcap W1
    case ob8 =>
      intro p vals W1 F hF hlo hhi hI hd
      have hp : p = 2 := Nat.le_antisymm hhi hlo
      subst hp
      clear hlo hhi
      obtain ⟨g4, hspec4, hg4, hs4⟩ := hd ⟨4, .data⟩ (Array.mem_of_getElem? (i := 0) rfl) rfl (show (2 : Nat) ≤ 2 by decide)
      have d4 : vals 4 = .pointer (some ⟨g4, 0, none⟩) := hspec4
      have d7 : vals 7 = .slice (cutS A n cap) (L - n) (cap - n) := hd ⟨7, .data⟩ (Array.mem_of_getElem? (i := 1) rfl) rfl (show (2 : Nat) ≤ 1000 by decide)
      have E32 := eval_some (hF.own_ 4 rfl rfl (by kernel_rfl) (by decide)); rw [d4] at E32
      have E35 := eval_some (hF.own_ 7 rfl rfl (by kernel_rfl) (by decide)); rw [d7] at E35
      refine .inr ⟨wanted_none rfl, ?_⟩
      have h8 := ((HHB.out.below hI (Nat.le_refl _)).more hI.size).dropS n cap (by rw [HL.out]; exact hnl) (by rw [HL.out]; exact hcap)
      refine .inr (.inr (.inl ⟨15, #[.pointer (some ⟨g4, 0, none⟩), .slice (cutS A n cap) (L - n) (cap - n)], ?_, (write_any' W1 g4 (bs.take n) n (cutS A n cap) (L - n) (cap - n) (bs.drop n) (by rw [List.length_drop, HL.out]) hs4 h8 (by omega) (by omega) (by omega) (fun a e => by obtain ⟨a0, h1, h2⟩ := cutS_block e; have := HAB.out a0 h1; omega)).mono ?_⟩))
      · have Ec : ∀ v, F.eval (.const v) = v := fun _ => rfl; have Ef : ∀ f, F.eval (.func f) = .func (.func f) #[] #[] := fun _ => rfl; clear hF hd; generalize F.eval = ρ at E32 E35 Ec Ef ⊢
        simp [execOp, go_sem, Ec, Ef, E32, E35]
      rintro e W2 ⟨rfl, hs, hb⟩
      exact ⟨_, rfl, fun h => absurd h (by decide), Below.grow_ hI hb hg4, g4, rfl, hg4, by rw [List.take_append_drop, show n + (L - n) = L by omega] at hs; exact hs⟩
    case ob9 =>
      intro p vals W1 F hF hlo hhi hI hd
      have hp : p = 3 := Nat.le_antisymm hhi hlo
      subst hp
      clear hlo hhi
      obtain hs8 := hd ⟨8, .data⟩ (Array.mem_of_getElem? (i := 0) rfl) rfl (show (3 : Nat) ≤ 3 by decide)
      have d8 : vals 8 = vals 8 := rfl
      have E36 := eval_some (hF.own_ 8 rfl rfl (by kernel_rfl) (by decide)); rw [d8] at E36
      refine .inr ⟨wanted_none rfl, ?_⟩
      refine .inl ⟨vals 8, ?_, hI, hs8⟩
      simp only [execOp, E36, Sem.run_pure]
    case obend =>
      intro vals W1 F hF hdef hI hT
      obtain ⟨g2, hv9, hg2, hs2⟩ := hT 9 (by decide) (show (3 : Nat) ≤ 3 by decide)
      rename_i K hK9
      refine hK9 _ _ ?_
      rw [hF.act]
      simp only [fin, Act.put, List.setIfInBounds_toArray, List.set_cons_succ, List.set_cons_zero]
      rw [hv9]
      clear hF hT hv9
      have hK1 := hK.call hI
      have hHB1 := (HHB.out.below hI (Nat.le_refl _)).more hI.size
      have HH1 := Lib.hid hHB1
      have hbw := hK.lt 0 rfl
      have hg2w : Bw ≠ g2 := by have h9 : Bw < Wb.heap.size := hbw; omega
      have hwb := hK.bel.size
      have hg2b : w.heap.size ≤ g2 := by omega
      clear hI hHB1 hK hbw hwb
      obtain ⟨Wc, hWc⟩ : ∃ Wc, W1 = Wc := ⟨_, rfl⟩
      rw [hWc] at hs2 hK1 HH1 ⊢
      clear hWc
      have CNW := Lib.hid (new_any Wc)
      go_wp2_with (go_at_call 13; (with_reducible refine CNW.out.mono ?_); rintro e Wd ⟨g1, rfl, hg1, hs1, hb1⟩; clear CNW)
      have hs2d := hs2.later hb1
      have hKd := hK1.call hb1
      have hHd := HH1.out.later hb1
      have hg12 : g1 ≠ g2 := by have := hs2.lt; omega
      have hg1w : Bw ≠ g1 := by have h9 : Bw < Wc.heap.size := hK1.lt 0 rfl; omega
      have hg1b : w.heap.size ≤ g1 := by have := hK1.bel.size; omega
      have hAg : ∀ a, A = some a → a.block ≠ g1 := fun a e => by
        rcases HH1.out with ⟨e1, _⟩ | ⟨b, off, e1, hb, _⟩
        · rw [e] at e1; cases e1
        · rw [e] at e1; injection e1 with e1; rw [e1]; show b ≠ g1; omega
      have HAG := Lib.hid hAg
      clear hs2 hK1 HH1 hb1 hg1 HAB HHB CO CA hAg hwb
      go_loopw [40] (fun iv wr => ∃ k : Nat, k ≤ L ∧ iv = .int .i64 k ∧ SumIn wr g1 (bs.take k) k ∧ SumIn wr g2 bs L ∧ Keeps w [(Bw, arr8 (sha bs), 25)] wr ∧ Holds8 wr.heap.size wr A bs) (fun iv _ => L - (intOf iv).toNat)
      case atStart => exact ⟨0, Nat.zero_le _, rfl, by rw [List.take_zero]; exact hs1, hs2d, hKd, hHd⟩
      case round =>
        clear hs1 hs2d hKd hHd
        obtain ⟨k, hk, rfl, h1, h2, hKr, h8⟩ := hrel
        by_cases hlt : k < L
        · have hsl := fun W => slice_midS A L cap k (k + 1) hAs (by omega) (by omega) hcap W
          rw [show ((k + 1 : Nat) : Int) = (k : Int) + 1 by omega, show k + 1 - k = 1 by omega] at hsl
          have hp := (h8.dropS k cap (by rw [HL.out]; exact hk) (by rw [HL.out]; exact hcap)).takeS 1
          have CW := Lib.hid (write_any' wr g1 (bs.take k) k (cutS A k cap) 1 (cap - k) ((bs.drop k).take 1) (by rw [List.length_take, List.length_drop, HL.out]; omega) h1 hp (by omega) (by omega) (by omega) (fun a e => by obtain ⟨a0, q1, q2⟩ := cutS_block e; rw [q2]; exact HAG.out a0 q1))
          have H2 := Lib.hid h2
          have HKR := Lib.hid hKr
          have H8 := Lib.hid h8
          clear hp h1 h2 hKr h8
          go_wp2_with (go_at_call 15; (with_reducible refine CW.out.mono ?_); rintro e We ⟨rfl, hse, hge⟩; have HSE := Lib.hid hse; have HGE := Lib.hid hge; clear hse hge CW)
          go_roundw
          case rel =>
            refine ⟨k + 1, by omega, by go_num, ?_, H2.out.other HGE.out (Ne.symm hg12), HKR.out.grow HGE.out (fun i p hi => by (match i, hi with | 0, hi => exact (by cases hi; exact hg1w))) hg1b, H8.out.apart HGE.out.size HAG.out (fun q hq hne => HGE.out.block q hq (fun e => hne (by injection e)))⟩
            have hse := HSE.out
            rw [show bs.take k ++ (bs.drop k).take 1 = bs.take (k + 1) by rw [List.take_add]] at hse
            exact hse
          case measure => simp [intOf]; omega
        · have hkL : k = L := by omega
          have hs1f : SumIn wr g1 bs L := by rw [hkL, List.take_of_length_le (by rw [HL.out]; exact Nat.le_refl _)] at h1; exact h1
          clear h1 h8
          go_wp2
          have hwL : IntKind.u64.wrap (L : Int) = (L : Int) := by rw [IntKind.wrap_u64]; omega
          refine wp_region_phased 79 rfl (fun _ _ _ _ => True) (fun p W1 => SumIn W1 g1 bs L ∧ SumIn W1 g2 bs L ∧ Keeps w [(Bw, arr8 (sha bs), 25)] W1) [.is (.bool true), .is (.bool true), .is (.pointer (some ⟨g2, 0, none⟩)), .is (.agg (arr8 (sha bs))), .is (.agg (arr8 (sha bs))), .is (.bool true), .is (.bool true), .is (.bool true), .is (.pointer (some ⟨g1, 0, none⟩)), .is (.agg (arr8 (sha bs))), .is (.agg (arr8 (sha bs))), .is (.bool true), .is (.bool true), .is (.bool true), .is (.pointer (some ⟨g1, 0, none⟩)), .is (.int .u64 (L : Int)), .is (.slice A L cap), .is (.int .i64 (L : Int)), .is (.int .u64 (L : Int)), .is (.bool true), .is (.bool true), .is (.bool true), .is (.pointer (some ⟨g2, 0, none⟩)), .is (.pointer (some ⟨g2, 0, none⟩)), .is (.agg (arr8 (sha bs))), .is (.agg (arr8 (sha bs))), .is (.bool true), .is (.bool true), .is (.bool true)] [] [0, 0, 0, 0, 0, 0, 0, 0, 0, 0, 0, 0, 0, 0, 0, 0, 0, 0, 0, 0, 0, 0, 0, 0, 0, 0, 0, 0, 0] [0, 0, 0, 0, 0, 0, 0, 0, 0, 0, 0, 0, 0, 0, 0, 0, 0, 0, 0, 0, 0, 0, 0, 0, 0, 0, 0, 0, 0] (by kernel_rfl) (by kernel_rfl) (by kernel_rfl) (fun _ _ _ => trivial) (⟨hs1f.below (Below.refl _ _).drew hs1f.lt, h2.below (Below.refl _ _).drew h2.lt, hKr.drew⟩) ⟨?qb0, ?qb1, ?qb2, ?qb3, ?qb4, ?qb5, ?qb6, ?qb7, ?qb8, ?qb9, ?qb10, ?qb11, ?qb12, ?qb13, ?qb14, ?qb15, ?qb16, ?qb17, ?qb18, ?qb19, ?qb20, ?qb21, ?qb22, ?qb23, ?qb24, ?qb25, ?qb26, ?qb27, ?qb28, trivial⟩ ?qbend
          case qb0 =>
            intro p vals W1 F hF hlo hhi hI hd
            have hp : p = 0 := Nat.le_antisymm hhi hlo
            subst hp
            clear hlo hhi
            have E5 : F.eval (.tmp 5) = .bool true := hF.out_ (by kernel_rfl) rfl
            refine .inr ⟨wanted_none rfl, .inl ⟨.bool true, ?_, hI, TyP.of_is rfl⟩⟩
            simp only [execOp, E5, Sem.run_pure]
          case qb1 =>
            intro p vals W1 F hF hlo hhi hI hd
            have hp : p = 0 := Nat.le_antisymm hhi hlo
            subst hp
            clear hlo hhi
            have d0 : vals 0 = .bool true := hd ⟨0, .data⟩ (Array.mem_of_getElem? (i := 0) rfl) rfl (show (0 : Nat) ≤ 1000 by decide)
            have E51 := eval_some (hF.own_ 0 rfl rfl (by kernel_rfl) (by decide)); rw [d0] at E51
            refine .inr ⟨wanted_none rfl, .inl ⟨.bool true, ?_, hI, TyP.of_is rfl⟩⟩
            simp only [execOp, E51, Sem.run_pure]
          case qb2 =>
            intro p vals W1 F hF hlo hhi hI hd
            have hp : p = 0 := Nat.le_antisymm hhi hlo
            subst hp
            clear hlo hhi
            have d1 : vals 1 = .bool true := hd ⟨1, .guard⟩ (Array.mem_of_getElem? (i := 0) rfl) rfl (show (0 : Nat) ≤ 1000 by decide)
            have E8 : F.eval (.tmp 8) = .pointer (some ⟨g2, 0, none⟩) := hF.out_ (by kernel_rfl) rfl
            have G := hF.own_ 1 rfl rfl (by kernel_rfl) (by decide); rw [d1] at G
            refine .inr ⟨wanted_yes rfl rfl rfl G, .inl ⟨.pointer (some ⟨g2, 0, none⟩), ?_, hI, TyP.of_is rfl⟩⟩
            simp only [execOp, E8, Sem.run_pure]
          case qb3 =>
            intro p vals W1 F hF hlo hhi hI hd
            have hp : p = 0 := Nat.le_antisymm hhi hlo
            subst hp
            clear hlo hhi
            have d1 : vals 1 = .bool true := hd ⟨1, .chain⟩ (Array.mem_of_getElem? (i := 1) rfl) rfl (show (0 : Nat) ≤ 1000 by decide)
            have d2 : vals 2 = .pointer (some ⟨g2, 0, none⟩) := hd ⟨2, .data⟩ (Array.mem_of_getElem? (i := 0) rfl) rfl (show (0 : Nat) ≤ 1000 by decide)
            have E53 := eval_some (hF.own_ 2 rfl rfl (by kernel_rfl) (by decide)); rw [d2] at E53
            have G := hF.own_ 1 rfl rfl (by kernel_rfl) (by decide); rw [d1] at G
            refine .inr ⟨wanted_yes rfl rfl rfl G, ?_⟩
            refine .inr (.inr (.inl ⟨16, #[.pointer (some ⟨g2, 0, none⟩)], ?_, (end_any W1 g2 bs (by rw [HL.out]; exact hI.2.1) (by rw [HL.out]; omega)).mono ?_⟩))
            · have Ec : ∀ v, F.eval (.const v) = v := fun _ => rfl; have Ef : ∀ f, F.eval (.func f) = .func (.func f) #[] #[] := fun _ => rfl; clear hF hd; generalize F.eval = ρ at E53 Ec Ef ⊢
              simp [execOp, go_sem, Ec, Ef, E53]
            rintro e W2 ⟨rfl, hb⟩
            exact ⟨_, rfl, trivial, ⟨hI.1.later hb, hI.2.1.later hb, hI.2.2.call hb⟩, TyP.of_is rfl⟩
          case qb4 =>
            intro p vals W1 F hF hlo hhi hI hd
            have hp : p = 0 := Nat.le_antisymm hhi hlo
            subst hp
            clear hlo hhi
            have d1 : vals 1 = .bool true := hd ⟨1, .guard⟩ (Array.mem_of_getElem? (i := 0) rfl) rfl (show (0 : Nat) ≤ 1000 by decide)
            have E7 : F.eval (.tmp 7) = .pointer (some ⟨Bw, 0, none⟩) := hF.out_ (by kernel_rfl) rfl
            have G := hF.own_ 1 rfl rfl (by kernel_rfl) (by decide); rw [d1] at G
            refine .inr ⟨wanted_yes rfl rfl rfl G, ?_⟩
            have hl := run_loadVar_row (P := Try.prog) W1 Bw 25 25 (arr8 (sha bs)) (0, 0) _ (hI.2.2.get 0 rfl) Try.underlying25 rfl (infoH _ rfl)
            refine .inl ⟨.agg (arr8 (sha bs)), ?_, hI, TyP.of_is rfl⟩
            have Ec : ∀ v, F.eval (.const v) = v := fun _ => rfl; have Ef : ∀ f, F.eval (.func f) = .func (.func f) #[] #[] := fun _ => rfl; clear hF hd; generalize F.eval = ρ at E7 Ec Ef ⊢
            simp only [execOp, E7, Instr.loadAt, Instr.sureAddr, Sem.run_bind, Sem.run_pure, Result.andThen_ok, hl]
          case qb5 =>
            intro p vals W1 F hF hlo hhi hI hd
            have hp : p = 0 := Nat.le_antisymm hhi hlo
            subst hp
            clear hlo hhi
            have d1 : vals 1 = .bool true := hd ⟨1, .guard⟩ (Array.mem_of_getElem? (i := 2) rfl) rfl (show (0 : Nat) ≤ 1000 by decide)
            have d3 : vals 3 = .agg (arr8 (sha bs)) := hd ⟨3, .data⟩ (Array.mem_of_getElem? (i := 0) rfl) rfl (show (0 : Nat) ≤ 1000 by decide)
            have d4 : vals 4 = .agg (arr8 (sha bs)) := hd ⟨4, .data⟩ (Array.mem_of_getElem? (i := 1) rfl) rfl (show (0 : Nat) ≤ 1000 by decide)
            have E54 := eval_some (hF.own_ 3 rfl rfl (by kernel_rfl) (by decide)); rw [d3] at E54
            have E55 := eval_some (hF.own_ 4 rfl rfl (by kernel_rfl) (by decide)); rw [d4] at E55
            have G := hF.own_ 1 rfl rfl (by kernel_rfl) (by decide); rw [d1] at G
            refine .inr ⟨wanted_yes rfl rfl rfl G, .inl ⟨.bool true, ?_, hI, TyP.of_is rfl⟩⟩
            have Ec : ∀ v, F.eval (.const v) = v := fun _ => rfl; have Ef : ∀ f, F.eval (.func f) = .func (.func f) #[] #[] := fun _ => rfl; clear hF hd; generalize F.eval = ρ at E54 E55 Ec Ef ⊢
            simp [execOp, go_sem, Ec, E54, E55, eq32 (sha bs) rfl]
          case qb6 =>
            intro p vals W1 F hF hlo hhi hI hd
            have hp : p = 0 := Nat.le_antisymm hhi hlo
            subst hp
            clear hlo hhi
            have d1 : vals 1 = .bool true := hd ⟨1, .data⟩ (Array.mem_of_getElem? (i := 0) rfl) rfl (show (0 : Nat) ≤ 1000 by decide)
            have d5 : vals 5 = .bool true := hd ⟨5, .data⟩ (Array.mem_of_getElem? (i := 1) rfl) rfl (show (0 : Nat) ≤ 1000 by decide)
            have E52 := eval_some (hF.own_ 1 rfl rfl (by kernel_rfl) (by decide)); rw [d1] at E52
            have E56 := eval_some (hF.own_ 5 rfl rfl (by kernel_rfl) (by decide)); rw [d5] at E56
            refine .inr ⟨wanted_none rfl, .inl ⟨.bool true, ?_, hI, TyP.of_is rfl⟩⟩
            have Ec : ∀ v, F.eval (.const v) = v := fun _ => rfl; have Ef : ∀ f, F.eval (.func f) = .func (.func f) #[] #[] := fun _ => rfl; clear hF hd; generalize F.eval = ρ at E52 E56 Ec Ef ⊢
            simp [execOp, go_sem, Ec, E52, E56]
          case qb7 =>
            intro p vals W1 F hF hlo hhi hI hd
            have hp : p = 0 := Nat.le_antisymm hhi hlo
            subst hp
            clear hlo hhi
            have d6 : vals 6 = .bool true := hd ⟨6, .data⟩ (Array.mem_of_getElem? (i := 0) rfl) rfl (show (0 : Nat) ≤ 1000 by decide)
            have E57 := eval_some (hF.own_ 6 rfl rfl (by kernel_rfl) (by decide)); rw [d6] at E57
            refine .inr ⟨wanted_none rfl, .inl ⟨.bool true, ?_, hI, TyP.of_is rfl⟩⟩
            simp only [execOp, E57, Sem.run_pure]
          case qb8 =>
            intro p vals W1 F hF hlo hhi hI hd
            have hp : p = 0 := Nat.le_antisymm hhi hlo
            subst hp
            clear hlo hhi
            have d7 : vals 7 = .bool true := hd ⟨7, .guard⟩ (Array.mem_of_getElem? (i := 0) rfl) rfl (show (0 : Nat) ≤ 1000 by decide)
            have E9 : F.eval (.tmp 9) = .pointer (some ⟨g1, 0, none⟩) := hF.out_ (by kernel_rfl) rfl
            have G := hF.own_ 7 rfl rfl (by kernel_rfl) (by decide); rw [d7] at G
            refine .inr ⟨wanted_yes rfl rfl rfl G, .inl ⟨.pointer (some ⟨g1, 0, none⟩), ?_, hI, TyP.of_is rfl⟩⟩
            simp only [execOp, E9, Sem.run_pure]
          case qb9 =>
            intro p vals W1 F hF hlo hhi hI hd
            have hp : p = 0 := Nat.le_antisymm hhi hlo
            subst hp
            clear hlo hhi
            have d7 : vals 7 = .bool true := hd ⟨7, .chain⟩ (Array.mem_of_getElem? (i := 1) rfl) rfl (show (0 : Nat) ≤ 1000 by decide)
            have d8 : vals 8 = .pointer (some ⟨g1, 0, none⟩) := hd ⟨8, .data⟩ (Array.mem_of_getElem? (i := 0) rfl) rfl (show (0 : Nat) ≤ 1000 by decide)
            have E59 := eval_some (hF.own_ 8 rfl rfl (by kernel_rfl) (by decide)); rw [d8] at E59
            have G := hF.own_ 7 rfl rfl (by kernel_rfl) (by decide); rw [d7] at G
            refine .inr ⟨wanted_yes rfl rfl rfl G, ?_⟩
            refine .inr (.inr (.inl ⟨16, #[.pointer (some ⟨g1, 0, none⟩)], ?_, (end_any W1 g1 bs (by rw [HL.out]; exact hI.1) (by rw [HL.out]; omega)).mono ?_⟩))
            · have Ec : ∀ v, F.eval (.const v) = v := fun _ => rfl; have Ef : ∀ f, F.eval (.func f) = .func (.func f) #[] #[] := fun _ => rfl; clear hF hd; generalize F.eval = ρ at E59 Ec Ef ⊢
              simp [execOp, go_sem, Ec, Ef, E59]
            rintro e W2 ⟨rfl, hb⟩
            exact ⟨_, rfl, trivial, ⟨hI.1.later hb, hI.2.1.later hb, hI.2.2.call hb⟩, TyP.of_is rfl⟩
          case qb10 =>
            intro p vals W1 F hF hlo hhi hI hd
            have hp : p = 0 := Nat.le_antisymm hhi hlo
            subst hp
            clear hlo hhi
            have d7 : vals 7 = .bool true := hd ⟨7, .guard⟩ (Array.mem_of_getElem? (i := 0) rfl) rfl (show (0 : Nat) ≤ 1000 by decide)
            have E7 : F.eval (.tmp 7) = .pointer (some ⟨Bw, 0, none⟩) := hF.out_ (by kernel_rfl) rfl
            have G := hF.own_ 7 rfl rfl (by kernel_rfl) (by decide); rw [d7] at G
            refine .inr ⟨wanted_yes rfl rfl rfl G, ?_⟩
            have hl := run_loadVar_row (P := Try.prog) W1 Bw 25 25 (arr8 (sha bs)) (0, 0) _ (hI.2.2.get 0 rfl) Try.underlying25 rfl (infoH _ rfl)
            refine .inl ⟨.agg (arr8 (sha bs)), ?_, hI, TyP.of_is rfl⟩
            have Ec : ∀ v, F.eval (.const v) = v := fun _ => rfl; have Ef : ∀ f, F.eval (.func f) = .func (.func f) #[] #[] := fun _ => rfl; clear hF hd; generalize F.eval = ρ at E7 Ec Ef ⊢
            simp only [execOp, E7, Instr.loadAt, Instr.sureAddr, Sem.run_bind, Sem.run_pure, Result.andThen_ok, hl]
          case qb11 =>
            intro p vals W1 F hF hlo hhi hI hd
            have hp : p = 0 := Nat.le_antisymm hhi hlo
            subst hp
            clear hlo hhi
            have d7 : vals 7 = .bool true := hd ⟨7, .guard⟩ (Array.mem_of_getElem? (i := 2) rfl) rfl (show (0 : Nat) ≤ 1000 by decide)
            have d9 : vals 9 = .agg (arr8 (sha bs)) := hd ⟨9, .data⟩ (Array.mem_of_getElem? (i := 0) rfl) rfl (show (0 : Nat) ≤ 1000 by decide)
            have d10 : vals 10 = .agg (arr8 (sha bs)) := hd ⟨10, .data⟩ (Array.mem_of_getElem? (i := 1) rfl) rfl (show (0 : Nat) ≤ 1000 by decide)
            have E60 := eval_some (hF.own_ 9 rfl rfl (by kernel_rfl) (by decide)); rw [d9] at E60
            have E61 := eval_some (hF.own_ 10 rfl rfl (by kernel_rfl) (by decide)); rw [d10] at E61
            have G := hF.own_ 7 rfl rfl (by kernel_rfl) (by decide); rw [d7] at G
            refine .inr ⟨wanted_yes rfl rfl rfl G, .inl ⟨.bool true, ?_, hI, TyP.of_is rfl⟩⟩
            have Ec : ∀ v, F.eval (.const v) = v := fun _ => rfl; have Ef : ∀ f, F.eval (.func f) = .func (.func f) #[] #[] := fun _ => rfl; clear hF hd; generalize F.eval = ρ at E60 E61 Ec Ef ⊢
            simp [execOp, go_sem, Ec, E60, E61, eq32 (sha bs) rfl]
          case qb12 =>
            intro p vals W1 F hF hlo hhi hI hd
            have hp : p = 0 := Nat.le_antisymm hhi hlo
            subst hp
            clear hlo hhi
            have d7 : vals 7 = .bool true := hd ⟨7, .data⟩ (Array.mem_of_getElem? (i := 0) rfl) rfl (show (0 : Nat) ≤ 1000 by decide)
            have d11 : vals 11 = .bool true := hd ⟨11, .data⟩ (Array.mem_of_getElem? (i := 1) rfl) rfl (show (0 : Nat) ≤ 1000 by decide)
            have E58 := eval_some (hF.own_ 7 rfl rfl (by kernel_rfl) (by decide)); rw [d7] at E58
            have E62 := eval_some (hF.own_ 11 rfl rfl (by kernel_rfl) (by decide)); rw [d11] at E62
            refine .inr ⟨wanted_none rfl, .inl ⟨.bool true, ?_, hI, TyP.of_is rfl⟩⟩
            have Ec : ∀ v, F.eval (.const v) = v := fun _ => rfl; have Ef : ∀ f, F.eval (.func f) = .func (.func f) #[] #[] := fun _ => rfl; clear hF hd; generalize F.eval = ρ at E58 E62 Ec Ef ⊢
            simp [execOp, go_sem, Ec, E58, E62]
          case qb13 =>
            intro p vals W1 F hF hlo hhi hI hd
            have hp : p = 0 := Nat.le_antisymm hhi hlo
            subst hp
            clear hlo hhi
            have d12 : vals 12 = .bool true := hd ⟨12, .data⟩ (Array.mem_of_getElem? (i := 0) rfl) rfl (show (0 : Nat) ≤ 1000 by decide)
            have E63 := eval_some (hF.own_ 12 rfl rfl (by kernel_rfl) (by decide)); rw [d12] at E63
            refine .inr ⟨wanted_none rfl, .inl ⟨.bool true, ?_, hI, TyP.of_is rfl⟩⟩
            simp only [execOp, E63, Sem.run_pure]
          case qb14 =>
            intro p vals W1 F hF hlo hhi hI hd
            have hp : p = 0 := Nat.le_antisymm hhi hlo
            subst hp
            clear hlo hhi
            have d13 : vals 13 = .bool true := hd ⟨13, .guard⟩ (Array.mem_of_getElem? (i := 0) rfl) rfl (show (0 : Nat) ≤ 1000 by decide)
            have E9 : F.eval (.tmp 9) = .pointer (some ⟨g1, 0, none⟩) := hF.out_ (by kernel_rfl) rfl
            have G := hF.own_ 13 rfl rfl (by kernel_rfl) (by decide); rw [d13] at G
            refine .inr ⟨wanted_yes rfl rfl rfl G, .inl ⟨.pointer (some ⟨g1, 0, none⟩), ?_, hI, TyP.of_is rfl⟩⟩
            simp only [execOp, E9, Sem.run_pure]
          case qb15 =>
            intro p vals W1 F hF hlo hhi hI hd
            have hp : p = 0 := Nat.le_antisymm hhi hlo
            subst hp
            clear hlo hhi
            have d13 : vals 13 = .bool true := hd ⟨13, .chain⟩ (Array.mem_of_getElem? (i := 1) rfl) rfl (show (0 : Nat) ≤ 1000 by decide)
            have d14 : vals 14 = .pointer (some ⟨g1, 0, none⟩) := hd ⟨14, .data⟩ (Array.mem_of_getElem? (i := 0) rfl) rfl (show (0 : Nat) ≤ 1000 by decide)
            have E65 := eval_some (hF.own_ 14 rfl rfl (by kernel_rfl) (by decide)); rw [d14] at E65
            have G := hF.own_ 13 rfl rfl (by kernel_rfl) (by decide); rw [d13] at G
            refine .inr ⟨wanted_yes rfl rfl rfl G, ?_⟩
            refine .inr (.inr (.inl ⟨17, #[.pointer (some ⟨g1, 0, none⟩)], ?_, (len_any W1 g1 bs L hI.1).mono ?_⟩))
            · have Ec : ∀ v, F.eval (.const v) = v := fun _ => rfl; have Ef : ∀ f, F.eval (.func f) = .func (.func f) #[] #[] := fun _ => rfl; clear hF hd; generalize F.eval = ρ at E65 Ec Ef ⊢
              simp [execOp, go_sem, Ec, Ef, E65]
            rintro e W2 ⟨rfl, rfl⟩
            exact ⟨_, rfl, trivial, hI, TyP.of_is rfl⟩
          case qb16 =>
            intro p vals W1 F hF hlo hhi hI hd
            have hp : p = 0 := Nat.le_antisymm hhi hlo
            subst hp
            clear hlo hhi
            have d13 : vals 13 = .bool true := hd ⟨13, .guard⟩ (Array.mem_of_getElem? (i := 0) rfl) rfl (show (0 : Nat) ≤ 1000 by decide)
            have E0 : F.eval (.tmp 0) = .slice A L cap := hF.out_ (by kernel_rfl) rfl
            have G := hF.own_ 13 rfl rfl (by kernel_rfl) (by decide); rw [d13] at G
            refine .inr ⟨wanted_yes rfl rfl rfl G, .inl ⟨.slice A L cap, ?_, hI, TyP.of_is rfl⟩⟩
            simp only [execOp, E0, Sem.run_pure]
          case qb17 =>
            intro p vals W1 F hF hlo hhi hI hd
            have hp : p = 0 := Nat.le_antisymm hhi hlo
            subst hp
            clear hlo hhi
            have d13 : vals 13 = .bool true := hd ⟨13, .guard⟩ (Array.mem_of_getElem? (i := 1) rfl) rfl (show (0 : Nat) ≤ 1000 by decide)
            have d16 : vals 16 = .slice A L cap := hd ⟨16, .data⟩ (Array.mem_of_getElem? (i := 0) rfl) rfl (show (0 : Nat) ≤ 1000 by decide)
            have E67 := eval_some (hF.own_ 16 rfl rfl (by kernel_rfl) (by decide)); rw [d16] at E67
            have G := hF.own_ 13 rfl rfl (by kernel_rfl) (by decide); rw [d13] at G
            refine .inr ⟨wanted_yes rfl rfl rfl G, .inl ⟨.int .i64 (L : Int), ?_, hI, TyP.of_is rfl⟩⟩
            have Ec : ∀ v, F.eval (.const v) = v := fun _ => rfl; have Ef : ∀ f, F.eval (.func f) = .func (.func f) #[] #[] := fun _ => rfl; clear hF hd; generalize F.eval = ρ at E67 Ec Ef ⊢
            simp [execOp, go_sem, Ec, E67]
          case qb18 =>
            intro p vals W1 F hF hlo hhi hI hd
            have hp : p = 0 := Nat.le_antisymm hhi hlo
            subst hp
            clear hlo hhi
            have d13 : vals 13 = .bool true := hd ⟨13, .guard⟩ (Array.mem_of_getElem? (i := 1) rfl) rfl (show (0 : Nat) ≤ 1000 by decide)
            have d17 : vals 17 = .int .i64 (L : Int) := hd ⟨17, .data⟩ (Array.mem_of_getElem? (i := 0) rfl) rfl (show (0 : Nat) ≤ 1000 by decide)
            have E68 := eval_some (hF.own_ 17 rfl rfl (by kernel_rfl) (by decide)); rw [d17] at E68
            have G := hF.own_ 13 rfl rfl (by kernel_rfl) (by decide); rw [d13] at G
            refine .inr ⟨wanted_yes rfl rfl rfl G, .inl ⟨.int .u64 (L : Int), ?_, hI, TyP.of_is rfl⟩⟩
            have Ec : ∀ v, F.eval (.const v) = v := fun _ => rfl; have Ef : ∀ f, F.eval (.func f) = .func (.func f) #[] #[] := fun _ => rfl; clear hF hd; generalize F.eval = ρ at E68 Ec Ef ⊢
            simp [execOp, go_sem, Ec, E68, hwL]
          case qb19 =>
            intro p vals W1 F hF hlo hhi hI hd
            have hp : p = 0 := Nat.le_antisymm hhi hlo
            subst hp
            clear hlo hhi
            have d13 : vals 13 = .bool true := hd ⟨13, .guard⟩ (Array.mem_of_getElem? (i := 2) rfl) rfl (show (0 : Nat) ≤ 1000 by decide)
            have d15 : vals 15 = .int .u64 (L : Int) := hd ⟨15, .data⟩ (Array.mem_of_getElem? (i := 0) rfl) rfl (show (0 : Nat) ≤ 1000 by decide)
            have d18 : vals 18 = .int .u64 (L : Int) := hd ⟨18, .data⟩ (Array.mem_of_getElem? (i := 1) rfl) rfl (show (0 : Nat) ≤ 1000 by decide)
            have E66 := eval_some (hF.own_ 15 rfl rfl (by kernel_rfl) (by decide)); rw [d15] at E66
            have E69 := eval_some (hF.own_ 18 rfl rfl (by kernel_rfl) (by decide)); rw [d18] at E69
            have G := hF.own_ 13 rfl rfl (by kernel_rfl) (by decide); rw [d13] at G
            refine .inr ⟨wanted_yes rfl rfl rfl G, .inl ⟨.bool true, ?_, hI, TyP.of_is rfl⟩⟩
            have Ec : ∀ v, F.eval (.const v) = v := fun _ => rfl; have Ef : ∀ f, F.eval (.func f) = .func (.func f) #[] #[] := fun _ => rfl; clear hF hd; generalize F.eval = ρ at E66 E69 Ec Ef ⊢
            simp [execOp, go_sem, Ec, E66, E69]
          case qb20 =>
            intro p vals W1 F hF hlo hhi hI hd
            have hp : p = 0 := Nat.le_antisymm hhi hlo
            subst hp
            clear hlo hhi
            have d13 : vals 13 = .bool true := hd ⟨13, .data⟩ (Array.mem_of_getElem? (i := 0) rfl) rfl (show (0 : Nat) ≤ 1000 by decide)
            have d19 : vals 19 = .bool true := hd ⟨19, .data⟩ (Array.mem_of_getElem? (i := 1) rfl) rfl (show (0 : Nat) ≤ 1000 by decide)
            have E64 := eval_some (hF.own_ 13 rfl rfl (by kernel_rfl) (by decide)); rw [d13] at E64
            have E70 := eval_some (hF.own_ 19 rfl rfl (by kernel_rfl) (by decide)); rw [d19] at E70
            refine .inr ⟨wanted_none rfl, .inl ⟨.bool true, ?_, hI, TyP.of_is rfl⟩⟩
            have Ec : ∀ v, F.eval (.const v) = v := fun _ => rfl; have Ef : ∀ f, F.eval (.func f) = .func (.func f) #[] #[] := fun _ => rfl; clear hF hd; generalize F.eval = ρ at E64 E70 Ec Ef ⊢
            simp [execOp, go_sem, Ec, E64, E70]
          case qb21 =>
            intro p vals W1 F hF hlo hhi hI hd
            have hp : p = 0 := Nat.le_antisymm hhi hlo
            subst hp
            clear hlo hhi
            have d20 : vals 20 = .bool true := hd ⟨20, .data⟩ (Array.mem_of_getElem? (i := 0) rfl) rfl (show (0 : Nat) ≤ 1000 by decide)
            have E71 := eval_some (hF.own_ 20 rfl rfl (by kernel_rfl) (by decide)); rw [d20] at E71
            refine .inr ⟨wanted_none rfl, .inl ⟨.bool true, ?_, hI, TyP.of_is rfl⟩⟩
            simp only [execOp, E71, Sem.run_pure]
          case qb22 =>
            intro p vals W1 F hF hlo hhi hI hd
            have hp : p = 0 := Nat.le_antisymm hhi hlo
            subst hp
            clear hlo hhi
            have d21 : vals 21 = .bool true := hd ⟨21, .guard⟩ (Array.mem_of_getElem? (i := 0) rfl) rfl (show (0 : Nat) ≤ 1000 by decide)
            have E8 : F.eval (.tmp 8) = .pointer (some ⟨g2, 0, none⟩) := hF.out_ (by kernel_rfl) rfl
            have G := hF.own_ 21 rfl rfl (by kernel_rfl) (by decide); rw [d21] at G
            refine .inr ⟨wanted_yes rfl rfl rfl G, .inl ⟨.pointer (some ⟨g2, 0, none⟩), ?_, hI, TyP.of_is rfl⟩⟩
            simp only [execOp, E8, Sem.run_pure]
          case qb23 =>
            intro p vals W1 F hF hlo hhi hI hd
            have hp : p = 0 := Nat.le_antisymm hhi hlo
            subst hp
            clear hlo hhi
            have d21 : vals 21 = .bool true := hd ⟨21, .chain⟩ (Array.mem_of_getElem? (i := 1) rfl) rfl (show (0 : Nat) ≤ 1000 by decide)
            have d22 : vals 22 = .pointer (some ⟨g2, 0, none⟩) := hd ⟨22, .data⟩ (Array.mem_of_getElem? (i := 0) rfl) rfl (show (0 : Nat) ≤ 1000 by decide)
            have E73 := eval_some (hF.own_ 22 rfl rfl (by kernel_rfl) (by decide)); rw [d22] at E73
            have G := hF.own_ 21 rfl rfl (by kernel_rfl) (by decide); rw [d21] at G
            refine .inr ⟨wanted_yes rfl rfl rfl G, ?_⟩
            refine .inr (.inr (.inl ⟨15, #[.pointer (some ⟨g2, 0, none⟩), .slice none 0 0], ?_, (write_any' W1 g2 bs L none 0 0 [] rfl hI.2.1 (.inl ⟨rfl, rfl⟩) (by omega) (by omega) (by omega) (fun a e => by cases e)).mono ?_⟩))
            · have Ec : ∀ v, F.eval (.const v) = v := fun _ => rfl; have Ef : ∀ f, F.eval (.func f) = .func (.func f) #[] #[] := fun _ => rfl; clear hF hd; generalize F.eval = ρ at E73 Ec Ef ⊢
              simp [execOp, go_sem, Ec, Ef, E73]
            rintro e W2 ⟨rfl, hs, hg⟩
            exact ⟨_, rfl, trivial, ⟨hI.1.other hg hg12, by rw [List.append_nil] at hs; exact hs, hI.2.2.grow hg (fun i p hi => by (match i, hi with | 0, hi => exact (by cases hi; exact hg2w))) hg2b⟩, TyP.of_is rfl⟩
          case qb24 =>
            intro p vals W1 F hF hlo hhi hI hd
            have hp : p = 0 := Nat.le_antisymm hhi hlo
            subst hp
            clear hlo hhi
            have d21 : vals 21 = .bool true := hd ⟨21, .guard⟩ (Array.mem_of_getElem? (i := 2) rfl) rfl (show (0 : Nat) ≤ 1000 by decide)
            have d23 : vals 23 = .pointer (some ⟨g2, 0, none⟩) := hd ⟨23, .data⟩ (Array.mem_of_getElem? (i := 0) rfl) rfl (show (0 : Nat) ≤ 1000 by decide)
            have E74 := eval_some (hF.own_ 23 rfl rfl (by kernel_rfl) (by decide)); rw [d23] at E74
            have G := hF.own_ 21 rfl rfl (by kernel_rfl) (by decide); rw [d21] at G
            refine .inr ⟨wanted_yes rfl rfl rfl G, ?_⟩
            refine .inr (.inr (.inl ⟨16, #[.pointer (some ⟨g2, 0, none⟩)], ?_, (end_any W1 g2 bs (by rw [HL.out]; exact hI.2.1) (by rw [HL.out]; omega)).mono ?_⟩))
            · have Ec : ∀ v, F.eval (.const v) = v := fun _ => rfl; have Ef : ∀ f, F.eval (.func f) = .func (.func f) #[] #[] := fun _ => rfl; clear hF hd; generalize F.eval = ρ at E74 Ec Ef ⊢
              simp [execOp, go_sem, Ec, Ef, E74]
            rintro e W2 ⟨rfl, hb⟩
            exact ⟨_, rfl, trivial, ⟨hI.1.later hb, hI.2.1.later hb, hI.2.2.call hb⟩, TyP.of_is rfl⟩
          case qb25 =>
            intro p vals W1 F hF hlo hhi hI hd
            have hp : p = 0 := Nat.le_antisymm hhi hlo
            subst hp
            clear hlo hhi
            have d21 : vals 21 = .bool true := hd ⟨21, .guard⟩ (Array.mem_of_getElem? (i := 0) rfl) rfl (show (0 : Nat) ≤ 1000 by decide)
            have E7 : F.eval (.tmp 7) = .pointer (some ⟨Bw, 0, none⟩) := hF.out_ (by kernel_rfl) rfl
            have G := hF.own_ 21 rfl rfl (by kernel_rfl) (by decide); rw [d21] at G
            refine .inr ⟨wanted_yes rfl rfl rfl G, ?_⟩
            have hl := run_loadVar_row (P := Try.prog) W1 Bw 25 25 (arr8 (sha bs)) (0, 0) _ (hI.2.2.get 0 rfl) Try.underlying25 rfl (infoH _ rfl)
            refine .inl ⟨.agg (arr8 (sha bs)), ?_, hI, TyP.of_is rfl⟩
            have Ec : ∀ v, F.eval (.const v) = v := fun _ => rfl; have Ef : ∀ f, F.eval (.func f) = .func (.func f) #[] #[] := fun _ => rfl; clear hF hd; generalize F.eval = ρ at E7 Ec Ef ⊢
            simp only [execOp, E7, Instr.loadAt, Instr.sureAddr, Sem.run_bind, Sem.run_pure, Result.andThen_ok, hl]
          case qb26 =>
            intro p vals W1 F hF hlo hhi hI hd
            have hp : p = 0 := Nat.le_antisymm hhi hlo
            subst hp
            clear hlo hhi
            have d21 : vals 21 = .bool true := hd ⟨21, .guard⟩ (Array.mem_of_getElem? (i := 2) rfl) rfl (show (0 : Nat) ≤ 1000 by decide)
            have d24 : vals 24 = .agg (arr8 (sha bs)) := hd ⟨24, .data⟩ (Array.mem_of_getElem? (i := 0) rfl) rfl (show (0 : Nat) ≤ 1000 by decide)
            have d25 : vals 25 = .agg (arr8 (sha bs)) := hd ⟨25, .data⟩ (Array.mem_of_getElem? (i := 1) rfl) rfl (show (0 : Nat) ≤ 1000 by decide)
            have E75 := eval_some (hF.own_ 24 rfl rfl (by kernel_rfl) (by decide)); rw [d24] at E75
            have E76 := eval_some (hF.own_ 25 rfl rfl (by kernel_rfl) (by decide)); rw [d25] at E76
            have G := hF.own_ 21 rfl rfl (by kernel_rfl) (by decide); rw [d21] at G
            refine .inr ⟨wanted_yes rfl rfl rfl G, .inl ⟨.bool true, ?_, hI, TyP.of_is rfl⟩⟩
            have Ec : ∀ v, F.eval (.const v) = v := fun _ => rfl; have Ef : ∀ f, F.eval (.func f) = .func (.func f) #[] #[] := fun _ => rfl; clear hF hd; generalize F.eval = ρ at E75 E76 Ec Ef ⊢
            simp [execOp, go_sem, Ec, E75, E76, eq32 (sha bs) rfl]
          case qb27 =>
            intro p vals W1 F hF hlo hhi hI hd
            have hp : p = 0 := Nat.le_antisymm hhi hlo
            subst hp
            clear hlo hhi
            have d21 : vals 21 = .bool true := hd ⟨21, .data⟩ (Array.mem_of_getElem? (i := 0) rfl) rfl (show (0 : Nat) ≤ 1000 by decide)
            have d26 : vals 26 = .bool true := hd ⟨26, .data⟩ (Array.mem_of_getElem? (i := 1) rfl) rfl (show (0 : Nat) ≤ 1000 by decide)
            have E72 := eval_some (hF.own_ 21 rfl rfl (by kernel_rfl) (by decide)); rw [d21] at E72
            have E77 := eval_some (hF.own_ 26 rfl rfl (by kernel_rfl) (by decide)); rw [d26] at E77
            refine .inr ⟨wanted_none rfl, .inl ⟨.bool true, ?_, hI, TyP.of_is rfl⟩⟩
            have Ec : ∀ v, F.eval (.const v) = v := fun _ => rfl; have Ef : ∀ f, F.eval (.func f) = .func (.func f) #[] #[] := fun _ => rfl; clear hF hd; generalize F.eval = ρ at E72 E77 Ec Ef ⊢
            simp [execOp, go_sem, Ec, E72, E77]
          case qb28 =>
            intro p vals W1 F hF hlo hhi hI hd
            have hp : p = 0 := Nat.le_antisymm hhi hlo
            subst hp
            clear hlo hhi
            have d27 : vals 27 = .bool true := hd ⟨27, .data⟩ (Array.mem_of_getElem? (i := 0) rfl) rfl (show (0 : Nat) ≤ 1000 by decide)
            have E78 := eval_some (hF.own_ 27 rfl rfl (by kernel_rfl) (by decide)); rw [d27] at E78
            refine .inr ⟨wanted_none rfl, .inl ⟨.bool true, ?_, hI, TyP.of_is rfl⟩⟩
            simp only [execOp, E78, Sem.run_pure]
          case qbend =>
            intro vals W1 F hF hdef hI hT
            have hv := hT 28 (by decide) (show (0 : Nat) ≤ 1000 by decide)
            have hv4 : vals 28 = .bool true := hv
            rename_i K hK9
            refine hK9 _ _ ?_
            rw [hF.act]
            simp only [fin, Act.put, List.setIfInBounds_toArray, List.set_cons_succ, List.set_cons_zero]
            rw [hv4]
            clear hF hT hv hv4
            go_wp2
            go_ret
            exact ⟨rfl, hI.2.2.bel⟩
end Go.Proofs.Ytfpgjabbpcndfaa.Oct
