/- A call written, of the kind 3: what the statements' write answers. No condition beyond the memory's reach. -/
import Derived.Test.YtngkckngjobojaaOctY
import Derived.Test.YtngkckngjobojaaReg3
namespace Go.Proofs.Ytngkckngjobojaa.Oct
open Go.Proofs.Ytngkckngjobojaa Go.RowKit Go.Shelf

section
variable (ρ : Operand → Value) (dst : Option Tmp) (x lo hi : Operand) (type : TypeId) (pos : String) (after : Array Edge) (guard : Option (Nat × Bool))
theorem slice_from (A : Option Addr) (len cap i : Nat) (hA : (A = none ∧ len = 0) ∨ ∃ b off, A = some ⟨b, off, none⟩) (hx : ρ x = .slice A len cap) (hlo : ρ lo = .int .i64 (i : Int))
    (hil : i ≤ len) (hl : len ≤ cap) (W : World) : (execOp ρ { dst, op := .slice 25 x (some lo) none none, type, pos, after, guard }).run Try.prog W = .ok (.value (.slice (Go.Proofs.Ytngkckngjobojaa.Oct.cutAt A i cap) (len - i) (cap - i))) W := by
  rcases hA with ⟨rfl, rfl⟩ | ⟨b, off, rfl⟩
  · have hi0 : i = 0 := by omega
    subst hi0
    simp [execOp, go_sem, hx, hlo, Go.Proofs.Ytngkckngjobojaa.Oct.cutAt]
  · simp [execOp, go_sem, hx, hlo, Go.Proofs.Ytngkckngjobojaa.Oct.cutAt]
    intro h
    omega
end
theorem cutAt_block {O : Option Addr} {i c : Nat} {a : Addr} (h : Go.Proofs.Ytngkckngjobojaa.Oct.cutAt O i c = some a) : ∃ a0, O = some a0 ∧ a.block = a0.block := by
  unfold Go.Proofs.Ytngkckngjobojaa.Oct.cutAt at h
  split at h
  · exact ⟨a, h, rfl⟩
  · cases O with
    | none => cases h
    | some a0 => simp at h; exact ⟨a0, rfl, by rw [← h]⟩
theorem three_flat (O C : Option Addr) (bs : List UInt8) (half co d : Nat) : Go.Proofs.Ytngkckngjobojaa.Oct.flat [(O, bs.take half, co), (none, [], 0), (C, bs.drop half, d)] = bs := by simp [Go.Proofs.Ytngkckngjobojaa.Oct.flat]
theorem three_parts {W : World} {b g co : Nat} {O : Option Addr} {bs : List UInt8} (half : Nat) (hhl : half ≤ bs.length) (hO : Holds8 W.heap.size W O bs) (hoc : bs.length ≤ co) (ha : ∀ a, O = some a → Out W b a.block) (hg : Out W b g)
    (hc : ∀ k u, (#[.slice O half co, .slice none 0 0, .slice (Go.Proofs.Ytngkckngjobojaa.Oct.cutAt O half co) (bs.length - half) (co - half)] : Array Value)[k]? = some u → W.cell? ⟨g, k, none⟩ = some u) :
    PartsAt W b (some ⟨g, 0, none⟩) [(O, bs.take half, co), (none, [], 0), (Go.Proofs.Ytngkckngjobojaa.Oct.cutAt O half co, bs.drop half, co - half)] := by
  refine ⟨fun k hk => ⟨g, 0, rfl, hg, ?_⟩, fun p hp => ?_⟩
  · rw [Nat.zero_add]
    have : k = 0 ∨ k = 1 ∨ k = 2 := by simp at hk; omega
    rcases this with rfl | rfl | rfl
    · refine (hc 0 _ rfl).trans ?_
      simp [Nat.min_eq_left hhl]
    · exact hc 1 _ rfl
    · refine (hc 2 _ rfl).trans ?_
      simp
  · simp only [List.mem_cons, List.not_mem_nil, or_false] at hp
    rcases hp with rfl | rfl | rfl
    · exact ⟨hO.take_ half, ha⟩
    · exact ⟨.inl ⟨rfl, rfl⟩, fun a e => by cases e⟩
    · refine ⟨hO.drop_ half co hhl hoc, fun a e => ?_⟩
      obtain ⟨a0, h0, h1⟩ := cutAt_block e
      rw [h1]
      exact ha a0 h0
set_option maxRecDepth 100000 in
set_option maxHeartbeats 8000000 in
theorem write_3 (s : Int) (n : Nat) (hnn : n < 18446744073709551616) (bs xs : List UInt8) (A : Option Addr) (c b base n₀ : Nat) (w : World) (hh : Bytes8 n₀ w A bs) (hn : n₀ ≤ base) (hbase : base ≤ w.heap.size) (hp : PenAt base w b xs) (hl : bs.length ≤ 100000000) (hxl : xs.length ≤ 1000000000) :
    Calls Try.prog 10 #[.pointer (some ⟨b, 0, none⟩), .agg #[.int .i64 3, .int .i64 s, .int .u64 (n : Int), .slice A bs.length c]] w (WroteOp base b xs (bs) (0) w) := by
  have HTW := Lib.hid (fun (W : World) h => twin_in bs A c n₀ W h (by omega))
  have HH := Lib.hid hh
  have HP := Lib.hid hp
  clear hh hp
  go_enter Try.func10, Try.ntmps10
  have hB0 : Below w.heap.size w (w.alloc (.cells #[.int .i64 3, .int .i64 s, .int .u64 (n : Int), .slice A bs.length c] 33)) := (Below.refl _ _).alloc (Nat.le_refl _) _
  have HBOX := Lib.hid (heap_alloc_new w (.cells #[.int .i64 3, .int .i64 s, .int .u64 (n : Int), .slice A bs.length c] 33))
  have HB0 := Lib.hid hB0
  clear hB0
  go_wp2_with (first
    | (go_at_call 15; refine (HTW.out _ (HH.out.below HB0.out (Nat.le_trans hn hbase))).mono ?_; rintro e w1 ⟨v, rfl, hr, hb⟩; obtain ⟨O, co, rfl, ho1, hoc, hO, hax⟩ := own_open hr; have hs0 : w.heap.size < w1.heap.size := (by have := hb.size; rw [World.size_alloc] at this; omega); have hb1 := HB0.out.trans (hb.mono HB0.out.size); have HB1 := Lib.hid hb1; have HP1 := Lib.hid (HP.out.below hb1); have hbx := hb.block w.heap.size (by rw [World.size_alloc]; omega); rw [HBOX.out] at hbx; have HBX := Lib.hid hbx; have HR := Lib.hid hr; have HAX := Lib.hid hax; have HO1 := Lib.hid ho1; have e0 := (cell_of_row w1 w.heap.size 0 _ _ _ hbx).trans rfl; have e1 := (cell_of_row w1 w.heap.size 1 _ _ _ hbx).trans rfl; have e2 := (cell_of_row w1 w.heap.size 2 _ _ _ hbx).trans rfl; have HOC := Lib.hid hoc; have HOW := Lib.hid (Holds8.where_ ho1); clear hb hb1 hbx hr hax ho1 hoc hO))
  obtain ⟨half, hhf, hhl⟩ : ∃ half : Nat, (bs.length : Int) / 2 = (half : Int) ∧ half ≤ bs.length := ⟨bs.length / 2, by omega, by omega⟩
  rw [hhf]
  clear e0 e1 e2
  refine wp_region_phased 90 rfl (fun k d W W' => (k = 0 → d = 0 → Below W.heap.size W W') ∧ (1 ≤ k → W' = W)) (fun p W' => (p = 0 → Below w1.heap.size w1 W') ∧ (p = 1 → PenAt base W' b (xs ++ bs) ∧ PenStep b w1 W')) [.is (.pointer (some ⟨b, 0, none⟩)), .is (.slice O bs.length co), .is (.int .i64 (half : Int)), .is (.slice O half co), .is (.slice O bs.length co), .is (.int .i64 (half : Int)), .is (.slice (Go.Proofs.Ytngkckngjobojaa.Oct.cutAt O half co) (bs.length - half) (co - half)), ⟨0, 0, fun v W => ∃ g, v = .slice (some ⟨g, 0, none⟩) 3 3 ∧ w1.heap.size ≤ g ∧ g < W.heap.size ∧ ∀ k u, (#[.slice O half co, .slice none 0 0, .slice (Go.Proofs.Ytngkckngjobojaa.Oct.cutAt O half co) (bs.length - half) (co - half)] : Array Value)[k]? = some u → W.cell? ⟨g, k, none⟩ = some u, fun k d v W W' _ hk ⟨g, e, h0, hg, hc⟩ hr => by
        have hl := hr.1 (by omega) (by omega)
        exact ⟨g, e, h0, Nat.lt_of_lt_of_le hg hl.size, fun k u hu => (hl.cell (p := ⟨g, k, none⟩) hg).trans (hc k u hu)⟩⟩, .is (.int .i64 0), .is (.int .i64 0)] [8] [0, 0, 0, 0, 0, 0, 0, 0, 0, 1] [0, 0, 0, 0, 0, 0, 0, 0, 0, 1] (by kernel_rfl) (by kernel_rfl) (by kernel_rfl) (fun _ _ _ => ⟨fun _ _ => Below.refl _ _, fun _ => rfl⟩) (⟨fun _ => (Below.refl _ _).drew, fun h => absurd h (by decide)⟩) ⟨?ob0, ?ob1, ?ob2, ?ob3, ?ob4, ?ob5, ?ob6, ?ob7, ?ob8, ?ob9, trivial⟩ ?obend
  case ob0 =>
    intro p vals W1 F hF hlo hhi hI hd
    have hp : p = 0 := Nat.le_antisymm hhi hlo
    subst hp
    clear hlo hhi
    have E0 : F.eval (.tmp 0) = .pointer (some ⟨b, 0, none⟩) := hF.out_ (by kernel_rfl) rfl
    refine .inr ⟨wanted_none rfl, .inl ⟨.pointer (some ⟨b, 0, none⟩), ?_, hI, TyP.of_is rfl⟩⟩
    simp only [execOp, E0, Sem.run_pure]
  case ob1 =>
    intro p vals W1 F hF hlo hhi hI hd
    have hp : p = 0 := Nat.le_antisymm hhi hlo
    subst hp
    clear hlo hhi
    have E7 : F.eval (.tmp 7) = .slice O bs.length co := hF.out_ (by kernel_rfl) rfl
    refine .inr ⟨wanted_none rfl, .inl ⟨.slice O bs.length co, ?_, hI, TyP.of_is rfl⟩⟩
    simp only [execOp, E7, Sem.run_pure]
  case ob2 =>
    intro p vals W1 F hF hlo hhi hI hd
    have hp : p = 0 := Nat.le_antisymm hhi hlo
    subst hp
    clear hlo hhi
    have E11 : F.eval (.tmp 11) = .int .i64 (half : Int) := hF.out_ (by kernel_rfl) rfl
    refine .inr ⟨wanted_none rfl, .inl ⟨.int .i64 (half : Int), ?_, hI, TyP.of_is rfl⟩⟩
    simp only [execOp, E11, Sem.run_pure]
  case ob3 =>
    intro p vals W1 F hF hlo hhi hI hd
    have hp : p = 0 := Nat.le_antisymm hhi hlo
    subst hp
    clear hlo hhi
    have d1 : vals 1 = .slice O bs.length co := hd ⟨1, .data⟩ (Array.mem_of_getElem? (i := 0) rfl) rfl (show (0 : Nat) ≤ 1000 by decide)
    have d2 : vals 2 = .int .i64 (half : Int) := hd ⟨2, .data⟩ (Array.mem_of_getElem? (i := 1) rfl) rfl (show (0 : Nat) ≤ 1000 by decide)
    have E57 := eval_some (hF.own_ 1 rfl rfl (by kernel_rfl) (by decide)); rw [d1] at E57
    have E58 := eval_some (hF.own_ 2 rfl rfl (by kernel_rfl) (by decide)); rw [d2] at E58
    refine .inr ⟨wanted_none rfl, ?_⟩
    exact .inl ⟨_, slice_to _ _ _ _ _ _ _ _ O bs.length co half HOW.out E57 E58 hhl HOC.out W1, hI, TyP.of_is rfl⟩
  case ob4 =>
    intro p vals W1 F hF hlo hhi hI hd
    have hp : p = 0 := Nat.le_antisymm hhi hlo
    subst hp
    clear hlo hhi
    have E7 : F.eval (.tmp 7) = .slice O bs.length co := hF.out_ (by kernel_rfl) rfl
    refine .inr ⟨wanted_none rfl, .inl ⟨.slice O bs.length co, ?_, hI, TyP.of_is rfl⟩⟩
    simp only [execOp, E7, Sem.run_pure]
  case ob5 =>
    intro p vals W1 F hF hlo hhi hI hd
    have hp : p = 0 := Nat.le_antisymm hhi hlo
    subst hp
    clear hlo hhi
    have E11 : F.eval (.tmp 11) = .int .i64 (half : Int) := hF.out_ (by kernel_rfl) rfl
    refine .inr ⟨wanted_none rfl, .inl ⟨.int .i64 (half : Int), ?_, hI, TyP.of_is rfl⟩⟩
    simp only [execOp, E11, Sem.run_pure]
  case ob6 =>
    intro p vals W1 F hF hlo hhi hI hd
    have hp : p = 0 := Nat.le_antisymm hhi hlo
    subst hp
    clear hlo hhi
    have d4 : vals 4 = .slice O bs.length co := hd ⟨4, .data⟩ (Array.mem_of_getElem? (i := 0) rfl) rfl (show (0 : Nat) ≤ 1000 by decide)
    have d5 : vals 5 = .int .i64 (half : Int) := hd ⟨5, .data⟩ (Array.mem_of_getElem? (i := 1) rfl) rfl (show (0 : Nat) ≤ 1000 by decide)
    have E60 := eval_some (hF.own_ 4 rfl rfl (by kernel_rfl) (by decide)); rw [d4] at E60
    have E61 := eval_some (hF.own_ 5 rfl rfl (by kernel_rfl) (by decide)); rw [d5] at E61
    refine .inr ⟨wanted_none rfl, ?_⟩
    exact .inl ⟨_, slice_from _ _ _ _ _ _ _ _ O bs.length co half HOW.out E60 E61 hhl HOC.out W1, hI, TyP.of_is rfl⟩
  case ob7 =>
    intro p vals W1 F hF hlo hhi hI hd
    have hp : p = 0 := Nat.le_antisymm hhi hlo
    subst hp
    clear hlo hhi
    have d3 : vals 3 = .slice O half co := hd ⟨3, .data⟩ (Array.mem_of_getElem? (i := 0) rfl) rfl (show (0 : Nat) ≤ 1000 by decide)
    have d6 : vals 6 = .slice (Go.Proofs.Ytngkckngjobojaa.Oct.cutAt O half co) (bs.length - half) (co - half) := hd ⟨6, .data⟩ (Array.mem_of_getElem? (i := 1) rfl) rfl (show (0 : Nat) ≤ 1000 by decide)
    have E59 := eval_some (hF.own_ 3 rfl rfl (by kernel_rfl) (by decide)); rw [d3] at E59
    have E62 := eval_some (hF.own_ 6 rfl rfl (by kernel_rfl) (by decide)); rw [d6] at E62
    refine .inr ⟨wanted_none rfl, ?_⟩
    refine .inr (.inl ⟨.slice (some ⟨W1.heap.size, 0, none⟩) 3 3, W1.alloc (.cells #[.slice O half co, .slice none 0 0, .slice (Go.Proofs.Ytngkckngjobojaa.Oct.cutAt O half co) (bs.length - half) (co - half)] 25), ?_, ⟨fun _ _ => (Below.refl _ _).alloc (Nat.le_refl _) _, fun h => by omega⟩, ⟨fun _ => (hI.1 rfl).alloc (hI.1 rfl).size _, fun h => absurd h (by decide)⟩, ?_⟩)
    · have Ec : ∀ v, F.eval (.const v) = v := fun _ => rfl; have Ef : ∀ f, F.eval (.func f) = .func (.func f) #[] #[] := fun _ => rfl; clear hF hd; generalize F.eval = ρ at E59 E62 Ec Ef ⊢
      simp [execOp, go_sem, Ec, E59, E62]
    · exact ⟨W1.heap.size, rfl, (hI.1 rfl).size, by simp, fun k u hu => by rw [cell_of_row _ W1.heap.size k #[.slice O half co, .slice none 0 0, .slice (Go.Proofs.Ytngkckngjobojaa.Oct.cutAt O half co) (bs.length - half) (co - half)] 25 (0, 0) (heap_alloc_new _ _)]; exact hu⟩
  case ob8 =>
    intro p vals W1 F hF hlo hhi hI hd
    have hp : p = 0 := Nat.le_antisymm hhi hlo
    subst hp
    clear hlo hhi
    have d0 : vals 0 = .pointer (some ⟨b, 0, none⟩) := hd ⟨0, .data⟩ (Array.mem_of_getElem? (i := 0) rfl) rfl (show (0 : Nat) ≤ 1000 by decide)
    obtain ⟨g7, hspec7, hg7, hl7, hc7⟩ := hd ⟨7, .data⟩ (Array.mem_of_getElem? (i := 1) rfl) rfl (show (0 : Nat) ≤ 0 by decide)
    have d7 : vals 7 = .slice (some ⟨g7, 0, none⟩) 3 3 := hspec7
    have E56 := eval_some (hF.own_ 0 rfl rfl (by kernel_rfl) (by decide)); rw [d0] at E56
    have E63 := eval_some (hF.own_ 7 rfl rfl (by kernel_rfl) (by decide)); rw [d7] at E63
    refine .inr ⟨wanted_none rfl, ?_⟩
    have hB := hI.1 rfl
    have hap := pen_apart HP.out (HB1.out.trans (hB.mono HB1.out.size))
    have hq := three_parts half hhl (HO1.out.later hB) HOC.out (fun a e => ⟨Nat.lt_of_lt_of_le (HAX.out a e).2 hB.size, hap a.block (Nat.le_trans HB0.out.size (HAX.out a e).1)⟩) ⟨hl7, hap g7 (Nat.le_trans HB1.out.size hg7)⟩ hc7
    refine .inr (.inr (.inl ⟨30, #[.pointer (some ⟨b, 0, none⟩), .slice (some ⟨g7, 0, none⟩) 3 3], ?_, (penRaw_any base b xs [(O, bs.take half, co), (none, [], 0), (Go.Proofs.Ytngkckngjobojaa.Oct.cutAt O half co, bs.drop half, co - half)] 3 rfl _ 3 _ (HP1.out.below hB) hq (by rw [three_flat]; omega) (by simp) (Nat.le_trans hbase (Nat.le_trans HB1.out.size hB.size))).mono ?_⟩))
    · have Ec : ∀ v, F.eval (.const v) = v := fun _ => rfl; have Ef : ∀ f, F.eval (.func f) = .func (.func f) #[] #[] := fun _ => rfl; clear hF hd; generalize F.eval = ρ at E56 E63 Ec Ef ⊢
      simp [execOp, go_sem, Ec, Ef, E56, E63]
    rintro e W2 ⟨rfl, hp2, hs2⟩
    rw [three_flat] at hp2
    exact ⟨_, rfl, ⟨fun _ h => absurd h (by decide), fun h => by omega⟩, ⟨fun h => absurd h (by decide), fun _ => ⟨hp2, (PenStep.of_below HP1.out.lt hB).trans hs2⟩⟩, TyP.of_is rfl⟩
  case ob9 =>
    intro p vals W1 F hF hlo hhi hI hd
    have hp : p = 1 := Nat.le_antisymm hhi hlo
    subst hp
    clear hlo hhi
    have d8 : vals 8 = .int .i64 0 := hd ⟨8, .data⟩ (Array.mem_of_getElem? (i := 0) rfl) rfl (show (1 : Nat) ≤ 1000 by decide)
    have E64 := eval_some (hF.own_ 8 rfl rfl (by kernel_rfl) (by decide)); rw [d8] at E64
    refine .inr ⟨wanted_none rfl, .inl ⟨.int .i64 0, ?_, hI, TyP.of_is rfl⟩⟩
    simp only [execOp, E64, Sem.run_pure]
  case obend =>
    intro vals W1 F hF hdef hI hT
    obtain ⟨hp2, hs2⟩ := hI.2 rfl
    rename_i K hK
    refine hK _ _ ?_
    have dl : vals 9 = .int .i64 0 := hT 9 (by decide) (show (1 : Nat) ≤ 1000 by decide)
    rw [hF.act]
    simp only [fin, Act.put, List.setIfInBounds_toArray, List.set_cons_succ, List.set_cons_zero, dl]
    clear hF hT dl hI
    have HK2 := Lib.hid (pen_keep HP.out HB1.out hs2)
    have hbx2 := ((HK2.out w.heap.size (Nat.le_refl _) hs0).1).trans HBX.out
    have hO2 := (hs2.holds HO1.out (fun a e => ⟨(HAX.out a e).2, pen_apart HP.out HB1.out a.block (Nat.le_trans HB0.out.size (HAX.out a e).1)⟩)).more hs2.size
    have hBB := (HB1.out.mono hbase).trans (hs2.below HP1.out (Nat.le_trans hbase HB1.out.size))
    have est1 := str_of hO2 co
    have est2 := str_bytes (HH.out.below hBB hn) c
    have e3 := (cell_of_row W1 w.heap.size 3 _ _ _ hbx2).trans rfl
    clear hbx2 hO2 hBB
    go_wp2
    obtain ⟨G, hG, hGw, hG1⟩ : ∃ G : Nat, (∀ a, O = some a → a.block = G) ∧ w.heap.size ≤ G ∧ G < w1.heap.size := by
      cases O with
      | none => exact ⟨w.heap.size, (fun a e => by cases e), Nat.le_refl _, hs0⟩
      | some a => exact ⟨a.block, (fun b e => by injection e with e; rw [e]), Nat.le_trans HB0.out.size (HAX.out a rfl).1, (HAX.out a rfl).2⟩
    have HG := Lib.hid hG
    have HR3 := Lib.hid (ownsRow_same HR.out (w' := W1) fun k hk => ((HK2.out k (Nat.le_trans HB0.out.size (HR.out.lt k hk).1) (HR.out.lt k hk).2).1))
    have HFR := Lib.hid (write_frame HP.out HB1.out hp2 hs2 (Below.refl _ _) hGw hG1)
    clear est1 est2 e3 hG hp2 hs2
    go_loopw [75] (fun i wr => ∃ (q : Nat) (ys : List UInt8), q ≤ bs.length ∧ i = .int .i64 (q : Int) ∧ ys.length = bs.length ∧ wr.ownsRow (w.alloc (.cells #[.int .i64 3, .int .i64 s, .int .u64 (n : Int), .slice A bs.length c] 33)).heap.size 5 1 (.slice O bs.length co) bs.length (Go.Proofs.Ytngkckngjobojaa.Oct.vals ys) ∧ EyeStep G W1 wr) (fun i _ => bs.length - (intOf i).toNat)
    case atStart => exact ⟨0, bs, Nat.zero_le _, rfl, rfl, HR3.out, EyeStep.refl _ _⟩
    case round =>
      obtain ⟨q, ys, hq, rfl, hyl, hrow, hE⟩ := hrel
      by_cases hlt : q < bs.length
      · obtain ⟨g, cg, hX, hgb, hgl, hgc, hgcell, hgf⟩ := own_form hyl (by omega) hrow
        rw [hyl] at hX
        have hcq := hgcell q (by omega)
        rw [Nat.zero_add] at hcq
        have hfq := hgf q
        obtain ⟨y, hy⟩ : ∃ y, ys[q]'(by omega) = y := ⟨_, rfl⟩
        rw [hy] at hcq
        have hub := UInt8.toNat_lt y
        obtain ⟨y2, hy2⟩ : ∃ y2 : UInt8, y + 1 = y2 := ⟨_, rfl⟩
        have ey : ((y.toNat : Int) + 1) % 256 = (y2.toNat : Int) := by
          rw [← hy2, UInt8.toNat_add]
          simp
        have hgG : G = g := by
          injection hX with h1 _ _
          exact (HG.out _ h1).symm
        have HX := Lib.hid hX
        rw [hX] at hrow ⊢
        have HS := Lib.hid (own_store hrow q y2)
        have HL := Lib.hid (show (ys.set q y2).length = bs.length by rw [List.length_set]; exact hyl)
        have HE := Lib.hid (show EyeStep G W1 (wr.setCell ⟨g, q, none⟩ (.int .u8 (y2.toNat : Int))) by rw [hgG] at hE ⊢; exact hE.store)
        clear hgcell hgf hy hy2 hrow hyl hX hE hgG
        go_wp2
        refine ⟨⟨q + 1, ys.set q y2, by omega, by go_num, HL.out, HS.out, HE.out⟩, ?_⟩
        simp [intOf]
        omega
      · have d1 : (bs.length : Int) ≤ (q : Int) := by omega
        have HE := Lib.hid hE
        clear hrow hyl hlt hq hE
        go_wp2
        go_ret3
        exact ⟨A, c, rfl, (HH.out.below ((HFR.out _ HE.out).2.below HP.out hbase) hn).more (Nat.le_trans hn (Nat.le_trans hbase (HFR.out _ HE.out).2.size)), (HFR.out _ HE.out).1, (HFR.out _ HE.out).2⟩
end Go.Proofs.Ytngkckngjobojaa.Oct
