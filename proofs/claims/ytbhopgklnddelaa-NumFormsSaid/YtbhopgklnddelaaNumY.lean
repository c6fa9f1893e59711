/- NumForms is true at every input. No condition. -/
import Derived.Test.YtbhopgklnddelaaNumX
namespace Go.Proofs.Ytbhopgklnddelaa
open Go.RowKit Go.Shelf

theorem own_empty (w : World) : (w.alloc (.cells #[] 5)).ownsRow w.heap.size 5 1 (.slice (some ⟨w.heap.size, 0, none⟩) 0 0) 0 [] :=
  ⟨rfl, .inr ⟨w.heap.size, 0, #[], rfl, Nat.le_refl _, heap_alloc_new w _, Nat.le_refl _, by simp, rfl, rfl⟩⟩
theorem append_none (ty : TypeId) (g c : Nat) (w : World) : (Builtin.append_ #[22, 22] ty #[.slice (some ⟨g, 0, none⟩) 0 0, .slice none 0 c]).run Try.prog w = .ok (.slice (some ⟨g, 0, none⟩) 0 0) w := by
  obtain ⟨i0, hi, hz0, hz1, hz2⟩ := info_parts byte_info
  simp [Builtin.append_, run_underlying Try.underlying22, sizeOf, typeInfo, hi, Builtin.lenOf, Builtin.firstCells, storeCells]
theorem wpList_append_holds {ops : Array Oper} {rest : List Oper} {o : Oper} {a : Act} {Q : Exit → Act → World → Prop} {w : World} (hgd : o.guard = none) (s x : Operand)
    (ho : o.op = .call { callee := .builtin .append, args := #[s, x], argTypes := #[22, 22] }) (base g : Nat) (hs : a.eval s = .slice (some ⟨g, 0, none⟩) 0 0) (hown : w.ownsRow base 5 1 (.slice (some ⟨g, 0, none⟩) 0 0) 0 [])
    (A : Option Addr) (bs : List UInt8) (c n₀ : Nat) (hx : a.eval x = .slice A bs.length c) (hh : Holds8 n₀ w A bs) (hl : bs.length ≤ 100) (hbase : base ≤ w.heap.size)
    (h : ∀ v' w', w'.ownsRow base 5 1 v' bs.length (vals bs) → w.grownBy w' (some g) → wpList Try.prog ops Q rest (a.put o.dst v') w') : wpList Try.prog ops Q (o :: rest) a w := by
  obtain ⟨i0, hi, hz0, hz1, hz2⟩ := info_parts byte_info
  rcases hh with ⟨rfl, rfl⟩ | ⟨b, off, rfl, hb, hc⟩
  · refine wpList_plain hgd fun K hK => ?_
    unfold Oper.wp execOp
    simp only [List.length_nil] at hx
    simp only [ho, resolve, invoke, builtin, Sem.run_bind, Sem.run_pure, Result.andThen_ok, List.map_toArray, List.map_cons, List.map_nil, hs, hx, append_none]
    exact hK _ _ (h _ _ hown (World.grownBy.refl _ _))
  · refine wpList_append_own_at w hgd s x 22 ho base 5 i0 (.int .u8 0) 1 1 Try.underlying22 hi hz0 hz1 hz2 rfl (by decide) _ 0 [] hs hown ⟨b, off, none⟩ bs.length c (vals bs) hx (by rw [vals_length, Nat.mul_one]) (fun j u hu => by
      have hj : j < bs.length := by
        have := (List.getElem?_eq_some_iff.1 hu).1
        rwa [vals_length] at this
      rw [vals_get bs j hj] at hu
      rw [add_off, hc j hj]
      exact hu) (vals_one bs) (by unfold maxLen; omega) (by omega) hbase ?_
    intro v' w' hv hgr _ _
    rw [Nat.zero_add, List.nil_append] at hv
    exact h v' w' hv hgr
theorem Holds8.front {n₀ : Nat} {W : World} {A : Option Addr} {l m : List UInt8} (h : Holds8 n₀ W A (l ++ m)) : Holds8 n₀ W A l := by
  rcases h with ⟨e1, e2⟩ | ⟨b, off, e, hb, hc⟩
  · exact .inl ⟨e1, (List.append_eq_nil_iff.1 e2).1⟩
  · exact .inr ⟨b, off, e, hb, fun j hj => by
      have := hc j (by rw [List.length_append]; omega)
      rwa [List.getElem_append_left hj] at this⟩

def EncTo (w : World) (E : List UInt8) (k : Int) (e : Ending) (w' : World) : Prop :=
  ∃ A c, e = .returned (.tuple #[.slice A E.length c, .int .i64 k]) ∧ Holds8 w'.heap.size w' A E ∧ (∀ a, A = some a → w.heap.size ≤ a.block) ∧ Below w.heap.size w w'
theorem enc_both (n : Int) : ∃ E k, (∀ w, Calls Try.prog 10 #[.int .i64 n] w (EncTo w E k)) ∧ ∀ w, Calls Try.prog 11 #[.int .i64 n] w (EncTo w E k) := by
  by_cases h : -549755813887 ≤ n ∧ n ≤ 549755813887
  · exact ⟨encB n, 0, encode_yes n h.1 h.2, refEncode_yes n h.1 h.2⟩
  · have no : ∀ w e w', (e = Ending.returned (.tuple #[.slice none 0 0, .int .i64 110]) ∧ w = w') → EncTo w [] 110 e w' := fun w e w' ⟨he, hw⟩ => by
      subst hw
      exact ⟨none, 0, he, .inl ⟨rfl, rfl⟩, (fun a e => by cases e), Below.refl _ _⟩
    exact ⟨[], 110, fun w => (encode_no n (by omega) w).mono (no w), fun w => (refEncode_no n (by omega) w).mono (no w)⟩

set_option maxRecDepth 100000 in
set_option maxHeartbeats 4000000 in
theorem forms_walk (n : Int) (is : Bool) (bs : List UInt8) (cap : Nat) (A : Option Addr) (w : World) (hI : Holds8 w.heap.size w A bs) (hl : bs.length ≤ maxLen) :
    Calls Try.prog 3 #[.int .i64 n, .slice A bs.length cap, .bool is] w fun e w' => e = .returned (.bool true) ∧ Below w.heap.size w w' := by
  by_cases h100 : 100 < bs.length
  · have d : (100 : Int) < (bs.length : Int) := by omega
    clear h100
    go_enter Try.func3, Try.ntmps3
    go_wp2
    go_ret
    exact ⟨rfl, Below.refl _ _⟩
  · have d : decide ((100 : Int) < (bs.length : Int)) = false := by simp; omega
    have hl100 : bs.length ≤ 100 := by omega
    obtain ⟨i0, hi, hz0, hz1, hz2⟩ := info_parts byte_info
    obtain ⟨E, k, HE1, HE2⟩ := enc_both n
    have H1 := Lib.hid HE1
    have H2 := Lib.hid HE2
    have HI := Lib.hid hI
    have HL := Lib.hid hl
    have hE := own_empty w
    have hB0 : Below w.heap.size w (w.alloc (.cells #[] 5)) := (Below.refl _ w).alloc (Nat.le_refl _) _
    clear HE1 HE2 hI hl h100
    go_enter Try.func3, Try.ntmps3
    go_wp2_with (first
      | (at_builtin; refine wpList_append_holds rfl (.tmp 19) (.tmp 20) rfl w.heap.size w.heap.size rfl hE A bs cap _ rfl (HI.out.below hB0 (Nat.le_refl _)) hl100 (by simp) ?_; intro v1 w1 hrow hgrow; have hB1 : Below w.heap.size w w1 := hB0.grown hgrow (by simp) (fun k e => by cases e; exact Nat.le_refl _))
      | (at_builtin; refine wpList_append_own_at _ rfl (.tmp 21) (.tmp 22) _ rfl w.heap.size 5 i0 (.int .u8 0) 1 1 Try.underlying22 hi hz0 hz1 hz2 rfl (by decide) _ _ _ rfl (hrow.alloc _) ⟨w1.heap.size, 0, none⟩ 1 1 [.int .u8 7] rfl rfl (cell_one_new _ _ _) (by simp [Value.oneCell']) (by unfold maxLen; omega) (by omega) (by have := hB1.size; simp; omega) ?_; intro v2 w2 hown2 hgrow2 hq1 hq2; clear hq1 hq2; have hB2 : Below w.heap.size w w2 := (hB1.alloc hB1.size _).grown hgrow2 (by have := hB1.size; simp; omega) (own_row_ge hrow); obtain ⟨g, c, rfl, hgb, hgl, hLc, hcs, hfz⟩ := own_form (bs := bs ++ [7]) (n := bs.length + 1) (by rw [List.length_append]; rfl) (by omega) (by rw [vals_append]; exact hown2); have hO : Holds8 w2.heap.size w2 (some ⟨g, 0, none⟩) (bs ++ [7]) := .inr ⟨g, 0, rfl, hgl, hcs⟩; have hlc : bs.length ≤ c := (by rw [List.length_append] at hLc; omega); have HO2 := Lib.hid hO; clear hrow hown2 hcs hfz hO hLc; have HB2 := Lib.hid hB2; clear hB1 hB2 hgrow hgrow2 hE hB0)
      | (go_at_call 10; refine Calls.mono (H1.out _) ?_; rintro e w3 ⟨A3, c3, rfl, hh3, _, hb3⟩)
      | (go_at_call 11; refine Calls.mono (H2.out _) ?_; rintro e w4 ⟨A4, c4, rfl, hh4, _, hb4⟩; have HB4 := Lib.hid ((HB2.out.trans (hb3.mono HB2.out.size)).trans (hb4.mono (HB2.out.trans (hb3.mono HB2.out.size)).size)); have HO4 := Lib.hid ((HO2.out.later hb3).later hb4); have HX4 := Lib.hid (hh3.later hb4); have HA4 := Lib.hid (HI.out.below HB4.out (Nat.le_refl _)); clear hb3 hb4)
      | (go_at_call 12; refine Calls.mono (decode_any _ _ bs HL.out _ _ HO4.out.front) ?_; rintro e w5 ⟨rfl, rfl⟩)
      | (go_at_call 13; refine Calls.mono (refDecode_any bs HL.out cap A _ (HA4.out.more HB4.out.size)) ?_; rintro e w6 ⟨rfl, hb6⟩))
    have hx6 := HX4.out.later hb6
    have hy6 := hh4.later hb6
    have ho6 := HO4.out.later hb6
    have ha6 := (HA4.out.more HB4.out.size).later hb6
    have HB6 := Lib.hid (HB4.out.trans (hb6.mono HB4.out.size))
    refine wp_region_tys 94 rfl [.is (.slice A3 E.length c3), .is (.string ⟨E.toArray⟩), .is (.slice A4 E.length c4), .is (.string ⟨E.toArray⟩), .is (.bool true), .is (.bool true), .is (.int .i64 k), .is (.int .i64 k), .is (.bool true), .is (.bool true), .is (.bool true), .is (.int .i64 (decR bs)), .is (.int .i64 (decR bs)), .is (.bool true), .is (.bool true), .is (.bool true), .is (.int .i64 (decE bs)), .is (.int .i64 (decE bs)), .is (.bool true), .is (.bool true), .is (.bool true), .is (.slice (some ⟨g, 0, none⟩) (bs.length + 1) c), .is (.slice A bs.length cap), .is (.int .i64 (bs.length : Int)), .is (.slice (some ⟨g, 0, none⟩) bs.length c), .is (Value.bool (trueB bs)), .is (.slice A bs.length cap), .is (Value.bool (trueB bs)), .is (.bool true), .is (.bool true), .is (.bool true), .is (Value.bool is), .bytes (encB (tv is)), .is (.string ⟨(encB (tv is)).toArray⟩), .is (Value.bool is), .bytes (encB (tv is)), .is (.string ⟨(encB (tv is)).toArray⟩), .is (.bool true), .is (.bool true), .is (.bool true), .is (.slice (some ⟨g, 0, none⟩) (bs.length + 1) c), .is (.string ⟨(bs ++ [7]).toArray⟩), .is (.slice A bs.length cap), .is (.string ⟨bs.toArray⟩), .is (.string ⟨(bs ++ [7]).toArray⟩), .is (.bool true), .is (.bool true), .is (.bool true)] (by kernel_rfl) (by kernel_rfl) (by kernel_rfl) (by kernel_rfl) (by kernel_rfl) (by kernel_rfl) ⟨?ob0, ?ob1, ?ob2, ?ob3, ?ob4, ?ob5, ?ob6, ?ob7, ?ob8, ?ob9, ?ob10, ?ob11, ?ob12, ?ob13, ?ob14, ?ob15, ?ob16, ?ob17, ?ob18, ?ob19, ?ob20, ?ob21, ?ob22, ?ob23, ?ob24, ?ob25, ?ob26, ?ob27, ?ob28, ?ob29, ?ob30, ?ob31, ?ob32, ?ob33, ?ob34, ?ob35, ?ob36, ?ob37, ?ob38, ?ob39, ?ob40, ?ob41, ?ob42, ?ob43, ?ob44, ?ob45, ?ob46, ?ob47, trivial⟩ ?obend
    case ob0 =>
      intro vals W0 F hF hS hd
      have E8 : F.eval (.tmp 8) = .slice A3 E.length c3 := hF.out_ (by kernel_rfl) rfl
      refine .inr ⟨wanted_none rfl, .inl ⟨.slice A3 E.length c3, ?_, Ty.of_is rfl⟩⟩
      simp only [execOp, E8, Sem.run_pure]
    case ob1 =>
      intro vals W0 F hF hS hd
      have d0 : vals 0 = .slice A3 E.length c3 := hd ⟨0, .data⟩ (Array.mem_of_getElem? (i := 0) rfl) rfl
      have E47 := eval_some (hF.own_ 0 rfl rfl (by decide)); rw [d0] at E47
      refine .inr ⟨wanted_none rfl, ?_⟩
      refine .inl ⟨.string ⟨E.toArray⟩, ?_, Ty.of_is rfl⟩
      have q := str_of (hx6.later hS) c3
      have Ec : ∀ v, F.eval (.const v) = v := fun _ => rfl; have Ef : ∀ f, F.eval (.func f) = .func (.func f) #[] #[] := fun _ => rfl; clear hF hd; generalize F.eval = ρ at E47 Ec Ef ⊢
      simp [execOp, go_sem, Ec, E47, q]
    case ob2 =>
      intro vals W0 F hF hS hd
      have E10 : F.eval (.tmp 10) = .slice A4 E.length c4 := hF.out_ (by kernel_rfl) rfl
      refine .inr ⟨wanted_none rfl, .inl ⟨.slice A4 E.length c4, ?_, Ty.of_is rfl⟩⟩
      simp only [execOp, E10, Sem.run_pure]
    case ob3 =>
      intro vals W0 F hF hS hd
      have d2 : vals 2 = .slice A4 E.length c4 := hd ⟨2, .data⟩ (Array.mem_of_getElem? (i := 0) rfl) rfl
      have E49 := eval_some (hF.own_ 2 rfl rfl (by decide)); rw [d2] at E49
      refine .inr ⟨wanted_none rfl, ?_⟩
      refine .inl ⟨.string ⟨E.toArray⟩, ?_, Ty.of_is rfl⟩
      have q := str_of (hy6.later hS) c4
      have Ec : ∀ v, F.eval (.const v) = v := fun _ => rfl; have Ef : ∀ f, F.eval (.func f) = .func (.func f) #[] #[] := fun _ => rfl; clear hF hd; generalize F.eval = ρ at E49 Ec Ef ⊢
      simp [execOp, go_sem, Ec, E49, q]
    case ob4 =>
      intro vals W0 F hF hS hd
      have d1 : vals 1 = .string ⟨E.toArray⟩ := hd ⟨1, .data⟩ (Array.mem_of_getElem? (i := 0) rfl) rfl
      have d3 : vals 3 = .string ⟨E.toArray⟩ := hd ⟨3, .data⟩ (Array.mem_of_getElem? (i := 1) rfl) rfl
      have E48 := eval_some (hF.own_ 1 rfl rfl (by decide)); rw [d1] at E48
      have E50 := eval_some (hF.own_ 3 rfl rfl (by decide)); rw [d3] at E50
      refine .inr ⟨wanted_none rfl, .inl ⟨.bool true, ?_, Ty.of_is rfl⟩⟩
      have Ec : ∀ v, F.eval (.const v) = v := fun _ => rfl; have Ef : ∀ f, F.eval (.func f) = .func (.func f) #[] #[] := fun _ => rfl; clear hF hd; generalize F.eval = ρ at E48 E50 Ec Ef ⊢
      simp [execOp, go_sem, Ec, E48, E50]
    case ob5 =>
      intro vals W0 F hF hS hd
      have d4 : vals 4 = .bool true := hd ⟨4, .data⟩ (Array.mem_of_getElem? (i := 0) rfl) rfl
      have E51 := eval_some (hF.own_ 4 rfl rfl (by decide)); rw [d4] at E51
      refine .inr ⟨wanted_none rfl, .inl ⟨.bool true, ?_, Ty.of_is rfl⟩⟩
      simp only [execOp, E51, Sem.run_pure]
    case ob6 =>
      intro vals W0 F hF hS hd
      have d5 : vals 5 = .bool true := hd ⟨5, .guard⟩ (Array.mem_of_getElem? (i := 0) rfl) rfl
      have E9 : F.eval (.tmp 9) = .int .i64 k := hF.out_ (by kernel_rfl) rfl
      have G := hF.own_ 5 rfl rfl (by decide); rw [d5] at G
      refine .inr ⟨wanted_yes rfl rfl rfl G, .inl ⟨.int .i64 k, ?_, Ty.of_is rfl⟩⟩
      simp only [execOp, E9, Sem.run_pure]
    case ob7 =>
      intro vals W0 F hF hS hd
      have d5 : vals 5 = .bool true := hd ⟨5, .guard⟩ (Array.mem_of_getElem? (i := 0) rfl) rfl
      have E11 : F.eval (.tmp 11) = .int .i64 k := hF.out_ (by kernel_rfl) rfl
      have G := hF.own_ 5 rfl rfl (by decide); rw [d5] at G
      refine .inr ⟨wanted_yes rfl rfl rfl G, .inl ⟨.int .i64 k, ?_, Ty.of_is rfl⟩⟩
      simp only [execOp, E11, Sem.run_pure]
    case ob8 =>
      intro vals W0 F hF hS hd
      have d5 : vals 5 = .bool true := hd ⟨5, .guard⟩ (Array.mem_of_getElem? (i := 2) rfl) rfl
      have d6 : vals 6 = .int .i64 k := hd ⟨6, .data⟩ (Array.mem_of_getElem? (i := 0) rfl) rfl
      have d7 : vals 7 = .int .i64 k := hd ⟨7, .data⟩ (Array.mem_of_getElem? (i := 1) rfl) rfl
      have E53 := eval_some (hF.own_ 6 rfl rfl (by decide)); rw [d6] at E53
      have E54 := eval_some (hF.own_ 7 rfl rfl (by decide)); rw [d7] at E54
      have G := hF.own_ 5 rfl rfl (by decide); rw [d5] at G
      refine .inr ⟨wanted_yes rfl rfl rfl G, .inl ⟨.bool true, ?_, Ty.of_is rfl⟩⟩
      have Ec : ∀ v, F.eval (.const v) = v := fun _ => rfl; have Ef : ∀ f, F.eval (.func f) = .func (.func f) #[] #[] := fun _ => rfl; clear hF hd; generalize F.eval = ρ at E53 E54 Ec Ef ⊢
      simp [execOp, go_sem, Ec, E53, E54]
    case ob9 =>
      intro vals W0 F hF hS hd
      have d5 : vals 5 = .bool true := hd ⟨5, .data⟩ (Array.mem_of_getElem? (i := 0) rfl) rfl
      have d8 : vals 8 = .bool true := hd ⟨8, .data⟩ (Array.mem_of_getElem? (i := 1) rfl) rfl
      have E52 := eval_some (hF.own_ 5 rfl rfl (by decide)); rw [d5] at E52
      have E55 := eval_some (hF.own_ 8 rfl rfl (by decide)); rw [d8] at E55
      refine .inr ⟨wanted_none rfl, .inl ⟨.bool true, ?_, Ty.of_is rfl⟩⟩
      have Ec : ∀ v, F.eval (.const v) = v := fun _ => rfl; have Ef : ∀ f, F.eval (.func f) = .func (.func f) #[] #[] := fun _ => rfl; clear hF hd; generalize F.eval = ρ at E52 E55 Ec Ef ⊢
      simp [execOp, go_sem, Ec, E52, E55]
    case ob10 =>
      intro vals W0 F hF hS hd
      have d9 : vals 9 = .bool true := hd ⟨9, .data⟩ (Array.mem_of_getElem? (i := 0) rfl) rfl
      have E56 := eval_some (hF.own_ 9 rfl rfl (by decide)); rw [d9] at E56
      refine .inr ⟨wanted_none rfl, .inl ⟨.bool true, ?_, Ty.of_is rfl⟩⟩
      simp only [execOp, E56, Sem.run_pure]
    case ob11 =>
      intro vals W0 F hF hS hd
      have d10 : vals 10 = .bool true := hd ⟨10, .guard⟩ (Array.mem_of_getElem? (i := 0) rfl) rfl
      have E12 : F.eval (.tmp 12) = .int .i64 (decR bs) := hF.out_ (by kernel_rfl) rfl
      have G := hF.own_ 10 rfl rfl (by decide); rw [d10] at G
      refine .inr ⟨wanted_yes rfl rfl rfl G, .inl ⟨.int .i64 (decR bs), ?_, Ty.of_is rfl⟩⟩
      simp only [execOp, E12, Sem.run_pure]
    case ob12 =>
      intro vals W0 F hF hS hd
      have d10 : vals 10 = .bool true := hd ⟨10, .guard⟩ (Array.mem_of_getElem? (i := 0) rfl) rfl
      have E14 : F.eval (.tmp 14) = .int .i64 (decR bs) := hF.out_ (by kernel_rfl) rfl
      have G := hF.own_ 10 rfl rfl (by decide); rw [d10] at G
      refine .inr ⟨wanted_yes rfl rfl rfl G, .inl ⟨.int .i64 (decR bs), ?_, Ty.of_is rfl⟩⟩
      simp only [execOp, E14, Sem.run_pure]
    case ob13 =>
      intro vals W0 F hF hS hd
      have d10 : vals 10 = .bool true := hd ⟨10, .guard⟩ (Array.mem_of_getElem? (i := 2) rfl) rfl
      have d11 : vals 11 = .int .i64 (decR bs) := hd ⟨11, .data⟩ (Array.mem_of_getElem? (i := 0) rfl) rfl
      have d12 : vals 12 = .int .i64 (decR bs) := hd ⟨12, .data⟩ (Array.mem_of_getElem? (i := 1) rfl) rfl
      have E58 := eval_some (hF.own_ 11 rfl rfl (by decide)); rw [d11] at E58
      have E59 := eval_some (hF.own_ 12 rfl rfl (by decide)); rw [d12] at E59
      have G := hF.own_ 10 rfl rfl (by decide); rw [d10] at G
      refine .inr ⟨wanted_yes rfl rfl rfl G, .inl ⟨.bool true, ?_, Ty.of_is rfl⟩⟩
      have Ec : ∀ v, F.eval (.const v) = v := fun _ => rfl; have Ef : ∀ f, F.eval (.func f) = .func (.func f) #[] #[] := fun _ => rfl; clear hF hd; generalize F.eval = ρ at E58 E59 Ec Ef ⊢
      simp [execOp, go_sem, Ec, E58, E59]
    case ob14 =>
      intro vals W0 F hF hS hd
      have d10 : vals 10 = .bool true := hd ⟨10, .data⟩ (Array.mem_of_getElem? (i := 0) rfl) rfl
      have d13 : vals 13 = .bool true := hd ⟨13, .data⟩ (Array.mem_of_getElem? (i := 1) rfl) rfl
      have E57 := eval_some (hF.own_ 10 rfl rfl (by decide)); rw [d10] at E57
      have E60 := eval_some (hF.own_ 13 rfl rfl (by decide)); rw [d13] at E60
      refine .inr ⟨wanted_none rfl, .inl ⟨.bool true, ?_, Ty.of_is rfl⟩⟩
      have Ec : ∀ v, F.eval (.const v) = v := fun _ => rfl; have Ef : ∀ f, F.eval (.func f) = .func (.func f) #[] #[] := fun _ => rfl; clear hF hd; generalize F.eval = ρ at E57 E60 Ec Ef ⊢
      simp [execOp, go_sem, Ec, E57, E60]
    case ob15 =>
      intro vals W0 F hF hS hd
      have d14 : vals 14 = .bool true := hd ⟨14, .data⟩ (Array.mem_of_getElem? (i := 0) rfl) rfl
      have E61 := eval_some (hF.own_ 14 rfl rfl (by decide)); rw [d14] at E61
      refine .inr ⟨wanted_none rfl, .inl ⟨.bool true, ?_, Ty.of_is rfl⟩⟩
      simp only [execOp, E61, Sem.run_pure]
    case ob16 =>
      intro vals W0 F hF hS hd
      have d15 : vals 15 = .bool true := hd ⟨15, .guard⟩ (Array.mem_of_getElem? (i := 0) rfl) rfl
      have E13 : F.eval (.tmp 13) = .int .i64 (decE bs) := hF.out_ (by kernel_rfl) rfl
      have G := hF.own_ 15 rfl rfl (by decide); rw [d15] at G
      refine .inr ⟨wanted_yes rfl rfl rfl G, .inl ⟨.int .i64 (decE bs), ?_, Ty.of_is rfl⟩⟩
      simp only [execOp, E13, Sem.run_pure]
    case ob17 =>
      intro vals W0 F hF hS hd
      have d15 : vals 15 = .bool true := hd ⟨15, .guard⟩ (Array.mem_of_getElem? (i := 0) rfl) rfl
      have E15 : F.eval (.tmp 15) = .int .i64 (decE bs) := hF.out_ (by kernel_rfl) rfl
      have G := hF.own_ 15 rfl rfl (by decide); rw [d15] at G
      refine .inr ⟨wanted_yes rfl rfl rfl G, .inl ⟨.int .i64 (decE bs), ?_, Ty.of_is rfl⟩⟩
      simp only [execOp, E15, Sem.run_pure]
    case ob18 =>
      intro vals W0 F hF hS hd
      have d15 : vals 15 = .bool true := hd ⟨15, .guard⟩ (Array.mem_of_getElem? (i := 2) rfl) rfl
      have d16 : vals 16 = .int .i64 (decE bs) := hd ⟨16, .data⟩ (Array.mem_of_getElem? (i := 0) rfl) rfl
      have d17 : vals 17 = .int .i64 (decE bs) := hd ⟨17, .data⟩ (Array.mem_of_getElem? (i := 1) rfl) rfl
      have E63 := eval_some (hF.own_ 16 rfl rfl (by decide)); rw [d16] at E63
      have E64 := eval_some (hF.own_ 17 rfl rfl (by decide)); rw [d17] at E64
      have G := hF.own_ 15 rfl rfl (by decide); rw [d15] at G
      refine .inr ⟨wanted_yes rfl rfl rfl G, .inl ⟨.bool true, ?_, Ty.of_is rfl⟩⟩
      have Ec : ∀ v, F.eval (.const v) = v := fun _ => rfl; have Ef : ∀ f, F.eval (.func f) = .func (.func f) #[] #[] := fun _ => rfl; clear hF hd; generalize F.eval = ρ at E63 E64 Ec Ef ⊢
      simp [execOp, go_sem, Ec, E63, E64]
    case ob19 =>
      intro vals W0 F hF hS hd
      have d15 : vals 15 = .bool true := hd ⟨15, .data⟩ (Array.mem_of_getElem? (i := 0) rfl) rfl
      have d18 : vals 18 = .bool true := hd ⟨18, .data⟩ (Array.mem_of_getElem? (i := 1) rfl) rfl
      have E62 := eval_some (hF.own_ 15 rfl rfl (by decide)); rw [d15] at E62
      have E65 := eval_some (hF.own_ 18 rfl rfl (by decide)); rw [d18] at E65
      refine .inr ⟨wanted_none rfl, .inl ⟨.bool true, ?_, Ty.of_is rfl⟩⟩
      have Ec : ∀ v, F.eval (.const v) = v := fun _ => rfl; have Ef : ∀ f, F.eval (.func f) = .func (.func f) #[] #[] := fun _ => rfl; clear hF hd; generalize F.eval = ρ at E62 E65 Ec Ef ⊢
      simp [execOp, go_sem, Ec, E62, E65]
    case ob20 =>
      intro vals W0 F hF hS hd
      have d19 : vals 19 = .bool true := hd ⟨19, .data⟩ (Array.mem_of_getElem? (i := 0) rfl) rfl
      have E66 := eval_some (hF.own_ 19 rfl rfl (by decide)); rw [d19] at E66
      refine .inr ⟨wanted_none rfl, .inl ⟨.bool true, ?_, Ty.of_is rfl⟩⟩
      simp only [execOp, E66, Sem.run_pure]
    case ob21 =>
      intro vals W0 F hF hS hd
      have d20 : vals 20 = .bool true := hd ⟨20, .guard⟩ (Array.mem_of_getElem? (i := 0) rfl) rfl
      have E7 : F.eval (.tmp 7) = .slice (some ⟨g, 0, none⟩) (bs.length + 1) c := hF.out_ (by kernel_rfl) rfl
      have G := hF.own_ 20 rfl rfl (by decide); rw [d20] at G
      refine .inr ⟨wanted_yes rfl rfl rfl G, .inl ⟨.slice (some ⟨g, 0, none⟩) (bs.length + 1) c, ?_, Ty.of_is rfl⟩⟩
      simp only [execOp, E7, Sem.run_pure]
    case ob22 =>
      intro vals W0 F hF hS hd
      have d20 : vals 20 = .bool true := hd ⟨20, .guard⟩ (Array.mem_of_getElem? (i := 0) rfl) rfl
      have E1 : F.eval (.tmp 1) = .slice A bs.length cap := hF.out_ (by kernel_rfl) rfl
      have G := hF.own_ 20 rfl rfl (by decide); rw [d20] at G
      refine .inr ⟨wanted_yes rfl rfl rfl G, .inl ⟨.slice A bs.length cap, ?_, Ty.of_is rfl⟩⟩
      simp only [execOp, E1, Sem.run_pure]
    case ob23 =>
      intro vals W0 F hF hS hd
      have d20 : vals 20 = .bool true := hd ⟨20, .guard⟩ (Array.mem_of_getElem? (i := 1) rfl) rfl
      have d22 : vals 22 = .slice A bs.length cap := hd ⟨22, .data⟩ (Array.mem_of_getElem? (i := 0) rfl) rfl
      have E69 := eval_some (hF.own_ 22 rfl rfl (by decide)); rw [d22] at E69
      have G := hF.own_ 20 rfl rfl (by decide); rw [d20] at G
      refine .inr ⟨wanted_yes rfl rfl rfl G, .inl ⟨.int .i64 (bs.length : Int), ?_, Ty.of_is rfl⟩⟩
      have Ec : ∀ v, F.eval (.const v) = v := fun _ => rfl; have Ef : ∀ f, F.eval (.func f) = .func (.func f) #[] #[] := fun _ => rfl; clear hF hd; generalize F.eval = ρ at E69 Ec Ef ⊢
      simp [execOp, go_sem, Ec, E69]
    case ob24 =>
      intro vals W0 F hF hS hd
      have d20 : vals 20 = .bool true := hd ⟨20, .guard⟩ (Array.mem_of_getElem? (i := 2) rfl) rfl
      have d21 : vals 21 = .slice (some ⟨g, 0, none⟩) (bs.length + 1) c := hd ⟨21, .data⟩ (Array.mem_of_getElem? (i := 0) rfl) rfl
      have d23 : vals 23 = .int .i64 (bs.length : Int) := hd ⟨23, .data⟩ (Array.mem_of_getElem? (i := 1) rfl) rfl
      have E68 := eval_some (hF.own_ 21 rfl rfl (by decide)); rw [d21] at E68
      have E70 := eval_some (hF.own_ 23 rfl rfl (by decide)); rw [d23] at E70
      have G := hF.own_ 20 rfl rfl (by decide); rw [d20] at G
      refine .inr ⟨wanted_yes rfl rfl rfl G, ?_⟩
      refine .inl ⟨.slice (some ⟨g, 0, none⟩) bs.length c, ?_, Ty.of_is rfl⟩
      have Ec : ∀ v, F.eval (.const v) = v := fun _ => rfl; have Ef : ∀ f, F.eval (.func f) = .func (.func f) #[] #[] := fun _ => rfl; clear hF hd; generalize F.eval = ρ at E68 E70 Ec Ef ⊢
      simp [execOp, go_sem, Ec, E68, E70]
      intro h
      omega
    case ob25 =>
      intro vals W0 F hF hS hd
      have d20 : vals 20 = .bool true := hd ⟨20, .chain⟩ (Array.mem_of_getElem? (i := 1) rfl) rfl
      have d24 : vals 24 = .slice (some ⟨g, 0, none⟩) bs.length c := hd ⟨24, .data⟩ (Array.mem_of_getElem? (i := 0) rfl) rfl
      have E71 := eval_some (hF.own_ 24 rfl rfl (by decide)); rw [d24] at E71
      have G := hF.own_ 20 rfl rfl (by decide); rw [d20] at G
      refine .inr ⟨wanted_yes rfl rfl rfl G, ?_⟩
      refine .inr ⟨14, #[.slice (some ⟨g, 0, none⟩) bs.length c], ?_, (true_any bs HL.out c _ W0 (ho6.later hS).front).mono ?_⟩
      · have Ec : ∀ v, F.eval (.const v) = v := fun _ => rfl; have Ef : ∀ f, F.eval (.func f) = .func (.func f) #[] #[] := fun _ => rfl; clear hF hd; generalize F.eval = ρ at E71 Ec Ef ⊢
        simp [execOp, go_sem, Ec, Ef, E71]
      rintro e W1 ⟨rfl, hb⟩
      exact ⟨_, rfl, hb, Ty.of_is rfl⟩
    case ob26 =>
      intro vals W0 F hF hS hd
      have d20 : vals 20 = .bool true := hd ⟨20, .guard⟩ (Array.mem_of_getElem? (i := 0) rfl) rfl
      have E1 : F.eval (.tmp 1) = .slice A bs.length cap := hF.out_ (by kernel_rfl) rfl
      have G := hF.own_ 20 rfl rfl (by decide); rw [d20] at G
      refine .inr ⟨wanted_yes rfl rfl rfl G, .inl ⟨.slice A bs.length cap, ?_, Ty.of_is rfl⟩⟩
      simp only [execOp, E1, Sem.run_pure]
    case ob27 =>
      intro vals W0 F hF hS hd
      have d20 : vals 20 = .bool true := hd ⟨20, .guard⟩ (Array.mem_of_getElem? (i := 2) rfl) rfl
      have d26 : vals 26 = .slice A bs.length cap := hd ⟨26, .data⟩ (Array.mem_of_getElem? (i := 0) rfl) rfl
      have E73 := eval_some (hF.own_ 26 rfl rfl (by decide)); rw [d26] at E73
      have G := hF.own_ 20 rfl rfl (by decide); rw [d20] at G
      refine .inr ⟨wanted_yes rfl rfl rfl G, ?_⟩
      refine .inr ⟨15, #[.slice A bs.length cap], ?_, (refTrue_any bs HL.out cap A _ W0 (ha6.later hS)).mono ?_⟩
      · have Ec : ∀ v, F.eval (.const v) = v := fun _ => rfl; have Ef : ∀ f, F.eval (.func f) = .func (.func f) #[] #[] := fun _ => rfl; clear hF hd; generalize F.eval = ρ at E73 Ec Ef ⊢
        simp [execOp, go_sem, Ec, Ef, E73]
      rintro e W1 ⟨rfl, rfl⟩
      exact ⟨_, rfl, Later.refl _, Ty.of_is rfl⟩
    case ob28 =>
      intro vals W0 F hF hS hd
      have d20 : vals 20 = .bool true := hd ⟨20, .guard⟩ (Array.mem_of_getElem? (i := 2) rfl) rfl
      have d25 : vals 25 = Value.bool (trueB bs) := hd ⟨25, .data⟩ (Array.mem_of_getElem? (i := 0) rfl) rfl
      have d27 : vals 27 = Value.bool (trueB bs) := hd ⟨27, .data⟩ (Array.mem_of_getElem? (i := 1) rfl) rfl
      have E72 := eval_some (hF.own_ 25 rfl rfl (by decide)); rw [d25] at E72
      have E74 := eval_some (hF.own_ 27 rfl rfl (by decide)); rw [d27] at E74
      have G := hF.own_ 20 rfl rfl (by decide); rw [d20] at G
      refine .inr ⟨wanted_yes rfl rfl rfl G, .inl ⟨.bool true, ?_, Ty.of_is rfl⟩⟩
      have Ec : ∀ v, F.eval (.const v) = v := fun _ => rfl; have Ef : ∀ f, F.eval (.func f) = .func (.func f) #[] #[] := fun _ => rfl; clear hF hd; generalize F.eval = ρ at E72 E74 Ec Ef ⊢
      simp [execOp, go_sem, Ec, E72, E74]
    case ob29 =>
      intro vals W0 F hF hS hd
      have d20 : vals 20 = .bool true := hd ⟨20, .data⟩ (Array.mem_of_getElem? (i := 0) rfl) rfl
      have d28 : vals 28 = .bool true := hd ⟨28, .data⟩ (Array.mem_of_getElem? (i := 1) rfl) rfl
      have E67 := eval_some (hF.own_ 20 rfl rfl (by decide)); rw [d20] at E67
      have E75 := eval_some (hF.own_ 28 rfl rfl (by decide)); rw [d28] at E75
      refine .inr ⟨wanted_none rfl, .inl ⟨.bool true, ?_, Ty.of_is rfl⟩⟩
      have Ec : ∀ v, F.eval (.const v) = v := fun _ => rfl; have Ef : ∀ f, F.eval (.func f) = .func (.func f) #[] #[] := fun _ => rfl; clear hF hd; generalize F.eval = ρ at E67 E75 Ec Ef ⊢
      simp [execOp, go_sem, Ec, E67, E75]
    case ob30 =>
      intro vals W0 F hF hS hd
      have d29 : vals 29 = .bool true := hd ⟨29, .data⟩ (Array.mem_of_getElem? (i := 0) rfl) rfl
      have E76 := eval_some (hF.own_ 29 rfl rfl (by decide)); rw [d29] at E76
      refine .inr ⟨wanted_none rfl, .inl ⟨.bool true, ?_, Ty.of_is rfl⟩⟩
      simp only [execOp, E76, Sem.run_pure]
    case ob31 =>
      intro vals W0 F hF hS hd
      have d30 : vals 30 = .bool true := hd ⟨30, .guard⟩ (Array.mem_of_getElem? (i := 0) rfl) rfl
      have E2 : F.eval (.tmp 2) = Value.bool is := hF.out_ (by kernel_rfl) rfl
      have G := hF.own_ 30 rfl rfl (by decide); rw [d30] at G
      refine .inr ⟨wanted_yes rfl rfl rfl G, .inl ⟨Value.bool is, ?_, Ty.of_is rfl⟩⟩
      simp only [execOp, E2, Sem.run_pure]
    case ob32 =>
      intro vals W0 F hF hS hd
      have d30 : vals 30 = .bool true := hd ⟨30, .chain⟩ (Array.mem_of_getElem? (i := 1) rfl) rfl
      have d31 : vals 31 = Value.bool is := hd ⟨31, .data⟩ (Array.mem_of_getElem? (i := 0) rfl) rfl
      have E78 := eval_some (hF.own_ 31 rfl rfl (by decide)); rw [d31] at E78
      have G := hF.own_ 30 rfl rfl (by decide); rw [d30] at G
      refine .inr ⟨wanted_yes rfl rfl rfl G, ?_⟩
      refine .inr ⟨16, #[.bool is], ?_, (flag_any is W0).mono ?_⟩
      · have Ec : ∀ v, F.eval (.const v) = v := fun _ => rfl; have Ef : ∀ f, F.eval (.func f) = .func (.func f) #[] #[] := fun _ => rfl; clear hF hd; generalize F.eval = ρ at E78 Ec Ef ⊢
        simp [execOp, go_sem, Ec, Ef, E78]
      rintro e W1 ⟨A8, c8, rfl, hh8, _, hb⟩
      exact ⟨_, rfl, hb, A8, c8, rfl, hh8⟩
    case ob33 =>
      intro vals W0 F hF hS hd
      have d30 : vals 30 = .bool true := hd ⟨30, .guard⟩ (Array.mem_of_getElem? (i := 1) rfl) rfl
      obtain ⟨A8, c8, hspec32, hh8⟩ := hd ⟨32, .data⟩ (Array.mem_of_getElem? (i := 0) rfl) rfl
      have d32 : vals 32 = .slice A8 (encB (tv is)).length c8 := hspec32
      have E79 := eval_some (hF.own_ 32 rfl rfl (by decide)); rw [d32] at E79
      have G := hF.own_ 30 rfl rfl (by decide); rw [d30] at G
      refine .inr ⟨wanted_yes rfl rfl rfl G, ?_⟩
      refine .inl ⟨.string ⟨(encB (tv is)).toArray⟩, ?_, Ty.of_is rfl⟩
      have q := str_of (hh8) c8
      have Ec : ∀ v, F.eval (.const v) = v := fun _ => rfl; have Ef : ∀ f, F.eval (.func f) = .func (.func f) #[] #[] := fun _ => rfl; clear hF hd; generalize F.eval = ρ at E79 Ec Ef ⊢
      simp [execOp, go_sem, Ec, E79, q]
    case ob34 =>
      intro vals W0 F hF hS hd
      have d30 : vals 30 = .bool true := hd ⟨30, .guard⟩ (Array.mem_of_getElem? (i := 0) rfl) rfl
      have E2 : F.eval (.tmp 2) = Value.bool is := hF.out_ (by kernel_rfl) rfl
      have G := hF.own_ 30 rfl rfl (by decide); rw [d30] at G
      refine .inr ⟨wanted_yes rfl rfl rfl G, .inl ⟨Value.bool is, ?_, Ty.of_is rfl⟩⟩
      simp only [execOp, E2, Sem.run_pure]
    case ob35 =>
      intro vals W0 F hF hS hd
      have d30 : vals 30 = .bool true := hd ⟨30, .guard⟩ (Array.mem_of_getElem? (i := 2) rfl) rfl
      have d34 : vals 34 = Value.bool is := hd ⟨34, .data⟩ (Array.mem_of_getElem? (i := 0) rfl) rfl
      have E81 := eval_some (hF.own_ 34 rfl rfl (by decide)); rw [d34] at E81
      have G := hF.own_ 30 rfl rfl (by decide); rw [d30] at G
      refine .inr ⟨wanted_yes rfl rfl rfl G, ?_⟩
      refine .inr ⟨17, #[.bool is], ?_, (refFlag_any is W0).mono ?_⟩
      · have Ec : ∀ v, F.eval (.const v) = v := fun _ => rfl; have Ef : ∀ f, F.eval (.func f) = .func (.func f) #[] #[] := fun _ => rfl; clear hF hd; generalize F.eval = ρ at E81 Ec Ef ⊢
        simp [execOp, go_sem, Ec, Ef, E81]
      rintro e W1 ⟨A9, c9, rfl, hh9, _, hb⟩
      exact ⟨_, rfl, hb, A9, c9, rfl, hh9⟩
    case ob36 =>
      intro vals W0 F hF hS hd
      have d30 : vals 30 = .bool true := hd ⟨30, .guard⟩ (Array.mem_of_getElem? (i := 1) rfl) rfl
      obtain ⟨A9, c9, hspec35, hh9⟩ := hd ⟨35, .data⟩ (Array.mem_of_getElem? (i := 0) rfl) rfl
      have d35 : vals 35 = .slice A9 (encB (tv is)).length c9 := hspec35
      have E82 := eval_some (hF.own_ 35 rfl rfl (by decide)); rw [d35] at E82
      have G := hF.own_ 30 rfl rfl (by decide); rw [d30] at G
      refine .inr ⟨wanted_yes rfl rfl rfl G, ?_⟩
      refine .inl ⟨.string ⟨(encB (tv is)).toArray⟩, ?_, Ty.of_is rfl⟩
      have q := str_of (hh9) c9
      have Ec : ∀ v, F.eval (.const v) = v := fun _ => rfl; have Ef : ∀ f, F.eval (.func f) = .func (.func f) #[] #[] := fun _ => rfl; clear hF hd; generalize F.eval = ρ at E82 Ec Ef ⊢
      simp [execOp, go_sem, Ec, E82, q]
    case ob37 =>
      intro vals W0 F hF hS hd
      have d30 : vals 30 = .bool true := hd ⟨30, .guard⟩ (Array.mem_of_getElem? (i := 2) rfl) rfl
      have d33 : vals 33 = .string ⟨(encB (tv is)).toArray⟩ := hd ⟨33, .data⟩ (Array.mem_of_getElem? (i := 0) rfl) rfl
      have d36 : vals 36 = .string ⟨(encB (tv is)).toArray⟩ := hd ⟨36, .data⟩ (Array.mem_of_getElem? (i := 1) rfl) rfl
      have E80 := eval_some (hF.own_ 33 rfl rfl (by decide)); rw [d33] at E80
      have E83 := eval_some (hF.own_ 36 rfl rfl (by decide)); rw [d36] at E83
      have G := hF.own_ 30 rfl rfl (by decide); rw [d30] at G
      refine .inr ⟨wanted_yes rfl rfl rfl G, .inl ⟨.bool true, ?_, Ty.of_is rfl⟩⟩
      have Ec : ∀ v, F.eval (.const v) = v := fun _ => rfl; have Ef : ∀ f, F.eval (.func f) = .func (.func f) #[] #[] := fun _ => rfl; clear hF hd; generalize F.eval = ρ at E80 E83 Ec Ef ⊢
      simp [execOp, go_sem, Ec, E80, E83]
    case ob38 =>
      intro vals W0 F hF hS hd
      have d30 : vals 30 = .bool true := hd ⟨30, .data⟩ (Array.mem_of_getElem? (i := 0) rfl) rfl
      have d37 : vals 37 = .bool true := hd ⟨37, .data⟩ (Array.mem_of_getElem? (i := 1) rfl) rfl
      have E77 := eval_some (hF.own_ 30 rfl rfl (by decide)); rw [d30] at E77
      have E84 := eval_some (hF.own_ 37 rfl rfl (by decide)); rw [d37] at E84
      refine .inr ⟨wanted_none rfl, .inl ⟨.bool true, ?_, Ty.of_is rfl⟩⟩
      have Ec : ∀ v, F.eval (.const v) = v := fun _ => rfl; have Ef : ∀ f, F.eval (.func f) = .func (.func f) #[] #[] := fun _ => rfl; clear hF hd; generalize F.eval = ρ at E77 E84 Ec Ef ⊢
      simp [execOp, go_sem, Ec, E77, E84]
    case ob39 =>
      intro vals W0 F hF hS hd
      have d38 : vals 38 = .bool true := hd ⟨38, .data⟩ (Array.mem_of_getElem? (i := 0) rfl) rfl
      have E85 := eval_some (hF.own_ 38 rfl rfl (by decide)); rw [d38] at E85
      refine .inr ⟨wanted_none rfl, .inl ⟨.bool true, ?_, Ty.of_is rfl⟩⟩
      simp only [execOp, E85, Sem.run_pure]
    case ob40 =>
      intro vals W0 F hF hS hd
      have d39 : vals 39 = .bool true := hd ⟨39, .guard⟩ (Array.mem_of_getElem? (i := 0) rfl) rfl
      have E7 : F.eval (.tmp 7) = .slice (some ⟨g, 0, none⟩) (bs.length + 1) c := hF.out_ (by kernel_rfl) rfl
      have G := hF.own_ 39 rfl rfl (by decide); rw [d39] at G
      refine .inr ⟨wanted_yes rfl rfl rfl G, .inl ⟨.slice (some ⟨g, 0, none⟩) (bs.length + 1) c, ?_, Ty.of_is rfl⟩⟩
      simp only [execOp, E7, Sem.run_pure]
    case ob41 =>
      intro vals W0 F hF hS hd
      have d39 : vals 39 = .bool true := hd ⟨39, .guard⟩ (Array.mem_of_getElem? (i := 1) rfl) rfl
      have d40 : vals 40 = .slice (some ⟨g, 0, none⟩) (bs.length + 1) c := hd ⟨40, .data⟩ (Array.mem_of_getElem? (i := 0) rfl) rfl
      have E87 := eval_some (hF.own_ 40 rfl rfl (by decide)); rw [d40] at E87
      have G := hF.own_ 39 rfl rfl (by decide); rw [d39] at G
      refine .inr ⟨wanted_yes rfl rfl rfl G, ?_⟩
      refine .inl ⟨.string ⟨(bs ++ [7]).toArray⟩, ?_, Ty.of_is rfl⟩
      have q := str_of (ho6.later hS) c
      have hln : (bs ++ [7]).length = bs.length + 1 := by simp
      rw [hln] at q
      have Ec : ∀ v, F.eval (.const v) = v := fun _ => rfl; have Ef : ∀ f, F.eval (.func f) = .func (.func f) #[] #[] := fun _ => rfl; clear hF hd; generalize F.eval = ρ at E87 Ec Ef ⊢
      simp only [execOp, E87, Sem.run_bind, q, Result.andThen_ok, Sem.run_pure]
    case ob42 =>
      intro vals W0 F hF hS hd
      have d39 : vals 39 = .bool true := hd ⟨39, .guard⟩ (Array.mem_of_getElem? (i := 0) rfl) rfl
      have E1 : F.eval (.tmp 1) = .slice A bs.length cap := hF.out_ (by kernel_rfl) rfl
      have G := hF.own_ 39 rfl rfl (by decide); rw [d39] at G
      refine .inr ⟨wanted_yes rfl rfl rfl G, .inl ⟨.slice A bs.length cap, ?_, Ty.of_is rfl⟩⟩
      simp only [execOp, E1, Sem.run_pure]
    case ob43 =>
      intro vals W0 F hF hS hd
      have d39 : vals 39 = .bool true := hd ⟨39, .guard⟩ (Array.mem_of_getElem? (i := 1) rfl) rfl
      have d42 : vals 42 = .slice A bs.length cap := hd ⟨42, .data⟩ (Array.mem_of_getElem? (i := 0) rfl) rfl
      have E89 := eval_some (hF.own_ 42 rfl rfl (by decide)); rw [d42] at E89
      have G := hF.own_ 39 rfl rfl (by decide); rw [d39] at G
      refine .inr ⟨wanted_yes rfl rfl rfl G, ?_⟩
      refine .inl ⟨.string ⟨bs.toArray⟩, ?_, Ty.of_is rfl⟩
      have q := str_of (ha6.later hS) cap
      have Ec : ∀ v, F.eval (.const v) = v := fun _ => rfl; have Ef : ∀ f, F.eval (.func f) = .func (.func f) #[] #[] := fun _ => rfl; clear hF hd; generalize F.eval = ρ at E89 Ec Ef ⊢
      simp [execOp, go_sem, Ec, E89, q]
    case ob44 =>
      intro vals W0 F hF hS hd
      have d39 : vals 39 = .bool true := hd ⟨39, .guard⟩ (Array.mem_of_getElem? (i := 1) rfl) rfl
      have d43 : vals 43 = .string ⟨bs.toArray⟩ := hd ⟨43, .data⟩ (Array.mem_of_getElem? (i := 0) rfl) rfl
      have E90 := eval_some (hF.own_ 43 rfl rfl (by decide)); rw [d43] at E90
      have G := hF.own_ 39 rfl rfl (by decide); rw [d39] at G
      refine .inr ⟨wanted_yes rfl rfl rfl G, ?_⟩
      refine .inl ⟨.string ⟨(bs ++ [7]).toArray⟩, ?_, Ty.of_is rfl⟩
      have hnl : ¬ 9223372036854775807 < bs.length + 1 := by omega
      have Ec : ∀ v, F.eval (.const v) = v := fun _ => rfl; have Ef : ∀ f, F.eval (.func f) = .func (.func f) #[] #[] := fun _ => rfl; clear hF hd; generalize F.eval = ρ at E90 Ec Ef ⊢
      simp [execOp, go_sem, Ec, E90, hnl]
      rfl
    case ob45 =>
      intro vals W0 F hF hS hd
      have d39 : vals 39 = .bool true := hd ⟨39, .guard⟩ (Array.mem_of_getElem? (i := 2) rfl) rfl
      have d41 : vals 41 = .string ⟨(bs ++ [7]).toArray⟩ := hd ⟨41, .data⟩ (Array.mem_of_getElem? (i := 0) rfl) rfl
      have d44 : vals 44 = .string ⟨(bs ++ [7]).toArray⟩ := hd ⟨44, .data⟩ (Array.mem_of_getElem? (i := 1) rfl) rfl
      have E88 := eval_some (hF.own_ 41 rfl rfl (by decide)); rw [d41] at E88
      have E91 := eval_some (hF.own_ 44 rfl rfl (by decide)); rw [d44] at E91
      have G := hF.own_ 39 rfl rfl (by decide); rw [d39] at G
      refine .inr ⟨wanted_yes rfl rfl rfl G, .inl ⟨.bool true, ?_, Ty.of_is rfl⟩⟩
      have Ec : ∀ v, F.eval (.const v) = v := fun _ => rfl; have Ef : ∀ f, F.eval (.func f) = .func (.func f) #[] #[] := fun _ => rfl; clear hF hd; generalize F.eval = ρ at E88 E91 Ec Ef ⊢
      simp [execOp, go_sem, Ec, E88, E91]
    case ob46 =>
      intro vals W0 F hF hS hd
      have d39 : vals 39 = .bool true := hd ⟨39, .data⟩ (Array.mem_of_getElem? (i := 0) rfl) rfl
      have d45 : vals 45 = .bool true := hd ⟨45, .data⟩ (Array.mem_of_getElem? (i := 1) rfl) rfl
      have E86 := eval_some (hF.own_ 39 rfl rfl (by decide)); rw [d39] at E86
      have E92 := eval_some (hF.own_ 45 rfl rfl (by decide)); rw [d45] at E92
      refine .inr ⟨wanted_none rfl, .inl ⟨.bool true, ?_, Ty.of_is rfl⟩⟩
      have Ec : ∀ v, F.eval (.const v) = v := fun _ => rfl; have Ef : ∀ f, F.eval (.func f) = .func (.func f) #[] #[] := fun _ => rfl; clear hF hd; generalize F.eval = ρ at E86 E92 Ec Ef ⊢
      simp [execOp, go_sem, Ec, E86, E92]
    case ob47 =>
      intro vals W0 F hF hS hd
      have d46 : vals 46 = .bool true := hd ⟨46, .data⟩ (Array.mem_of_getElem? (i := 0) rfl) rfl
      have E93 := eval_some (hF.own_ 46 rfl rfl (by decide)); rw [d46] at E93
      refine .inr ⟨wanted_none rfl, .inl ⟨.bool true, ?_, Ty.of_is rfl⟩⟩
      simp only [execOp, E93, Sem.run_pure]
    case obend =>
      intro vals W0 F hF hdef hS hT
      have e6 := hF.own_ 47 rfl rfl (by decide)
      have d47 : vals 47 = .bool true := hT 47 (by decide)
      rw [d47] at e6
      rename_i K hK
      refine hK _ _ (wp_ret (bodyPost_ret (results_tmp rfl _ _ _) hdef ?_))
      refine ⟨?_, HB6.out.trans (hS.mono HB6.out.size)⟩
      show Ending.returned (F.tmps.getD 6 undef) = _
      rw [Array.getD_eq_getD_getElem?, e6]
      rfl

open Go.ChangeShapes Go.WideShapes Go.ChangeAt
set_option maxRecDepth 100000 in
theorem forms_lifted (os : Os) (started : os.Started) (H : Type) (enc : TypeId × Value → H) :
    ReturnsInHanded {} Try.checked os 3 .any (Rows.numFormsSpec.pre6 enc Try.prog Try.f3 Rows.numFormsRow.domain false) (Rows.numFormsSpec.post enc Try.prog Try.f3 false true false false) := by
  refine returnsInHanded_of_change (C := Try.checked) own started (by kernel_rfl) Try.func3
    (ChangeSpec.witness6 (enc := enc) (C := Try.checked) false ⟨#[], #[.int .i64 0, .slice none 0 0, .bool false], []⟩ 8 (by kernel_rfl) (by kernel_rfl) (by kernel_rfl) (by kernel_rfl)) ?_
  intro W base args ds gs before hval0 hW hcnd _
  have hval : ∀ (j : Nat) t v, Try.f3.params[j]? = some t → args[j]? = some v → Value.okWide Try.prog W .any base t v := hval0
  have hW' := hW
  obtain ⟨p, q, hA0, hV, rfl, hfz, hnd⟩ := hW
  have hA : DataW.TrodAll enc Try.prog W 0 (fun _ => true) true Try.f3.params.toList args.toList ds p := hA0
  rw [Try.params3] at hA hval
  obtain ⟨v0, vs0, d0, ds0, p0, q0, hargs, rfl, rfl, h0, r0⟩ := trodAll_cons hA
  obtain ⟨v1, vs1, d1, ds1, p1, q1, rfl, rfl, rfl, h1, r1⟩ := trodAll_cons r0
  obtain ⟨v2, vs2, d2, ds2, p2, q2, rfl, rfl, rfl, h2, r2⟩ := trodAll_cons r1
  obtain ⟨rfl, rfl, rfl⟩ := trodAll_nil r2
  obtain rfl : args = #[v0, v1, v2] := by cases args; simp_all
  obtain ⟨rfl, rfl⟩ := trodVars_none hV
  have k0 := h0
  have lt0 : ∀ x ∈ p0, x.block < W.heap.size := by obtain ⟨m, hm⟩ := k0; exact DataW.trod_lt m _ _ _ hm
  have k1 := h1
  have lt1 : ∀ x ∈ p1, x.block < W.heap.size := by obtain ⟨m, hm⟩ := k1; exact DataW.trod_lt m _ _ _ hm
  have k2 := h2
  have lt2 : ∀ x ∈ p2, x.block < W.heap.size := by obtain ⟨m, hm⟩ := k2; exact DataW.trod_lt m _ _ _ hm
  obtain ⟨z0, rfl, rfl, rfl, wz0⟩ := open_int Try.underlying2 (hval 0 2 v0 rfl rfl) h0
  have hz0 := bounds_i64 wz0
  obtain ⟨A1, bs1, cap1, rfl, hh1, hlen1, hcap1⟩ := open8 (hval 1 22 v1 rfl rfl) k1
  obtain ⟨z2, rfl, rfl, rfl⟩ := open_bool Try.underlying4 (hval 2 4 v2 rfl rfl) h2
  clear hA0 hval0
  refine (forms_walk z0 z2 bs1 cap1 A1 W hh1 (Nat.le_trans hlen1 hcap1)).mono fun e W' ⟨he, bel⟩ => ?_
  subst he
  exact ⟨_, rfl, _, _, _, [], _, [], hW', trodAll_mk1 (shut_bool Try.underlying4 _), (trodAll_cons_mk (Below.trod laidOut (by kernel_rfl) (of_decide_eq_true (by kernel_rfl)) k0 bel lt0) (trodAll_cons_mk (Below.trod laidOut (by kernel_rfl) (of_decide_eq_true (by kernel_rfl)) k1 bel lt1) (trodAll_cons_mk (Below.trod laidOut (by kernel_rfl) (of_decide_eq_true (by kernel_rfl)) k2 bel lt2) trodAll_mk0))), rfl, bel.frame _, fun h => by cases h⟩

theorem forms_over : Rows.numFormsRow.holds Try.pinned (OpenSpec.ofChange Rows.numFormsSpec) :=
  OpenClaim.holds_of_wide 3 Try.f3 rfl rfl rfl rfl rfl rfl rfl ⟨rfl, rfl, rfl, rfl, rfl⟩ rfl rfl rfl rfl rfl (by kernel_rfl) Try.func3 (by kernel_rfl)
    (of_decide_eq_true (by kernel_rfl)) (by unfold Func.isWrapper; first | (rw [if_pos (by decide +kernel)]; kernel_rfl) | (rw [if_neg (by decide +kernel)]; exact ⟨rfl, rfl⟩))
    (fun os started H enc _ => forms_lifted os started H enc)

/-- NumForms is true at every input. -/
theorem forms_proved : Rows.NumFormsSaid := forms_over
#print axioms forms_proved
end Go.Proofs.Ytbhopgklnddelaa
