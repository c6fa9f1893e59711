/- OctetParts is true at every input. No condition. -/
import Derived.Test.YtngkckngjobojaaOctL
import Derived.Test.YtngkckngjobojaaOctOpen
import Derived.Test.YtngkckngjobojaaReg3
namespace Go.Proofs.Ytngkckngjobojaa.Oct
open Go.Proofs.Ytngkckngjobojaa Go.ChangeShapes Go.WideShapes Go.ChangeAt Go.RowKit Go.Shelf

theorem slice_info : (Try.prog.info? 25).map (fun i => (i.zero, i.size, i.bytes)) = some (some (.slice none 0 0), 1, 24) := by kernel_rfl
abbrev Part := Option Addr × List UInt8 × Nat
/-- Slices, as values. -/
def asRow (ps : List Part) : List Value := ps.map fun p => .slice p.1 p.2.1.length p.2.2
theorem asRow_length (ps : List Part) : (asRow ps).length = ps.length := by simp [asRow]
theorem asRow_snoc (ps : List Part) (p : Part) : asRow (ps ++ [p]) = asRow ps ++ [.slice p.1 p.2.1.length p.2.2] := by simp [asRow]
theorem flat_add (ps : List Part) (p : Part) : flat (ps ++ [p]) = flat ps ++ p.2.1 := by simp [flat]
theorem asRow_one (ps : List Part) : ∀ u ∈ asRow ps, u.oneCell' = true := by
  intro u hu
  simp only [asRow, List.mem_map] at hu
  obtain ⟨p, _, rfl⟩ := hu
  rfl
/-- append(parts, part), as a step of a walk. -/
theorem wpList_append_part {ops : Array Oper} {rest : List Oper} {o : Oper} {a : Act} {Q : Exit → Act → World → Prop} {w : World} (hgd : o.guard = none) (s x : Operand)
    (ho : o.op = .call { callee := .builtin .append, args := #[s, x], argTypes := #[64, 64] }) (base : Nat) (v : Value) (ps : List Part) (p : Part) (n g : Nat) (hn : n = ps.length) (hs : a.eval s = v) (hown : w.ownsRow base 25 1 v n (asRow ps))
    (hx : a.eval x = .slice (some ⟨g, 0, none⟩) 1 1) (hg : w.cell? ⟨g, 0, none⟩ = some (.slice p.1 p.2.1.length p.2.2)) (hl : n ≤ 1000000) (hbase : base ≤ w.heap.size)
    (h : ∀ v' w', w'.ownsRow base 25 1 v' (n + 1) (asRow (ps ++ [p])) → w.grownBy w' v.ownBlock → wpList Try.prog ops Q rest (a.put o.dst v') w') : wpList Try.prog ops Q (o :: rest) a w := by
  obtain ⟨i0, hi, hz0, hz1, hz2⟩ := info_parts slice_info
  obtain ⟨v', w', hr, h2, h3, _, h5⟩ := run_append_own_at (P := Try.prog) w base 64 o.type 25 i0 (.slice none 0 0) 1 24 Try.underlying64 hi hz0 hz1 hz2 rfl (by decide) v n (asRow ps) hown ⟨g, 0, none⟩ 1 1 [.slice p.1 p.2.1.length p.2.2] rfl (fun j u hj => by
    match j, hj with
    | 0, hj =>
      simp at hj
      subst hj
      simpa [Addr.add] using hg) (by simp [Value.oneCell']) (by unfold maxLen; omega) (by omega) hbase
  refine wpList_plain hgd fun K hK => ?_
  unfold Oper.wp execOp
  simp only [ho, resolve, invoke, builtin, Sem.run_bind, Sem.run_pure, Result.andThen_ok, List.map_toArray, List.map_cons, List.map_nil, hs, hx, hr]
  exact hK _ _ (h v' w' (by rw [asRow_snoc]; exact h2) h3)
theorem row_ge {w : World} {base e s : Nat} {v : Value} {n : Nat} {xs : List Value} (h : w.ownsRow base e s v n xs) : ∀ k, v.ownBlock = some k → base ≤ k := fun k e => (h.lt k e).1
/-- A row of slices, as a slice of slices. -/
theorem row_form {w : World} {base : Nat} {v : Value} {ps : List Part} {n : Nat} (hn : n = ps.length) (h0 : 0 < n) (h : w.ownsRow base 25 1 v n (asRow ps)) :
    ∃ g c, v = .slice (some ⟨g, 0, none⟩) n c ∧ base ≤ g ∧ g < w.heap.size ∧ ∀ k (hk : k < ps.length), w.cell? ⟨g, 0 + k, none⟩ = some (.slice ps[k].1 ps[k].2.1.length ps[k].2.2) := by
  subst hn
  rcases h.2 with ⟨_, h1⟩ | ⟨g, cap, cur, rfl, hb, hh, hnc, _, _, ht⟩
  · omega
  · refine ⟨g, cap, rfl, hb, (Array.getElem?_eq_some_iff.1 hh).1, fun k hk => ?_⟩
    rw [Nat.zero_add, cell_of_row _ _ _ _ _ _ hh]
    have h1 : (asRow ps)[k]? = some (.slice ps[k].1 ps[k].2.1.length ps[k].2.2) := by simp [asRow, hk]
    rw [← ht, List.getElem?_take, if_pos (by omega)] at h1
    simpa using h1
theorem min_two (a b n : Nat) (h : min a b = n) (W : World) : (Builtin.min_ #[3, 3] 3 #[.int .i64 (a : Int), .int .i64 (b : Int)]).run Try.prog W = .ok (.int .i64 (n : Int)) W := by
  have : (if (b : Int) < (a : Int) then (b : Int) else (a : Int)) = (n : Int) := by
    by_cases h1 : (b : Int) < (a : Int)
    · rw [if_pos h1]; omega
    · rw [if_neg h1]; omega
  rw [← this]
  simp [Builtin.min_, Builtin.min2]
/-- What is cut off a slice of bytes, and what is left. -/
theorem cut_parts {n₀ : Nat} {W : World} {R : Option Addr} {rs : List UInt8} {rc : Nat} (h : Holds8 n₀ W R rs) (hc : rs.length ≤ rc) (n : Nat) (hn : n ≤ rs.length) : Holds8 n₀ W R (rs.take n) ∧ Holds8 n₀ W (cutAt R n rc) (rs.drop n) := ⟨h.take_ n, h.drop_ n rc hn hc⟩
theorem cut_none (R : Option Addr) (n rc : Nat) (h : R = none → rc = 0) (hn : cutAt R n rc = none) : rc - n = 0 := by
  cases R with
  | none => have := h rfl; omega
  | some a =>
    unfold cutAt at hn
    split at hn
    · cases hn
    · cases hn
set_option maxRecDepth 100000 in
set_option maxHeartbeats 4000000 in
theorem parts_walk (bs ts : List UInt8) (A B : Option Addr) (c d : Nat) (w : World) (h : Holds8 w.heap.size w A bs) (hA : A = none → c = 0) (hc : bs.length ≤ c) (hl : bs.length ≤ 20000) (hb : Holds8 w.heap.size w B ts) (hld : ts.length ≤ 50) :
    Calls Try.prog 8 #[.slice A bs.length c, .slice B ts.length d] w fun e w' => e = .returned (.bool true) ∧ Below w.heap.size w w' := by
  have d1 : decide ((20000 : Int) < (bs.length : Int)) = false := by simp; omega
  have d2 : decide ((50 : Int) < (ts.length : Int)) = false := by simp; omega
  have H := Lib.hid h
  have HB := Lib.hid hb
  clear h hb
  go_enter Try.func8, Try.ntmps8
  go_wp2_with (first
    | (go_at_call 31; refine (alive_any _).mono ?_; rintro e w1 ⟨rfl, hb1⟩; have hp1 := Blank.new w1; have hq1 := Blank.new (w1.alloc (.cells #[.slice none 0 0] 27)); rw [World.size_alloc] at hq1; have HP1 := Lib.hid (hp1.below ((Below.refl _ _).alloc (Nat.le_refl _) (.cells #[.slice none 0 0] 27))); have HQ1 := Lib.hid hq1; have hne1 : w1.heap.size ≠ w1.heap.size + 1 := (by omega); have HA1 := Lib.hid (H.out.below (((hb1.alloc hb1.size (.cells #[.slice none 0 0] 27))).alloc (by have := hb1.size; simp; omega) (.cells #[.slice none 0 0] 27)) (Nat.le_refl _)); have hap := Lib.hid (Apart8.low (HP1.out.pen (base := w1.heap.size) (Nat.le_refl _)) hb1.size (by simp <;> omega) HA1.out); have hq0 := parts_one (c := c) (HP1.out.pen (base := w1.heap.size) (Nat.le_refl _)) hap.out _ rfl; simp only [World.size_alloc] at hq0; have HPT := Lib.hid hq0; clear hp1 hq1 hq0)
    | (go_at_call 30; (with_reducible refine (penRaw_any w1.heap.size w1.heap.size [] [(A, bs, c)] 1 rfl _ 1 _ ((HP1.out.pen (Nat.le_refl _)).below ((Below.refl _ _).alloc (Nat.le_refl _) _)) HPT.out (by simp [flat] <;> omega) (by simp) (by simp <;> omega)).mono ?_); rintro e w2 ⟨rfl, hp2, hs2⟩; rw [List.nil_append, show flat [(A, bs, c)] = bs by simp [flat]] at hp2))
  have n2 : w1.heap.size + 3 ≤ w2.heap.size := by have := hs2.size; simp at this; omega
  have b12 := hs2.below ((HP1.out.pen (base := w1.heap.size) (Nat.le_refl _)).below ((Below.refl _ _).alloc (Nat.le_refl _) (.cells #[.slice A bs.length c] 25))) (by simp <;> omega)
  have HQ2 := Lib.hid ((HQ1.out.below ((Below.refl _ _).alloc (Nat.le_refl _) (.cells #[.slice A bs.length c] 25))).other ((HP1.out.pen (base := w1.heap.size) (Nat.le_refl _)).below ((Below.refl _ _).alloc (Nat.le_refl _) _)) hne1 hs2)
  have n01 := hb1.size
  have HBA := Lib.hid ((hb1.trans ((((((Below.refl _ w1).alloc (Nat.le_refl _) (.cells #[.slice none 0 0] 27)).alloc (by simp) (.cells #[.slice none 0 0] 27)).alloc (by simp <;> omega) (.cells #[.slice A bs.length c] 25)).trans b12).mono n01)))
  have HP2 := Lib.hid hp2
  clear hb1 hs2 b12 hp2 HP1 HQ1 HA1 hap HPT
  go_loopw [9, 10, 11, 12, 34] (fun r p _ _ i wr => ∃ (k : Nat) (ps : List Part) (R : Option Addr) (rs : List UInt8) (rc : Nat), k ≤ ts.length ∧ i = .int .i64 (k : Int) ∧ r = .slice R rs.length rc ∧ ps.length = k ∧ flat ps ++ rs = bs ∧ wr.ownsRow w2.heap.size 25 1 p k (asRow ps) ∧ Below w2.heap.size w2 wr ∧ (∀ q ∈ ps, Holds8 w.heap.size w q.1 q.2.1) ∧ Holds8 w.heap.size w R rs ∧ rs.length ≤ rc ∧ (R = none → rc = 0)) (fun _ _ _ _ i _ => ts.length - (intOf i).toNat)
  case atStart => exact ⟨0, [], A, bs, c, Nat.zero_le _, rfl, rfl, rfl, rfl, World.ownsRow_nil _ _ _ _, Below.refl _ _, (fun q hq => by cases hq), H.out, hc, hA⟩
  case round =>
    obtain ⟨k, ps, R, rs, rc, hk, rfl, rfl, hpl, hfl, hrow, hB2, hps, hR, hrc, hRn⟩ := hrel
    by_cases hlt : k < ts.length
    · obtain ⟨bb, ob, rfl, hbb, hcb⟩ := HB.out.at_ hlt
      have hcbw := ((HBA.out.trans (hB2.mono (by have := HBA.out.size; omega))).cell (p := ⟨bb, ob + k, none⟩) hbb).trans hcb
      obtain ⟨y, hy⟩ : ∃ y, ts[k] = y := ⟨_, rfl⟩
      rw [hy] at hcbw
      have hub := UInt8.toNat_lt y
      obtain ⟨n, hn⟩ : ∃ n, min y.toNat rs.length = n := ⟨_, rfl⟩
      have hmin := min_two y.toNat rs.length n hn
      have hnl : n ≤ rs.length := by omega
      have HCUT := Lib.hid (cut_parts hR hrc n hnl)
      have HRC := Lib.hid (cut_none R n rc hRn)
      have htl : (rs.take n).length = n := by rw [List.length_take]; omega
      have hdl : (rs.drop n).length = rs.length - n := by rw [List.length_drop]
      have HPL := Lib.hid hpl
      have HFL := Lib.hid hfl
      have HPS := Lib.hid hps
      have HROW := Lib.hid hrow
      have HTL := Lib.hid htl
      have HDL := Lib.hid hdl
      have hk50 : k < 50 := by omega
      clear hy hn hcb hpl hfl hps hrow htl hdl hR
      have hsz := hB2.size
      have NEXT : ∀ (v' : Value) (w' : World) (R' : Option Addr), R' = cutAt R n rc → w'.ownsRow w2.heap.size 25 1 v' (k + 1) (asRow (ps ++ [(R, rs.take n, rc)])) → Below w2.heap.size w2 w' →
          ∃ (k' : Nat) (ps' : List Part) (R'' : Option Addr) (rs' : List UInt8) (rc' : Nat), k' ≤ ts.length ∧ Value.int .i64 ((k : Int) + 1) = .int .i64 (k' : Int) ∧ Value.slice R' (rs.length - n) (rc - n) = .slice R'' rs'.length rc' ∧ ps'.length = k' ∧ flat ps' ++ rs' = bs ∧ w'.ownsRow w2.heap.size 25 1 v' k' (asRow ps') ∧ Below w2.heap.size w2 w' ∧ (∀ q ∈ ps', Holds8 w.heap.size w q.1 q.2.1) ∧ Holds8 w.heap.size w R'' rs' ∧ rs'.length ≤ rc' ∧ (R'' = none → rc' = 0) := by
        intro v' w' R' hR' h1 h2
        refine ⟨k + 1, ps ++ [(R, rs.take n, rc)], R', rs.drop n, rc - n, by omega, by go_num, by rw [HDL.out], by rw [List.length_append, HPL.out]; rfl, ?_, h1, h2, fun q hq => ?_, by rw [hR']; exact HCUT.out.2, by rw [HDL.out]; omega, fun e => HRC.out (by rw [← hR']; exact e)⟩
        · rw [flat_add, List.append_assoc]
          simp only [List.take_append_drop]
          exact HFL.out
        · rcases List.mem_append.1 hq with hq | hq
          · exact HPS.out q hq
          · rw [List.mem_singleton.1 hq]
            exact HCUT.out.1
      have HNEXT := Lib.hid NEXT
      clear NEXT
      cases R with
      | none =>
        obtain rfl := hRn rfl
        have hrs0 : rs = [] := List.eq_nil_of_length_eq_zero (by omega)
        have hn0 : n = 0 := by omega
        subst hn0
        subst hrs0
        have hmin0 : ∀ W, (Builtin.min_ #[3, 3] 3 #[.int .i64 (y.toNat : Int), .int .i64 0]).run Try.prog W = .ok (.int .i64 0) W := min_two y.toNat 0 0 (by simp)
        clear hmin
        go_wp2_with (at_builtin; refine wpList_append_part rfl (.tmp 45) (.tmp 49) rfl w2.heap.size _ ps (none, [].take 0, 0) k wr.heap.size HPL.out.symm rfl (ownsRow_below HROW.out ((Below.refl _ _).alloc (Nat.le_refl _) _)) rfl (by rw [cell_of_row _ _ _ _ _ _ (heap_alloc_new wr _)]; rw [HTL.out]; rfl) (by omega) (by simp <;> omega) ?_; intro v' w' hown' hgr; have HOW := Lib.hid hown'; have HBW := Lib.hid ((hB2.alloc hsz _).grown hgr (by simp <;> omega) (row_ge HROW.out)); clear hown' hgr)
        refine ⟨HNEXT.out v' w' none rfl HOW.out HBW.out, ?_⟩
        simp [intOf]
        omega
      | some a =>
        obtain ⟨rb, ro, rfl⟩ : ∃ rb ro, a = (⟨rb, ro, none⟩ : Addr) := by
          rcases HCUT.out.1 with ⟨e, _⟩ | ⟨b', o', e, _⟩
          · cases e
          · injection e with e; exact ⟨b', o', e⟩
        go_wp2_with (at_builtin; refine wpList_append_part rfl (.tmp 45) (.tmp 49) rfl w2.heap.size _ ps (some ⟨rb, ro, none⟩, rs.take n, rc) k wr.heap.size HPL.out.symm rfl (ownsRow_below HROW.out ((Below.refl _ _).alloc (Nat.le_refl _) _)) rfl (by rw [cell_of_row _ _ _ _ _ _ (heap_alloc_new wr _)]; rw [HTL.out]; rfl) (by omega) (by simp <;> omega) ?_; intro v' w' hown' hgr; have HOW := Lib.hid hown'; have HBW := Lib.hid ((hB2.alloc hsz _).grown hgr (by simp <;> omega) (row_ge HROW.out)); clear hown' hgr)
        refine ⟨HNEXT.out v' w' _ (by unfold cutAt; split <;> rfl) HOW.out HBW.out, ?_⟩
        simp [intOf]
        omega
    · have hkt : k = ts.length := by omega
      have HKT := Lib.hid hkt
      have hk51 : k ≤ 50 := by omega
      have hkd : decide (k < ts.length) = false := by simpa using hlt
      have HPL := Lib.hid hpl
      have HFL := Lib.hid (show flat (ps ++ [(R, rs, rc)]) = bs by rw [flat_add]; exact hfl)
      have HPS := Lib.hid (show ∀ q ∈ ps ++ [(R, rs, rc)], Holds8 w.heap.size w q.1 q.2.1 from fun q hq => by
        rcases List.mem_append.1 hq with hq | hq
        · exact hps q hq
        · rw [List.mem_singleton.1 hq]; exact hR)
      have HROW := Lib.hid hrow
      have hsz := hB2.size
      have n02 : w.heap.size ≤ w2.heap.size := HBA.out.size
      clear hkt hpl hfl hps hrow hR hlt hRn
      have HPUT := Lib.hid (show ∀ (g cg : Nat) (W : World), w2.heap.size ≤ g → g < W.heap.size → Below w2.heap.size w2 W → (∀ j (hj : j < (ps ++ [(R, rs, rc)]).length), W.cell? ⟨g, 0 + j, none⟩ = some (.slice (ps ++ [(R, rs, rc)])[j].1 (ps ++ [(R, rs, rc)])[j].2.1.length (ps ++ [(R, rs, rc)])[j].2.2)) →
          Calls Try.prog 30 #[.pointer (some ⟨w1.heap.size + 1, 0, none⟩), .slice (some ⟨g, 0, none⟩) (k + 1) cg] W fun e W' => e = .returned (.int .i64 0) ∧ PenAt w1.heap.size W' w1.heap.size bs ∧ PenAt w1.heap.size W' (w1.heap.size + 1) bs ∧ Below w.heap.size w W' ∧ w2.heap.size ≤ W'.heap.size from by
        intro g cg W hg hgl hbW hcells
        have hq := HQ2.out.below hbW
        have hp := HP2.out.below hbW
        have hqp := hq.pen (base := w1.heap.size) (Nat.le_succ _)
        have hbw : Below w.heap.size w W := HBA.out.trans (hbW.mono n02)
        have hsW := hbW.size
        have hout : Out W (w1.heap.size + 1) g := ⟨hgl, by omega, by rw [rowOf_at hq]; simp [Value.ownBlock]⟩
        have hpa : PartsAt W (w1.heap.size + 1) (some ⟨g, 0, none⟩) (ps ++ [(R, rs, rc)]) := ⟨fun j hj => ⟨g, 0, rfl, hout, hcells j hj⟩, fun p hp => Apart8.low hqp n01 (by omega) ((HPS.out p hp).below hbw (Nat.le_refl _))⟩
        refine (penRaw_any w1.heap.size _ [] (ps ++ [(R, rs, rc)]) (k + 1) (by rw [List.length_append, HPL.out]; rfl) _ cg W hqp hpa (by rw [HFL.out]; simp only [List.length_nil]; omega) (by rw [List.length_append, HPL.out]; simp only [List.length_singleton]; omega) (by omega)).mono ?_
        rintro e W' ⟨rfl, hq2, hs⟩
        rw [List.nil_append, HFL.out] at hq2
        exact ⟨rfl, hp.blank hq hne1 hs, hq2, hbw.trans ((hs.below hqp (by omega)).mono n01), Nat.le_trans hsW hs.size⟩)
      go_wp2_with (first
        | (at_builtin; refine wpList_append_part rfl (.tmp 55) (.tmp 57) rfl w2.heap.size _ ps (R, rs, rc) k wr.heap.size HPL.out.symm rfl (ownsRow_below HROW.out ((Below.refl _ _).alloc (Nat.le_refl _) _)) rfl (by rw [cell_of_row _ _ _ _ _ _ (heap_alloc_new wr _)]; rfl) (by omega) (by simp <;> omega) ?_; intro v' w' hown' hgr; have HBW := Lib.hid ((hB2.alloc hsz _).grown hgr (by simp <;> omega) (row_ge HROW.out)); obtain ⟨g, cg, rfl, hgb, hgl, hgc⟩ := row_form (by rw [List.length_append, HPL.out]; rfl) (Nat.succ_pos k) hown'; have HGC := Lib.hid hgc; clear hown' hgr hgc)
        | (go_at_call 30; (with_reducible refine (HPUT.out g cg w' hgb hgl HBW.out HGC.out).mono ?_); rintro e w5 ⟨rfl, hp5, hq5, hb5, n25⟩))
      have n05 : w.heap.size ≤ w5.heap.size := hb5.size
      have HA5 := Lib.hid (H.out.below hb5 (Nat.le_refl _))
      have HP5 := Lib.hid hp5
      have HQ5 := Lib.hid hq5
      clear hp5 hq5
      refine wp_region_phased 83 rfl (fun _ _ W W' => Below W.heap.size W W') (fun _ W' => Below w5.heap.size w5 W') [.is (.bool true), .is (.bool true), .is (.int .i64 0), .is (.bool true), .is (.bool true), .is (.bool true), .is (.int .i64 0), .is (.bool true), .is (.bool true), .is (.bool true), ⟨0, 1000, fun v W => ∃ B cb, v = .slice B bs.length cb ∧ Holds8 W.heap.size W B bs, fun k d v W W' _ _ ⟨B, cb, e, h⟩ hr => ⟨B, cb, e, h.later hr⟩⟩, .is (.string ⟨bs.toArray⟩), .is (.slice A bs.length c), .is (.string ⟨bs.toArray⟩), .is (.bool true), .is (.bool true), .is (.bool true), ⟨0, 1000, fun v W => ∃ B cb, v = .slice B bs.length cb ∧ Holds8 W.heap.size W B bs, fun k d v W W' _ _ ⟨B, cb, e, h⟩ hr => ⟨B, cb, e, h.later hr⟩⟩, .is (.string ⟨bs.toArray⟩), .is (.slice A bs.length c), .is (.string ⟨bs.toArray⟩), .is (.bool true), .is (.bool true), .is (.bool true)] [] [0, 0, 0, 0, 0, 0, 0, 0, 0, 0, 0, 0, 0, 0, 0, 0, 0, 0, 0, 0, 0, 0, 0, 0] [0, 0, 0, 0, 0, 0, 0, 0, 0, 0, 0, 0, 0, 0, 0, 0, 0, 0, 0, 0, 0, 0, 0, 0] (by kernel_rfl) (by kernel_rfl) (by kernel_rfl) (fun _ _ _ => Below.refl _ _) ((Below.refl _ _).drew) ⟨?ob0, ?ob1, ?ob2, ?ob3, ?ob4, ?ob5, ?ob6, ?ob7, ?ob8, ?ob9, ?ob10, ?ob11, ?ob12, ?ob13, ?ob14, ?ob15, ?ob16, ?ob17, ?ob18, ?ob19, ?ob20, ?ob21, ?ob22, ?ob23, trivial⟩ ?obend
      case ob0 =>
        intro p vals W1 F hF hlo hhi hI hd
        have hp : p = 0 := Nat.le_antisymm hhi hlo
        subst hp
        clear hlo hhi
        have E5 : F.eval (.tmp 5) = .bool true := hF.out_ (by kernel_rfl) rfl
        refine .inr ⟨wanted_none rfl, .inl ⟨.bool true, ?_, hI, TyP.of_is rfl⟩⟩
        simp only [execOp, E5, Sem.run_pure]
      case ob1 =>
        intro p vals W1 F hF hlo hhi hI hd
        have hp : p = 0 := Nat.le_antisymm hhi hlo
        subst hp
        clear hlo hhi
        have d0 : vals 0 = .bool true := hd ⟨0, .data⟩ (Array.mem_of_getElem? (i := 0) rfl) rfl (show (0 : Nat) ≤ 1000 by decide)
        have E60 := eval_some (hF.own_ 0 rfl rfl (by kernel_rfl) (by decide)); rw [d0] at E60
        refine .inr ⟨wanted_none rfl, .inl ⟨.bool true, ?_, hI, TyP.of_is rfl⟩⟩
        simp only [execOp, E60, Sem.run_pure]
      case ob2 =>
        intro p vals W1 F hF hlo hhi hI hd
        have hp : p = 0 := Nat.le_antisymm hhi hlo
        subst hp
        clear hlo hhi
        have d1 : vals 1 = .bool true := hd ⟨1, .guard⟩ (Array.mem_of_getElem? (i := 0) rfl) rfl (show (0 : Nat) ≤ 1000 by decide)
        have E8 : F.eval (.tmp 8) = .int .i64 0 := hF.out_ (by kernel_rfl) rfl
        have G := hF.own_ 1 rfl rfl (by kernel_rfl) (by decide); rw [d1] at G
        refine .inr ⟨wanted_yes rfl rfl rfl G, .inl ⟨.int .i64 0, ?_, hI, TyP.of_is rfl⟩⟩
        simp only [execOp, E8, Sem.run_pure]
      case ob3 =>
        intro p vals W1 F hF hlo hhi hI hd
        have hp : p = 0 := Nat.le_antisymm hhi hlo
        subst hp
        clear hlo hhi
        have d1 : vals 1 = .bool true := hd ⟨1, .guard⟩ (Array.mem_of_getElem? (i := 1) rfl) rfl (show (0 : Nat) ≤ 1000 by decide)
        have d2 : vals 2 = .int .i64 0 := hd ⟨2, .data⟩ (Array.mem_of_getElem? (i := 0) rfl) rfl (show (0 : Nat) ≤ 1000 by decide)
        have E62 := eval_some (hF.own_ 2 rfl rfl (by kernel_rfl) (by decide)); rw [d2] at E62
        have G := hF.own_ 1 rfl rfl (by kernel_rfl) (by decide); rw [d1] at G
        refine .inr ⟨wanted_yes rfl rfl rfl G, .inl ⟨.bool true, ?_, hI, TyP.of_is rfl⟩⟩
        have Ec : ∀ v, F.eval (.const v) = v := fun _ => rfl; have Ef : ∀ f, F.eval (.func f) = .func (.func f) #[] #[] := fun _ => rfl; clear hF hd; generalize F.eval = ρ at E62 Ec Ef ⊢
        simp [execOp, go_sem, Ec, E62]
      case ob4 =>
        intro p vals W1 F hF hlo hhi hI hd
        have hp : p = 0 := Nat.le_antisymm hhi hlo
        subst hp
        clear hlo hhi
        have d1 : vals 1 = .bool true := hd ⟨1, .data⟩ (Array.mem_of_getElem? (i := 0) rfl) rfl (show (0 : Nat) ≤ 1000 by decide)
        have d3 : vals 3 = .bool true := hd ⟨3, .data⟩ (Array.mem_of_getElem? (i := 1) rfl) rfl (show (0 : Nat) ≤ 1000 by decide)
        have E61 := eval_some (hF.own_ 1 rfl rfl (by kernel_rfl) (by decide)); rw [d1] at E61
        have E63 := eval_some (hF.own_ 3 rfl rfl (by kernel_rfl) (by decide)); rw [d3] at E63
        refine .inr ⟨wanted_none rfl, .inl ⟨.bool true, ?_, hI, TyP.of_is rfl⟩⟩
        have Ec : ∀ v, F.eval (.const v) = v := fun _ => rfl; have Ef : ∀ f, F.eval (.func f) = .func (.func f) #[] #[] := fun _ => rfl; clear hF hd; generalize F.eval = ρ at E61 E63 Ec Ef ⊢
        simp [execOp, go_sem, Ec, E61, E63]
      case ob5 =>
        intro p vals W1 F hF hlo hhi hI hd
        have hp : p = 0 := Nat.le_antisymm hhi hlo
        subst hp
        clear hlo hhi
        have d4 : vals 4 = .bool true := hd ⟨4, .data⟩ (Array.mem_of_getElem? (i := 0) rfl) rfl (show (0 : Nat) ≤ 1000 by decide)
        have E64 := eval_some (hF.own_ 4 rfl rfl (by kernel_rfl) (by decide)); rw [d4] at E64
        refine .inr ⟨wanted_none rfl, .inl ⟨.bool true, ?_, hI, TyP.of_is rfl⟩⟩
        simp only [execOp, E64, Sem.run_pure]
      case ob6 =>
        intro p vals W1 F hF hlo hhi hI hd
        have hp : p = 0 := Nat.le_antisymm hhi hlo
        subst hp
        clear hlo hhi
        have d5 : vals 5 = .bool true := hd ⟨5, .guard⟩ (Array.mem_of_getElem? (i := 0) rfl) rfl (show (0 : Nat) ≤ 1000 by decide)
        have E13 : F.eval (.tmp 13) = .int .i64 0 := hF.out_ (by kernel_rfl) rfl
        have G := hF.own_ 5 rfl rfl (by kernel_rfl) (by decide); rw [d5] at G
        refine .inr ⟨wanted_yes rfl rfl rfl G, .inl ⟨.int .i64 0, ?_, hI, TyP.of_is rfl⟩⟩
        simp only [execOp, E13, Sem.run_pure]
      case ob7 =>
        intro p vals W1 F hF hlo hhi hI hd
        have hp : p = 0 := Nat.le_antisymm hhi hlo
        subst hp
        clear hlo hhi
        have d5 : vals 5 = .bool true := hd ⟨5, .guard⟩ (Array.mem_of_getElem? (i := 1) rfl) rfl (show (0 : Nat) ≤ 1000 by decide)
        have d6 : vals 6 = .int .i64 0 := hd ⟨6, .data⟩ (Array.mem_of_getElem? (i := 0) rfl) rfl (show (0 : Nat) ≤ 1000 by decide)
        have E66 := eval_some (hF.own_ 6 rfl rfl (by kernel_rfl) (by decide)); rw [d6] at E66
        have G := hF.own_ 5 rfl rfl (by kernel_rfl) (by decide); rw [d5] at G
        refine .inr ⟨wanted_yes rfl rfl rfl G, .inl ⟨.bool true, ?_, hI, TyP.of_is rfl⟩⟩
        have Ec : ∀ v, F.eval (.const v) = v := fun _ => rfl; have Ef : ∀ f, F.eval (.func f) = .func (.func f) #[] #[] := fun _ => rfl; clear hF hd; generalize F.eval = ρ at E66 Ec Ef ⊢
        simp [execOp, go_sem, Ec, E66]
      case ob8 =>
        intro p vals W1 F hF hlo hhi hI hd
        have hp : p = 0 := Nat.le_antisymm hhi hlo
        subst hp
        clear hlo hhi
        have d5 : vals 5 = .bool true := hd ⟨5, .data⟩ (Array.mem_of_getElem? (i := 0) rfl) rfl (show (0 : Nat) ≤ 1000 by decide)
        have d7 : vals 7 = .bool true := hd ⟨7, .data⟩ (Array.mem_of_getElem? (i := 1) rfl) rfl (show (0 : Nat) ≤ 1000 by decide)
        have E65 := eval_some (hF.own_ 5 rfl rfl (by kernel_rfl) (by decide)); rw [d5] at E65
        have E67 := eval_some (hF.own_ 7 rfl rfl (by kernel_rfl) (by decide)); rw [d7] at E67
        refine .inr ⟨wanted_none rfl, .inl ⟨.bool true, ?_, hI, TyP.of_is rfl⟩⟩
        have Ec : ∀ v, F.eval (.const v) = v := fun _ => rfl; have Ef : ∀ f, F.eval (.func f) = .func (.func f) #[] #[] := fun _ => rfl; clear hF hd; generalize F.eval = ρ at E65 E67 Ec Ef ⊢
        simp [execOp, go_sem, Ec, E65, E67]
      case ob9 =>
        intro p vals W1 F hF hlo hhi hI hd
        have hp : p = 0 := Nat.le_antisymm hhi hlo
        subst hp
        clear hlo hhi
        have d8 : vals 8 = .bool true := hd ⟨8, .data⟩ (Array.mem_of_getElem? (i := 0) rfl) rfl (show (0 : Nat) ≤ 1000 by decide)
        have E68 := eval_some (hF.own_ 8 rfl rfl (by kernel_rfl) (by decide)); rw [d8] at E68
        refine .inr ⟨wanted_none rfl, .inl ⟨.bool true, ?_, hI, TyP.of_is rfl⟩⟩
        simp only [execOp, E68, Sem.run_pure]
      case ob10 =>
        intro p vals W1 F hF hlo hhi hI hd
        have hp : p = 0 := Nat.le_antisymm hhi hlo
        subst hp
        clear hlo hhi
        have d9 : vals 9 = .bool true := hd ⟨9, .chain⟩ (Array.mem_of_getElem? (i := 0) rfl) rfl (show (0 : Nat) ≤ 1000 by decide)
        have E6 : F.eval (.tmp 6) = .pointer (some ⟨w1.heap.size, 0, none⟩) := hF.out_ (by kernel_rfl) rfl
        have G := hF.own_ 9 rfl rfl (by kernel_rfl) (by decide); rw [d9] at G
        refine .inr ⟨wanted_yes rfl rfl rfl G, ?_⟩
        refine .inr (.inr (.inl ⟨12, #[.pointer (some ⟨w1.heap.size, 0, none⟩)], ?_, (penAll_any _ _ bs _ (HP5.out.below hI) (by omega)).mono ?_⟩))
        · have Ec : ∀ v, F.eval (.const v) = v := fun _ => rfl; have Ef : ∀ f, F.eval (.func f) = .func (.func f) #[] #[] := fun _ => rfl; clear hF hd; generalize F.eval = ρ at E6 Ec Ef ⊢
          simp [execOp, go_sem, Ec, Ef, E6]
        rintro e W2 ⟨v, rfl, hr2, hb⟩
        obtain ⟨B, cb, rfl, hh, _⟩ := own_open hr2
        exact ⟨_, rfl, hb, hI.trans (hb.mono hI.size), B, cb, rfl, hh⟩
      case ob11 =>
        intro p vals W1 F hF hlo hhi hI hd
        have hp : p = 0 := Nat.le_antisymm hhi hlo
        subst hp
        clear hlo hhi
        have d9 : vals 9 = .bool true := hd ⟨9, .guard⟩ (Array.mem_of_getElem? (i := 1) rfl) rfl (show (0 : Nat) ≤ 1000 by decide)
        obtain ⟨B10, c10, hspec10, hh10⟩ := hd ⟨10, .data⟩ (Array.mem_of_getElem? (i := 0) rfl) rfl (show (0 : Nat) ≤ 1000 by decide)
        have d10 : vals 10 = .slice B10 bs.length c10 := hspec10
        have E70 := eval_some (hF.own_ 10 rfl rfl (by kernel_rfl) (by decide)); rw [d10] at E70
        have G := hF.own_ 9 rfl rfl (by kernel_rfl) (by decide); rw [d9] at G
        refine .inr ⟨wanted_yes rfl rfl rfl G, ?_⟩
        have hst := str_of (hh10) c10
        refine .inl ⟨_, ?_, hI, TyP.of_is rfl⟩
        have Ec : ∀ v, F.eval (.const v) = v := fun _ => rfl; have Ef : ∀ f, F.eval (.func f) = .func (.func f) #[] #[] := fun _ => rfl; clear hF hd; generalize F.eval = ρ at E70 Ec Ef ⊢
        simp [execOp, go_sem, Ec, E70, hst]
      case ob12 =>
        intro p vals W1 F hF hlo hhi hI hd
        have hp : p = 0 := Nat.le_antisymm hhi hlo
        subst hp
        clear hlo hhi
        have d9 : vals 9 = .bool true := hd ⟨9, .guard⟩ (Array.mem_of_getElem? (i := 0) rfl) rfl (show (0 : Nat) ≤ 1000 by decide)
        have E0 : F.eval (.tmp 0) = .slice A bs.length c := hF.out_ (by kernel_rfl) rfl
        have G := hF.own_ 9 rfl rfl (by kernel_rfl) (by decide); rw [d9] at G
        refine .inr ⟨wanted_yes rfl rfl rfl G, .inl ⟨.slice A bs.length c, ?_, hI, TyP.of_is rfl⟩⟩
        simp only [execOp, E0, Sem.run_pure]
      case ob13 =>
        intro p vals W1 F hF hlo hhi hI hd
        have hp : p = 0 := Nat.le_antisymm hhi hlo
        subst hp
        clear hlo hhi
        have d9 : vals 9 = .bool true := hd ⟨9, .guard⟩ (Array.mem_of_getElem? (i := 1) rfl) rfl (show (0 : Nat) ≤ 1000 by decide)
        have d12 : vals 12 = .slice A bs.length c := hd ⟨12, .data⟩ (Array.mem_of_getElem? (i := 0) rfl) rfl (show (0 : Nat) ≤ 1000 by decide)
        have E72 := eval_some (hF.own_ 12 rfl rfl (by kernel_rfl) (by decide)); rw [d12] at E72
        have G := hF.own_ 9 rfl rfl (by kernel_rfl) (by decide); rw [d9] at G
        refine .inr ⟨wanted_yes rfl rfl rfl G, ?_⟩
        have hst := str_of (HA5.out.below hI n05) c
        refine .inl ⟨_, ?_, hI, TyP.of_is rfl⟩
        have Ec : ∀ v, F.eval (.const v) = v := fun _ => rfl; have Ef : ∀ f, F.eval (.func f) = .func (.func f) #[] #[] := fun _ => rfl; clear hF hd; generalize F.eval = ρ at E72 Ec Ef ⊢
        simp [execOp, go_sem, Ec, E72, hst]
      case ob14 =>
        intro p vals W1 F hF hlo hhi hI hd
        have hp : p = 0 := Nat.le_antisymm hhi hlo
        subst hp
        clear hlo hhi
        have d9 : vals 9 = .bool true := hd ⟨9, .guard⟩ (Array.mem_of_getElem? (i := 2) rfl) rfl (show (0 : Nat) ≤ 1000 by decide)
        have d11 : vals 11 = .string ⟨bs.toArray⟩ := hd ⟨11, .data⟩ (Array.mem_of_getElem? (i := 0) rfl) rfl (show (0 : Nat) ≤ 1000 by decide)
        have d13 : vals 13 = .string ⟨bs.toArray⟩ := hd ⟨13, .data⟩ (Array.mem_of_getElem? (i := 1) rfl) rfl (show (0 : Nat) ≤ 1000 by decide)
        have E71 := eval_some (hF.own_ 11 rfl rfl (by kernel_rfl) (by decide)); rw [d11] at E71
        have E73 := eval_some (hF.own_ 13 rfl rfl (by kernel_rfl) (by decide)); rw [d13] at E73
        have G := hF.own_ 9 rfl rfl (by kernel_rfl) (by decide); rw [d9] at G
        refine .inr ⟨wanted_yes rfl rfl rfl G, .inl ⟨.bool true, ?_, hI, TyP.of_is rfl⟩⟩
        have Ec : ∀ v, F.eval (.const v) = v := fun _ => rfl; have Ef : ∀ f, F.eval (.func f) = .func (.func f) #[] #[] := fun _ => rfl; clear hF hd; generalize F.eval = ρ at E71 E73 Ec Ef ⊢
        simp [execOp, go_sem, Ec, E71, E73]
      case ob15 =>
        intro p vals W1 F hF hlo hhi hI hd
        have hp : p = 0 := Nat.le_antisymm hhi hlo
        subst hp
        clear hlo hhi
        have d9 : vals 9 = .bool true := hd ⟨9, .data⟩ (Array.mem_of_getElem? (i := 0) rfl) rfl (show (0 : Nat) ≤ 1000 by decide)
        have d14 : vals 14 = .bool true := hd ⟨14, .data⟩ (Array.mem_of_getElem? (i := 1) rfl) rfl (show (0 : Nat) ≤ 1000 by decide)
        have E69 := eval_some (hF.own_ 9 rfl rfl (by kernel_rfl) (by decide)); rw [d9] at E69
        have E74 := eval_some (hF.own_ 14 rfl rfl (by kernel_rfl) (by decide)); rw [d14] at E74
        refine .inr ⟨wanted_none rfl, .inl ⟨.bool true, ?_, hI, TyP.of_is rfl⟩⟩
        have Ec : ∀ v, F.eval (.const v) = v := fun _ => rfl; have Ef : ∀ f, F.eval (.func f) = .func (.func f) #[] #[] := fun _ => rfl; clear hF hd; generalize F.eval = ρ at E69 E74 Ec Ef ⊢
        simp [execOp, go_sem, Ec, E69, E74]
      case ob16 =>
        intro p vals W1 F hF hlo hhi hI hd
        have hp : p = 0 := Nat.le_antisymm hhi hlo
        subst hp
        clear hlo hhi
        have d15 : vals 15 = .bool true := hd ⟨15, .data⟩ (Array.mem_of_getElem? (i := 0) rfl) rfl (show (0 : Nat) ≤ 1000 by decide)
        have E75 := eval_some (hF.own_ 15 rfl rfl (by kernel_rfl) (by decide)); rw [d15] at E75
        refine .inr ⟨wanted_none rfl, .inl ⟨.bool true, ?_, hI, TyP.of_is rfl⟩⟩
        simp only [execOp, E75, Sem.run_pure]
      case ob17 =>
        intro p vals W1 F hF hlo hhi hI hd
        have hp : p = 0 := Nat.le_antisymm hhi hlo
        subst hp
        clear hlo hhi
        have d16 : vals 16 = .bool true := hd ⟨16, .chain⟩ (Array.mem_of_getElem? (i := 0) rfl) rfl (show (0 : Nat) ≤ 1000 by decide)
        have E7 : F.eval (.tmp 7) = .pointer (some ⟨w1.heap.size + 1, 0, none⟩) := hF.out_ (by kernel_rfl) rfl
        have G := hF.own_ 16 rfl rfl (by kernel_rfl) (by decide); rw [d16] at G
        refine .inr ⟨wanted_yes rfl rfl rfl G, ?_⟩
        refine .inr (.inr (.inl ⟨12, #[.pointer (some ⟨(w1.heap.size + 1), 0, none⟩)], ?_, (penAll_any _ _ bs _ (HQ5.out.below hI) (by omega)).mono ?_⟩))
        · have Ec : ∀ v, F.eval (.const v) = v := fun _ => rfl; have Ef : ∀ f, F.eval (.func f) = .func (.func f) #[] #[] := fun _ => rfl; clear hF hd; generalize F.eval = ρ at E7 Ec Ef ⊢
          simp [execOp, go_sem, Ec, Ef, E7]
        rintro e W2 ⟨v, rfl, hr2, hb⟩
        obtain ⟨B, cb, rfl, hh, _⟩ := own_open hr2
        exact ⟨_, rfl, hb, hI.trans (hb.mono hI.size), B, cb, rfl, hh⟩
      case ob18 =>
        intro p vals W1 F hF hlo hhi hI hd
        have hp : p = 0 := Nat.le_antisymm hhi hlo
        subst hp
        clear hlo hhi
        have d16 : vals 16 = .bool true := hd ⟨16, .guard⟩ (Array.mem_of_getElem? (i := 1) rfl) rfl (show (0 : Nat) ≤ 1000 by decide)
        obtain ⟨B17, c17, hspec17, hh17⟩ := hd ⟨17, .data⟩ (Array.mem_of_getElem? (i := 0) rfl) rfl (show (0 : Nat) ≤ 1000 by decide)
        have d17 : vals 17 = .slice B17 bs.length c17 := hspec17
        have E77 := eval_some (hF.own_ 17 rfl rfl (by kernel_rfl) (by decide)); rw [d17] at E77
        have G := hF.own_ 16 rfl rfl (by kernel_rfl) (by decide); rw [d16] at G
        refine .inr ⟨wanted_yes rfl rfl rfl G, ?_⟩
        have hst := str_of (hh17) c17
        refine .inl ⟨_, ?_, hI, TyP.of_is rfl⟩
        have Ec : ∀ v, F.eval (.const v) = v := fun _ => rfl; have Ef : ∀ f, F.eval (.func f) = .func (.func f) #[] #[] := fun _ => rfl; clear hF hd; generalize F.eval = ρ at E77 Ec Ef ⊢
        simp [execOp, go_sem, Ec, E77, hst]
      case ob19 =>
        intro p vals W1 F hF hlo hhi hI hd
        have hp : p = 0 := Nat.le_antisymm hhi hlo
        subst hp
        clear hlo hhi
        have d16 : vals 16 = .bool true := hd ⟨16, .guard⟩ (Array.mem_of_getElem? (i := 0) rfl) rfl (show (0 : Nat) ≤ 1000 by decide)
        have E0 : F.eval (.tmp 0) = .slice A bs.length c := hF.out_ (by kernel_rfl) rfl
        have G := hF.own_ 16 rfl rfl (by kernel_rfl) (by decide); rw [d16] at G
        refine .inr ⟨wanted_yes rfl rfl rfl G, .inl ⟨.slice A bs.length c, ?_, hI, TyP.of_is rfl⟩⟩
        simp only [execOp, E0, Sem.run_pure]
      case ob20 =>
        intro p vals W1 F hF hlo hhi hI hd
        have hp : p = 0 := Nat.le_antisymm hhi hlo
        subst hp
        clear hlo hhi
        have d16 : vals 16 = .bool true := hd ⟨16, .guard⟩ (Array.mem_of_getElem? (i := 1) rfl) rfl (show (0 : Nat) ≤ 1000 by decide)
        have d19 : vals 19 = .slice A bs.length c := hd ⟨19, .data⟩ (Array.mem_of_getElem? (i := 0) rfl) rfl (show (0 : Nat) ≤ 1000 by decide)
        have E79 := eval_some (hF.own_ 19 rfl rfl (by kernel_rfl) (by decide)); rw [d19] at E79
        have G := hF.own_ 16 rfl rfl (by kernel_rfl) (by decide); rw [d16] at G
        refine .inr ⟨wanted_yes rfl rfl rfl G, ?_⟩
        have hst := str_of (HA5.out.below hI n05) c
        refine .inl ⟨_, ?_, hI, TyP.of_is rfl⟩
        have Ec : ∀ v, F.eval (.const v) = v := fun _ => rfl; have Ef : ∀ f, F.eval (.func f) = .func (.func f) #[] #[] := fun _ => rfl; clear hF hd; generalize F.eval = ρ at E79 Ec Ef ⊢
        simp [execOp, go_sem, Ec, E79, hst]
      case ob21 =>
        intro p vals W1 F hF hlo hhi hI hd
        have hp : p = 0 := Nat.le_antisymm hhi hlo
        subst hp
        clear hlo hhi
        have d16 : vals 16 = .bool true := hd ⟨16, .guard⟩ (Array.mem_of_getElem? (i := 2) rfl) rfl (show (0 : Nat) ≤ 1000 by decide)
        have d18 : vals 18 = .string ⟨bs.toArray⟩ := hd ⟨18, .data⟩ (Array.mem_of_getElem? (i := 0) rfl) rfl (show (0 : Nat) ≤ 1000 by decide)
        have d20 : vals 20 = .string ⟨bs.toArray⟩ := hd ⟨20, .data⟩ (Array.mem_of_getElem? (i := 1) rfl) rfl (show (0 : Nat) ≤ 1000 by decide)
        have E78 := eval_some (hF.own_ 18 rfl rfl (by kernel_rfl) (by decide)); rw [d18] at E78
        have E80 := eval_some (hF.own_ 20 rfl rfl (by kernel_rfl) (by decide)); rw [d20] at E80
        have G := hF.own_ 16 rfl rfl (by kernel_rfl) (by decide); rw [d16] at G
        refine .inr ⟨wanted_yes rfl rfl rfl G, .inl ⟨.bool true, ?_, hI, TyP.of_is rfl⟩⟩
        have Ec : ∀ v, F.eval (.const v) = v := fun _ => rfl; have Ef : ∀ f, F.eval (.func f) = .func (.func f) #[] #[] := fun _ => rfl; clear hF hd; generalize F.eval = ρ at E78 E80 Ec Ef ⊢
        simp [execOp, go_sem, Ec, E78, E80]
      case ob22 =>
        intro p vals W1 F hF hlo hhi hI hd
        have hp : p = 0 := Nat.le_antisymm hhi hlo
        subst hp
        clear hlo hhi
        have d16 : vals 16 = .bool true := hd ⟨16, .data⟩ (Array.mem_of_getElem? (i := 0) rfl) rfl (show (0 : Nat) ≤ 1000 by decide)
        have d21 : vals 21 = .bool true := hd ⟨21, .data⟩ (Array.mem_of_getElem? (i := 1) rfl) rfl (show (0 : Nat) ≤ 1000 by decide)
        have E76 := eval_some (hF.own_ 16 rfl rfl (by kernel_rfl) (by decide)); rw [d16] at E76
        have E81 := eval_some (hF.own_ 21 rfl rfl (by kernel_rfl) (by decide)); rw [d21] at E81
        refine .inr ⟨wanted_none rfl, .inl ⟨.bool true, ?_, hI, TyP.of_is rfl⟩⟩
        have Ec : ∀ v, F.eval (.const v) = v := fun _ => rfl; have Ef : ∀ f, F.eval (.func f) = .func (.func f) #[] #[] := fun _ => rfl; clear hF hd; generalize F.eval = ρ at E76 E81 Ec Ef ⊢
        simp [execOp, go_sem, Ec, E76, E81]
      case ob23 =>
        intro p vals W1 F hF hlo hhi hI hd
        have hp : p = 0 := Nat.le_antisymm hhi hlo
        subst hp
        clear hlo hhi
        have d22 : vals 22 = .bool true := hd ⟨22, .data⟩ (Array.mem_of_getElem? (i := 0) rfl) rfl (show (0 : Nat) ≤ 1000 by decide)
        have E82 := eval_some (hF.own_ 22 rfl rfl (by kernel_rfl) (by decide)); rw [d22] at E82
        refine .inr ⟨wanted_none rfl, .inl ⟨.bool true, ?_, hI, TyP.of_is rfl⟩⟩
        simp only [execOp, E82, Sem.run_pure]
      case obend =>
        intro vals W1 F hF hdef hI hT
        have dl : vals 23 = .bool true := hT 23 (by decide) (show (0 : Nat) ≤ 1000 by decide)
        have e6 := hF.own_ 23 rfl rfl (by decide)
        rw [dl] at e6
        rename_i K hK
        refine hK _ _ (wp_ret (bodyPost_ret (results_tmp rfl _ _ _) hdef ?_))
        refine ⟨?_, hb5.trans (hI.mono n05)⟩
        show Ending.returned (F.tmps.getD 4 undef) = _
        rw [Array.getD_eq_getD_getElem?, e6]
        rfl

theorem parts_all (bs ts : List UInt8) (A B : Option Addr) (c d : Nat) (w : World) (h : Holds8 w.heap.size w A bs) (hA : A = none → c = 0) (hc : bs.length ≤ c) (hb : Holds8 w.heap.size w B ts) :
    Calls Try.prog 8 #[.slice A bs.length c, .slice B ts.length d] w fun e w' => e = .returned (.bool true) ∧ Below w.heap.size w w' := by
  by_cases hl : bs.length ≤ 20000
  · by_cases hld : ts.length ≤ 50
    · exact parts_walk bs ts A B c d w h hA hc hl hb hld
    · have d1 : decide ((20000 : Int) < (bs.length : Int)) = false := by simp; omega
      have d2 : (50 : Int) < (ts.length : Int) := by omega
      clear hl hld h hb
      go_enter Try.func8, Try.ntmps8
      go_wp2_with (go_at_call 31; refine (alive_any _).mono ?_; rintro e w1 ⟨rfl, hb1⟩)
      go_ret
      exact ⟨rfl, hb1⟩
  · have d1 : (20000 : Int) < (bs.length : Int) := by omega
    clear hl h hb
    go_enter Try.func8, Try.ntmps8
    go_wp2_with (go_at_call 31; refine (alive_any _).mono ?_; rintro e w1 ⟨rfl, hb1⟩)
    go_ret
    exact ⟨rfl, hb1⟩

set_option maxRecDepth 100000 in
theorem parts_lifted (os : Os) (started : os.Started) (H : Type) (enc : TypeId × Value → H) :
    ReturnsInHanded {} Try.checked os 8 .any (Rows.octetPartsSpec.pre6 enc Try.prog Try.f8 Rows.octetPartsRow.domain false) (Rows.octetPartsSpec.post enc Try.prog Try.f8 false true false false) := by
  refine returnsInHanded_of_change (C := Try.checked) own started (by kernel_rfl) Try.func8
    (ChangeSpec.witness6 (enc := enc) (C := Try.checked) false ⟨#[], #[.slice none 0 0, .slice none 0 0], []⟩ 8 (by kernel_rfl) (by kernel_rfl) (by kernel_rfl) (by kernel_rfl)) ?_
  intro W base args ds gs before hval0 hW hcnd _
  have hval : ∀ (j : Nat) t v, Try.f8.params[j]? = some t → args[j]? = some v → Value.okWide Try.prog W .any base t v := hval0
  have hW' := hW
  obtain ⟨p, q, hA0, hV, rfl, hfz, hnd⟩ := hW
  have hA : DataW.TrodAll enc Try.prog W 0 (fun _ => true) true Try.f8.params.toList args.toList ds p := hA0
  rw [Try.params8] at hA hval
  obtain ⟨v0, vs0, d0, ds0, p0, q0, hargs, rfl, rfl, h0, r0⟩ := trodAll_cons hA
  obtain ⟨v1, vs1, d1, ds1, p1, q1, rfl, rfl, rfl, h1, r1⟩ := trodAll_cons r0
  obtain ⟨rfl, rfl, rfl⟩ := trodAll_nil r1
  obtain rfl : args = #[v0, v1] := by cases args; simp_all
  obtain ⟨rfl, rfl⟩ := trodVars_none hV
  have k0 := h0
  have lt0 : ∀ x ∈ p0, x.block < W.heap.size := by obtain ⟨m, hm⟩ := k0; exact DataW.trod_lt m _ _ _ hm
  have k1 := h1
  have lt1 : ∀ x ∈ p1, x.block < W.heap.size := by obtain ⟨m, hm⟩ := k1; exact DataW.trod_lt m _ _ _ hm
  obtain ⟨A0, bs0, cap0, rfl, hh0, hlen0, hcap0⟩ := open8n (hval 0 25 v0 rfl rfl) k0
  obtain ⟨A1, bs1, cap1, rfl, hh1, hlen1, hcap1⟩ := open8n (hval 1 25 v1 rfl rfl) k1
  clear hA0 hval0
  refine (parts_all bs0 bs1 A0 A1 cap0 cap1 W hh0 hcap0.2 hlen0 hh1).mono fun e W' ⟨he, bel⟩ => ?_
  subst he
  exact ⟨_, rfl, _, _, _, [], _, [], hW', trodAll_mk1 (shut_bool Try.underlying4 _), (trodAll_cons_mk (Below.trod laidOut (by kernel_rfl) (of_decide_eq_true (by kernel_rfl)) k0 bel lt0) (trodAll_cons_mk (Below.trod laidOut (by kernel_rfl) (of_decide_eq_true (by kernel_rfl)) k1 bel lt1) trodAll_mk0)), rfl, bel.frame _, fun h => by cases h⟩

theorem parts_over : Rows.octetPartsRow.holds Try.pinned (OpenSpec.ofChange Rows.octetPartsSpec) :=
  OpenClaim.holds_of_wide 8 Try.f8 rfl rfl rfl rfl rfl rfl rfl ⟨rfl, rfl, rfl, rfl, rfl⟩ rfl rfl rfl rfl rfl (by kernel_rfl) Try.func8 (by kernel_rfl)
    (of_decide_eq_true (by kernel_rfl)) (by unfold Func.isWrapper; first | (rw [if_pos (by decide +kernel)]; kernel_rfl) | (rw [if_neg (by decide +kernel)]; exact ⟨rfl, rfl⟩))
    (fun os started H enc _ => parts_lifted os started H enc)

/-- Bytes that are written in parts, however they are parted, are those that are written at once: whatever bytes and lengths come in. No condition. -/
theorem parts_proved : Rows.OctetPartsSaid := parts_over
#print axioms parts_proved
end Go.Proofs.Ytngkckngjobojaa.Oct
