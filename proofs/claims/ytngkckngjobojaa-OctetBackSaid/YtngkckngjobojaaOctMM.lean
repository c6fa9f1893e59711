/- OctetBack: the walk. No condition beyond the memory's reach. -/
import Derived.Test.YtngkckngjobojaaOctLL
import Derived.Test.YtngkckngjobojaaOctT
namespace Go.Proofs.Ytngkckngjobojaa.Oct
open Go.Proofs.Ytngkckngjobojaa Go.ChangeShapes Go.WideShapes Go.ChangeAt Go.RowKit Go.Shelf
def opCells (o : OpD) : List Value := [.int .i64 o.kind, .int .i64 o.size, .int .u64 (o.n : Int), .slice o.A o.b.length o.c]
def rowCells (l : List OpD) : List Value := l.flatMap opCells
theorem rowCells_length (l : List OpD) : (rowCells l).length = l.length * 4 := by
  induction l with
  | nil => rfl
  | cons o l ih =>
    have : rowCells (o :: l) = opCells o ++ rowCells l := by simp [rowCells]
    rw [this, List.length_append, ih, List.length_cons]
    simp [opCells]
    omega
theorem rowCells_snoc (l : List OpD) (o : OpD) : rowCells (l ++ [o]) = rowCells l ++ opCells o := by simp [rowCells]
theorem rowCells_get (l : List OpD) : ∀ (k : Nat) (h : k < l.length) (i : Nat), i < 4 → (rowCells l)[k * 4 + i]? = (opCells l[k])[i]? := by
  induction l with
  | nil => intro k h; simp at h
  | cons o l ih =>
    intro k h i hi
    have e : rowCells (o :: l) = opCells o ++ rowCells l := by simp [rowCells]
    rw [e]
    cases k with
    | zero =>
      rw [Nat.zero_mul, Nat.zero_add, List.getElem?_append_left (by simpa [opCells] using hi)]
      rfl
    | succ k =>
      have hl4 : (opCells o).length = 4 := rfl
      rw [List.getElem?_append_right (by rw [hl4]; omega), hl4, show (k + 1) * 4 + i - 4 = k * 4 + i by omega, ih k (by simpa using h) i hi]
      rfl
theorem op_info : (Try.prog.info? 33).map (fun i => (i.zero, i.size, i.bytes)) = some (some (.agg #[.int .i64 0, .int .i64 0, .int .u64 0, .slice none 0 0]), 4, 48) := by kernel_rfl
/-- append(done, o), as a step of a walk. -/
theorem wpList_append_op {ops : Array Oper} {rest : List Oper} {o : Oper} {a : Act} {Q : Exit → Act → World → Prop} {w : World} (hgd : o.guard = none) (s x : Operand)
    (ho : o.op = .call { callee := .builtin .append, args := #[s, x], argTypes := #[22, 22] }) (base : Nat) (v : Value) (D : List OpD) (p : OpD) (n g : Nat) (hn : n = D.length) (hs : a.eval s = v) (hown : w.ownsRow base 33 4 v n (rowCells D))
    (hx : a.eval x = .slice (some ⟨g, 0, none⟩) 1 1) (hg : w.heap[g]? = some (.cells (opCells p).toArray 33 (0, 0))) (hl : n ≤ 1000000) (hbase : base ≤ w.heap.size)
    (h : ∀ v' w', w'.ownsRow base 33 4 v' (n + 1) (rowCells (D ++ [p])) → w.grownBy w' v.ownBlock → (v'.ownBlock = v.ownBlock ∨ v'.ownBlock = some w.heap.size) → wpList Try.prog ops Q rest (a.put o.dst v') w') : wpList Try.prog ops Q (o :: rest) a w := by
  obtain ⟨i0, hi, hz0, hz1, hz2⟩ := info_parts op_info
  obtain ⟨v', w', hr, h2, h3, _, h5⟩ := run_append_own_at (P := Try.prog) w base 22 o.type 33 i0 (.agg #[.int .i64 0, .int .i64 0, .int .u64 0, .slice none 0 0]) 4 48 Try.underlying22 hi hz0 hz1 hz2 rfl (by decide) v n (rowCells D) hown ⟨g, 0, none⟩ 1 1 (opCells p) rfl (fun j u hj => by
    rw [add_off, Nat.zero_add, cell_of_row w g j _ _ _ hg]
    simpa using hj) (fun u hu => by
      simp only [opCells, List.mem_cons, List.not_mem_nil, or_false] at hu
      rcases hu with rfl | rfl | rfl | rfl <;> rfl) (by unfold maxLen; omega) (by omega) hbase
  refine wpList_plain hgd fun K hK => ?_
  unfold Oper.wp execOp
  simp only [ho, resolve, invoke, builtin, Sem.run_bind, Sem.run_pure, Result.andThen_ok, List.map_toArray, List.map_cons, List.map_nil, hs, hx, hr]
  exact hK _ _ (h v' w' (by rw [rowCells_snoc]; exact h2) h3 h5)
/-- A row of calls, as a slice. -/
theorem row_form4 {w : World} {base : Nat} {v : Value} {D : List OpD} {n : Nat} (hn : n = D.length) (h : w.ownsRow base 33 4 v n (rowCells D)) (k : Nat) (hk : k < D.length) :
    ∃ g c, v = .slice (some ⟨g, 0, none⟩) n c ∧ base ≤ g ∧ g < w.heap.size ∧ w.cell? ⟨g, k * 4, none⟩ = some (.int .i64 D[k].kind) ∧ w.cell? ⟨g, k * 4 + 1, none⟩ = some (.int .i64 D[k].size) ∧ w.cell? ⟨g, k * 4 + 2, none⟩ = some (.int .u64 (D[k].n : Int)) ∧ w.cell? ⟨g, k * 4 + 3, none⟩ = some (.slice D[k].A D[k].b.length D[k].c) := by
  subst hn
  rcases h.2 with ⟨_, h1⟩ | ⟨g, cap, cur, rfl, hb, hh, hnc, _, _, ht⟩
  · omega
  · have hc : ∀ i, i < 4 → w.cell? ⟨g, k * 4 + i, none⟩ = (opCells D[k])[i]? := by
      intro i hi
      rw [cell_of_row _ _ _ _ _ _ hh, ← rowCells_get D k hk i hi, ← ht, List.getElem?_take, if_pos (by omega)]
      simp
    exact ⟨g, cap, rfl, hb, (Array.getElem?_eq_some_iff.1 hh).1, (hc 0 (by decide)).trans rfl, (hc 1 (by decide)).trans rfl, (hc 2 (by decide)).trans rfl, (hc 3 (by decide)).trans rfl⟩
theorem row_slice4 {w : World} {base : Nat} {v : Value} {D : List OpD} {n : Nat} (h : w.ownsRow base 33 4 v n (rowCells D)) : ∃ A c, v = .slice A n c ∧ (n = 0 ∨ ∃ g, A = some ⟨g, 0, none⟩) := by
  rcases h.2 with ⟨rfl, rfl⟩ | ⟨g, cap, cur, rfl, _⟩
  · exact ⟨none, 0, rfl, .inl rfl⟩
  · exact ⟨_, cap, rfl, .inr ⟨g, rfl⟩⟩
def okB (o : OpD) : Bool := putE o == 0
def doneL (l : List OpD) (q : Nat) : List OpD := (l.take q).filter okB
def bytesOf (l : List OpD) : List UInt8 := l.flatMap putB
theorem bytesOf_cons (o : OpD) (l : List OpD) : bytesOf (o :: l) = putB o ++ bytesOf l := by simp [bytesOf]
theorem bytesOf_append (a b : List OpD) : bytesOf (a ++ b) = bytesOf a ++ bytesOf b := by simp [bytesOf]
theorem doneL_succ (l : List OpD) (q : Nat) (h : q < l.length) : doneL l (q + 1) = doneL l q ++ (if okB l[q] = true then [l[q]] else []) := by
  unfold doneL
  rw [List.take_succ_eq_append_getElem h, List.filter_append]
  congr 1
  by_cases hk : okB l[q] = true
  · rw [if_pos hk]; simp [hk]
  · rw [if_neg hk]; simp [hk]
theorem doneL_le (l : List OpD) (q : Nat) : (doneL l q).length ≤ q := by
  unfold doneL
  exact Nat.le_trans (List.length_filter_le _ _) (by rw [List.length_take]; omega)
theorem doneL_mem {l : List OpD} {q : Nat} {o : OpD} (h : o ∈ doneL l q) : o ∈ l ∧ okB o = true := by
  unfold doneL at h
  rw [List.mem_filter] at h
  exact ⟨List.mem_of_mem_take h.1, h.2⟩
theorem fixedB_le8 (s : Int) (x : Nat) : (fixedB s x).length ≤ 8 := fixedB_le s x
theorem putB_le (o : OpD) : (putB o).length ≤ 9 + o.b.length := by
  unfold putB
  split
  · have := fixedB_le o.size o.n; omega
  · split
    · have := sizeB_le o.n; omega
    · split
      · rw [List.length_append]; have := sizeB_le o.b.length; omega
      · omega
theorem putB_no {o : OpD} (h : okB o = false) : putB o = [] := by
  unfold okB putE at h
  unfold putB
  by_cases h0 : o.kind = 0
  · rw [if_pos h0] at h ⊢
    unfold fixedE at h
    unfold fixedB
    split
    · rename_i h1
      rw [if_pos h1] at h
      split
      · rfl
      · rename_i h2
        rw [if_neg h2] at h
        simp at h
    · rfl
  · rw [if_neg h0] at h
    simp at h
theorem bytesOf_le : ∀ (l : List OpD), (bytesOf l).length ≤ 9 * l.length + total l
  | [] => by simp [bytesOf, total]
  | o :: l => by
    have h1 := bytesOf_le l
    have h2 := putB_le o
    have e1 : bytesOf (o :: l) = putB o ++ bytesOf l := by simp [bytesOf]
    have e2 : total (o :: l) = o.b.length + total l := by simp [total]
    rw [e1, e2, List.length_append, List.length_cons]
    omega
theorem total_filter (p : OpD → Bool) : ∀ l : List OpD, total (l.filter p) ≤ total l
  | [] => by simp [total]
  | o :: l => by
    have h1 := total_filter p l
    have e2 : total (o :: l) = o.b.length + total l := by simp [total]
    rw [List.filter_cons]
    split
    · have e3 : total (o :: l.filter p) = o.b.length + total (l.filter p) := by simp [total]
      omega
    · omega
theorem total_take' (l : List OpD) (q : Nat) : total (l.take q) ≤ total l := by
  have : total l = total (l.take q) + total (l.drop q) := by
    conv => lhs; rw [← List.take_append_drop q l]
    unfold total
    rw [List.map_append, List.sum_append]
  omega
theorem total_each' (l : List OpD) (q : Nat) (h : q < l.length) : l[q].b.length ≤ total l := by
  have h1 := total_snoc l q h
  have h2 := total_take' l (q + 1)
  omega
theorem done_bytes (l : List OpD) (q : Nat) (hl : l.length ≤ 100) (ht : total l ≤ 100000) : (bytesOf (doneL l q)).length ≤ 101000 := by
  have h1 := bytesOf_le (doneL l q)
  have h2 : total (doneL l q) ≤ total (l.take q) := total_filter _ _
  have h3 := total_take' l q
  have h4 : (doneL l q).length ≤ l.length := by
    unfold doneL
    exact Nat.le_trans (List.length_filter_le _ _) (by rw [List.length_take]; omega)
  omega
theorem getR_len (u : List UInt8) (o : OpD) : (getR u o).2.length ≤ u.length := by
  unfold getR
  split
  · obtain ⟨j, hj, h⟩ := fixedR_sfx (u := u) (s := o.size) (m := (fixedR u o.size).1) (E := (fixedR u o.size).2.1) (ys := (fixedR u o.size).2.2) rfl
    simp only; rw [h, List.length_drop]; omega
  · split
    · obtain ⟨j, hj, h⟩ := eyeSizeR_sfx (u := u) (m := (eyeSizeR u).1) (E := (eyeSizeR u).2.1) (ys := (eyeSizeR u).2.2) rfl
      simp only; rw [h, List.length_drop]; omega
    · split
      · obtain ⟨j, hj, h⟩ := bytesR_sfx (u := u) (s := o.b.length) (xs := (bytesR u o.b.length).1) (E := (bytesR u o.b.length).2.1) (ys := (bytesR u o.b.length).2.2) rfl
        simp only; rw [h, List.length_drop]; omega
      · obtain ⟨j, hj, h⟩ := rawR_sfx (u := u) (s := o.b.length) (xs := (rawR u o.b.length).1) (E := (rawR u o.b.length).2.1) (ys := (rawR u o.b.length).2.2) rfl
        simp only; rw [h, List.length_drop]; omega
theorem apart_row {N : Nat} {w1 w2 : World} {v v' : Value} {xs : List UInt8} (hp1 : PenAt N w1 N xs) (hrow2 : rowOf w2 N = rowOf w1 N) (h1 : ∀ k, v.ownBlock = some k → k ≠ N ∧ rowOf w1 N ≠ some k) {W : World} (hW : w1.heap.size ≤ W.heap.size) (hv : v'.ownBlock = v.ownBlock ∨ v'.ownBlock = some W.heap.size) : ∀ k, v'.ownBlock = some k → k ≠ N ∧ rowOf w2 N ≠ some k := by
  intro k hk
  rw [hrow2]
  rcases hv with hv | hv
  · exact h1 k (hv ▸ hk)
  · rw [hv] at hk
    injection hk with hk
    subst hk
    refine ⟨fun e => ?_, fun e => ?_⟩
    · have := hp1.lt
      omega
    · have := (rowOf_lt hp1 e).2.1
      omega
set_option maxRecDepth 100000 in
set_option maxHeartbeats 8000000 in
theorem back_walk (l : List OpD) (A : Option Addr) (cap : Nat) (w : World) (h : OpsAt w.heap.size w A l) (hl : l.length ≤ 9223372036854775807) :
    Calls Try.prog 6 #[.slice A l.length cap] w fun e w' => e = .returned (.bool true) ∧ Below w.heap.size w w' := by
  have HOK := Lib.hid h.ok
  have H0 := Lib.hid h.cells
  have hops : ∀ W, Below w.heap.size w W → OpsAt w.heap.size W A l := fun W hW => ⟨fun k hk => by
    obtain ⟨b, off, e, hb, c0, c1, c2, c3⟩ := h.cells k hk
    exact ⟨b, off, e, hb, (hW.cell (p := ⟨b, _, none⟩) hb).trans c0, (hW.cell (p := ⟨b, _, none⟩) hb).trans c1, (hW.cell (p := ⟨b, _, none⟩) hb).trans c2, (hW.cell (p := ⟨b, _, none⟩) hb).trans c3⟩, fun o ho => by
    have q := h.ok o ho
    exact ⟨q.kind, q.size, q.n, (q.held.below hW (Nat.le_refl _)).more hW.size, q.fits, q.nil, q.small⟩⟩
  have HGR := Lib.hid (fun W hW => great_any l A cap w.heap.size W (hops W hW) hl)
  by_cases hg : greatB l = true
  · rw [hg] at HGR
    clear h hops H0
    go_enter Try.func6, Try.ntmps6
    go_wp2_with (first
      | (go_at_call 31; refine (alive_any _).mono ?_; rintro e w1 ⟨rfl, hb1⟩)
      | (go_at_call 9; refine (HGR.out _ hb1).mono ?_; rintro e w' ⟨rfl, rfl⟩))
    go_ret
    exact ⟨rfl, hb1⟩
  have hg0 : greatB l = false := by simpa using hg
  rw [hg0] at HGR
  have hl100 : l.length ≤ 100 := by
    unfold greatB at hg0
    simp at hg0
    omega
  have htot : total l ≤ 100000 := by
    unfold greatB at hg0
    simp at hg0
    omega
  clear h hops hg hg0
  go_enter Try.func6, Try.ntmps6
  go_wp2_with (first
    | (go_at_call 31; refine (alive_any _).mono ?_; rintro e w1 ⟨rfl, hb1⟩; have HB1 := Lib.hid hb1; clear hb1)
    | (go_at_call 9; refine (HGR.out _ HB1.out).mono ?_; rintro e w' ⟨rfl, rfl⟩))
  have hw1 := HB1.out.size
  go_loopw [5, 23] (fun v i wr => ∃ q : Nat, q ≤ l.length ∧ i = .int .i64 (q : Int) ∧ wr.ownsRow w1.heap.size 33 4 v (doneL l q).length (rowCells (doneL l q)) ∧ PenAt w1.heap.size wr w1.heap.size (bytesOf (doneL l q)) ∧ (∀ k, v.ownBlock = some k → k ≠ w1.heap.size ∧ rowOf wr w1.heap.size ≠ some k) ∧ Below w1.heap.size w1 wr) (fun _ i _ => l.length - (intOf i).toNat)
  case atStart => exact ⟨0, Nat.zero_le _, rfl, World.ownsRow_nil _ _ _ _, pen_new w1, (fun k e => by cases e), (Below.refl _ _).alloc (Nat.le_refl _) _⟩
  case round =>
    obtain ⟨q, hq, rfl, hrow, hpen, hap, hB⟩ := hrel
    obtain ⟨VA, vc, rfl, hVA⟩ := row_slice4 hrow
    by_cases hlt : q < l.length
    · obtain ⟨b0, off, rfl, hb, c0, c1, c2, c3⟩ := H0.out q hlt
      have hok := HOK.out _ (List.getElem_mem hlt)
      have hle := total_each' l q hlt
      have hwl := done_bytes l q hl100 htot
      have hdl := doneL_le l q
      have HDS := Lib.hid (doneL_succ l q hlt)
      obtain ⟨o, ho⟩ : ∃ o, l[q] = o := ⟨_, rfl⟩
      rw [ho] at c0 c1 c2 c3 hok hle HDS
      obtain ⟨D, hD⟩ : ∃ D, doneL l q = D := ⟨_, rfl⟩
      rw [hD] at hrow hpen hwl hdl HDS hap ⊢
      have hBB := HB1.out.trans (hB.mono hw1)
      have hcell := fun (k : Nat) => hBB.cell (p := ⟨b0, k, none⟩) hb
      have d0 := (hcell _).trans c0
      have d1 := (hcell _).trans c1
      have d2 := (hcell _).trans c2
      have d3 := (hcell _).trans c3
      have HPUT := Lib.hid (put_any o w1.heap.size w1.heap.size w.heap.size (bytesOf D) wr hok.n (hok.held.below hBB (Nat.le_refl _)) hw1 hB.size hpen (by omega) (by omega))
      have hsz : w1.heap.size < wr.heap.size := hpen.lt
      obtain ⟨Dn, hDn⟩ : ∃ n, D.length = n := ⟨_, rfl⟩
      rw [hDn] at hrow hdl hap ⊢
      have HDN := Lib.hid hDn
      have HB := Lib.hid hB
      have HBB := Lib.hid hBB
      have HROW := Lib.hid hrow
      have HAP := Lib.hid hap
      have HPEN := Lib.hid hpen
      have hDn100 : Dn ≤ 100 := by omega
      have HHB := Lib.hid hb
      clear hcell hok hle hwl hB hBB hrow hap hpen hD hDn ho
      cases hokb : okB o with
      | true =>
        have e1 : (putE o == 0) = true := hokb
        rw [e1] at HPUT
        rw [hokb, if_pos rfl] at HDS
        clear e1 hokb
        have hkeep := fun (W : World) (k : Nat) (hs : PenStep w1.heap.size wr W) (hk : k < w.heap.size) => hs.keep k (by omega) (by omega) (fun hr => by have := (rowOf_lt HPEN.out hr).1; omega)
        have HKEEP := Lib.hid hkeep
        clear hkeep
        go_wp2_with (first
          | (go_at_call 32; refine HPUT.out.mono ?_; rintro e w2 ⟨rfl, hp1, hs1⟩; have hn1 := hs1.size; have HP1 := Lib.hid hp1; have HR1 := Lib.hid (ownsRow_same HROW.out (w' := w2) fun k hk => (hs1.keep k (HROW.out.lt k hk).2 (HAP.out k hk).1 (HAP.out k hk).2).1); have HAP1 := Lib.hid (fun k hk => (⟨(HAP.out k hk).1, (hs1.keep k (HROW.out.lt k hk).2 (HAP.out k hk).1 (HAP.out k hk).2).2⟩ : k ≠ w1.heap.size ∧ rowOf w2 w1.heap.size ≠ some k)); have HB2 := Lib.hid (HB.out.trans (hs1.below HPEN.out (Nat.le_of_lt hsz))); have hbl := (HKEEP.out w2 b0 hs1 HHB.out).1; have f0 := (World.cell?_of_block (a := ⟨b0, off + q * 4, none⟩) hbl).trans d0; have f1 := (World.cell?_of_block (a := ⟨b0, off + q * 4 + 1, none⟩) hbl).trans d1; have f2 := (World.cell?_of_block (a := ⟨b0, off + q * 4 + 2, none⟩) hbl).trans d2; have f3 := (World.cell?_of_block (a := ⟨b0, off + q * 4 + 3, none⟩) hbl).trans d3; clear d0 d1 d2 d3 hp1 hs1 hbl)
          | (at_builtin; refine wpList_append_op rfl (.tmp 31) (.tmp 36) rfl w1.heap.size (.slice VA Dn vc) D o Dn w2.heap.size HDN.out.symm rfl (ownsRow_below HR1.out (new_below0 w2 _)) rfl (heap_alloc_new w2 _) (by omega) (Nat.le_trans (Nat.le_of_lt (Nat.lt_of_lt_of_le hsz hn1)) (by rw [World.size_alloc]; omega)) ?_; intro v' w3 hown' hgr hv; have hnb := new_below0 w2 (.cells (opCells o).toArray 33); have hap2 : ∀ k, (Value.slice VA Dn vc).ownBlock = some k → k ≠ w1.heap.size ∧ rowOf (w2.alloc (.cells (opCells o).toArray 33)) w1.heap.size ≠ some k := (fun k hk => by rw [rowOf_same (hnb.block _ HP1.out.lt)]; exact HAP1.out k hk); obtain ⟨hp2, hrow2⟩ := (HP1.out.below hnb).grown hgr hap2; have HAP3 := Lib.hid (apart_row (HP1.out.below hnb) hrow2 hap2 (Nat.le_refl _) hv); have HP3 := Lib.hid hp2; have HB3 := Lib.hid ((HB2.out.trans (hnb.mono (by omega))).grown hgr (by rw [World.size_alloc]; omega) (fun k hk => (HR1.out.lt k hk).1)); have HR3 := Lib.hid hown'; clear hown' hgr hv hp2 hrow2 hnb hap2))
        refine ⟨⟨q + 1, by omega, by go_num, by rw [HDS.out, List.length_append, HDN.out]; exact HR3.out, by rw [HDS.out]; have e := HP3.out; rwa [show bytesOf D ++ putB o = bytesOf (D ++ [o]) by simp [bytesOf]] at e, HAP3.out, HB3.out⟩, ?_⟩
        simp [intOf]
        omega
      | false =>
        have e1 : (putE o == 0) = false := hokb
        rw [e1, putB_no hokb, ] at HPUT
        rw [hokb, if_neg (by decide), List.append_nil] at HDS
        clear e1 hokb
        go_wp2_with (go_at_call 32; refine HPUT.out.mono ?_; rintro e w2 ⟨rfl, hp1, hs1⟩; have HP1 := Lib.hid hp1; have HR1 := Lib.hid (ownsRow_same HROW.out (w' := w2) fun k hk => (hs1.keep k (HROW.out.lt k hk).2 (HAP.out k hk).1 (HAP.out k hk).2).1); have HAP1 := Lib.hid (fun k hk => (⟨(HAP.out k hk).1, (hs1.keep k (HROW.out.lt k hk).2 (HAP.out k hk).1 (HAP.out k hk).2).2⟩ : k ≠ w1.heap.size ∧ rowOf w2 w1.heap.size ≠ some k)); have HB2 := Lib.hid (HB.out.trans (hs1.below HPEN.out (Nat.le_of_lt hsz))); clear hp1 hs1)
        refine ⟨⟨q + 1, by omega, by go_num, by rw [HDS.out, HDN.out]; exact HR1.out, by rw [HDS.out]; simpa using HP1.out, HAP1.out, HB2.out⟩, ?_⟩
        simp [intOf]
        omega
    · obtain rfl : q = l.length := by omega
      have hwl := done_bytes l l.length hl100 htot
      have hdl := doneL_le l l.length
      have HME := Lib.hid (fun o (ho : o ∈ doneL l l.length) => (⟨HOK.out o (doneL_mem ho).1, (doneL_mem ho).2⟩ : OpOk w o ∧ okB o = true))
      have HTE := Lib.hid (fun o (ho : o ∈ doneL l l.length) => (by
        obtain ⟨k, hk, rfl⟩ := List.getElem_of_mem (doneL_mem ho).1
        have := total_each' l k hk
        omega : o.b.length ≤ 100000))
      generalize doneL l l.length = D at hrow hpen hwl hdl hap HME HTE
      obtain ⟨B, hBe⟩ : ∃ B, bytesOf D = B := ⟨_, rfl⟩
      rw [hBe] at hpen hwl
      obtain ⟨Dn, hDn⟩ : ∃ n, D.length = n := ⟨_, rfl⟩
      rw [hDn] at hrow hdl ⊢
      have hDn100 : Dn ≤ 100 := by omega
      have HDN := Lib.hid hDn
      have HBE := Lib.hid hBe
      have HB := Lib.hid hB
      have HROW := Lib.hid hrow
      have HPEN := Lib.hid hpen
      rename World => w2
      clear hrow hpen hap hB hq hlt hDn hBe HGR hdl hVA
      go_wp2_with (first
        | (go_at_call 12; refine (penAll_any w1.heap.size w1.heap.size B _ HPEN.out (by omega)).mono ?_; rintro e w3 ⟨vb, rfl, hr3, hb3⟩; obtain ⟨X, cx, rfl, hx, hxc, hX0, hxa⟩ := own_open hr3; have HX := Lib.hid hx; have HX0 := Lib.hid hX0; have HXA := Lib.hid hxa; have HB3 := Lib.hid (HB.out.trans (hb3.mono HB.out.size)); have HR3 := Lib.hid (ownsRow_below HROW.out hb3); clear hr3 hb3 hx hX0 hxa)
        | (go_at_call 16; refine (look_any B X cx w3.heap.size HX0.out w3 HX.out (Nat.le_refl _) (by omega)).mono ?_; rintro e w4 ⟨r, rfl, hey, hb4⟩; have HEY := Lib.hid (show EyeIn w3.heap.size w4 r B from ⟨_, _, Nat.le_refl _, hb4.size, Nat.le_refl _, hey⟩); have HB4 := Lib.hid hb4; clear hey hb4))
      have HD3 := Lib.hid (show ∀ W, Below w3.heap.size w3 W → ∀ k (hk : k < D.length), ∃ g, VA = some ⟨g, 0, none⟩ ∧ W.cell? ⟨g, k * 4, none⟩ = some (.int .i64 D[k].kind) ∧ W.cell? ⟨g, k * 4 + 1, none⟩ = some (.int .i64 D[k].size) ∧ W.cell? ⟨g, k * 4 + 2, none⟩ = some (.int .u64 (D[k].n : Int)) ∧ W.cell? ⟨g, k * 4 + 3, none⟩ = some (.slice D[k].A D[k].b.length D[k].c) from fun W hW k hk => by
        obtain ⟨g, c, e, _, _, c0, c1, c2, c3⟩ := row_form4 HDN.out.symm (ownsRow_below HR3.out hW) k hk
        injection e with e _ _
        exact ⟨g, e, c0, c1, c2, c3⟩)
      have hw3 := HB3.out.size
      have HHO := Lib.hid (show ∀ W, Below w3.heap.size w3 W → ∀ k (hk : k < D.length), Bytes8 w3.heap.size W D[k].A D[k].b from fun W hW k hk => ((HME.out _ (List.getElem_mem hk)).1.held.below ((HB1.out.trans (HB3.out.mono hw1)).trans (hW.mono (by omega))) (Nat.le_refl _)).more (by omega))
      clear HROW HR3 HPEN
      go_loopw [44] (fun i wr => ∃ q : Nat, q ≤ Dn ∧ i = .int .i64 (q : Int) ∧ EyeIn w3.heap.size wr r (bytesOf (D.drop q)) ∧ Below w3.heap.size w3 wr) (fun i _ => Dn - (intOf i).toNat)
      case atStart => exact ⟨0, Nat.zero_le _, rfl, by rw [List.drop_zero, HBE.out]; exact HEY.out, HB4.out⟩
      case round =>
        obtain ⟨q, hq, rfl, hey, hBr⟩ := hrel
        by_cases hlt : q < Dn
        · have hqD : q < D.length := by rw [HDN.out]; exact hlt
          obtain ⟨g, rfl, c0, c1, c2, c3⟩ := HD3.out _ hBr q hqD
          have hme := HME.out _ (List.getElem_mem hqD)
          have hte := HTE.out _ (List.getElem_mem hqD)
          have hhb := HHO.out _ hBr q hqD
          have hdrop : bytesOf (D.drop q) = putB D[q] ++ bytesOf (D.drop (q + 1)) := by rw [List.drop_eq_getElem_cons hqD, bytesOf_cons]
          have hul : (bytesOf (D.drop q)).length ≤ 101000 := by
            have e : bytesOf D = bytesOf (D.take q) ++ bytesOf (D.drop q) := by
              conv => lhs; rw [← List.take_append_drop q D]
              rw [bytesOf_append]
            have e2 := congrArg List.length e
            rw [List.length_append, HBE.out] at e2
            omega
          obtain ⟨o, ho⟩ : ∃ o, D[q] = o := ⟨_, rfl⟩
          rw [ho] at c0 c1 c2 c3 hme hte hhb hdrop
          have hgp := get_put o hme.1.n (by omega) (by have := hme.2; unfold okB at this; simpa using this) (bytesOf (D.drop (q + 1)))
          rw [← hdrop] at hgp
          have HG := Lib.hid (get_any o r w3.heap.size (bytesOf (D.drop q)) _ hhb (by omega) hBr.size hey (by omega))
          rw [hgp] at HG
          have HBr := Lib.hid hBr
          clear hey hBr hme hte hhb hdrop hul ho hgp hqD
          go_wp2_with (go_at_call 33; refine HG.out.mono ?_; rintro e w5 ⟨rfl, hey5, hb5⟩; have HEY5 := Lib.hid hey5; have HB5 := Lib.hid (HBr.out.trans hb5); clear hey5 hb5)
          refine ⟨⟨q + 1, by omega, by go_num, HEY5.out, HB5.out⟩, ?_⟩
          simp [intOf]
          omega
        · obtain rfl : Dn = q := by omega
          have he0 : bytesOf (D.drop Dn) = [] := by rw [List.drop_of_length_le (by rw [HDN.out]; exact Nat.le_refl _)]; rfl
          rw [he0] at hey
          have HND := Lib.hid (fun W hW => eye_end_in [] 0 rfl w3.heap.size r W hW)
          have HEY6 := Lib.hid hey
          have HBr := Lib.hid hBr
          have hsz6 := hBr.size
          rename World => w6
          clear hey hBr he0 hq hlt HEY HB4
          by_cases hB0 : B.length = 0
          · have g1 : ((B.length : Int) == 0) = true := by simp; exact List.eq_nil_of_length_eq_zero hB0
            clear hB0
            go_wp2_with (first
              | (go_at_call 26; refine (HND.out _ HEY6.out).mono ?_; rintro e w8 ⟨rfl, rfl⟩))
            go_ret
            exact ⟨rfl, (HB1.out.trans (HB3.out.mono hw1)).trans (HBr.out.mono (by omega))⟩
          · have g1 : ((B.length : Int) == 0) = false := by simp; intro e; exact hB0 (by rw [e]; rfl)
            have g2 : (1 : Int) ≤ (B.length : Int) := by omega
            have g3 : 1 ≤ B.length := by omega
            obtain ⟨B', hB'⟩ : ∃ B', B.take (B.length - 1) = B' := ⟨_, rfl⟩
            have hlen : B'.length = B.length - 1 := by rw [← hB', List.length_take]; omega
            have hx6 := (HX.out.below HBr.out (Nat.le_refl _)).take_ (B.length - 1)
            rw [hB'] at hx6
            have HLK := Lib.hid (show Calls Try.prog 16 #[.slice X (B.length - 1) cx] w6 fun e w' => ∃ r, e = .returned (.pointer (some ⟨r, 0, none⟩)) ∧ EyeAt w6.heap.size w'.heap.size w' r B' ∧ Below w6.heap.size w6 w' from by
              have h := look_any B' X cx w3.heap.size HX0.out w6 hx6 hsz6 (by omega)
              rw [hlen] at h
              exact h)
            have HLEN := Lib.hid hlen
            have hB'l : B'.length ≤ 101000 := by omega
            have hB'B : B'.length + 1 = B.length := by omega
            clear hx6 hB' hlen
            go_wp2_with (first
              | (go_at_call 26; refine (HND.out _ HEY6.out).mono ?_; rintro e w8 ⟨rfl, rfl⟩)
              | (go_at_call 16; refine HLK.out.mono ?_; rintro e w7 ⟨s, rfl, hey7, hb7⟩; have HEY7 := Lib.hid (show EyeIn w6.heap.size w7 s B' from ⟨_, _, Nat.le_refl _, hb7.size, Nat.le_refl _, hey7⟩); have HB7 := Lib.hid hb7; clear hey7 hb7))
            go_loopw [11, 77] (fun v i wr => ∃ (q : Nat) (ok : Bool) (u : List UInt8), q ≤ Dn ∧ i = .int .i64 (q : Int) ∧ v = .bool ok ∧ EyeIn w6.heap.size wr s u ∧ u.length ≤ 101000 ∧ (ok = true → B' = bytesOf (D.take q) ++ u) ∧ Below w6.heap.size w6 wr) (fun _ i _ => Dn - (intOf i).toNat)
            case atStart => exact ⟨0, true, B', Nat.zero_le _, rfl, rfl, HEY7.out, hB'l, (fun _ => by simp [bytesOf]), HB7.out⟩
            case round =>
              obtain ⟨q, ok, u, hq, rfl, rfl, hey, hul, hok, hBr⟩ := hrel
              have hBB := HBr.out.trans (hBr.mono hsz6)
              by_cases hlt : q < Dn
              · have hqD : q < D.length := by rw [HDN.out]; exact hlt
                obtain ⟨g, rfl, c0, c1, c2, c3⟩ := HD3.out _ hBB q hqD
                have hme := HME.out _ (List.getElem_mem hqD)
                have hte := HTE.out _ (List.getElem_mem hqD)
                have hhb := (HHO.out _ hBB q hqD).more hsz6
                have hsn : bytesOf (D.take (q + 1)) = bytesOf (D.take q) ++ putB D[q] := by rw [List.take_succ_eq_append_getElem hqD, bytesOf_append]; simp [bytesOf]
                obtain ⟨o, ho⟩ : ∃ o, D[q] = o := ⟨_, rfl⟩
                rw [ho] at c0 c1 c2 c3 hme hte hhb hsn
                cases ok with
                | false =>
                  have HEYn := Lib.hid hey
                  have HBn := Lib.hid hBr
                  clear hey hBr hme hte hhb hsn ho hqD hok hBB c0 c1 c2 c3
                  go_wp2
                  refine ⟨⟨q + 1, false, u, by omega, by go_num, rfl, HEYn.out, hul, (fun e => by cases e), HBn.out⟩, ?_⟩
                  simp [intOf]
                  omega
                | true =>
                  have hu := hok rfl
                  have hon := get_only o (by have := hme.2; unfold okB at this; simpa using this) u
                  have hgl := getR_len u o
                  have HG := Lib.hid (get_any o s w6.heap.size u _ hhb (by omega) hBr.size hey (by omega))
                  obtain ⟨gb, hgb⟩ : ∃ gb, (getR u o).1 = gb := ⟨_, rfl⟩
                  obtain ⟨u2, hu2⟩ : ∃ u2, (getR u o).2 = u2 := ⟨_, rfl⟩
                  rw [hgb, hu2] at HG
                  rw [hgb, hu2] at hon
                  rw [hu2] at hgl
                  have HBn := Lib.hid hBr
                  have HNX := Lib.hid (fun (e : gb = true) => (by rw [hsn, List.append_assoc, ← hon e]; exact hu : B' = bytesOf (D.take (q + 1)) ++ u2))
                  clear hey hBr hme hte hhb hsn ho hqD hok hBB hu hon hgb hu2
                  go_wp2_with (go_at_call 33; refine HG.out.mono ?_; rintro e w9 ⟨rfl, hey9, hb9⟩; have HEY9 := Lib.hid hey9; have HB9 := Lib.hid (HBn.out.trans hb9); clear hey9 hb9)
                  refine ⟨⟨q + 1, gb, u2, by omega, by go_num, rfl, HEY9.out, by omega, HNX.out, HB9.out⟩, ?_⟩
                  simp [intOf]
                  omega
              · obtain rfl : Dn = q := by omega
                have hno : ok = false := by
                  cases ok with
                  | false => rfl
                  | true =>
                    have hu := hok rfl
                    rw [List.take_of_length_le (by rw [HDN.out]; exact Nat.le_refl _), HBE.out] at hu
                    have := congrArg List.length hu
                    rw [List.length_append] at this
                    omega
                subst hno
                have HFIN := Lib.hid ((HB1.out.trans (HB3.out.mono hw1)).trans (hBB.mono (by omega)))
                clear hey hok hBr hBB hq hlt hul
                go_wp2
                go_ret
                exact ⟨rfl, HFIN.out⟩
end Go.Proofs.Ytngkckngjobojaa.Oct
