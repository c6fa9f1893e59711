/- Contract of (*sha.Sum).End: the hash of the message. The message has less than 2^60 bytes. -/
import Derived.Test.YtfpgjabbpcndfaaShaI
namespace Go.Proofs.Ytfpgjabbpcndfaa
theorem Keeps.grow {W0 W W' : World} {l : List (Nat × Array Value × TypeId)} {r : Nat} (h : Keeps W0 l W) (hg : W.grownBy W' (some r)) (hr : ∀ (i : Nat) p, l[i]? = some p → p.1 ≠ r) (hb : W0.heap.size ≤ r) : Keeps W0 l W' :=
  ⟨fun i p hi => by
    have hlt := h.lt i hi
    rw [hg.block p.1 hlt (fun e => hr i p hi (by injection e))]
    exact h.rows i p hi, h.base, h.apart, ⟨hg.os.trans h.bel.os, hg.tape.trans h.bel.tape, hg.output.trans h.bel.output, Nat.le_trans h.bel.size hg.size, fun k hk => (hg.block k (Nat.lt_of_lt_of_le hk h.bel.size) (fun e => by injection e with e; omega)).trans (h.bel.block k hk)⟩⟩
theorem Keeps.fst_ {W0 W : World} {x y : Nat × Array Value × TypeId} (h : Keeps W0 ([x] ++ [y]) W) : Keeps W0 [x] W :=
  ⟨fun i p hi => by
    match i, hi with
    | 0, hi => exact h.rows 0 p hi, fun i p hi => by
    match i, hi with
    | 0, hi => exact h.base 0 p hi, fun i j p q hi hj hij => by
    match i, j, hi, hj with
    | 0, 0, _, _ => exact absurd rfl hij, h.bel⟩
end Go.Proofs.Ytfpgjabbpcndfaa
namespace Go.Proofs.Ytfpgjabbpcndfaa.Oct
set_option linter.unusedVariables false
set_option linter.unusedSimpArgs false
open Go.Proofs.Ytfpgjabbpcndfaa Go.RowKit Go.Lib Go.Shelf

def zero32 : List UInt8 := List.replicate 32 0
theorem hashOf_length (s : St) : (hashOf s).length = 32 := rfl
theorem hash_get (s : St) (i j : Nat) (hi : i < 8) (hj : j < 4) : (hashOf s)[4 * i + j]? = some (UInt8.ofNat ((words s).getD i 0 / 2 ^ (24 - 8 * j))) := by
  have h1 : i = 0 ∨ i = 1 ∨ i = 2 ∨ i = 3 ∨ i = 4 ∨ i = 5 ∨ i = 6 ∨ i = 7 := by omega
  have h2 : j = 0 ∨ j = 1 ∨ j = 2 ∨ j = 3 := by omega
  rcases h1 with rfl | rfl | rfl | rfl | rfl | rfl | rfl | rfl <;> rcases h2 with rfl | rfl | rfl | rfl <;> rfl
def hashRow (s : St) (k : Nat) : List UInt8 := (hashOf s).take k ++ List.replicate (32 - k) 0
theorem hashRow_length (s : St) (k : Nat) (h : k ≤ 32) : (hashRow s k).length = 32 := by
  rw [hashRow, List.length_append, List.length_take, List.length_replicate, hashOf_length]
  omega
theorem hashRow_step (s : St) (k : Nat) (x : UInt8) (hk : k < 32) (hx : (hashOf s)[k]? = some x) : (hashRow s k).set k x = hashRow s (k + 1) := by
  unfold hashRow
  have hl : ((hashOf s).take k).length = k := by rw [List.length_take, hashOf_length]; omega
  rw [List.set_append_right _ _ (by omega), hl, Nat.sub_self, show 32 - k = (32 - (k + 1)) + 1 by omega, List.replicate_succ, List.set_cons_zero]
  have he := List.getElem?_eq_some_iff.1 hx
  obtain ⟨h1, h2⟩ := he
  rw [List.take_succ_eq_append_getElem h1, h2]
  simp
theorem hashRow_zero (s : St) : hashRow s 0 = zero32 := rfl
theorem hashRow_all (s : St) : hashRow s 32 = hashOf s := rfl
theorem infoH (bs : List UInt8) (h : bs.length = 32) : (Try.prog.info? 25).map (·.size) = some (arr8 bs).size := by
  rw [arr8_size, h]
  kernel_rfl
theorem one8x (bs : List UInt8) : (arr8 bs).all (·.oneCell') = true := by simp [arr8, vals, Value.oneCell']
theorem size_same {a b : List UInt8} (h : a.length = 32) (k : b.length = 32) : (arr8 a).size = (arr8 b).size := by rw [arr8_size, arr8_size, h, k]
theorem byteW_int (x k : Nat) : (((UInt8.ofNat (x / 2 ^ k)).toNat : Nat) : Int) = (x : Int) / 2 ^ k % 256 := by
  rw [UInt8.toNat_ofNat']
  simp only [Int.natCast_emod, Int.natCast_pow, Int.natCast_ediv]
  rfl
theorem wpList_load_part {P : Program} {ops : Array Oper} {rest : List Oper} {o : Oper} {a : Act} {w : World} {Q : Exit → Act → World → Prop} (hgd : o.guard = none) (ty : TypeId) (x : Operand) (ho : o.op = .load ty x)
    (g off : Nat) (hx : a.eval x = .pointer (some ⟨g, off, none⟩)) (t : TypeId) (cs : Array Value) (fr : Nat × Nat) (sub : Array Value) (d : TypeDesc) (hg : w.heap[g]? = some (.cells cs t fr)) (hsub : ∀ j v, sub[j]? = some v → cs[off + j]? = some v)
    (hu : P.underlying ty = some d) (hd : (match d with | .struct _ | .array _ _ => true | _ => false) = true) (hi : (P.info? ty).map (·.size) = some sub.size)
    (h : wpList P ops Q rest (a.put o.dst (.agg sub)) w) : wpList P ops Q (o :: rest) a w := by
  refine wpList_run hgd ?_ h
  unfold execOp
  simp only [ho, hx, Instr.loadAt, Instr.sureAddr, Sem.run_bind, Sem.run_pure, Result.andThen_ok, run_loadVar_part w g off t ty cs fr sub d hg hsub hu hd hi]

set_option maxRecDepth 100000 in
set_option maxHeartbeats 2000000 in
theorem end_any (w : World) (g : Nat) (m : List UInt8) (h : SumIn w g m m.length) (hm : m.length < 1152921504606846976) :
    Calls Try.prog 16 #[.pointer (some ⟨g, 0, none⟩)] w fun e w' => e = .returned (.agg (arr8 (sha m))) ∧ Below w.heap.size w w' := by
  have hgl := h.lt
  obtain ⟨n, hn⟩ : ∃ n, m.length = n := ⟨_, rfl⟩
  obtain ⟨u, hu⟩ : ∃ u, n % 64 = u := ⟨_, rfl⟩
  have hS0 := h.below (B := w.heap.size) (W' := w.alloc (.cells (arr8 zero32) 25)) ((Below.refl _ _).alloc (Nat.le_refl _) _) hgl
  have hK0 := (Keeps.nil w).new (arr8 zero32) 25
  have hpl : (padding n).length ≤ 72 := by rw [padding_length]; exact (padLen_bounds n).2
  obtain ⟨tl, h1, h2, h3⟩ := h
  rw [hn] at h2 h3 hm hS0
  rw [hu] at h2 h3
  have CN : Hid (Calls Try.prog 25 #[.pointer (some ⟨g, 0, none⟩)] (w.alloc (.cells (arr8 zero32) 25)) fun e w' => e = .returned (.bool false) ∧ Keeps w [(w.heap.size, arr8 zero32, 25)] w' ∧ w'.heap[g]? = some (.cells (sumc (stOf m) tl u n) 49 (0, 0)) ∧ g < w.heap.size) :=
    Lib.hid ((none_any _ g m n hS0).mono fun e w' ⟨he, hw⟩ => by subst hw; exact ⟨he, hK0, (Below.heap_alloc _ _ _ hgl).trans h3, hgl⟩)
  have CP : Hid (∀ W, Calls Try.prog 27 #[.int .i64 (u : Int), .int .u64 (n : Int)] W (NewFull W (padding n))) := Lib.hid fun W => by rw [← hu]; exact padding_any n hm W
  have H1 := Lib.hid h1
  have H2 := Lib.hid h2
  have HN := Lib.hid hn
  have HU := Lib.hid hu
  clear h1 h2 h3 hn hu hS0 hK0 hgl
  go_enter Try.func16, Try.ntmps16
  go_wp2_with (first | (refine wpList_alloc rfl 25 rfl (z := arr8 zero32) (by kernel_rfl) ?_; try simp only [World.size_alloc]) | (go_at_call 25; with_reducible refine CN.out.mono ?_; rintro e W1 ⟨rfl, hH, hg1, hgl⟩) | (refine wpList_load_row rfl 49 (.tmp 12) rfl g rfl 49 _ (0, 0) _ hg1 Try.underlying49 rfl (sumc_info _ _ _ _ H1.out) ?_) | (refine wpList_alloc rfl 49 rfl (z := sumz) (by kernel_rfl) ?_; try simp only [World.size_alloc]) | (refine wpList_fill hH rfl 49 (.tmp 3) (.tmp 13) rfl rfl rfl (sumc_info _ _ _ _ H1.out) (by rw [sumc_size, H1.out]; rfl) (sumc_one _ _ _ _) ?_; clear hH hg1; intro W2 hH; have hc72 := hH.cell 1 rfl 72; have hc73 := hH.cell 1 rfl 73; rw [sumc_u _ _ _ _ H1.out] at hc72; rw [sumc_n _ _ _ _ H1.out] at hc73) | (go_at_call 27; (with_reducible refine (CP.out _).mono ?_); rintro e W3 ⟨PA, rfl, hp8, hpnew, hb3⟩; clear hc72 hc73; have hH3 := hH.call hb3; have hS3 : SumIn W3 W1.heap.size m n := ⟨tl, H1.out, by rw [HN.out, HU.out]; exact H2.out, by rw [HN.out, HU.out]; exact hH3.get 1 rfl⟩; have hlt1 := hH.lt 1 rfl; have CA := Lib.hid (add_any W3 W1.heap.size m n PA (padding n).length (padding n) hS3 hp8 (Nat.le_refl _) (by omega) (fun a e => by have := hpnew a e; have h9 : W1.heap.size < W2.heap.size := hlt1; omega)); have hap := hH.apart 0 1 _ _ rfl rfl (by decide); have hbs := hH.base 1 _ rfl; clear hH hp8 hpnew hS3 hlt1 hb3) | (go_at_call 26; (with_reducible refine CA.out.mono ?_); rintro e W4 ⟨⟨vv, rfl⟩, ⟨tl4, g1, g2, g3⟩, hG4⟩; have hK4 := (hH3.fst_).grow hG4 (fun i p hi => by (match i, hi with | 0, hi => exact (by cases hi; exact hap))) hbs; have hK5 := hK4.new (arr8 zero32) 25; have hlt4 := (Array.getElem?_eq_some_iff.1 g3).1; have hg5 := (Below.heap_alloc W4 (.cells (arr8 zero32) 25) _ hlt4).trans g3; clear hG4 hH3 hK4 g2 g3 hap hbs hlt4) | (refine wpList_load_part rfl 45 (.tmp 20) rfl W1.heap.size 0 rfl 49 _ (0, 0) (stc (stOf (m ++ padding n))) _ hg5 (sumc_part_st _ _ _ _) Try.underlying45 rfl (info8 _) ?_))
  clear hg5 CN CP
  obtain ⟨s', hs'⟩ : ∃ s', stOf (m ++ padding n) = s' := ⟨_, rfl⟩
  rw [hs']
  have HSS := Lib.hid hs'
  clear hs'
  have hK6 : Keeps w [(w.heap.size, arr8 zero32, 25), (W4.heap.size, arr8 (hashRow s' (4 * 0)), 25)] (W4.alloc (.cells (arr8 zero32) 25)) := hK5
  clear hK5
  go_loopw [22] (fun iv wr => ∃ i : Nat, i ≤ 8 ∧ iv = .int .i64 i ∧ Keeps w [(w.heap.size, arr8 zero32, 25), (W4.heap.size, arr8 (hashRow s' (4 * i)), 25)] wr) (fun iv _ => 8 - (intOf iv).toNat)
  case atStart => exact ⟨0, Nat.zero_le _, rfl, hK6⟩
  case round =>
    clear hK6
    obtain ⟨i, hi, rfl, hK⟩ := hrel
    by_cases hlt : i < 8
    · have hix : ∀ w, (Instr.index 45 (.agg (stc s')) (.int .i64 i)).run Try.prog w = .ok (.int .u32 (((words s').getD i 0 : Nat) : Int)) w :=
        run_index_arr (P := Try.prog) (cs := vals32 (words s')) Try.underlying45 Try.underlying42 (by kernel_rfl) hlt (vals32_get _ _ hlt)
      have HG := Lib.hid (fun j (hj : j < 4) => hash_get s' i j hlt hj)
      generalize (words s').getD i 0 = x at hix HG
      have hK7 : Keeps w [(w.heap.size, arr8 zero32, 25), (W4.heap.size, arr8 (hashRow s' (4 * i + 0)), 25)] wr := hK
      clear hK
      go_wp2
      obtain ⟨wo, rfl⟩ : ∃ wo : World, wo = wr := ⟨_, rfl⟩
      go_loopw [26] (fun jv wr => ∃ j : Nat, j ≤ 4 ∧ jv = .int .i64 j ∧ Keeps w [(w.heap.size, arr8 zero32, 25), (W4.heap.size, arr8 (hashRow s' (4 * i + j)), 25)] wr) (fun jv _ => 4 - (intOf jv).toNat)
      case atStart => exact ⟨0, Nat.zero_le _, rfl, hK7⟩
      case round =>
        clear hK7
        obtain ⟨j, hj, rfl, hK⟩ := hrel
        by_cases hltj : j < 4
        · have hst := hashRow_step s' (4 * i + j) _ (by omega) (HG.out j hltj)
          have HST := Lib.hid hst
          clear hst
          have hc := hK.cell 1 rfl (4 * i + j)
          have hf := hK.frozen 1 rfl (4 * i + j)
          rw [arr8_get _ _ (by rw [hashRow_length _ _ (by omega)]; omega)] at hc
          have z1 : ((4 : Int) * (i : Int) + (j : Int)).toNat = 4 * i + j := by omega
          have z2 : (0 : Int) ≤ (4 : Int) * (i : Int) + (j : Int) := by omega
          have z3 : (4 : Int) * (i : Int) + (j : Int) < 32 := by omega
          go_wp2
          go_roundw
          case rel =>
            refine ⟨j + 1, by omega, by go_num, ?_⟩
            have h := hK.setc 1 rfl (4 * i + j) (.int .u8 (((UInt8.ofNat (x / 2 ^ (24 - 8 * j))).toNat : Nat) : Int))
            rw [arr8_set, HST.out, byteW_int] at h
            exact h
          case measure => simp [intOf]; omega
        · have h4 : j = 4 := by omega
          have HJ := Lib.hid h4
          clear h4
          go_wp2
          go_roundw
          case rel =>
            refine ⟨i + 1, by omega, by go_num, ?_⟩
            rw [show 4 * (i + 1) = 4 * i + j by have := HJ.out; omega]
            exact hK
          case measure => simp [intOf]; omega
    · have h8 : i = 8 := by omega
      have HI := Lib.hid h8
      clear h8
      have hl32 := hashRow_length s' (4 * i) (by omega)
      have HL := Lib.hid hl32
      clear hl32
      go_wp2_with (first | (refine wpList_load_row rfl 25 (.tmp 4) rfl W4.heap.size rfl 25 _ (0, 0) _ (hK.get 1 rfl) Try.underlying25 rfl (infoH _ HL.out) ?_) | (refine wpList_put hK 0 rfl 25 (.tmp 2) (.tmp 42) rfl rfl rfl rfl (infoH _ HL.out) (size_same rfl HL.out) (one8x _) ?_; clear hK; intro W5 hK))
      refine bodyPost_ret (v := .agg (arr8 (hashRow s' (4 * i)))) ?_ rfl ⟨?_, hK.bel⟩
      · exact results_cell_row rfl _ _ w.heap.size 25 _ (0, 0) _ rfl (hK.get 0 rfl) Try.underlying25 rfl (infoH _ HL.out)
      · rw [HI.out, hashRow_all, ← HSS.out, ← HN.out]
        rfl
end Go.Proofs.Ytfpgjabbpcndfaa.Oct
