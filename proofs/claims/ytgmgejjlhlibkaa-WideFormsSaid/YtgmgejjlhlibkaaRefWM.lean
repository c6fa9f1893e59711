/- The document's number of 64 digits: the walk. -/
import Derived.Test.YtgmgejjlhlibkaaRefWL
namespace Go.Proofs.Ytgmgejjlhlibkaa.Oct
set_option linter.unusedVariables false
open Go.Proofs.Ytgmgejjlhlibkaa Go.RowKit Go.Shelf

theorem keeps1p (w : World) : Keeps w [(w.heap.size, wcells 0, 24)] (w.alloc (.cells #[.int .u64 0, .int .u64 0, .int .u64 0, .int .u64 0] 24)) := by
  have h := (Keeps.nil w).new (wcells 0) 24
  simp only [List.nil_append] at h
  exact h
theorem i64_and1 (x : Nat) (hx : x < 16) : bits .and .i64 (x : Int) 1 = ((x % 2 : Nat) : Int) := by
  have h : ∀ i : Fin 16, bits .and .i64 ((i.val : Nat) : Int) 1 = ((i.val % 2 : Nat) : Int) := by decide +kernel
  exact h ⟨x, hx⟩
theorem hexB_step (l : List UInt8) (hl : l.length = 64) (i : Nat) (hi : i < 64) : hexB (l.drop (64 - (i + 1))) = (decide (0 ≤ hexv (l[63 - i]'(by omega))) && hexB (l.drop (64 - i))) := by
  have h := List.drop_eq_getElem_cons (i := 64 - (i + 1)) (l := l) (by omega)
  rw [h]
  have e : 64 - (i + 1) + 1 = 64 - i := by omega
  rw [e]
  unfold hexB
  rw [List.all_cons]
  have e2 : 64 - (i + 1) = 63 - i := by omega
  simp only [e2]
theorem hexB_bad (l : List UInt8) (i : Nat) (h : i < l.length) (hb : hexv (l[i]) < 0) : hexB l = false := by
  unfold hexB
  rw [List.all_eq_false]
  exact ⟨l[i], List.getElem_mem h, by simpa using hb⟩

set_option maxRecDepth 100000 in
set_option maxHeartbeats 4000000 in
theorem rParse_any (s : ByteArray) (l : List UInt8) (hs : s.data.toList = l) (hl : l.length = 64) (w : World) :
    Calls Try.prog 15 #[.string s] w fun e w' => e = .returned (parsed l) ∧ Below w.heap.size w w' := by
  have hsz : s.size = 64 := by rw [← hl, ← hs]; simp
  have hm := make256
  have hH0 := keeps1p w
  have hH2 := hH0.new (pbits 0 256 0) 3
  simp only [List.nil_append, List.cons_append, World.size_alloc] at hH2
  rw [fbits_zero] at hH2
  clear hH0
  obtain ⟨N, hN⟩ : ∃ N, hexN l = N := ⟨_, rfl⟩
  have HNN := Lib.hid hN
  have HS := Lib.hid hs
  have HL := Lib.hid hl
  clear hs hl hN
  go_enter Try.func15, Try.ntmps15
  go_wp2
  go_loopw [5] (fun v wr => ∃ i : Nat, i ≤ 64 ∧ v = .int .i64 (i : Int) ∧ hexB (l.drop (64 - i)) = true ∧ Keeps w [(w.heap.size, wcells 0, 24), (w.heap.size + 1, fbits (lo N (4 * i)), 3)] wr) (fun v _ => 64 - (RowKit.intOf v).toNat)
  case atStart =>
    refine ⟨0, by omega, rfl, ?_, ?_⟩
    · rw [List.drop_of_length_le (by rw [HL.out]; omega)]
      rfl
    · rw [fbits_ext (lo N (4 * 0)) (fun _ => 0) (fun p _ => by unfold lo; rw [if_neg (by omega)])]
      exact hH2
  case round =>
    obtain ⟨i, hi, rfl, hx, hH⟩ := hrel
    clear hH2 hm
    by_cases hlt : i < 64
    · have hkl : 63 - i < l.length := by rw [HL.out]; omega
      have hks : 63 - i < s.size := by omega
      have hsk : s[63 - i]'hks = l[63 - i]'hkl := by
        have : s.data.toList[63 - i]'(by simpa using hks) = l[63 - i]'hkl := by simp only [HS.out]
        show s.data[63 - i]'hks = _
        simpa using this
      have hnb := nib_hexN l HL.out i hlt
      have hxs := hexB_step l HL.out i hlt
      have hbad := hexB_bad l (63 - i) hkl
      rw [HNN.out] at hnb
      obtain ⟨c, hc⟩ : ∃ c, l[63 - i]'hkl = c := ⟨_, rfl⟩
      rw [hc] at hsk hnb hxs hbad
      have HBAD := Lib.hid hbad
      have HNB := Lib.hid hnb
      have HXS := Lib.hid hxs
      clear hbad hnb hxs hkl hc
      have z1 : IntKind.i64.wrap (63 - (i : Int)) = 63 - (i : Int) := IntWalk.i64_in _ (by omega)
      have z2 : (63 - (i : Int)).toNat = 63 - i := by omega
      go_wp2
      go_loopw [6, 7] (fun u v wq => ∃ k : Nat, k ≤ 16 ∧ v = .int .i64 (k : Int) ∧ u = .int .i64 (nk c k) ∧ Keeps w [(w.heap.size, wcells 0, 24), (w.heap.size + 1, fbits (lo N (4 * i)), 3)] wq) (fun _ v _ => 16 - (RowKit.intOf v).toNat)
      case atStart => exact ⟨0, by omega, rfl, rfl, hH⟩
      case round =>
        clear hH
        obtain ⟨k, hk, rfl, rfl, hH⟩ := hrel
        by_cases hlk : k < 16
        · have hlet := letter_get k hlk (show k < letters.size from hlk)
          unfold letters at hlet
          by_cases hd : dig k = c
          · have hnk : nk c (k + 1) = (k : Int) := by unfold nk; rw [if_pos hd]
            rw [hd] at hlet
            go_wp2
            go_quiet (fail)
            go_wp2
            go_roundw
            case rel => exact ⟨k + 1, by omega, by go_num, by rw [hnk], hH.drewN _⟩
            case measure => simp [RowKit.intOf]; omega
          · have hnk : nk c (k + 1) = nk c k := by unfold nk; rw [if_neg hd]; cases k <;> rfl
            have hne : (dig k).toNat ≠ c.toNat := fun e => hd (UInt8.toNat_inj.1 e)
            have hne2 : (((dig k).toNat : Int) == (c.toNat : Int)) = false := by rw [beq_eq_false_iff_ne]; omega
            obtain ⟨y, hy⟩ : ∃ y, (dig k).toNat = y := ⟨_, rfl⟩
            go_wp2
            go_quiet (fail)
            go_wp2
            go_roundw
            case rel => exact ⟨k + 1, by omega, by go_num, by rw [hnk], hH.drewN _⟩
            case measure => simp [RowKit.intOf]; omega
        · obtain rfl : k = 16 := by omega
          rw [nk_all]
          have hr := hexv_range c
          obtain ⟨v, hv⟩ : ∃ v, hexv c = v := ⟨_, rfl⟩
          rw [hv] at hr ⊢
          by_cases hv0 : v < 0
          · have hpv : parsed l = .tuple #[.agg (wcells 0), .int .i64 30] := by unfold parsed; rw [HBAD.out (by rw [hv]; exact hv0)]; rfl
            have HPV := Lib.hid hpv
            clear hpv hv
            go_wp2_with (first | (refine wpList_put hH 0 rfl 24 _ _ rfl rfl rfl rfl (infoW 0) rfl (oneW 0) ?_; clear hH; intro W1 hH))
            exact bodyPost_ret (results_two _ _ _ w.heap.size 0 30 rfl rfl rfl (hH.get 0 rfl)) rfl ⟨HPV.out.symm ▸ rfl, hH.bel⟩
          · obtain ⟨d, rfl⟩ : ∃ d : Nat, v = (d : Int) := ⟨v.toNat, by omega⟩
            have hd16 : d < 16 := by omega
            have hnd : nib N i = d := by rw [HNB.out, hv]; rfl
            have hx2 : hexB (l.drop (64 - (i + 1))) = true := by rw [HXS.out, hx, hv]; simp
            have HND := Lib.hid hnd
            have HX2 := Lib.hid hx2
            clear hnd hx2 hv hx
            go_wp2
            go_loopw [8] (fun v wp => ∃ k : Nat, k ≤ 4 ∧ v = .int .i64 (k : Int) ∧ Keeps w [(w.heap.size, wcells 0, 24), (w.heap.size + 1, fbits (lo N (4 * i + k)), 3)] wp) (fun v _ => 4 - (RowKit.intOf v).toNat)
            case atStart => exact ⟨0, by omega, rfl, hH⟩
            case round =>
              clear hH
              obtain ⟨k, hk, rfl, hH⟩ := hrel
              by_cases hl4 : k < 4
              · have hcc := hH.cellOf 1 rfl (4 * i + k)
                rw [fbits_get _ _ (by omega)] at hcc
                have hfc := hH.frozen 1 rfl (4 * i + k)
                have hbt := nib_bit N i k hl4
                rw [HND.out] at hbt
                have hd2 : d / 2 ^ k < 16 := Nat.lt_of_le_of_lt (Nat.div_le_self _ _) hd16
                have ev : bits .and .i64 ((d : Int) / 2 ^ k) 1 = (bitOf N (4 * i + k) : Int) := by rw [div_pow_int, i64_and1 _ hd2, hbt]
                have w1 : IntKind.i64.wrap (4 * (i : Int)) = 4 * (i : Int) := IntWalk.i64_in _ (by omega)
                have w2 : IntKind.i64.wrap (4 * (i : Int) + (k : Int)) = 4 * (i : Int) + (k : Int) := IntWalk.i64_in _ (by omega)
                have w3 : (4 * (i : Int) + (k : Int)).toNat = 4 * i + k := by omega
                have hH2 := hH.cellSet 1 rfl (4 * i + k) (.int .i64 (bitOf N (4 * i + k) : Int))
                simp only [List.set_cons_succ, List.set_cons_zero] at hH2
                rw [lo_set _ _ (by omega)] at hH2
                have HH2 := Lib.hid hH2
                clear hH2 hH hbt hd2
                go_wp2
                go_roundw
                case rel => exact ⟨k + 1, by omega, by go_num, HH2.out⟩
                case measure => simp [RowKit.intOf]; omega
              · obtain rfl : k = 4 := by omega
                go_wp2
                go_roundw
                case rel => exact ⟨i + 1, by omega, by go_num, HX2.out, hH⟩
                case measure => simp [RowKit.intOf]; omega
    · obtain rfl : i = 64 := by omega
      have hNlt : N < top := by
        have h := hexN_lt l
        rw [HL.out, HNN.out, show (16 : Nat) ^ 64 = top by unfold top; decide +kernel] at h
        exact h
      rw [fbits_ext (lo N (4 * 64)) (bitOf N) (fun p hp => by unfold lo; rw [if_pos (by omega)]), ← fbits_bits] at hH
      have hpv : parsed l = .tuple #[.agg (wcells N), .int .i64 0] := by
        rw [show 64 - 64 = 0 from rfl, List.drop_zero] at hx
        unfold parsed
        rw [hx, HNN.out]
        rfl
      have HPV := Lib.hid hpv
      have hNm := fun W (h : W.heap[w.heap.size + 1]? = some (.cells (ibits N 256) 3 (0, 0))) => rNumber N (w.heap.size + 1) W h
      rw [Nat.mod_eq_of_lt hNlt] at hNm
      have HNM := Lib.hid hNm
      clear hNm hpv hx hNlt
      go_wp2_with (first | (go_at_call 44; refine (HNM.out _ (hH.get 1 rfl)).mono ?_; rintro e W1 ⟨rfl, hB⟩; replace hH := hH.call hB; clear hB) | (refine wpList_put hH 0 rfl 24 _ _ rfl rfl rfl rfl (infoW _) rfl (oneW _) ?_; clear hH; intro W1 hH))
      exact bodyPost_ret (results_two _ _ _ w.heap.size N 0 rfl rfl rfl (hH.get 0 rfl)) rfl ⟨HPV.out.symm ▸ rfl, hH.bel⟩
end Go.Proofs.Ytgmgejjlhlibkaa.Oct
