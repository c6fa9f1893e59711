/- Are calls more than statements go through? No condition. -/
import Derived.Test.YtngkckngjobojaaOctS
namespace Go.Proofs.Ytngkckngjobojaa.Oct
open Go.Proofs.Ytngkckngjobojaa Go.ChangeShapes Go.WideShapes Go.ChangeAt Go.RowKit
theorem total_snoc (l : List OpD) (k : Nat) (h : k < l.length) : total (l.take (k + 1)) = total (l.take k) + l[k].b.length := by
  rw [List.take_succ_eq_append_getElem h]
  unfold total
  rw [List.map_append, List.sum_append]
  simp
theorem total_le {W : World} {n₀ : Nat} {A : Option Addr} {l : List OpD} (h : OpsAt n₀ W A l) : ∀ k, k ≤ l.length → total (l.take k) ≤ k * 140737488351232
  | 0, _ => by simp [total]
  | k + 1, hk => by
    have h1 := total_le h k (by omega)
    have h2 := h.ok _ (List.getElem_mem (show k < l.length by omega))
    have h3 := h2.small
    have h4 := h2.fits
    rw [total_snoc l k (by omega)]
    omega
set_option maxRecDepth 100000 in
set_option maxHeartbeats 2000000 in
theorem great_any (l : List OpD) (A : Option Addr) (cap : Nat) (n₀ : Nat) (w : World) (h : OpsAt n₀ w A l) (hl : l.length ≤ 9223372036854775807) : Calls Try.prog 9 #[.slice A l.length cap] w fun e w' => e = .returned (.bool (greatB l)) ∧ w = w' := by
  by_cases h100 : 100 < l.length
  · have HG := Lib.hid (show greatB l = true by unfold greatB; simp [h100])
    have H := Lib.hid h
    have d1 : (100 : Int) < (l.length : Int) := by omega
    clear h
    go_enter Try.func9, Try.ntmps9
    go_wp2
    go_loop [3, 7] (fun n i => ∃ q : Nat, q ≤ l.length ∧ i = .int .i64 (q : Int) ∧ ∃ z : Int, n = .int .i64 z) (fun _ i => l.length - (intOf i).toNat)
    case atStart => exact ⟨0, Nat.zero_le _, rfl, 0, rfl⟩
    case round =>
      obtain ⟨q, hq, rfl, z, rfl⟩ := hrel
      by_cases hlt : q < l.length
      · obtain ⟨b, off, rfl, hb, _, _, _, c3⟩ := H.out.cells q hlt
        clear hb hq
        go_wp2
        go_round
        case rel => exact ⟨q + 1, by omega, by go_num, _, rfl⟩
        case measure => simp [intOf]; omega
      · have d2 : (l.length : Int) ≤ (q : Int) := by omega
        clear hlt hq
        go_wp2
        go_ret
        refine ⟨?_, rfl⟩
        rw [HG.out]
        rfl
  · have ht := total_le h
    have hle : l.length ≤ 100 := by omega
    have d1 : (l.length : Int) ≤ 100 := by omega
    have H := Lib.hid h
    have HT := Lib.hid ht
    clear h h100
    go_enter Try.func9, Try.ntmps9
    go_wp2
    go_loop [3, 7] (fun n i => ∃ q : Nat, q ≤ l.length ∧ i = .int .i64 (q : Int) ∧ n = .int .i64 (total (l.take q) : Int)) (fun _ i => l.length - (intOf i).toNat)
    case atStart => exact ⟨0, Nat.zero_le _, rfl, by simp [total]⟩
    case round =>
      obtain ⟨q, hq, rfl, rfl⟩ := hrel
      by_cases hlt : q < l.length
      · obtain ⟨b, off, rfl, hb, _, _, _, c3⟩ := H.out.cells q hlt
        have h1 := HT.out q hq
        have h2 := (H.out.ok _ (List.getElem_mem hlt)).small
        have h3 := (H.out.ok _ (List.getElem_mem hlt)).fits
        have HS := Lib.hid (total_snoc l q hlt)
        obtain ⟨T, hT⟩ : ∃ T, total (l.take q) = T := ⟨_, rfl⟩
        obtain ⟨B, hB⟩ : ∃ B, l[q].b.length = B := ⟨_, rfl⟩
        rw [hT] at h1 ⊢
        rw [hB] at h3 c3
        have hm : T ≤ 14073748835123200 := by omega
        have hm2 : B ≤ 140737488351232 := by omega
        have HE := Lib.hid (show total (l.take (q + 1)) = T + B by rw [HS.out, hT, hB])
        clear hb hq h1 h2 h3 hT hB HS
        go_wp2
        go_round
        case rel => exact ⟨q + 1, by omega, by go_num, by rw [HE.out]; go_num⟩
        case measure => simp [intOf]; omega
      · obtain rfl : q = l.length := by omega
        rw [List.take_length]
        clear hlt hq
        have HG := Lib.hid (show greatB l = decide (100000 < total l) by unfold greatB; rw [show decide (100 < l.length) = false by simp; omega]; simp)
        go_wp2
        go_ret
        refine ⟨?_, rfl⟩
        show Ending.returned (.bool (decide ((100 : Int) < (l.length : Int)) || decide ((100000 : Int) < (total l : Int)))) = _
        rw [HG.out, show decide ((100 : Int) < (l.length : Int)) = false by simp; omega, Bool.false_or]
        congr 2
        simp only [decide_eq_decide]
        omega
end Go.Proofs.Ytngkckngjobojaa.Oct
