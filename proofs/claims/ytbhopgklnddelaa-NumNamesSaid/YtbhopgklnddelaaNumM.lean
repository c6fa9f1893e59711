/- Contracts of purserlaw11's form, none and alive. No condition beyond what each names. -/
import Derived.Test.YtbhopgklnddelaaNumL
import Derived.Test.YtbhopgklnddelaaNumI
import Derived.Lib.ConvBytes
namespace Go.Proofs.Ytbhopgklnddelaa
open Go.RowKit

/-- '[]byte(s)': bytes in memory of their own. -/
theorem bytes_of (w : World) (l : List UInt8) : ∃ c w', (convert 9 22 (.string ⟨l.toArray⟩)).run Try.prog w = .ok (.slice (some ⟨w.heap.size, 0, none⟩) l.length c) w' ∧ Below w.heap.size w w' ∧ Holds8 w'.heap.size w' (some ⟨w.heap.size, 0, none⟩) l := by
  have h := Lib.run_convert_string_bytes (P := Try.prog) w 9 22 5 ⟨l.toArray⟩ Try.underlying9 Try.underlying22 Try.underlying5
  refine ⟨_, _, h, ⟨rfl, rfl, rfl, ?_, fun k hk => Lib.bytesWorld_at_old w 5 _ k hk⟩, .inr ⟨w.heap.size, 0, rfl, ?_, fun j hj => ?_⟩⟩
  · rw [Lib.bytesWorld_size]; omega
  · rw [Lib.bytesWorld_size]; omega
  · rw [Nat.zero_add, Lib.bytesWorld_cell w 5 ⟨l.toArray⟩ j hj]
    simp [List.getD, hj]

theorem enc_is {n : Int} {s : List UInt8} (h : okB s = true) (hv : decV s = n) : encB n = s := hv ▸ encB_decV s h

set_option maxRecDepth 100000 in
theorem form_any (n : Int) (s : List UInt8) (h : okB s = true) (hv : decV s = n) (w : World) : Calls Try.prog 27 #[.int .i64 n, .string ⟨s.toArray⟩] w fun e w' => e = .returned (.bool true) ∧ Below w.heap.size w w' := by
  have he := enc_is h hv
  have hok := (okB_encB n).1 (he ▸ h)
  have hd : decR s = n := by unfold decR; rw [if_pos h, hv]
  have hd2 : decE s = 0 := by unfold decE; rw [if_pos h]
  have hl : s.length ≤ maxLen := by
    have h1 := h
    unfold okB at h1
    rw [Bool.and_eq_true, decide_eq_true_eq] at h1
    unfold maxLen
    omega
  have c1 := Lib.hid (encode_yes n (by omega) (by omega))
  have c2 := Lib.hid (fun n₀ w => decode_any n₀ w s hl)
  have HE := Lib.hid he
  have HD := Lib.hid hd
  have HD2 := Lib.hid hd2
  clear h hv he hok hd hd2 hl
  go_enter Try.func27, Try.ntmps27
  go_wp2_with (first
    | (go_at_call 10; refine Calls.mono (c1.out _) ?_; rintro e w1 ⟨A, c, rfl, hh, hfr, hb⟩; rw [HE.out] at hh; obtain ⟨c3, w2, hq, hb2, hh2⟩ := bytes_of w1 s; have hh1 := hh.later hb2; have q1 := str_of hh1 c; have HB := Lib.hid (hb.trans (hb2.mono hb.size)); clear hb hb2; rw [HE.out])
    | (go_at_call 12; refine Calls.mono (c2.out _ _ _ _ hh2) ?_; rintro e w3 ⟨rfl, rfl⟩; rw [HD.out, HD2.out]))
  go_ret
  exact ⟨rfl, HB.out⟩

set_option maxRecDepth 100000 in
set_option maxHeartbeats 1000000 in
theorem alive_any (w : World) : Calls Try.prog 28 #[] w fun e w' => e = .returned (.bool true) ∧ Below w.heap.size w w' := by
  have hB := Below.refl w.heap.size w
  go_enter Try.func28, Try.ntmps28
  go_wp2_with ((go_at_call 27; refine (form_any _ _ (by decide +kernel) (by decide +kernel) _).mono ?_; rintro e w' ⟨rfl, hb⟩; replace hB := hB.trans (hb.mono hB.size); clear hb))
  go_ret
  exact ⟨rfl, hB⟩
end Go.Proofs.Ytbhopgklnddelaa
