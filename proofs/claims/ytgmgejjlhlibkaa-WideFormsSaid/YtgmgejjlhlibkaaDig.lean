/- The contracts of wide.Digits and wide.Parse. The number is below 2^256. -/
import Derived.Test.YtgmgejjlhlibkaaWidW
import Derived.Test.YtgmgejjlhlibkaaBld
import Derived.Test.YtgmgejjlhlibkaaShelf
namespace Go.Proofs.Ytgmgejjlhlibkaa.Oct
set_option linter.unusedVariables false
open Go.Proofs.Ytgmgejjlhlibkaa Go.RowKit Go.Shelf

/-- A digit's letter. -/
def dig (n : Nat) : UInt8 := UInt8.ofNat (if n < 10 then 48 + n else 87 + n)
def nib (n k : Nat) : Nat := n / 16 ^ k % 16
/-- The digits of a number, the highest first. -/
def digitsW (n : Nat) : List UInt8 := (List.range 64).map fun i => dig (nib n (63 - i))
theorem nib_lt (n k : Nat) : nib n k < 16 := by unfold nib; omega
theorem nib_at (n k : Nat) (hk : k < 64) : wAt n (k / 16) / 2 ^ (4 * (k % 16)) % 16 = nib n k := by
  unfold wAt nib
  have e : (16 : Nat) ^ k = 18446744073709551616 ^ (k / 16) * 2 ^ (4 * (k % 16)) := by
    rw [show (18446744073709551616 : Nat) = 2 ^ 64 by decide, show (16 : Nat) = 2 ^ 4 by decide, ← Nat.pow_mul, ← Nat.pow_mul, ← Nat.pow_add]
    congr 1
    omega
  rw [e, ← Nat.div_div_eq_div_mul]
  generalize n / 18446744073709551616 ^ (k / 16) = x
  have hp : 4 * (k % 16) + 4 ≤ 64 := by omega
  generalize 4 * (k % 16) = p at hp
  have e2 : (18446744073709551616 : Nat) = 2 ^ p * (16 * 2 ^ (60 - p)) := by
    rw [show (16 : Nat) = 2 ^ 4 by decide, ← Nat.pow_add, ← Nat.pow_add, show p + (4 + (60 - p)) = 64 by omega]
  rw [e2, Nat.mod_mul_right_div_self, Nat.mod_mul_right_mod]
def dpre (n k : Nat) : List UInt8 := (List.range k).map fun i => dig (nib n (63 - i))
theorem dpre_succ (n k : Nat) : dpre n (k + 1) = dpre n k ++ [dig (nib n (63 - k))] := by simp [dpre, List.range_succ]
theorem dpre_length (n k : Nat) : (dpre n k).length = k := by simp [dpre]
theorem digitsW_length (n : Nat) : (digitsW n).length = 64 := by simp [digitsW]
/-- The letters of all digits. -/
def letters : ByteArray := ⟨#[48, 49, 50, 51, 52, 53, 54, 55, 56, 57, 97, 98, 99, 100, 101, 102]⟩
theorem letter_at (m : Nat) (hm : m < 16) : letters.data[m]? = some (dig m) := by
  have h : ∀ m : Fin 16, letters.data[m.val]? = some (dig m.val) := by decide
  exact h ⟨m, hm⟩
theorem letter_get (m : Nat) (hm : m < 16) (h : m < letters.size) : letters[m]'h = dig m := by
  have h1 := letter_at m hm
  have h2 : letters.data[m]? = some (letters.data[m]'h) := Array.getElem?_eq_getElem h
  exact Option.some.inj (h2.symm.trans h1)
theorem and15 (x : Nat) : bits .and .u64 (x : Int) 15 = bits .and .u64 (x : Int) ((15 : Nat) : Int) := rfl

set_option maxRecDepth 100000 in
set_option maxHeartbeats 4000000 in
theorem digits_any (n : Nat) (hn : n < top) (w : World) : Calls Try.prog 20 #[.agg (wcells n)] w fun e w' => e = .returned (.string ⟨(digitsW n).toArray⟩) ∧ Below w.heap.size w w' := by
  have hc0 := heap_alloc_new w (.cells (wcells n) 24)
  go_enter Try.func20, Try.ntmps20
  go_wp2
  go_loopw [6] (fun v wr => ∃ k : Nat, k ≤ 64 ∧ v = .int .i64 (k : Int) ∧ wr.heap[w.heap.size]? = some (.cells (wcells n) 24 (0, 0)) ∧ Lib.IsBuilder TB 5 (w.heap.size + 1) (w.heap.size + 1) (vals (dpre n k)) wr ∧ Below w.heap.size w wr) (fun v _ => 64 - (RowKit.intOf v).toNat)
  case atStart =>
    have hb := heap_alloc_new (w.alloc (.cells (wcells n) 24)) (.cells #[.pointer none, .slice none 0 0] TB)
    rw [World.size_alloc] at hb
    exact ⟨0, by omega, rfl, (Below.heap_alloc _ _ _ (by simp)).trans hc0, .inl ⟨Nat.le_refl _, _, hb, World.ownsRow_nil _ _ _ _, by simp [Value.ownBlock]⟩, ((Below.refl _ _).alloc (Nat.le_refl _) _).alloc (by simp) _⟩
  case round =>
    obtain ⟨k, hk, rfl, hcw, hbd, hB⟩ := hrel
    clear hc0
    by_cases hlt : k < 64
    · obtain ⟨j, hj⟩ : ∃ j, 63 - k = j := ⟨_, rfl⟩
      have hpl : (63 - (k : Int)) = (j : Int) := by omega
      have hj64 : j < 64 := by omega
      have hds := dpre_succ n k
      rw [hj] at hds
      have HDS := Lib.hid hds
      have hca := cell_of_row _ w.heap.size (j / 16) _ _ _ hcw
      rw [wcells_at n _ (by omega)] at hca
      have hw := word_at n (j / 16)
      have hn16 := nib_at n j hj64
      have hnl := nib_lt n j
      obtain ⟨m, hm⟩ : ∃ m, nib n j = m := ⟨_, rfl⟩
      rw [hm] at HDS hn16 hnl
      have hlet := letter_get m hnl
      unfold letters at hlet
      have z1 : ((j : Int) / 16).toNat = j / 16 := by omega
      have z2 : (4 * ((j : Int) % 16)).toNat = 4 * (j % 16) := by omega
      have hand : bits .and .u64 ((wAt n (j / 16) : Int) / 2 ^ (4 * (j % 16))) 15 = (m : Int) := by
        rw [div_pow_int, show (15 : Int) = ((15 : Nat) : Int) by rfl, u64_and_nat _ 15 (div_word hw _) (by omega), show (15 : Nat) = 2 ^ 4 - 1 by decide, Nat.and_two_pow_sub_one_eq_mod, show 2 ^ 4 = 16 by decide, hn16]
      unfold word at hw
      have hwr := fun W h => writeByte_any (w.heap.size + 1) (w.heap.size + 1) (dpre n k) (dig m) W h (by rw [dpre_length]; omega)
      have HWR := Lib.hid hwr
      have HCW := Lib.hid hcw
      have hszr : w.heap.size < wr.heap.size := (Array.getElem?_eq_some_iff.1 hcw).1
      clear hds hcw hwr hm hj hn16
      go_wp2_with (go_at_call 47; with_reducible refine (HWR.out _ hbd (by omega)).mono ?_; rintro e w2 ⟨rfl, hbd2, hb2⟩)
      go_roundw
      case rel => exact ⟨k + 1, by omega, by go_num, (hb2.block _ (by omega)).trans HCW.out, by rw [HDS.out]; exact hbd2, hB.trans (hb2.mono (by omega))⟩
      case measure => simp [RowKit.intOf]; omega
    · obtain rfl : k = 64 := by omega
      have hszr : w.heap.size < wr.heap.size := (Array.getElem?_eq_some_iff.1 hcw).1
      have hst := Try.Builder_String_any (w.heap.size + 1) (w.heap.size + 1) (dpre n 64) wr hbd (by omega)
      have HST := Lib.hid hst
      clear hst hcw hbd
      go_wp2_with (go_at_call 48; with_reducible refine HST.out.mono ?_; rintro e w2 ⟨rfl, hb2⟩)
      go_ret
      exact ⟨rfl, hB.trans (hb2.mono (by omega))⟩

/-! Parse. -/
def hexv (c : UInt8) : Int := Lib.indexByte letters.data.toList c
theorem hexv_range (c : UInt8) : -1 ≤ hexv c ∧ hexv c < 16 := by
  have h : ∀ i : Fin 256, -1 ≤ hexv (UInt8.ofNat i.val) ∧ hexv (UInt8.ofNat i.val) < 16 := by decide +kernel
  have h1 := h ⟨c.toNat, UInt8.toNat_lt c⟩
  simpa using h1
theorem hexv_dig (m : Nat) (hm : m < 16) : hexv (dig m) = m := by
  have h : ∀ i : Fin 16, hexv (dig i.val) = i.val := by decide +kernel
  exact h ⟨m, hm⟩
def hexN (l : List UInt8) : Nat := l.foldl (fun n c => 16 * n + (hexv c).toNat) 0
theorem hexN_snoc (l : List UInt8) (c : UInt8) : hexN (l ++ [c]) = 16 * hexN l + (hexv c).toNat := by simp [hexN]
theorem hexN_from (l : List UInt8) (n : Nat) : l.foldl (fun n c => 16 * n + (hexv c).toNat) n < (n + 1) * 16 ^ l.length := by
  induction l generalizing n with
  | nil => simp
  | cons c l ih =>
    have h1 := ih (16 * n + (hexv c).toNat)
    have h2 := hexv_range c
    have h3 : (16 * n + (hexv c).toNat + 1) * 16 ^ l.length ≤ (16 * (n + 1)) * 16 ^ l.length := Nat.mul_le_mul_right _ (by omega)
    rw [List.foldl_cons, List.length_cons, Nat.pow_succ, Nat.mul_comm (16 ^ l.length) 16, ← Nat.mul_assoc, Nat.mul_comm (n + 1) 16]
    exact Nat.lt_of_lt_of_le h1 h3
theorem hexN_lt (l : List UInt8) : hexN l < 16 ^ l.length := by
  have := hexN_from l 0
  simpa [hexN] using this
def hexB (l : List UInt8) : Bool := l.all fun c => decide (0 ≤ hexv c)
theorem set_nib (d c : Nat) (hd : 16 * d + c < top) (hc : c < 16) : (wcells (16 * d)).setIfInBounds 0 (.int .u64 ((w0 (16 * d) ||| c : Nat) : Int)) = wcells (16 * d + c) ∧ w0 (16 * d) ||| c < 18446744073709551616 := by
  have e : w0 (16 * d) ||| c = w0 (16 * d + c) := by
    have h1 := or_add 4 (w0 (16 * d) / 16) c (by omega)
    have h2 : w0 (16 * d) / 16 * 2 ^ 4 = w0 (16 * d) := by unfold w0; omega
    rw [h2] at h1
    rw [h1]
    unfold w0
    omega
  have e1 : w1 (16 * d + c) = w1 (16 * d) := by unfold w1; omega
  have e2 : w2 (16 * d + c) = w2 (16 * d) := by unfold w2; omega
  have e3 : w3 (16 * d + c) = w3 (16 * d) := by unfold w3; omega
  rw [e]
  refine ⟨?_, by unfold w0; omega⟩
  rw [wc, wc, e1, e2, e3]
  rfl
/-- The store of one cell of a box. -/
theorem keeps_cell {W0 W : World} {l : List (Nat × Array Value × TypeId)} (h : Keeps W0 l W) (k : Nat) {g : Nat} {cs : Array Value} {t : TypeId} (hk : l[k]? = some (g, cs, t)) (j : Nat) (v : Value) :
    Keeps W0 (l.set k (g, cs.setIfInBounds j v, t)) (W.setCell ⟨g, j, none⟩ v) := by
  rw [setCell_eq_setRow W g j cs t (0, 0) v (h.get k hk)]
  exact h.put k hk _

set_option maxHeartbeats 1000000 in
theorem parse_short (s : ByteArray) (hl : s.size ≠ 64) (w : World) :
    Calls Try.prog 14 #[.string s] w fun e w' => e = .returned (.tuple #[.agg (wcells 0), .int .i64 30]) ∧ Below w.heap.size w w' := by
  have h1 : ((s.size : Int) != 64) = true := by simp; omega
  go_enter Try.func14, Try.ntmps14
  go_wp2
  exact bodyPost_ret (v := .tuple #[.agg (wcells 0), .int .i64 30]) (by simp [results, Try.results14, go_sem, cells4_zero, cells4]) rfl ⟨rfl, (Below.refl _ _).alloc (Nat.le_refl _) _⟩
theorem keeps2z (w : World) : Keeps w [(w.heap.size, wcells 0, 24), (w.heap.size + 1, wcells 0, 24)] ((w.alloc (.cells #[.int .u64 0, .int .u64 0, .int .u64 0, .int .u64 0] 24)).alloc (.cells #[.int .u64 0, .int .u64 0, .int .u64 0, .int .u64 0] 24)) := by
  have h := ((Keeps.nil w).new (wcells 0) 24).new (wcells 0) 24
  simp only [World.size_alloc, List.nil_append, List.cons_append] at h
  exact h
def parsed (l : List UInt8) : Value := if hexB l then .tuple #[.agg (wcells (hexN l)), .int .i64 0] else .tuple #[.agg (wcells 0), .int .i64 30]

set_option maxRecDepth 100000 in
set_option maxHeartbeats 4000000 in
theorem parse_any (s : ByteArray) (l : List UInt8) (hs : s.data.toList = l) (hl : l.length = 64) (w : World) :
    Calls Try.prog 14 #[.string s] w fun e w' => e = .returned (parsed l) ∧ Below w.heap.size w w' := by
  have hsz : s.size = 64 := by rw [← hl, ← hs]; simp
  have h1 : ((s.size : Int) != 64) = false := by simp; omega
  have hH0 := keeps2z w
  have HS := Lib.hid hs
  have HL := Lib.hid hl
  clear hs hl
  rw [hsz] at h1
  go_enter Try.func14, Try.ntmps14
  go_wp2
  go_loopw [11] (fun v wr => ∃ k : Nat, k ≤ 64 ∧ v = .int .i64 (k : Int) ∧ hexB (l.take k) = true ∧ Keeps w [(w.heap.size, wcells 0, 24), (w.heap.size + 1, wcells (hexN (l.take k)), 24)] wr) (fun v _ => 64 - (RowKit.intOf v).toNat)
  case atStart => exact ⟨0, by omega, rfl, rfl, hH0⟩
  case round =>
    obtain ⟨k, hk, rfl, hx, hH⟩ := hrel
    clear hH0
    by_cases hlt : k < 64
    · have hkl : k < l.length := by rw [HL.out]; exact hlt
      have hks : k < s.size := by omega
      have hsk : s[k]'hks = l[k]'hkl := by
        have : s.data.toList[k]'(by simpa using hks) = l[k]'hkl := by simp only [HS.out]
        show s.data[k]'hks = _
        simpa using this
      obtain ⟨x, hxe⟩ : ∃ x, s[k]'hks = x := ⟨_, rfl⟩
      have hix := fun W => Try.strings_IndexByte letters (x.toNat : Int) W
      have hxx : ((x.toNat : Int).toNat.toUInt8) = x := by simp
      rw [hxx] at hix
      obtain ⟨v, hv⟩ : ∃ v, hexv x = v := ⟨_, rfl⟩
      have hv' : Lib.indexByte letters.data.toList x = v := hv
      rw [hv'] at hix
      unfold letters at hix
      have HIX := Lib.hid hix
      have hr := hexv_range x
      rw [hv] at hr
      have htk : l.take (k + 1) = l.take k ++ [x] := by rw [List.take_succ_eq_append_getElem hkl, ← hsk, hxe]
      have hq := hexN_lt (l.take k)
      rw [List.length_take, Nat.min_eq_left (by omega)] at hq
      by_cases hv0 : v < 0
      · have hbad : hexB l = false := by
          unfold hexB
          rw [List.all_eq_false]
          exact ⟨x, by rw [← hxe, hsk]; exact List.getElem_mem hkl, by rw [hv]; simp; omega⟩
        have hpv : parsed l = .tuple #[.agg (wcells 0), .int .i64 30] := by unfold parsed; rw [hbad]; rfl
        have HPV := Lib.hid hpv
        clear hix hxx hv hv' htk hbad hpv hsk hx
        go_wp2_with (first | (go_at_call 45; with_reducible refine (HIX.out _).mono ?_; rintro e w2 ⟨rfl, rfl⟩) | (refine wpList_put hH 0 rfl 24 _ _ rfl rfl rfl rfl (infoW 0) rfl (oneW 0) ?_; clear hH; intro W1 hH))
        refine bodyPost_ret (results_two _ _ _ w.heap.size 0 30 rfl rfl rfl (hH.get 0 rfl)) rfl ⟨HPV.out.symm ▸ rfl, hH.bel⟩
      · obtain ⟨d, hd⟩ : ∃ d : Nat, v = (d : Int) := ⟨v.toNat, by omega⟩
        subst hd
        have hd16 : d < 16 := by omega
        obtain ⟨q, hqe⟩ : ∃ q, hexN (l.take k) = q := ⟨_, rfl⟩
        have hsn := hexN_snoc (l.take k) x
        rw [← htk, hqe, hv, Int.toNat_natCast] at hsn
        rw [hqe] at hH hq
        have hpow : 16 ^ (k + 1) ≤ top := by
          rw [show top = 16 ^ 64 by unfold top; decide +kernel]
          exact Nat.pow_le_pow_right (by decide) (by omega)
        rw [Nat.pow_succ] at hpow
        have hqt : 16 * q + d < top := by omega
        have hB2 : hexB (l.take (k + 1)) = true := by
          rw [htk]
          unfold hexB at hx ⊢
          rw [List.all_append, hx]
          simp [hv]
        have HLEFT : Hid (∀ W, Calls Try.prog 32 #[.agg (wcells q), .int .i64 4] W fun e w' => e = .returned (.agg (wcells (16 * q))) ∧ Below W.heap.size W w') := fun W => by
          have h := left_any q 4 (by omega) W
          rw [show q * 2 ^ (4 : Int).toNat % top = 16 * q by rw [show (4 : Int).toNat = 4 by rfl, show 2 ^ 4 = 16 by decide, Nat.mul_comm]; exact Nat.mod_eq_of_lt (by omega)] at h
          exact h
        obtain ⟨hset, hor⟩ := set_nib q d hqt hd16
        have ev : bits .or .u64 (w0 (16 * q) : Int) (d : Int) = ((w0 (16 * q) ||| d : Nat) : Int) := u64_or_nat _ _ (by unfold w0; omega) (by omega)
        have HSET := Lib.hid hset
        have HSN := Lib.hid hsn
        have HB2 := Lib.hid hB2
        have ew : IntKind.u64.wrap (d : Int) = (d : Int) := by rw [IntKind.wrap_u64]; omega
        clear hset hsn hix hxx hv hv' htk hB2 hpow hsk hx hqe hq
        go_wp2_with (first | (go_at_call 45; with_reducible refine (HIX.out _).mono ?_; rintro e w2 ⟨rfl, rfl⟩) | (refine wpList_box hH 1 rfl 24 _ rfl rfl rfl _ Try.underlying24 rfl (infoW _) ?_) | (go_at_call 32; with_reducible refine (HLEFT.out _).mono ?_; rintro e W1 ⟨rfl, hB⟩; replace hH := hH.call hB; clear hB) | (refine wpList_put hH 1 rfl 24 _ _ rfl rfl rfl rfl (infoW _) rfl (oneW _) ?_; clear hH; intro W1 hH; have hc0 : W1.cell? ⟨w.heap.size + 1, 0, none⟩ = some (.int .u64 (w0 (16 * q) : Int)) := cell_of_row _ _ 0 _ _ _ (hH.get 1 rfl); have hf0 : W1.frozen? ⟨w.heap.size + 1, 0, none⟩ = false := frozen_of_row _ _ 0 _ _ (hH.get 1 rfl)))
        have hH2 := keeps_cell hH 1 rfl 0 (.int .u64 ((w0 (16 * q) ||| d : Nat) : Int))
        rw [HSET.out] at hH2
        go_roundw
        case rel => exact ⟨k + 1, by omega, by go_num, HB2.out, by rw [HSN.out]; exact hH2⟩
        case measure => simp [RowKit.intOf]; omega
    · obtain rfl : k = 64 := by omega
      have htk : l.take 64 = l := List.take_of_length_le (by rw [HL.out]; omega)
      rw [htk] at hx hH
      have hpv : parsed l = .tuple #[.agg (wcells (hexN l)), .int .i64 0] := by unfold parsed; rw [hx]; rfl
      have HPV := Lib.hid hpv
      clear htk hx hpv
      go_wp2_with (first | (refine wpList_box hH 1 rfl 24 _ rfl rfl rfl _ Try.underlying24 rfl (infoW _) ?_) | (refine wpList_put hH 0 rfl 24 _ _ rfl rfl rfl rfl (infoW _) rfl (oneW _) ?_; clear hH; intro W1 hH))
      refine bodyPost_ret (results_two _ _ _ w.heap.size (hexN l) 0 rfl rfl rfl (hH.get 0 rfl)) rfl ⟨HPV.out.symm ▸ rfl, hH.bel⟩
end Go.Proofs.Ytgmgejjlhlibkaa.Oct
