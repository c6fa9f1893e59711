/- CrcParts, walked. No condition beyond the memory's reach. -/
import Derived.Test.YtagcdgfdflnphaaCrcH
import Derived.Test.YtagcdgfdflnphaaReg3
import Derived.RegionTactic
import Derived.Deep.RegionWith
import Derived.Deep.QuietTactic
import Derived.BigQuiet
namespace Go.Proofs.Ytagcdgfdflnphaa
open Go.RowKit

theorem Holds8.front {n₀ : Nat} {W : World} {A : Option Addr} {l m : List UInt8} (h : Holds8 n₀ W A (l ++ m)) : Holds8 n₀ W A l := by
  rcases h with ⟨e1, e2⟩ | ⟨b, off, e, hb, hc⟩
  · exact .inl ⟨e1, (List.append_eq_nil_iff.1 e2).1⟩
  · exact .inr ⟨b, off, e, hb, fun j hj => by
      have := hc j (by rw [List.length_append]; omega)
      rwa [List.getElem_append_left hj] at this⟩
def partsAll (A : Option Addr) (xs : List UInt8) (i j ca : Nat) : List (Option Addr × List UInt8 × Nat) := [(A, xs.take i, ca), (cutAt A i ca, (xs.drop i).take (j - i), ca - i), (cutAt A j ca, (xs.drop j).take (xs.length - j), ca - j)]
def onePart (A : Option Addr) (l : List UInt8) (ca : Nat) : List (Option Addr × List UInt8 × Nat) := [(A, l, ca)]
def partsOne (A : Option Addr) (xs : List UInt8) (i ca : Nat) : List (Option Addr × List UInt8 × Nat) := [(A, xs.take i, ca)]
def over (n : Nat) (xs ys zs : List UInt8) : List UInt8 := List.zipWith (fun x p => x ^^^ p) (List.zipWith (fun x y => x ^^^ y) (xs.take n) (ys.take n)) (zs.take n)
theorem over_length {n : Nat} {xs ys zs : List UInt8} (h1 : n ≤ xs.length) (h2 : n ≤ ys.length) (h3 : n ≤ zs.length) : (over n xs ys zs).length = n := by
  unfold over
  simp only [List.length_zipWith, List.length_take]
  omega
theorem over_get {n : Nat} {xs ys zs : List UInt8} (h1 : n ≤ xs.length) (h2 : n ≤ ys.length) (h3 : n ≤ zs.length) {k : Nat} (hk : k < n) (hk' : k < (over n xs ys zs).length) : (over n xs ys zs)[k] = xs[k]'(by omega) ^^^ ys[k]'(by omega) ^^^ zs[k]'(by omega) := by
  show (List.zipWith (fun x p => x ^^^ p) (List.zipWith (fun x y => x ^^^ y) (xs.take n) (ys.take n)) (zs.take n))[k]'(by simp only [List.length_zipWith, List.length_take]; omega) = _
  simp only [List.getElem_zipWith, List.getElem_take]
theorem onS_over_n {n : Nat} {xs ys zs : List UInt8} (h1 : n ≤ xs.length) (h2 : n ≤ ys.length) (h3 : n ≤ zs.length) : onS 0 (over n xs ys zs) = onS 0 (xs.take n) ^^^ onS 0 (ys.take n) ^^^ onS 0 (zs.take n) :=
  onS_over _ _ _ (by simp only [List.length_take]; omega) (by simp only [List.length_take]; omega)
theorem min_three (a b c n : Nat) (h : min (min a b) c = n) (W : World) : (Builtin.min_ #[3, 3, 3] 3 #[.int .i64 (a : Int), .int .i64 (b : Int), .int .i64 (c : Int)]).run Try.prog W = .ok (.int .i64 (n : Int)) W := by
  have : (if (c : Int) < (if (b : Int) < (a : Int) then (b : Int) else (a : Int)) then (c : Int) else (if (b : Int) < (a : Int) then (b : Int) else (a : Int))) = (n : Int) := by
    by_cases h1 : (b : Int) < (a : Int)
    · rw [if_pos h1]
      by_cases h2 : (c : Int) < (b : Int)
      · rw [if_pos h2]; omega
      · rw [if_neg h2]; omega
    · rw [if_neg h1]
      by_cases h2 : (c : Int) < (a : Int)
      · rw [if_pos h2]; omega
      · rw [if_neg h2]; omega
  rw [← this]
  simp [Builtin.min_, Builtin.min2]
theorem vals_append (a b : List UInt8) : vals (a ++ b) = vals a ++ vals b := by simp [vals]
theorem own_row_ge {w : World} {base : Nat} {v : Value} {n : Nat} {xs : List Value} (h : w.ownsRow base 5 1 v n xs) : ∀ k, v.ownBlock = some k → base ≤ k := by
  intro k e
  rcases h.2 with ⟨rfl, _⟩ | ⟨g, cap, cur, rfl, hb, _⟩
  · simp [Value.ownBlock] at e
  · simp [Value.ownBlock] at e
    omega
theorem ownsRow_below {w w' : World} {base e s : Nat} {v : Value} {n : Nat} {xs : List Value} (h : w.ownsRow base e s v n xs) (hb : Below w.heap.size w w') : w'.ownsRow base e s v n xs := by
  refine ⟨h.1, ?_⟩
  rcases h.2 with h | ⟨g, cap, cur, rfl, hb0, hh, r⟩
  · exact .inl h
  · exact .inr ⟨g, cap, cur, rfl, hb0, by rw [hb.block _ (Array.getElem?_eq_some_iff.1 hh).1]; exact hh, r⟩
theorem cell_one {W : World} {g : Nat} {x : Value} (h : W.cell? ⟨g, 0, none⟩ = some x) : ∀ j u, [x][j]? = some u → W.cell? ((⟨g, 0, none⟩ : Addr).add j) = some u := by
  intro j u hj
  match j, hj with
  | 0, hj =>
    simp at hj
    subst hj
    simpa [Addr.add] using h
theorem sum_at (ps : List (Option Addr × List UInt8 × Nat)) (hl : ps.length ≤ 1000000) (w : World) (g : Nat) (hg : g < w.heap.size) (hc : ∀ j u, (asRow ps)[j]? = some u → w.cell? ⟨g, j, none⟩ = some u) (hb : ∀ p ∈ ps, Holds8 w.heap.size w p.1 p.2.1 ∧ p.2.1.length ≤ 140737488351232) :
    Calls Try.prog 9 #[.slice (some ⟨g, 0, none⟩) (asRow ps).length (asRow ps).length] w fun e w' => e = .returned (.int .u32 (onS 0 (flat ps) : Int)) ∧ Below w.heap.size w w' := by
  rw [show (asRow ps).length = ps.length by simp [asRow]]
  refine sum_any ps hl ps.length (some ⟨g, 0, none⟩) w ⟨fun k hk => ⟨g, 0, rfl, hg, ?_⟩, hb⟩
  rw [Nat.zero_add]
  refine hc k _ ?_
  simp [asRow, hk]

set_option maxRecDepth 100000 in
set_option maxHeartbeats 4000000 in
theorem parts_walk (xs ys zs : List UInt8) (ca cb cc : Nat) (A B C : Option Addr) (w : World) (hA : Holds8 w.heap.size w A xs) (hB : Holds8 w.heap.size w B ys) (hC : Holds8 w.heap.size w C zs)
    (la : xs.length ≤ ca) (lb : ys.length ≤ cb) (lc : zs.length ≤ cc) (x y : Nat) (hx : x < 65536) (hy : y < 65536) :
    Calls Try.prog 7 #[.slice A xs.length ca, .slice B ys.length cb, .slice C zs.length cc, .int .u16 (x : Int), .int .u16 (y : Int)] w fun e w' => e = .returned (.bool true) ∧ Below w.heap.size w w' := by
  have HA := Lib.hid hA
  have HB := Lib.hid hB
  have HC := Lib.hid hC
  clear hA hB hC
  by_cases hbig : 3000 < xs.length ∨ 3000 < ys.length ∨ 3000 < zs.length
  · by_cases h1 : 3000 < xs.length
    · have d1 : (3000 : Int) < (xs.length : Int) := by omega
      clear hbig h1
      go_enter Try.func7, Try.ntmps7
      go_wp2_with (go_at_call 18; refine (alive_any _).mono ?_; rintro e w1 ⟨rfl, hb1⟩)
      go_ret
      exact ⟨rfl, hb1⟩
    · have d1 : decide ((3000 : Int) < (xs.length : Int)) = false := by simp; omega
      by_cases h2 : 3000 < ys.length
      · have d2 : (3000 : Int) < (ys.length : Int) := by omega
        clear hbig h1 h2
        go_enter Try.func7, Try.ntmps7
        go_wp2_with (go_at_call 18; refine (alive_any _).mono ?_; rintro e w1 ⟨rfl, hb1⟩)
        go_ret
        exact ⟨rfl, hb1⟩
      · have d2 : decide ((3000 : Int) < (ys.length : Int)) = false := by simp; omega
        have d3 : (3000 : Int) < (zs.length : Int) := by omega
        clear hbig h1 h2
        go_enter Try.func7, Try.ntmps7
        go_wp2_with (go_at_call 18; refine (alive_any _).mono ?_; rintro e w1 ⟨rfl, hb1⟩)
        go_ret
        exact ⟨rfl, hb1⟩
  · have dA : decide ((3000 : Int) < (xs.length : Int)) = false := by simp; omega
    have dB : decide ((3000 : Int) < (ys.length : Int)) = false := by simp; omega
    have dC : decide ((3000 : Int) < (zs.length : Int)) = false := by simp; omega
    have ha3 : xs.length ≤ 3000 := by omega
    obtain ⟨i, hi⟩ : ∃ i, x % (xs.length + 1) = i := ⟨_, rfl⟩
    have hil : i ≤ xs.length := by have := Nat.mod_lt x (show 0 < xs.length + 1 by omega); omega
    obtain ⟨m, hm⟩ : ∃ m, y % (xs.length - i + 1) = m := ⟨_, rfl⟩
    have hml : i + m ≤ xs.length := by have := Nat.mod_lt y (show 0 < xs.length - i + 1 by omega); omega
    have e1 : (x : Int).tmod ((xs.length : Int) + 1) = (i : Int) := by rw [Int.tmod_eq_emod_of_nonneg (by omega), ← hi]; exact (Int.natCast_emod x (xs.length + 1)).symm
    have e2 : (y : Int).tmod ((xs.length : Int) - (i : Int) + 1) = (m : Int) := by
      rw [show (xs.length : Int) - (i : Int) + 1 = ((xs.length - i + 1 : Nat) : Int) by omega, Int.tmod_eq_emod_of_nonneg (by omega), ← hm]; exact (Int.natCast_emod y (xs.length - i + 1)).symm
    have z1 : ((xs.length : Int) + 1 == 0) = false := by simp; omega
    have z2 : ((xs.length : Int) - (i : Int) + 1 == 0) = false := by simp; omega
    clear hi hm hbig
    go_enter Try.func7, Try.ntmps7
    go_wp2_with (first
      | (go_at_call 18; refine (alive_any _).mono ?_; rintro e w1 ⟨rfl, hb1⟩)
      | (go_at_call 9; refine (sum_one xs (by omega) ca A w1 (HA.out.later hb1)).mono ?_; rintro e w2 ⟨rfl, hb2⟩))
    obtain ⟨j, hj⟩ : ∃ j, i + m = j := ⟨_, rfl⟩
    have hjm : (i : Int) + (m : Int) = (j : Int) := by omega
    have hij : i ≤ j := by omega
    have hjl : j ≤ xs.length := by omega
    have HA7 := Lib.hid ((HA.out.later hb1).later hb2)
    have HW := Lib.hid HA.out.where_
    have HLM := Lib.hid (show ((xs.drop i).take (j - i)).length = j - i by rw [List.length_take, List.length_drop]; omega)
    have HLF := Lib.hid (show ((xs.drop j).take (xs.length - j)).length = xs.length - j by rw [List.length_take, List.length_drop]; omega)
    have HLT := Lib.hid (show (xs.take i).length = i by rw [List.length_take]; omega)
    have htm : xs.take i ++ (xs.drop i).take (j - i) = xs.take j := by rw [show j = i + (j - i) by omega, List.take_add]; simp
    have htf : xs.take j ++ (xs.drop j).take (xs.length - j) = xs := by rw [show (xs.drop j).take (xs.length - j) = xs.drop j from List.take_of_length_le (by rw [List.length_drop]; exact Nat.le_refl _)]; exact List.take_append_drop j xs
    have HOM := Lib.hid (show onS (onS 0 (xs.take i)) ((xs.drop i).take (j - i)) = onS 0 (xs.take j) by rw [onS_append 0 (by decide), htm])
    have HOF := Lib.hid (show onS (onS 0 (xs.take j)) ((xs.drop j).take (xs.length - j)) = onS 0 xs by rw [onS_append 0 (by decide), htf])
    have HF1 := Lib.hid (show flat (partsOne A xs i ca) = xs.take i by simp [flat, partsOne])
    have HF3 := Lib.hid (show flat (partsAll A xs i j ca) = xs by simp only [flat, partsAll, List.map_cons, List.map_nil, List.flatten_cons, List.flatten_nil, List.append_nil]; rw [← List.append_assoc, htm, htf])
    have hbyt : ∀ W0, Later w2 W0 → ∀ p ∈ partsAll A xs i j ca, Holds8 W0.heap.size W0 p.1 p.2.1 ∧ p.2.1.length ≤ 140737488351232 := by
      intro W0 hS p hp
      have h0 := HA7.out.later hS
      simp only [partsAll, List.mem_cons, List.not_mem_nil, or_false] at hp
      rcases hp with rfl | rfl | rfl
      · refine ⟨?_, by rw [HLT.out]; omega⟩
        rw [← List.take_append_drop i xs] at h0
        exact h0.front
      · exact ⟨h0.cut hij hjl la, by rw [HLM.out]; omega⟩
      · exact ⟨h0.cut hjl (Nat.le_refl _) la, by rw [HLF.out]; omega⟩
    have HP3 := Lib.hid hbyt
    have HP1 := Lib.hid (show ∀ W0, Later w2 W0 → ∀ p ∈ partsOne A xs i ca, Holds8 W0.heap.size W0 p.1 p.2.1 ∧ p.2.1.length ≤ 140737488351232 from fun W0 hS p hp => hbyt W0 hS p (by
      simp only [partsOne, List.mem_singleton] at hp
      rw [hp]
      exact List.mem_cons_self))
    have HR3 := Lib.hid (show asRow (partsAll A xs i j ca) = [.slice A i ca, .slice (cutAt A i ca) (j - i) (ca - i), .slice (cutAt A j ca) (xs.length - j) (ca - j)] by simp only [asRow, partsAll, List.map_cons, List.map_nil]; rw [HLT.out, HLM.out, HLF.out])
    have HR1 := Lib.hid (show asRow (partsOne A xs i ca) = [.slice A i ca] by simp only [asRow, partsOne, List.map_cons, List.map_nil]; rw [HLT.out])
    clear hbyt htm htf
    refine wp_region_tys 141 rfl [.is (.slice A xs.length ca), .is (.int .i64 (i : Int)), .is (.slice A i ca), .is (.slice A xs.length ca), .is (.int .i64 (i : Int)), .is (.int .i64 ((i : Int) + (m : Int))), .is (.slice (cutAt A i ca) (j - i) (ca - i)), .is (.slice A xs.length ca), .is (.int .i64 ((i : Int) + (m : Int))), .is (.slice (cutAt A j ca) (xs.length - j) (ca - j)), .row (asRow (partsAll A xs i j ca)), .is (.int .u32 (onS 0 xs : Int)), .is (.int .u32 (onS 0 xs : Int)), .is (.bool false), .is (.bool false), .is (.slice A xs.length ca), .is (.int .i64 (i : Int)), .is (.slice A i ca), .row (asRow (partsOne A xs i ca)), .is (.int .u32 (onS 0 (xs.take i) : Int)), .is (.slice A xs.length ca), .is (.int .i64 (i : Int)), .is (.int .i64 ((i : Int) + (m : Int))), .is (.slice (cutAt A i ca) (j - i) (ca - i)), .is (.int .u32 (onS 0 (xs.take j) : Int)), .is (.slice A xs.length ca), .is (.int .i64 ((i : Int) + (m : Int))), .is (.slice (cutAt A j ca) (xs.length - j) (ca - j)), .is (.int .u32 (onS 0 xs : Int)), .is (.int .u32 (onS 0 xs : Int)), .is (.bool false), .is (.bool false)] (by kernel_rfl) (by kernel_rfl) (by kernel_rfl) (by kernel_rfl) (by kernel_rfl) (by kernel_rfl) ⟨?ob0, ?ob1, ?ob2, ?ob3, ?ob4, ?ob5, ?ob6, ?ob7, ?ob8, ?ob9, ?ob10, ?ob11, ?ob12, ?ob13, ?ob14, ?ob15, ?ob16, ?ob17, ?ob18, ?ob19, ?ob20, ?ob21, ?ob22, ?ob23, ?ob24, ?ob25, ?ob26, ?ob27, ?ob28, ?ob29, ?ob30, ?ob31, trivial⟩ ?obend
    case ob0 =>
      intro vals W0 F hF hS hd
      have E0 : F.eval (.tmp 0) = .slice A xs.length ca := hF.out_ (by kernel_rfl) rfl
      refine .inr ⟨wanted_none rfl, .inl ⟨.slice A xs.length ca, ?_, Ty.of_is rfl⟩⟩
      simp only [execOp, E0, Sem.run_pure]
    case ob1 =>
      intro vals W0 F hF hS hd
      have E12 : F.eval (.tmp 12) = .int .i64 (i : Int) := hF.out_ (by kernel_rfl) rfl
      refine .inr ⟨wanted_none rfl, .inl ⟨.int .i64 (i : Int), ?_, Ty.of_is rfl⟩⟩
      simp only [execOp, E12, Sem.run_pure]
    case ob2 =>
      intro vals W0 F hF hS hd
      have d0 : vals 0 = .slice A xs.length ca := hd ⟨0, .data⟩ (Array.mem_of_getElem? (i := 0) rfl) rfl
      have d1 : vals 1 = .int .i64 (i : Int) := hd ⟨1, .data⟩ (Array.mem_of_getElem? (i := 1) rfl) rfl
      have E56 := eval_some (hF.own_ 0 rfl rfl (by decide)); rw [d0] at E56
      have E57 := eval_some (hF.own_ 1 rfl rfl (by decide)); rw [d1] at E57
      refine .inr ⟨wanted_none rfl, ?_⟩
      exact .inl ⟨_, slice_to _ _ _ _ _ _ _ _ A xs.length ca i HW.out E56 E57 (by omega) la W0, Ty.of_is rfl⟩
    case ob3 =>
      intro vals W0 F hF hS hd
      have E0 : F.eval (.tmp 0) = .slice A xs.length ca := hF.out_ (by kernel_rfl) rfl
      refine .inr ⟨wanted_none rfl, .inl ⟨.slice A xs.length ca, ?_, Ty.of_is rfl⟩⟩
      simp only [execOp, E0, Sem.run_pure]
    case ob4 =>
      intro vals W0 F hF hS hd
      have E12 : F.eval (.tmp 12) = .int .i64 (i : Int) := hF.out_ (by kernel_rfl) rfl
      refine .inr ⟨wanted_none rfl, .inl ⟨.int .i64 (i : Int), ?_, Ty.of_is rfl⟩⟩
      simp only [execOp, E12, Sem.run_pure]
    case ob5 =>
      intro vals W0 F hF hS hd
      have E13 : F.eval (.tmp 13) = .int .i64 ((i : Int) + (m : Int)) := hF.out_ (by kernel_rfl) rfl
      refine .inr ⟨wanted_none rfl, .inl ⟨.int .i64 ((i : Int) + (m : Int)), ?_, Ty.of_is rfl⟩⟩
      simp only [execOp, E13, Sem.run_pure]
    case ob6 =>
      intro vals W0 F hF hS hd
      have d3 : vals 3 = .slice A xs.length ca := hd ⟨3, .data⟩ (Array.mem_of_getElem? (i := 0) rfl) rfl
      have d4 : vals 4 = .int .i64 (i : Int) := hd ⟨4, .data⟩ (Array.mem_of_getElem? (i := 1) rfl) rfl
      have d5 : vals 5 = .int .i64 ((i : Int) + (m : Int)) := hd ⟨5, .data⟩ (Array.mem_of_getElem? (i := 2) rfl) rfl
      have E59 := eval_some (hF.own_ 3 rfl rfl (by decide)); rw [d3] at E59
      have E60 := eval_some (hF.own_ 4 rfl rfl (by decide)); rw [d4] at E60
      have E61 := eval_some (hF.own_ 5 rfl rfl (by decide)); rw [d5] at E61
      refine .inr ⟨wanted_none rfl, ?_⟩
      exact .inl ⟨_, slice_mid _ _ _ _ _ _ _ _ _ A xs.length ca i j HW.out E59 E60 (by rw [E61, hjm]) (by omega) (by omega) la W0, Ty.of_is rfl⟩
    case ob7 =>
      intro vals W0 F hF hS hd
      have E0 : F.eval (.tmp 0) = .slice A xs.length ca := hF.out_ (by kernel_rfl) rfl
      refine .inr ⟨wanted_none rfl, .inl ⟨.slice A xs.length ca, ?_, Ty.of_is rfl⟩⟩
      simp only [execOp, E0, Sem.run_pure]
    case ob8 =>
      intro vals W0 F hF hS hd
      have E13 : F.eval (.tmp 13) = .int .i64 ((i : Int) + (m : Int)) := hF.out_ (by kernel_rfl) rfl
      refine .inr ⟨wanted_none rfl, .inl ⟨.int .i64 ((i : Int) + (m : Int)), ?_, Ty.of_is rfl⟩⟩
      simp only [execOp, E13, Sem.run_pure]
    case ob9 =>
      intro vals W0 F hF hS hd
      have d7 : vals 7 = .slice A xs.length ca := hd ⟨7, .data⟩ (Array.mem_of_getElem? (i := 0) rfl) rfl
      have d8 : vals 8 = .int .i64 ((i : Int) + (m : Int)) := hd ⟨8, .data⟩ (Array.mem_of_getElem? (i := 1) rfl) rfl
      have E63 := eval_some (hF.own_ 7 rfl rfl (by decide)); rw [d7] at E63
      have E64 := eval_some (hF.own_ 8 rfl rfl (by decide)); rw [d8] at E64
      refine .inr ⟨wanted_none rfl, ?_⟩
      exact .inl ⟨_, slice_from _ _ _ _ _ _ _ _ A xs.length ca j HW.out E63 (by rw [E64, hjm]) (by omega) la W0, Ty.of_is rfl⟩
    case ob10 =>
      intro vals W0 F hF hS hd
      have d2 : vals 2 = .slice A i ca := hd ⟨2, .data⟩ (Array.mem_of_getElem? (i := 0) rfl) rfl
      have d6 : vals 6 = .slice (cutAt A i ca) (j - i) (ca - i) := hd ⟨6, .data⟩ (Array.mem_of_getElem? (i := 1) rfl) rfl
      have d9 : vals 9 = .slice (cutAt A j ca) (xs.length - j) (ca - j) := hd ⟨9, .data⟩ (Array.mem_of_getElem? (i := 2) rfl) rfl
      have E58 := eval_some (hF.own_ 2 rfl rfl (by decide)); rw [d2] at E58
      have E62 := eval_some (hF.own_ 6 rfl rfl (by decide)); rw [d6] at E62
      have E65 := eval_some (hF.own_ 9 rfl rfl (by decide)); rw [d9] at E65
      refine .inr ⟨wanted_none rfl, ?_⟩
      refine .inr (.inl ⟨_, _, build_three _ _ _ _ _ _ _ _ _ _ _ _ _ _ _ _ _ _ E58 E62 E65 W0, (Below.refl _ _).alloc (Nat.le_refl _) _, ?_⟩)
      show (Ty.row (asRow (partsAll A xs i j ca))).p _ _
      rw [HR3.out]
      exact new_row W0 _ 3 rfl
    case ob11 =>
      intro vals W0 F hF hS hd
      obtain ⟨g10, hspec10, hg10, hc10⟩ := hd ⟨10, .data⟩ (Array.mem_of_getElem? (i := 0) rfl) rfl
      have d10 : vals 10 = .slice (some ⟨g10, 0, none⟩) (asRow (partsAll A xs i j ca)).length (asRow (partsAll A xs i j ca)).length := hspec10
      have E66 := eval_some (hF.own_ 10 rfl rfl (by decide)); rw [d10] at E66
      refine .inr ⟨wanted_none rfl, ?_⟩
      refine .inr (.inr ⟨9, #[.slice (some ⟨g10, 0, none⟩) (asRow (partsAll A xs i j ca)).length (asRow (partsAll A xs i j ca)).length], ?_, (sum_at (partsAll A xs i j ca) (by simp [partsAll]) W0 g10 hg10 hc10 (HP3.out W0 hS)).mono ?_⟩)
      · have Ec : ∀ v, F.eval (.const v) = v := fun _ => rfl; have Ef : ∀ f, F.eval (.func f) = .func (.func f) #[] #[] := fun _ => rfl; clear hF hd; generalize F.eval = ρ at E66 Ec Ef ⊢
        simp [execOp, go_sem, Ec, Ef, E66]
      rintro e W1 ⟨rfl, hb⟩
      exact ⟨_, rfl, hb, by rw [HF3.out]; exact Ty.of_is rfl⟩
    case ob12 =>
      intro vals W0 F hF hS hd
      have E14 : F.eval (.tmp 14) = .int .u32 (onS 0 xs : Int) := hF.out_ (by kernel_rfl) rfl
      refine .inr ⟨wanted_none rfl, .inl ⟨.int .u32 (onS 0 xs : Int), ?_, Ty.of_is rfl⟩⟩
      simp only [execOp, E14, Sem.run_pure]
    case ob13 =>
      intro vals W0 F hF hS hd
      have d11 : vals 11 = .int .u32 (onS 0 xs : Int) := hd ⟨11, .data⟩ (Array.mem_of_getElem? (i := 0) rfl) rfl
      have d12 : vals 12 = .int .u32 (onS 0 xs : Int) := hd ⟨12, .data⟩ (Array.mem_of_getElem? (i := 1) rfl) rfl
      have E67 := eval_some (hF.own_ 11 rfl rfl (by decide)); rw [d11] at E67
      have E68 := eval_some (hF.own_ 12 rfl rfl (by decide)); rw [d12] at E68
      refine .inr ⟨wanted_none rfl, .inl ⟨.bool false, ?_, Ty.of_is rfl⟩⟩
      have Ec : ∀ v, F.eval (.const v) = v := fun _ => rfl; have Ef : ∀ f, F.eval (.func f) = .func (.func f) #[] #[] := fun _ => rfl; clear hF hd; generalize F.eval = ρ at E67 E68 Ec Ef ⊢
      simp [execOp, go_sem, Ec, E67, E68]
    case ob14 =>
      intro vals W0 F hF hS hd
      have d13 : vals 13 = .bool false := hd ⟨13, .data⟩ (Array.mem_of_getElem? (i := 0) rfl) rfl
      have E69 := eval_some (hF.own_ 13 rfl rfl (by decide)); rw [d13] at E69
      refine .inr ⟨wanted_none rfl, .inl ⟨.bool false, ?_, Ty.of_is rfl⟩⟩
      simp only [execOp, E69, Sem.run_pure]
    case ob15 =>
      intro vals W0 F hF hS hd
      have d14 : vals 14 = .bool false := hd ⟨14, .guard⟩ (Array.mem_of_getElem? (i := 0) rfl) rfl
      have E0 : F.eval (.tmp 0) = .slice A xs.length ca := hF.out_ (by kernel_rfl) rfl
      have G := hF.own_ 14 rfl rfl (by decide); rw [d14] at G
      refine .inr ⟨wanted_yes rfl rfl rfl G, .inl ⟨.slice A xs.length ca, ?_, Ty.of_is rfl⟩⟩
      simp only [execOp, E0, Sem.run_pure]
    case ob16 =>
      intro vals W0 F hF hS hd
      have d14 : vals 14 = .bool false := hd ⟨14, .guard⟩ (Array.mem_of_getElem? (i := 0) rfl) rfl
      have E12 : F.eval (.tmp 12) = .int .i64 (i : Int) := hF.out_ (by kernel_rfl) rfl
      have G := hF.own_ 14 rfl rfl (by decide); rw [d14] at G
      refine .inr ⟨wanted_yes rfl rfl rfl G, .inl ⟨.int .i64 (i : Int), ?_, Ty.of_is rfl⟩⟩
      simp only [execOp, E12, Sem.run_pure]
    case ob17 =>
      intro vals W0 F hF hS hd
      have d14 : vals 14 = .bool false := hd ⟨14, .guard⟩ (Array.mem_of_getElem? (i := 2) rfl) rfl
      have d15 : vals 15 = .slice A xs.length ca := hd ⟨15, .data⟩ (Array.mem_of_getElem? (i := 0) rfl) rfl
      have d16 : vals 16 = .int .i64 (i : Int) := hd ⟨16, .data⟩ (Array.mem_of_getElem? (i := 1) rfl) rfl
      have E71 := eval_some (hF.own_ 15 rfl rfl (by decide)); rw [d15] at E71
      have E72 := eval_some (hF.own_ 16 rfl rfl (by decide)); rw [d16] at E72
      have G := hF.own_ 14 rfl rfl (by decide); rw [d14] at G
      refine .inr ⟨wanted_yes rfl rfl rfl G, ?_⟩
      exact .inl ⟨_, slice_to _ _ _ _ _ _ _ _ A xs.length ca i HW.out E71 E72 (by omega) la W0, Ty.of_is rfl⟩
    case ob18 =>
      intro vals W0 F hF hS hd
      have d14 : vals 14 = .bool false := hd ⟨14, .guard⟩ (Array.mem_of_getElem? (i := 1) rfl) rfl
      have d17 : vals 17 = .slice A i ca := hd ⟨17, .data⟩ (Array.mem_of_getElem? (i := 0) rfl) rfl
      have E73 := eval_some (hF.own_ 17 rfl rfl (by decide)); rw [d17] at E73
      have G := hF.own_ 14 rfl rfl (by decide); rw [d14] at G
      refine .inr ⟨wanted_yes rfl rfl rfl G, ?_⟩
      refine .inr (.inl ⟨_, _, build_one _ _ _ _ _ _ _ _ _ _ E73 W0, (Below.refl _ _).alloc (Nat.le_refl _) _, ?_⟩)
      show (Ty.row (asRow (partsOne A xs i ca))).p _ _
      rw [HR1.out]
      exact new_row W0 _ 1 rfl
    case ob19 =>
      intro vals W0 F hF hS hd
      have d14 : vals 14 = .bool false := hd ⟨14, .chain⟩ (Array.mem_of_getElem? (i := 1) rfl) rfl
      obtain ⟨g18, hspec18, hg18, hc18⟩ := hd ⟨18, .data⟩ (Array.mem_of_getElem? (i := 0) rfl) rfl
      have d18 : vals 18 = .slice (some ⟨g18, 0, none⟩) (asRow (partsOne A xs i ca)).length (asRow (partsOne A xs i ca)).length := hspec18
      have E74 := eval_some (hF.own_ 18 rfl rfl (by decide)); rw [d18] at E74
      have G := hF.own_ 14 rfl rfl (by decide); rw [d14] at G
      refine .inr ⟨wanted_yes rfl rfl rfl G, ?_⟩
      refine .inr (.inr ⟨9, #[.slice (some ⟨g18, 0, none⟩) (asRow (partsOne A xs i ca)).length (asRow (partsOne A xs i ca)).length], ?_, (sum_at (partsOne A xs i ca) (by simp [partsOne]) W0 g18 hg18 hc18 (HP1.out W0 hS)).mono ?_⟩)
      · have Ec : ∀ v, F.eval (.const v) = v := fun _ => rfl; have Ef : ∀ f, F.eval (.func f) = .func (.func f) #[] #[] := fun _ => rfl; clear hF hd; generalize F.eval = ρ at E74 Ec Ef ⊢
        simp [execOp, go_sem, Ec, Ef, E74]
      rintro e W1 ⟨rfl, hb⟩
      exact ⟨_, rfl, hb, by rw [HF1.out]; exact Ty.of_is rfl⟩
    case ob20 =>
      intro vals W0 F hF hS hd
      have d14 : vals 14 = .bool false := hd ⟨14, .guard⟩ (Array.mem_of_getElem? (i := 0) rfl) rfl
      have E0 : F.eval (.tmp 0) = .slice A xs.length ca := hF.out_ (by kernel_rfl) rfl
      have G := hF.own_ 14 rfl rfl (by decide); rw [d14] at G
      refine .inr ⟨wanted_yes rfl rfl rfl G, .inl ⟨.slice A xs.length ca, ?_, Ty.of_is rfl⟩⟩
      simp only [execOp, E0, Sem.run_pure]
    case ob21 =>
      intro vals W0 F hF hS hd
      have d14 : vals 14 = .bool false := hd ⟨14, .guard⟩ (Array.mem_of_getElem? (i := 0) rfl) rfl
      have E12 : F.eval (.tmp 12) = .int .i64 (i : Int) := hF.out_ (by kernel_rfl) rfl
      have G := hF.own_ 14 rfl rfl (by decide); rw [d14] at G
      refine .inr ⟨wanted_yes rfl rfl rfl G, .inl ⟨.int .i64 (i : Int), ?_, Ty.of_is rfl⟩⟩
      simp only [execOp, E12, Sem.run_pure]
    case ob22 =>
      intro vals W0 F hF hS hd
      have d14 : vals 14 = .bool false := hd ⟨14, .guard⟩ (Array.mem_of_getElem? (i := 0) rfl) rfl
      have E13 : F.eval (.tmp 13) = .int .i64 ((i : Int) + (m : Int)) := hF.out_ (by kernel_rfl) rfl
      have G := hF.own_ 14 rfl rfl (by decide); rw [d14] at G
      refine .inr ⟨wanted_yes rfl rfl rfl G, .inl ⟨.int .i64 ((i : Int) + (m : Int)), ?_, Ty.of_is rfl⟩⟩
      simp only [execOp, E13, Sem.run_pure]
    case ob23 =>
      intro vals W0 F hF hS hd
      have d14 : vals 14 = .bool false := hd ⟨14, .guard⟩ (Array.mem_of_getElem? (i := 3) rfl) rfl
      have d20 : vals 20 = .slice A xs.length ca := hd ⟨20, .data⟩ (Array.mem_of_getElem? (i := 0) rfl) rfl
      have d21 : vals 21 = .int .i64 (i : Int) := hd ⟨21, .data⟩ (Array.mem_of_getElem? (i := 1) rfl) rfl
      have d22 : vals 22 = .int .i64 ((i : Int) + (m : Int)) := hd ⟨22, .data⟩ (Array.mem_of_getElem? (i := 2) rfl) rfl
      have E76 := eval_some (hF.own_ 20 rfl rfl (by decide)); rw [d20] at E76
      have E77 := eval_some (hF.own_ 21 rfl rfl (by decide)); rw [d21] at E77
      have E78 := eval_some (hF.own_ 22 rfl rfl (by decide)); rw [d22] at E78
      have G := hF.own_ 14 rfl rfl (by decide); rw [d14] at G
      refine .inr ⟨wanted_yes rfl rfl rfl G, ?_⟩
      exact .inl ⟨_, slice_mid _ _ _ _ _ _ _ _ _ A xs.length ca i j HW.out E76 E77 (by rw [E78, hjm]) (by omega) (by omega) la W0, Ty.of_is rfl⟩
    case ob24 =>
      intro vals W0 F hF hS hd
      have d14 : vals 14 = .bool false := hd ⟨14, .guard⟩ (Array.mem_of_getElem? (i := 3) rfl) rfl
      have d19 : vals 19 = .int .u32 (onS 0 (xs.take i) : Int) := hd ⟨19, .data⟩ (Array.mem_of_getElem? (i := 0) rfl) rfl
      have d23 : vals 23 = .slice (cutAt A i ca) (j - i) (ca - i) := hd ⟨23, .data⟩ (Array.mem_of_getElem? (i := 1) rfl) rfl
      have E75 := eval_some (hF.own_ 19 rfl rfl (by decide)); rw [d19] at E75
      have E79 := eval_some (hF.own_ 23 rfl rfl (by decide)); rw [d23] at E79
      have G := hF.own_ 14 rfl rfl (by decide); rw [d14] at G
      refine .inr ⟨wanted_yes rfl rfl rfl G, ?_⟩
      have hon := on_any (onS 0 (xs.take i)) (onS_lt _ _) ((xs.drop i).take (j - i)) (by rw [List.length_take, List.length_drop]; omega) (ca - i) (cutAt A i ca) W0 ((HA7.out.later hS).cut (by omega) (by omega) la)
      rw [HLM.out, HOM.out] at hon
      refine .inr (.inr ⟨11, #[.int .u32 (onS 0 (xs.take i) : Int), .slice (cutAt A i ca) (j - i) (ca - i)], ?_, hon.mono ?_⟩)
      · have Ec : ∀ v, F.eval (.const v) = v := fun _ => rfl; have Ef : ∀ f, F.eval (.func f) = .func (.func f) #[] #[] := fun _ => rfl; clear hF hd; generalize F.eval = ρ at E75 E79 Ec Ef ⊢
        simp [execOp, go_sem, Ec, Ef, E75, E79]
      rintro e W1 ⟨rfl, hb⟩
      exact ⟨_, rfl, hb, Ty.of_is rfl⟩
    case ob25 =>
      intro vals W0 F hF hS hd
      have d14 : vals 14 = .bool false := hd ⟨14, .guard⟩ (Array.mem_of_getElem? (i := 0) rfl) rfl
      have E0 : F.eval (.tmp 0) = .slice A xs.length ca := hF.out_ (by kernel_rfl) rfl
      have G := hF.own_ 14 rfl rfl (by decide); rw [d14] at G
      refine .inr ⟨wanted_yes rfl rfl rfl G, .inl ⟨.slice A xs.length ca, ?_, Ty.of_is rfl⟩⟩
      simp only [execOp, E0, Sem.run_pure]
    case ob26 =>
      intro vals W0 F hF hS hd
      have d14 : vals 14 = .bool false := hd ⟨14, .guard⟩ (Array.mem_of_getElem? (i := 0) rfl) rfl
      have E13 : F.eval (.tmp 13) = .int .i64 ((i : Int) + (m : Int)) := hF.out_ (by kernel_rfl) rfl
      have G := hF.own_ 14 rfl rfl (by decide); rw [d14] at G
      refine .inr ⟨wanted_yes rfl rfl rfl G, .inl ⟨.int .i64 ((i : Int) + (m : Int)), ?_, Ty.of_is rfl⟩⟩
      simp only [execOp, E13, Sem.run_pure]
    case ob27 =>
      intro vals W0 F hF hS hd
      have d14 : vals 14 = .bool false := hd ⟨14, .guard⟩ (Array.mem_of_getElem? (i := 2) rfl) rfl
      have d25 : vals 25 = .slice A xs.length ca := hd ⟨25, .data⟩ (Array.mem_of_getElem? (i := 0) rfl) rfl
      have d26 : vals 26 = .int .i64 ((i : Int) + (m : Int)) := hd ⟨26, .data⟩ (Array.mem_of_getElem? (i := 1) rfl) rfl
      have E81 := eval_some (hF.own_ 25 rfl rfl (by decide)); rw [d25] at E81
      have E82 := eval_some (hF.own_ 26 rfl rfl (by decide)); rw [d26] at E82
      have G := hF.own_ 14 rfl rfl (by decide); rw [d14] at G
      refine .inr ⟨wanted_yes rfl rfl rfl G, ?_⟩
      exact .inl ⟨_, slice_from _ _ _ _ _ _ _ _ A xs.length ca j HW.out E81 (by rw [E82, hjm]) (by omega) la W0, Ty.of_is rfl⟩
    case ob28 =>
      intro vals W0 F hF hS hd
      have d14 : vals 14 = .bool false := hd ⟨14, .guard⟩ (Array.mem_of_getElem? (i := 3) rfl) rfl
      have d24 : vals 24 = .int .u32 (onS 0 (xs.take j) : Int) := hd ⟨24, .data⟩ (Array.mem_of_getElem? (i := 0) rfl) rfl
      have d27 : vals 27 = .slice (cutAt A j ca) (xs.length - j) (ca - j) := hd ⟨27, .data⟩ (Array.mem_of_getElem? (i := 1) rfl) rfl
      have E80 := eval_some (hF.own_ 24 rfl rfl (by decide)); rw [d24] at E80
      have E83 := eval_some (hF.own_ 27 rfl rfl (by decide)); rw [d27] at E83
      have G := hF.own_ 14 rfl rfl (by decide); rw [d14] at G
      refine .inr ⟨wanted_yes rfl rfl rfl G, ?_⟩
      have hon := on_any (onS 0 (xs.take j)) (onS_lt _ _) ((xs.drop j).take (xs.length - j)) (by rw [List.length_take, List.length_drop]; omega) (ca - j) (cutAt A j ca) W0 ((HA7.out.later hS).cut (by omega) (by omega) la)
      rw [HLF.out, HOF.out] at hon
      refine .inr (.inr ⟨11, #[.int .u32 (onS 0 (xs.take j) : Int), .slice (cutAt A j ca) (xs.length - j) (ca - j)], ?_, hon.mono ?_⟩)
      · have Ec : ∀ v, F.eval (.const v) = v := fun _ => rfl; have Ef : ∀ f, F.eval (.func f) = .func (.func f) #[] #[] := fun _ => rfl; clear hF hd; generalize F.eval = ρ at E80 E83 Ec Ef ⊢
        simp [execOp, go_sem, Ec, Ef, E80, E83]
      rintro e W1 ⟨rfl, hb⟩
      exact ⟨_, rfl, hb, Ty.of_is rfl⟩
    case ob29 =>
      intro vals W0 F hF hS hd
      have d14 : vals 14 = .bool false := hd ⟨14, .guard⟩ (Array.mem_of_getElem? (i := 0) rfl) rfl
      have E14 : F.eval (.tmp 14) = .int .u32 (onS 0 xs : Int) := hF.out_ (by kernel_rfl) rfl
      have G := hF.own_ 14 rfl rfl (by decide); rw [d14] at G
      refine .inr ⟨wanted_yes rfl rfl rfl G, .inl ⟨.int .u32 (onS 0 xs : Int), ?_, Ty.of_is rfl⟩⟩
      simp only [execOp, E14, Sem.run_pure]
    case ob30 =>
      intro vals W0 F hF hS hd
      have d14 : vals 14 = .bool false := hd ⟨14, .guard⟩ (Array.mem_of_getElem? (i := 2) rfl) rfl
      have d28 : vals 28 = .int .u32 (onS 0 xs : Int) := hd ⟨28, .data⟩ (Array.mem_of_getElem? (i := 0) rfl) rfl
      have d29 : vals 29 = .int .u32 (onS 0 xs : Int) := hd ⟨29, .data⟩ (Array.mem_of_getElem? (i := 1) rfl) rfl
      have E84 := eval_some (hF.own_ 28 rfl rfl (by decide)); rw [d28] at E84
      have E85 := eval_some (hF.own_ 29 rfl rfl (by decide)); rw [d29] at E85
      have G := hF.own_ 14 rfl rfl (by decide); rw [d14] at G
      refine .inr ⟨wanted_yes rfl rfl rfl G, .inl ⟨.bool false, ?_, Ty.of_is rfl⟩⟩
      have Ec : ∀ v, F.eval (.const v) = v := fun _ => rfl; have Ef : ∀ f, F.eval (.func f) = .func (.func f) #[] #[] := fun _ => rfl; clear hF hd; generalize F.eval = ρ at E84 E85 Ec Ef ⊢
      simp [execOp, go_sem, Ec, E84, E85]
    case ob31 =>
      intro vals W0 F hF hS hd
      have d14 : vals 14 = .bool false := hd ⟨14, .data⟩ (Array.mem_of_getElem? (i := 0) rfl) rfl
      have d30 : vals 30 = .bool false := hd ⟨30, .data⟩ (Array.mem_of_getElem? (i := 1) rfl) rfl
      have E70 := eval_some (hF.own_ 14 rfl rfl (by decide)); rw [d14] at E70
      have E86 := eval_some (hF.own_ 30 rfl rfl (by decide)); rw [d30] at E86
      refine .inr ⟨wanted_none rfl, .inl ⟨.bool false, ?_, Ty.of_is rfl⟩⟩
      have Ec : ∀ v, F.eval (.const v) = v := fun _ => rfl; have Ef : ∀ f, F.eval (.func f) = .func (.func f) #[] #[] := fun _ => rfl; clear hF hd; generalize F.eval = ρ at E70 E86 Ec Ef ⊢
      simp [execOp, go_sem, Ec, E70, E86]
    case obend =>
      intro vals W0 F hF hdef hS hT
      have d31 : vals 31 = .bool false := hT 31 (by decide)
      have HBW := Lib.hid ((hb1.trans (hb2.mono hb1.size)).trans (hS.mono (hb1.trans (hb2.mono hb1.size)).size))
      have HAW := Lib.hid (HA.out.later HBW.out)
      have HBWb := Lib.hid (HB.out.later HBW.out)
      have HCW := Lib.hid (HC.out.later HBW.out)
      rename_i K hK
      refine hK _ _ ?_
      rw [hF.act]
      simp only [fin, Act.put, List.setIfInBounds_toArray, List.set_cons_succ, List.set_cons_zero, d31]
      clear hF hT d31 hS hb1 hb2 HA7 HP3 HP1 HR3 HR1 HLM HLF HLT HOM HOF HF1 HF3 HW e1 e2 z1 z2
      obtain ⟨n, hn⟩ : ∃ n, min (min xs.length ys.length) zs.length = n := ⟨_, rfl⟩
      have hn1 : n ≤ xs.length := by omega
      have hn2 : n ≤ ys.length := by omega
      have hn3 : n ≤ zs.length := by omega
      have hminr := min_three xs.length ys.length zs.length n hn
      clear hn
      obtain ⟨ov, hov⟩ : ∃ ov, over n xs ys zs = ov := ⟨_, rfl⟩
      have HOL := Lib.hid (show ov.length = n by rw [← hov]; exact over_length hn1 hn2 hn3)
      have HOG := Lib.hid (show ∀ k (hk : k < n) (h1 : k < ov.length) (a1 : k < xs.length) (a2 : k < ys.length) (a3 : k < zs.length), ov[k] = xs[k] ^^^ ys[k] ^^^ zs[k] by subst hov; intro k hk h1 a1 a2 a3; exact over_get hn1 hn2 hn3 hk h1)
      have HOS := Lib.hid (show onS 0 ov = onS 0 (xs.take n) ^^^ onS 0 (ys.take n) ^^^ onS 0 (zs.take n) by rw [← hov]; exact onS_over_n hn1 hn2 hn3)
      clear hov
      obtain ⟨i0, hi, hz0, hz1, hz2⟩ := info_parts byte_info
      go_wp2
      go_loopw [16, 17] (fun o k wr => ∃ q : Nat, q ≤ n ∧ k = .int .i64 (q : Int) ∧ wr.ownsRow w.heap.size 5 1 o q (Go.Proofs.Ytagcdgfdflnphaa.vals (ov.take q)) ∧ Below w.heap.size w wr) (fun _ k _ => n - (intOf k).toNat)
      case atStart => exact ⟨0, by omega, rfl, World.ownsRow_nil _ _ _ _, HBW.out⟩
      case round =>
        obtain ⟨q, hq, rfl, hrow, hBr⟩ := hrel
        by_cases hlt : q < n
        · obtain ⟨ba, oa, rfl, hba, hca⟩ := (HA.out.below hBr (Nat.le_refl _)).at_ (show q < xs.length by omega)
          obtain ⟨bb, ob, rfl, hbb, hcb⟩ := (HB.out.below hBr (Nat.le_refl _)).at_ (show q < ys.length by omega)
          obtain ⟨bc, oc, rfl, hbc, hcc⟩ := (HC.out.below hBr (Nat.le_refl _)).at_ (show q < zs.length by omega)
          have HG := Lib.hid (HOG.out q hlt (by rw [HOL.out]; exact hlt) (by omega) (by omega) (by omega))
          obtain ⟨xa, hxa⟩ : ∃ xa, xs[q]'(by omega) = xa := ⟨_, rfl⟩
          obtain ⟨xb, hxb⟩ : ∃ xb, ys[q]'(by omega) = xb := ⟨_, rfl⟩
          obtain ⟨xc, hxc⟩ : ∃ xc, zs[q]'(by omega) = xc := ⟨_, rfl⟩
          rw [hxa] at hca HG
          rw [hxb] at hcb HG
          rw [hxc] at hcc HG
          have ua := UInt8.toNat_lt xa
          have ub := UInt8.toNat_lt xb
          have uc := UInt8.toNat_lt xc
          clear hxa hxb hxc
          have b1 : bits .xor .u8 (xa.toNat : Int) (xb.toNat : Int) = ((xa ^^^ xb).toNat : Int) := by rw [UInt8.toNat_xor]; exact u8_xor_nat xa.toNat xb.toNat ua ub
          obtain ⟨xab, hxab⟩ : ∃ xab, xa ^^^ xb = xab := ⟨_, rfl⟩
          rw [hxab] at b1 HG
          have uab := UInt8.toNat_lt xab
          have b2 : bits .xor .u8 (xab.toNat : Int) (xc.toNat : Int) = ((xab ^^^ xc).toNat : Int) := by rw [UInt8.toNat_xor]; exact u8_xor_nat xab.toNat xc.toNat uab uc
          obtain ⟨xv, hxv⟩ : ∃ xv, xab ^^^ xc = xv := ⟨_, rfl⟩
          rw [hxv] at b2 HG
          have uv := UInt8.toNat_lt xv
          have hn3k : n ≤ 3000 := by omega
          clear hxab hxv
          have la' : q < xs.length := by omega
          have lb' : q < ys.length := by omega
          have lc' : q < zs.length := by omega
          go_wp2_with fail
          refine wp_region_phased 141 rfl (fun k d W W' => (k = 0 → d = 0 → Later W W') ∧ (1 ≤ k → W' = W)) (fun p W' => (p = 0 → Below wr.heap.size wr W') ∧ Below w.heap.size w W') [.is (u16), .is (.slice (some ⟨ba, oa, none⟩) xs.length ca), .is (.int .i64 (q : Int)), .is (.pointer (some ⟨ba, oa + q, none⟩)), .is (.int .u8 (xa.toNat : Int)), .is (.slice (some ⟨bb, ob, none⟩) ys.length cb), .is (.int .i64 (q : Int)), .is (.pointer (some ⟨bb, ob + q, none⟩)), .is (.int .u8 (xb.toNat : Int)), .is (.int .u8 (xab.toNat : Int)), .is (.slice (some ⟨bc, oc, none⟩) zs.length cc), .is (.int .i64 (q : Int)), .is (.pointer (some ⟨bc, oc + q, none⟩)), .is (.int .u8 (xc.toNat : Int)), .is (.int .u8 (xv.toNat : Int)), ⟨0, 0, fun v W => ∃ g, v = .slice (some ⟨g, 0, none⟩) 1 1 ∧ g < W.heap.size ∧ W.cell? ⟨g, 0, none⟩ = some (.int .u8 (xv.toNat : Int)), fun k d v W W' _ hk ⟨g, e, hg, hc⟩ hr => by
              have hl := hr.1 (by omega) (by omega)
              exact ⟨g, e, Nat.lt_of_lt_of_le hg hl.size, (hl.cell (p := ⟨g, 0, none⟩) hg).trans hc⟩⟩, ⟨1, 1000, fun v wr2 => wr2.ownsRow w.heap.size 5 1 v (q + 1) (Go.Proofs.Ytagcdgfdflnphaa.vals (ov.take q) ++ [.int .u8 (xv.toNat : Int)]), fun k d v W W' hk _ h hr => by rw [hr.2 hk]; exact h⟩, ⟨1, 1000, fun v wr2 => wr2.ownsRow w.heap.size 5 1 v (q + 1) (Go.Proofs.Ytagcdgfdflnphaa.vals (ov.take q) ++ [.int .u8 (xv.toNat : Int)]), fun k d v W W' hk _ h hr => by rw [hr.2 hk]; exact h⟩] [16] [0, 0, 0, 0, 0, 0, 0, 0, 0, 0, 0, 0, 0, 0, 0, 0, 0, 1] [0, 0, 0, 0, 0, 0, 0, 0, 0, 0, 0, 0, 0, 0, 0, 0, 0, 1] (by kernel_rfl) (by kernel_rfl) (by kernel_rfl) (fun _ _ _ => ⟨fun _ _ => Later.refl _, fun _ => rfl⟩) (⟨fun _ => (Below.refl _ _).drew, hBr.drew⟩) ⟨?ob0, ?ob1, ?ob2, ?ob3, ?ob4, ?ob5, ?ob6, ?ob7, ?ob8, ?ob9, ?ob10, ?ob11, ?ob12, ?ob13, ?ob14, ?ob15, ?ob16, ?ob17, trivial⟩ ?obend
          case ob0 =>
            intro p vals W1 F hF hlo hhi hI hd
            have hp : p = 0 := Nat.le_antisymm hhi hlo
            subst hp
            clear hlo hhi
            have E16 : F.eval (.tmp 16) = u16 := hF.out_ (by kernel_rfl) rfl
            refine .inr ⟨wanted_none rfl, .inl ⟨u16, ?_, hI, TyP.of_is rfl⟩⟩
            simp only [execOp, E16, Sem.run_pure]
          case ob1 =>
            intro p vals W1 F hF hlo hhi hI hd
            have hp : p = 0 := Nat.le_antisymm hhi hlo
            subst hp
            clear hlo hhi
            have E0 : F.eval (.tmp 0) = .slice (some ⟨ba, oa, none⟩) xs.length ca := hF.out_ (by kernel_rfl) rfl
            refine .inr ⟨wanted_none rfl, .inl ⟨.slice (some ⟨ba, oa, none⟩) xs.length ca, ?_, hI, TyP.of_is rfl⟩⟩
            simp only [execOp, E0, Sem.run_pure]
          case ob2 =>
            intro p vals W1 F hF hlo hhi hI hd
            have hp : p = 0 := Nat.le_antisymm hhi hlo
            subst hp
            clear hlo hhi
            have E17 : F.eval (.tmp 17) = .int .i64 (q : Int) := hF.out_ (by kernel_rfl) rfl
            refine .inr ⟨wanted_none rfl, .inl ⟨.int .i64 (q : Int), ?_, hI, TyP.of_is rfl⟩⟩
            simp only [execOp, E17, Sem.run_pure]
          case ob3 =>
            intro p vals W1 F hF hlo hhi hI hd
            have hp : p = 0 := Nat.le_antisymm hhi hlo
            subst hp
            clear hlo hhi
            have d1 : vals 1 = .slice (some ⟨ba, oa, none⟩) xs.length ca := hd ⟨1, .data⟩ (Array.mem_of_getElem? (i := 0) rfl) rfl (show (0 : Nat) ≤ 1000 by decide)
            have d2 : vals 2 = .int .i64 (q : Int) := hd ⟨2, .data⟩ (Array.mem_of_getElem? (i := 1) rfl) rfl (show (0 : Nat) ≤ 1000 by decide)
            have E101 := eval_some (hF.own_ 1 rfl rfl (by kernel_rfl) (by decide)); rw [d1] at E101
            have E102 := eval_some (hF.own_ 2 rfl rfl (by kernel_rfl) (by decide)); rw [d2] at E102
            refine .inr ⟨wanted_none rfl, .inl ⟨.pointer (some ⟨ba, oa + q, none⟩), ?_, hI, TyP.of_is rfl⟩⟩
            have Ec : ∀ v, F.eval (.const v) = v := fun _ => rfl; have Ef : ∀ f, F.eval (.func f) = .func (.func f) #[] #[] := fun _ => rfl; clear hF hd; generalize F.eval = ρ at E101 E102 Ec Ef ⊢
            simp [execOp, go_sem, Ec, E101, E102, la']
          case ob4 =>
            intro p vals W1 F hF hlo hhi hI hd
            have hp : p = 0 := Nat.le_antisymm hhi hlo
            subst hp
            clear hlo hhi
            have d3 : vals 3 = .pointer (some ⟨ba, oa + q, none⟩) := hd ⟨3, .data⟩ (Array.mem_of_getElem? (i := 0) rfl) rfl (show (0 : Nat) ≤ 1000 by decide)
            have E103 := eval_some (hF.own_ 3 rfl rfl (by kernel_rfl) (by decide)); rw [d3] at E103
            have hcl := ((hI.1 rfl).cell (p := ⟨ba, oa + q, none⟩) (by have := hBr.size; show ba < _; omega)).trans hca
            refine .inr ⟨wanted_none rfl, .inl ⟨.int .u8 (xa.toNat : Int), ?_, hI, TyP.of_is rfl⟩⟩
            have Ec : ∀ v, F.eval (.const v) = v := fun _ => rfl; have Ef : ∀ f, F.eval (.func f) = .func (.func f) #[] #[] := fun _ => rfl; clear hF hd; generalize F.eval = ρ at E103 Ec Ef ⊢
            simp [execOp, go_sem, Ec, E103, hcl]
          case ob5 =>
            intro p vals W1 F hF hlo hhi hI hd
            have hp : p = 0 := Nat.le_antisymm hhi hlo
            subst hp
            clear hlo hhi
            have E1 : F.eval (.tmp 1) = .slice (some ⟨bb, ob, none⟩) ys.length cb := hF.out_ (by kernel_rfl) rfl
            refine .inr ⟨wanted_none rfl, .inl ⟨.slice (some ⟨bb, ob, none⟩) ys.length cb, ?_, hI, TyP.of_is rfl⟩⟩
            simp only [execOp, E1, Sem.run_pure]
          case ob6 =>
            intro p vals W1 F hF hlo hhi hI hd
            have hp : p = 0 := Nat.le_antisymm hhi hlo
            subst hp
            clear hlo hhi
            have E17 : F.eval (.tmp 17) = .int .i64 (q : Int) := hF.out_ (by kernel_rfl) rfl
            refine .inr ⟨wanted_none rfl, .inl ⟨.int .i64 (q : Int), ?_, hI, TyP.of_is rfl⟩⟩
            simp only [execOp, E17, Sem.run_pure]
          case ob7 =>
            intro p vals W1 F hF hlo hhi hI hd
            have hp : p = 0 := Nat.le_antisymm hhi hlo
            subst hp
            clear hlo hhi
            have d5 : vals 5 = .slice (some ⟨bb, ob, none⟩) ys.length cb := hd ⟨5, .data⟩ (Array.mem_of_getElem? (i := 0) rfl) rfl (show (0 : Nat) ≤ 1000 by decide)
            have d6 : vals 6 = .int .i64 (q : Int) := hd ⟨6, .data⟩ (Array.mem_of_getElem? (i := 1) rfl) rfl (show (0 : Nat) ≤ 1000 by decide)
            have E105 := eval_some (hF.own_ 5 rfl rfl (by kernel_rfl) (by decide)); rw [d5] at E105
            have E106 := eval_some (hF.own_ 6 rfl rfl (by kernel_rfl) (by decide)); rw [d6] at E106
            refine .inr ⟨wanted_none rfl, .inl ⟨.pointer (some ⟨bb, ob + q, none⟩), ?_, hI, TyP.of_is rfl⟩⟩
            have Ec : ∀ v, F.eval (.const v) = v := fun _ => rfl; have Ef : ∀ f, F.eval (.func f) = .func (.func f) #[] #[] := fun _ => rfl; clear hF hd; generalize F.eval = ρ at E105 E106 Ec Ef ⊢
            simp [execOp, go_sem, Ec, E105, E106, lb']
          case ob8 =>
            intro p vals W1 F hF hlo hhi hI hd
            have hp : p = 0 := Nat.le_antisymm hhi hlo
            subst hp
            clear hlo hhi
            have d7 : vals 7 = .pointer (some ⟨bb, ob + q, none⟩) := hd ⟨7, .data⟩ (Array.mem_of_getElem? (i := 0) rfl) rfl (show (0 : Nat) ≤ 1000 by decide)
            have E107 := eval_some (hF.own_ 7 rfl rfl (by kernel_rfl) (by decide)); rw [d7] at E107
            have hcl := ((hI.1 rfl).cell (p := ⟨bb, ob + q, none⟩) (by have := hBr.size; show bb < _; omega)).trans hcb
            refine .inr ⟨wanted_none rfl, .inl ⟨.int .u8 (xb.toNat : Int), ?_, hI, TyP.of_is rfl⟩⟩
            have Ec : ∀ v, F.eval (.const v) = v := fun _ => rfl; have Ef : ∀ f, F.eval (.func f) = .func (.func f) #[] #[] := fun _ => rfl; clear hF hd; generalize F.eval = ρ at E107 Ec Ef ⊢
            simp [execOp, go_sem, Ec, E107, hcl]
          case ob9 =>
            intro p vals W1 F hF hlo hhi hI hd
            have hp : p = 0 := Nat.le_antisymm hhi hlo
            subst hp
            clear hlo hhi
            have d4 : vals 4 = .int .u8 (xa.toNat : Int) := hd ⟨4, .data⟩ (Array.mem_of_getElem? (i := 0) rfl) rfl (show (0 : Nat) ≤ 1000 by decide)
            have d8 : vals 8 = .int .u8 (xb.toNat : Int) := hd ⟨8, .data⟩ (Array.mem_of_getElem? (i := 1) rfl) rfl (show (0 : Nat) ≤ 1000 by decide)
            have E104 := eval_some (hF.own_ 4 rfl rfl (by kernel_rfl) (by decide)); rw [d4] at E104
            have E108 := eval_some (hF.own_ 8 rfl rfl (by kernel_rfl) (by decide)); rw [d8] at E108
            refine .inr ⟨wanted_none rfl, .inl ⟨.int .u8 (xab.toNat : Int), ?_, hI, TyP.of_is rfl⟩⟩
            have Ec : ∀ v, F.eval (.const v) = v := fun _ => rfl; have Ef : ∀ f, F.eval (.func f) = .func (.func f) #[] #[] := fun _ => rfl; clear hF hd; generalize F.eval = ρ at E104 E108 Ec Ef ⊢
            simp [execOp, go_sem, Ec, E104, E108, b1]
          case ob10 =>
            intro p vals W1 F hF hlo hhi hI hd
            have hp : p = 0 := Nat.le_antisymm hhi hlo
            subst hp
            clear hlo hhi
            have E2 : F.eval (.tmp 2) = .slice (some ⟨bc, oc, none⟩) zs.length cc := hF.out_ (by kernel_rfl) rfl
            refine .inr ⟨wanted_none rfl, .inl ⟨.slice (some ⟨bc, oc, none⟩) zs.length cc, ?_, hI, TyP.of_is rfl⟩⟩
            simp only [execOp, E2, Sem.run_pure]
          case ob11 =>
            intro p vals W1 F hF hlo hhi hI hd
            have hp : p = 0 := Nat.le_antisymm hhi hlo
            subst hp
            clear hlo hhi
            have E17 : F.eval (.tmp 17) = .int .i64 (q : Int) := hF.out_ (by kernel_rfl) rfl
            refine .inr ⟨wanted_none rfl, .inl ⟨.int .i64 (q : Int), ?_, hI, TyP.of_is rfl⟩⟩
            simp only [execOp, E17, Sem.run_pure]
          case ob12 =>
            intro p vals W1 F hF hlo hhi hI hd
            have hp : p = 0 := Nat.le_antisymm hhi hlo
            subst hp
            clear hlo hhi
            have d10 : vals 10 = .slice (some ⟨bc, oc, none⟩) zs.length cc := hd ⟨10, .data⟩ (Array.mem_of_getElem? (i := 0) rfl) rfl (show (0 : Nat) ≤ 1000 by decide)
            have d11 : vals 11 = .int .i64 (q : Int) := hd ⟨11, .data⟩ (Array.mem_of_getElem? (i := 1) rfl) rfl (show (0 : Nat) ≤ 1000 by decide)
            have E110 := eval_some (hF.own_ 10 rfl rfl (by kernel_rfl) (by decide)); rw [d10] at E110
            have E111 := eval_some (hF.own_ 11 rfl rfl (by kernel_rfl) (by decide)); rw [d11] at E111
            refine .inr ⟨wanted_none rfl, .inl ⟨.pointer (some ⟨bc, oc + q, none⟩), ?_, hI, TyP.of_is rfl⟩⟩
            have Ec : ∀ v, F.eval (.const v) = v := fun _ => rfl; have Ef : ∀ f, F.eval (.func f) = .func (.func f) #[] #[] := fun _ => rfl; clear hF hd; generalize F.eval = ρ at E110 E111 Ec Ef ⊢
            simp [execOp, go_sem, Ec, E110, E111, lc']
          case ob13 =>
            intro p vals W1 F hF hlo hhi hI hd
            have hp : p = 0 := Nat.le_antisymm hhi hlo
            subst hp
            clear hlo hhi
            have d12 : vals 12 = .pointer (some ⟨bc, oc + q, none⟩) := hd ⟨12, .data⟩ (Array.mem_of_getElem? (i := 0) rfl) rfl (show (0 : Nat) ≤ 1000 by decide)
            have E112 := eval_some (hF.own_ 12 rfl rfl (by kernel_rfl) (by decide)); rw [d12] at E112
            have hcl := ((hI.1 rfl).cell (p := ⟨bc, oc + q, none⟩) (by have := hBr.size; show bc < _; omega)).trans hcc
            refine .inr ⟨wanted_none rfl, .inl ⟨.int .u8 (xc.toNat : Int), ?_, hI, TyP.of_is rfl⟩⟩
            have Ec : ∀ v, F.eval (.const v) = v := fun _ => rfl; have Ef : ∀ f, F.eval (.func f) = .func (.func f) #[] #[] := fun _ => rfl; clear hF hd; generalize F.eval = ρ at E112 Ec Ef ⊢
            simp [execOp, go_sem, Ec, E112, hcl]
          case ob14 =>
            intro p vals W1 F hF hlo hhi hI hd
            have hp : p = 0 := Nat.le_antisymm hhi hlo
            subst hp
            clear hlo hhi
            have d9 : vals 9 = .int .u8 (xab.toNat : Int) := hd ⟨9, .data⟩ (Array.mem_of_getElem? (i := 0) rfl) rfl (show (0 : Nat) ≤ 1000 by decide)
            have d13 : vals 13 = .int .u8 (xc.toNat : Int) := hd ⟨13, .data⟩ (Array.mem_of_getElem? (i := 1) rfl) rfl (show (0 : Nat) ≤ 1000 by decide)
            have E109 := eval_some (hF.own_ 9 rfl rfl (by kernel_rfl) (by decide)); rw [d9] at E109
            have E113 := eval_some (hF.own_ 13 rfl rfl (by kernel_rfl) (by decide)); rw [d13] at E113
            refine .inr ⟨wanted_none rfl, .inl ⟨.int .u8 (xv.toNat : Int), ?_, hI, TyP.of_is rfl⟩⟩
            have Ec : ∀ v, F.eval (.const v) = v := fun _ => rfl; have Ef : ∀ f, F.eval (.func f) = .func (.func f) #[] #[] := fun _ => rfl; clear hF hd; generalize F.eval = ρ at E109 E113 Ec Ef ⊢
            simp [execOp, go_sem, Ec, E109, E113, b2]
          case ob15 =>
            intro p vals W1 F hF hlo hhi hI hd
            have hp : p = 0 := Nat.le_antisymm hhi hlo
            subst hp
            clear hlo hhi
            have d14 : vals 14 = .int .u8 (xv.toNat : Int) := hd ⟨14, .data⟩ (Array.mem_of_getElem? (i := 0) rfl) rfl (show (0 : Nat) ≤ 1000 by decide)
            have E114 := eval_some (hF.own_ 14 rfl rfl (by kernel_rfl) (by decide)); rw [d14] at E114
            refine .inr ⟨wanted_none rfl, ?_⟩
            refine .inr (.inl ⟨.slice (some ⟨W1.heap.size, 0, none⟩) 1 1, W1.alloc (.cells #[.int .u8 (xv.toNat : Int)] 5), ?_, ⟨fun _ _ => (Below.refl _ _).alloc (Nat.le_refl _) _, fun h => by omega⟩, ⟨fun _ => (hI.1 rfl).alloc (hI.1 rfl).size _, hI.2.alloc (by have := hI.2.size; omega) _⟩, ?_⟩)
            · have Ec : ∀ v, F.eval (.const v) = v := fun _ => rfl; have Ef : ∀ f, F.eval (.func f) = .func (.func f) #[] #[] := fun _ => rfl; clear hF hd; generalize F.eval = ρ at E114 Ec Ef ⊢
              simp [execOp, go_sem, Ec, E114]
            · exact ⟨W1.heap.size, rfl, by simp, by rw [cell_of_row _ W1.heap.size 0 #[.int .u8 (xv.toNat : Int)] 5 (0, 0) (heap_alloc_new _ _)]; rfl⟩
          case ob16 =>
            intro p vals W1 F hF hlo hhi hI hd
            have hp : p = 0 := Nat.le_antisymm hhi hlo
            subst hp
            clear hlo hhi
            have d0 : vals 0 = u16 := hd ⟨0, .data⟩ (Array.mem_of_getElem? (i := 0) rfl) rfl (show (0 : Nat) ≤ 1000 by decide)
            obtain ⟨g15, hspec15, hg15, hc15⟩ := hd ⟨15, .data⟩ (Array.mem_of_getElem? (i := 1) rfl) rfl (show (0 : Nat) ≤ 0 by decide)
            have d15 : vals 15 = .slice (some ⟨g15, 0, none⟩) 1 1 := hspec15
            have E100 := eval_some (hF.own_ 0 rfl rfl (by kernel_rfl) (by decide)); rw [d0] at E100
            have E115 := eval_some (hF.own_ 15 rfl rfl (by kernel_rfl) (by decide)); rw [d15] at E115
            refine .inr ⟨wanted_none rfl, ?_⟩
            have hrow2 := ownsRow_below hrow (hI.1 rfl)
            obtain ⟨v', w', hr, h2, h3, h4, h5⟩ := run_append_own_at (P := Try.prog) W1 w.heap.size 22 22 5 i0 (.int .u8 0) 1 1 Try.underlying22 hi hz0 hz1 hz2 rfl (by decide) _ _ _ hrow2 ⟨g15, 0, none⟩ 1 1 [.int .u8 (xv.toNat : Int)] rfl (cell_one hc15) (by simp [Value.oneCell']) (by unfold maxLen; omega) (by omega) (by have := hI.2.size; omega)
            refine .inr (.inl ⟨v', w', ?_, ⟨fun _ h => absurd h (by decide), fun h => by omega⟩, ⟨fun h => absurd h (by decide), hI.2.grown h3 (by have := hI.2.size; omega) (own_row_ge hrow2)⟩, h2⟩)
            have Ec : ∀ v, F.eval (.const v) = v := fun _ => rfl; have Ef : ∀ f, F.eval (.func f) = .func (.func f) #[] #[] := fun _ => rfl; clear hF hd; generalize F.eval = ρ at E100 E115 Ec Ef ⊢
            unfold execOp
            simp only [resolve, invoke, builtin, Sem.run_bind, Sem.run_pure, Result.andThen_ok, List.map_toArray, List.map_cons, List.map_nil, E100, E115, hr]
          case ob17 =>
            intro p vals W1 F hF hlo hhi hI hd
            have hp : p = 1 := Nat.le_antisymm hhi hlo
            subst hp
            clear hlo hhi
            obtain hrow16 := hd ⟨16, .data⟩ (Array.mem_of_getElem? (i := 0) rfl) rfl (show (1 : Nat) ≤ 1000 by decide)
            have d16 : vals 16 = vals 16 := rfl
            have E116 := eval_some (hF.own_ 16 rfl rfl (by kernel_rfl) (by decide)); rw [d16] at E116
            refine .inr ⟨wanted_none rfl, ?_⟩
            refine .inl ⟨vals 16, ?_, hI, hrow16⟩
            simp only [execOp, E116, Sem.run_pure]
          case obend =>
            intro vals W1 F hF hdef hI hT
            have hrow' := hT 17 (by decide) (show (1 : Nat) ≤ 1000 by decide)
            have hBf := hI.2
            rename_i K hK
            refine hK _ _ ?_
            rw [hF.act]
            simp only [fin, Act.put, List.setIfInBounds_toArray, List.set_cons_succ, List.set_cons_zero]
            clear hF hT hI
            obtain ⟨v17, hv17⟩ : ∃ v17, vals 17 = v17 := ⟨_, rfl⟩
            rw [hv17] at hrow' ⊢
            clear hv17
            have hrow'2 : W1.ownsRow w.heap.size 5 1 v17 (q + 1) (Go.Proofs.Ytagcdgfdflnphaa.vals (ov.take q) ++ [.int .u8 (xv.toNat : Int)]) := hrow'
            clear hrow'
            go_wp2
            go_roundw
            case rel => exact ⟨q + 1, by omega, by go_num, by rw [List.take_succ_eq_append_getElem (by rw [HOL.out]; exact hlt), HG.out, vals_append]; exact hrow'2, hBf⟩
            case measure => simp [intOf]; omega
        · obtain ⟨Ao, co, rfl, hho, _⟩ := own_holds (bs := ov) (n := q) (by rw [HOL.out]; omega) (by rw [List.take_of_length_le (by rw [HOL.out]; omega)] at hrow; exact hrow)
          have hov := Lib.hid hho
          have hAr := HA.out.later hBr
          have hBr2 := HB.out.later hBr
          have hCr := HC.out.later hBr
          rw [← List.take_append_drop n xs] at hAr
          rw [← List.take_append_drop n ys] at hBr2
          rw [← List.take_append_drop n zs] at hCr
          have hxn := Lib.hid hAr.front
          have hyn := Lib.hid hBr2.front
          have hzn := Lib.hid hCr.front
          have HR3 := Lib.hid (show asRow (onePart Ao ov co) = [.slice Ao ov.length co] from rfl)
          have HR8 := Lib.hid (show asRow (onePart A (xs.take n) ca) = [.slice A n ca] by simp only [asRow, onePart, List.map_cons, List.map_nil, List.length_take]; rw [Nat.min_eq_left hn1])
          have HR13 := Lib.hid (show asRow (onePart B (ys.take n) cb) = [.slice B n cb] by simp only [asRow, onePart, List.map_cons, List.map_nil, List.length_take]; rw [Nat.min_eq_left hn2])
          have HR19 := Lib.hid (show asRow (onePart C (zs.take n) cc) = [.slice C n cc] by simp only [asRow, onePart, List.map_cons, List.map_nil, List.length_take]; rw [Nat.min_eq_left hn3])
          have bx1 := u32_xor_nat (onS 0 (xs.take n)) (onS 0 (ys.take n)) (onS_lt _ _) (onS_lt _ _)
          have bx2 := u32_xor_nat (onS 0 (xs.take n) ^^^ onS 0 (ys.take n)) (onS 0 (zs.take n)) (xor_lt32 (onS_lt _ _) (onS_lt _ _)) (onS_lt _ _)
          clear hho hAr hBr2 hCr
          go_wp2_with fail
          refine wp_region_tys 141 rfl [.is (.bool true), .is (.bool true), .is (.slice Ao ov.length co), .row (asRow (onePart Ao ov co)), .is (.int .u32 (onS 0 ov : Int)), .is (.slice A xs.length ca), .is (.int .i64 (n : Int)), .is (.slice A n ca), .row (asRow (onePart A (xs.take n) ca)), .is (.int .u32 (onS 0 (xs.take n) : Int)), .is (.slice B ys.length cb), .is (.int .i64 (n : Int)), .is (.slice B n cb), .row (asRow (onePart B (ys.take n) cb)), .is (.int .u32 (onS 0 (ys.take n) : Int)), .is (.int .u32 ((onS 0 (xs.take n) ^^^ onS 0 (ys.take n) : Nat) : Int)), .is (.slice C zs.length cc), .is (.int .i64 (n : Int)), .is (.slice C n cc), .row (asRow (onePart C (zs.take n) cc)), .is (.int .u32 (onS 0 (zs.take n) : Int)), .is (.int .u32 ((onS 0 (xs.take n) ^^^ onS 0 (ys.take n) ^^^ onS 0 (zs.take n) : Nat) : Int)), .is (.bool true), .is (.bool true), .is (.bool true)] (by kernel_rfl) (by kernel_rfl) (by kernel_rfl) (by kernel_rfl) (by kernel_rfl) (by kernel_rfl) ⟨?ob0, ?ob1, ?ob2, ?ob3, ?ob4, ?ob5, ?ob6, ?ob7, ?ob8, ?ob9, ?ob10, ?ob11, ?ob12, ?ob13, ?ob14, ?ob15, ?ob16, ?ob17, ?ob18, ?ob19, ?ob20, ?ob21, ?ob22, ?ob23, ?ob24, trivial⟩ ?obend
          case ob0 =>
            intro vals W0 F hF hS hd
            have E11 : F.eval (.tmp 11) = .bool true := hF.out_ (by kernel_rfl) rfl
            refine .inr ⟨wanted_none rfl, .inl ⟨.bool true, ?_, Ty.of_is rfl⟩⟩
            simp only [execOp, E11, Sem.run_pure]
          case ob1 =>
            intro vals W0 F hF hS hd
            have d0 : vals 0 = .bool true := hd ⟨0, .data⟩ (Array.mem_of_getElem? (i := 0) rfl) rfl
            have E117 := eval_some (hF.own_ 0 rfl rfl (by decide)); rw [d0] at E117
            refine .inr ⟨wanted_none rfl, .inl ⟨.bool true, ?_, Ty.of_is rfl⟩⟩
            simp only [execOp, E117, Sem.run_pure]
          case ob2 =>
            intro vals W0 F hF hS hd
            have d1 : vals 1 = .bool true := hd ⟨1, .guard⟩ (Array.mem_of_getElem? (i := 0) rfl) rfl
            have E16 : F.eval (.tmp 16) = .slice Ao ov.length co := hF.out_ (by kernel_rfl) rfl
            have G := hF.own_ 1 rfl rfl (by decide); rw [d1] at G
            refine .inr ⟨wanted_yes rfl rfl rfl G, .inl ⟨.slice Ao ov.length co, ?_, Ty.of_is rfl⟩⟩
            simp only [execOp, E16, Sem.run_pure]
          case ob3 =>
            intro vals W0 F hF hS hd
            have d1 : vals 1 = .bool true := hd ⟨1, .guard⟩ (Array.mem_of_getElem? (i := 1) rfl) rfl
            have d2 : vals 2 = .slice Ao ov.length co := hd ⟨2, .data⟩ (Array.mem_of_getElem? (i := 0) rfl) rfl
            have E119 := eval_some (hF.own_ 2 rfl rfl (by decide)); rw [d2] at E119
            have G := hF.own_ 1 rfl rfl (by decide); rw [d1] at G
            refine .inr ⟨wanted_yes rfl rfl rfl G, ?_⟩
            refine .inr (.inl ⟨_, _, build_one _ _ _ _ _ _ _ _ _ _ E119 W0, (Below.refl _ _).alloc (Nat.le_refl _) _, ?_⟩)
            show (Ty.row (asRow (onePart Ao ov co))).p _ _
            rw [HR3.out]
            exact new_row W0 _ 1 rfl
          case ob4 =>
            intro vals W0 F hF hS hd
            have d1 : vals 1 = .bool true := hd ⟨1, .chain⟩ (Array.mem_of_getElem? (i := 1) rfl) rfl
            obtain ⟨g3, hspec3, hg3, hc3⟩ := hd ⟨3, .data⟩ (Array.mem_of_getElem? (i := 0) rfl) rfl
            have d3 : vals 3 = .slice (some ⟨g3, 0, none⟩) (asRow (onePart Ao ov co)).length (asRow (onePart Ao ov co)).length := hspec3
            have E120 := eval_some (hF.own_ 3 rfl rfl (by decide)); rw [d3] at E120
            have G := hF.own_ 1 rfl rfl (by decide); rw [d1] at G
            refine .inr ⟨wanted_yes rfl rfl rfl G, ?_⟩
            refine .inr (.inr ⟨9, #[.slice (some ⟨g3, 0, none⟩) (asRow (onePart Ao ov co)).length (asRow (onePart Ao ov co)).length], ?_, (sum_at (onePart Ao ov co) (by simp [onePart]) W0 g3 hg3 hc3 (fun p hp => by rw [onePart, List.mem_singleton] at hp; subst hp; exact ⟨hov.out.later hS, by simp only [List.length_take]; have := HOL.out; omega⟩)).mono ?_⟩)
            · have Ec : ∀ v, F.eval (.const v) = v := fun _ => rfl; have Ef : ∀ f, F.eval (.func f) = .func (.func f) #[] #[] := fun _ => rfl; clear hF hd; generalize F.eval = ρ at E120 Ec Ef ⊢
              simp [execOp, go_sem, Ec, Ef, E120]
            rintro e W1 ⟨rfl, hb⟩
            exact ⟨_, rfl, hb, by rw [show flat (onePart Ao ov co) = ov by simp [flat, onePart]]; exact Ty.of_is rfl⟩
          case ob5 =>
            intro vals W0 F hF hS hd
            have d1 : vals 1 = .bool true := hd ⟨1, .guard⟩ (Array.mem_of_getElem? (i := 0) rfl) rfl
            have E0 : F.eval (.tmp 0) = .slice A xs.length ca := hF.out_ (by kernel_rfl) rfl
            have G := hF.own_ 1 rfl rfl (by decide); rw [d1] at G
            refine .inr ⟨wanted_yes rfl rfl rfl G, .inl ⟨.slice A xs.length ca, ?_, Ty.of_is rfl⟩⟩
            simp only [execOp, E0, Sem.run_pure]
          case ob6 =>
            intro vals W0 F hF hS hd
            have d1 : vals 1 = .bool true := hd ⟨1, .guard⟩ (Array.mem_of_getElem? (i := 0) rfl) rfl
            have E15 : F.eval (.tmp 15) = .int .i64 (n : Int) := hF.out_ (by kernel_rfl) rfl
            have G := hF.own_ 1 rfl rfl (by decide); rw [d1] at G
            refine .inr ⟨wanted_yes rfl rfl rfl G, .inl ⟨.int .i64 (n : Int), ?_, Ty.of_is rfl⟩⟩
            simp only [execOp, E15, Sem.run_pure]
          case ob7 =>
            intro vals W0 F hF hS hd
            have d1 : vals 1 = .bool true := hd ⟨1, .guard⟩ (Array.mem_of_getElem? (i := 2) rfl) rfl
            have d5 : vals 5 = .slice A xs.length ca := hd ⟨5, .data⟩ (Array.mem_of_getElem? (i := 0) rfl) rfl
            have d6 : vals 6 = .int .i64 (n : Int) := hd ⟨6, .data⟩ (Array.mem_of_getElem? (i := 1) rfl) rfl
            have E122 := eval_some (hF.own_ 5 rfl rfl (by decide)); rw [d5] at E122
            have E123 := eval_some (hF.own_ 6 rfl rfl (by decide)); rw [d6] at E123
            have G := hF.own_ 1 rfl rfl (by decide); rw [d1] at G
            refine .inr ⟨wanted_yes rfl rfl rfl G, ?_⟩
            exact .inl ⟨_, slice_to _ _ _ _ _ _ _ _ A xs.length ca n HA.out.where_ E122 E123 (by omega) (by omega) W0, Ty.of_is rfl⟩
          case ob8 =>
            intro vals W0 F hF hS hd
            have d1 : vals 1 = .bool true := hd ⟨1, .guard⟩ (Array.mem_of_getElem? (i := 1) rfl) rfl
            have d7 : vals 7 = .slice A n ca := hd ⟨7, .data⟩ (Array.mem_of_getElem? (i := 0) rfl) rfl
            have E124 := eval_some (hF.own_ 7 rfl rfl (by decide)); rw [d7] at E124
            have G := hF.own_ 1 rfl rfl (by decide); rw [d1] at G
            refine .inr ⟨wanted_yes rfl rfl rfl G, ?_⟩
            refine .inr (.inl ⟨_, _, build_one _ _ _ _ _ _ _ _ _ _ E124 W0, (Below.refl _ _).alloc (Nat.le_refl _) _, ?_⟩)
            show (Ty.row (asRow (onePart A (xs.take n) ca))).p _ _
            rw [HR8.out]
            exact new_row W0 _ 1 rfl
          case ob9 =>
            intro vals W0 F hF hS hd
            have d1 : vals 1 = .bool true := hd ⟨1, .guard⟩ (Array.mem_of_getElem? (i := 2) rfl) rfl
            obtain ⟨g8, hspec8, hg8, hc8⟩ := hd ⟨8, .data⟩ (Array.mem_of_getElem? (i := 0) rfl) rfl
            have d8 : vals 8 = .slice (some ⟨g8, 0, none⟩) (asRow (onePart A (xs.take n) ca)).length (asRow (onePart A (xs.take n) ca)).length := hspec8
            have E125 := eval_some (hF.own_ 8 rfl rfl (by decide)); rw [d8] at E125
            have G := hF.own_ 1 rfl rfl (by decide); rw [d1] at G
            refine .inr ⟨wanted_yes rfl rfl rfl G, ?_⟩
            refine .inr (.inr ⟨9, #[.slice (some ⟨g8, 0, none⟩) (asRow (onePart A (xs.take n) ca)).length (asRow (onePart A (xs.take n) ca)).length], ?_, (sum_at (onePart A (xs.take n) ca) (by simp [onePart]) W0 g8 hg8 hc8 (fun p hp => by rw [onePart, List.mem_singleton] at hp; subst hp; exact ⟨hxn.out.later hS, by simp only [List.length_take]; have := HOL.out; omega⟩)).mono ?_⟩)
            · have Ec : ∀ v, F.eval (.const v) = v := fun _ => rfl; have Ef : ∀ f, F.eval (.func f) = .func (.func f) #[] #[] := fun _ => rfl; clear hF hd; generalize F.eval = ρ at E125 Ec Ef ⊢
              simp [execOp, go_sem, Ec, Ef, E125]
            rintro e W1 ⟨rfl, hb⟩
            exact ⟨_, rfl, hb, by rw [show flat (onePart A (xs.take n) ca) = (xs.take n) by simp [flat, onePart]]; exact Ty.of_is rfl⟩
          case ob10 =>
            intro vals W0 F hF hS hd
            have d1 : vals 1 = .bool true := hd ⟨1, .guard⟩ (Array.mem_of_getElem? (i := 0) rfl) rfl
            have E1 : F.eval (.tmp 1) = .slice B ys.length cb := hF.out_ (by kernel_rfl) rfl
            have G := hF.own_ 1 rfl rfl (by decide); rw [d1] at G
            refine .inr ⟨wanted_yes rfl rfl rfl G, .inl ⟨.slice B ys.length cb, ?_, Ty.of_is rfl⟩⟩
            simp only [execOp, E1, Sem.run_pure]
          case ob11 =>
            intro vals W0 F hF hS hd
            have d1 : vals 1 = .bool true := hd ⟨1, .guard⟩ (Array.mem_of_getElem? (i := 0) rfl) rfl
            have E15 : F.eval (.tmp 15) = .int .i64 (n : Int) := hF.out_ (by kernel_rfl) rfl
            have G := hF.own_ 1 rfl rfl (by decide); rw [d1] at G
            refine .inr ⟨wanted_yes rfl rfl rfl G, .inl ⟨.int .i64 (n : Int), ?_, Ty.of_is rfl⟩⟩
            simp only [execOp, E15, Sem.run_pure]
          case ob12 =>
            intro vals W0 F hF hS hd
            have d1 : vals 1 = .bool true := hd ⟨1, .guard⟩ (Array.mem_of_getElem? (i := 2) rfl) rfl
            have d10 : vals 10 = .slice B ys.length cb := hd ⟨10, .data⟩ (Array.mem_of_getElem? (i := 0) rfl) rfl
            have d11 : vals 11 = .int .i64 (n : Int) := hd ⟨11, .data⟩ (Array.mem_of_getElem? (i := 1) rfl) rfl
            have E127 := eval_some (hF.own_ 10 rfl rfl (by decide)); rw [d10] at E127
            have E128 := eval_some (hF.own_ 11 rfl rfl (by decide)); rw [d11] at E128
            have G := hF.own_ 1 rfl rfl (by decide); rw [d1] at G
            refine .inr ⟨wanted_yes rfl rfl rfl G, ?_⟩
            exact .inl ⟨_, slice_to _ _ _ _ _ _ _ _ B ys.length cb n HB.out.where_ E127 E128 (by omega) (by omega) W0, Ty.of_is rfl⟩
          case ob13 =>
            intro vals W0 F hF hS hd
            have d1 : vals 1 = .bool true := hd ⟨1, .guard⟩ (Array.mem_of_getElem? (i := 1) rfl) rfl
            have d12 : vals 12 = .slice B n cb := hd ⟨12, .data⟩ (Array.mem_of_getElem? (i := 0) rfl) rfl
            have E129 := eval_some (hF.own_ 12 rfl rfl (by decide)); rw [d12] at E129
            have G := hF.own_ 1 rfl rfl (by decide); rw [d1] at G
            refine .inr ⟨wanted_yes rfl rfl rfl G, ?_⟩
            refine .inr (.inl ⟨_, _, build_one _ _ _ _ _ _ _ _ _ _ E129 W0, (Below.refl _ _).alloc (Nat.le_refl _) _, ?_⟩)
            show (Ty.row (asRow (onePart B (ys.take n) cb))).p _ _
            rw [HR13.out]
            exact new_row W0 _ 1 rfl
          case ob14 =>
            intro vals W0 F hF hS hd
            have d1 : vals 1 = .bool true := hd ⟨1, .guard⟩ (Array.mem_of_getElem? (i := 2) rfl) rfl
            obtain ⟨g13, hspec13, hg13, hc13⟩ := hd ⟨13, .data⟩ (Array.mem_of_getElem? (i := 0) rfl) rfl
            have d13 : vals 13 = .slice (some ⟨g13, 0, none⟩) (asRow (onePart B (ys.take n) cb)).length (asRow (onePart B (ys.take n) cb)).length := hspec13
            have E130 := eval_some (hF.own_ 13 rfl rfl (by decide)); rw [d13] at E130
            have G := hF.own_ 1 rfl rfl (by decide); rw [d1] at G
            refine .inr ⟨wanted_yes rfl rfl rfl G, ?_⟩
            refine .inr (.inr ⟨9, #[.slice (some ⟨g13, 0, none⟩) (asRow (onePart B (ys.take n) cb)).length (asRow (onePart B (ys.take n) cb)).length], ?_, (sum_at (onePart B (ys.take n) cb) (by simp [onePart]) W0 g13 hg13 hc13 (fun p hp => by rw [onePart, List.mem_singleton] at hp; subst hp; exact ⟨hyn.out.later hS, by simp only [List.length_take]; have := HOL.out; omega⟩)).mono ?_⟩)
            · have Ec : ∀ v, F.eval (.const v) = v := fun _ => rfl; have Ef : ∀ f, F.eval (.func f) = .func (.func f) #[] #[] := fun _ => rfl; clear hF hd; generalize F.eval = ρ at E130 Ec Ef ⊢
              simp [execOp, go_sem, Ec, Ef, E130]
            rintro e W1 ⟨rfl, hb⟩
            exact ⟨_, rfl, hb, by rw [show flat (onePart B (ys.take n) cb) = (ys.take n) by simp [flat, onePart]]; exact Ty.of_is rfl⟩
          case ob15 =>
            intro vals W0 F hF hS hd
            have d1 : vals 1 = .bool true := hd ⟨1, .guard⟩ (Array.mem_of_getElem? (i := 2) rfl) rfl
            have d9 : vals 9 = .int .u32 (onS 0 (xs.take n) : Int) := hd ⟨9, .data⟩ (Array.mem_of_getElem? (i := 0) rfl) rfl
            have d14 : vals 14 = .int .u32 (onS 0 (ys.take n) : Int) := hd ⟨14, .data⟩ (Array.mem_of_getElem? (i := 1) rfl) rfl
            have E126 := eval_some (hF.own_ 9 rfl rfl (by decide)); rw [d9] at E126
            have E131 := eval_some (hF.own_ 14 rfl rfl (by decide)); rw [d14] at E131
            have G := hF.own_ 1 rfl rfl (by decide); rw [d1] at G
            refine .inr ⟨wanted_yes rfl rfl rfl G, ?_⟩
            refine .inl ⟨.int .u32 ((onS 0 (xs.take n) ^^^ onS 0 (ys.take n) : Nat) : Int), ?_, Ty.of_is rfl⟩
            have Ec : ∀ v, F.eval (.const v) = v := fun _ => rfl; have Ef : ∀ f, F.eval (.func f) = .func (.func f) #[] #[] := fun _ => rfl; clear hF hd; generalize F.eval = ρ at E126 E131 Ec Ef ⊢
            simp [execOp, go_sem, Ec, E126, E131, bx1]
          case ob16 =>
            intro vals W0 F hF hS hd
            have d1 : vals 1 = .bool true := hd ⟨1, .guard⟩ (Array.mem_of_getElem? (i := 0) rfl) rfl
            have E2 : F.eval (.tmp 2) = .slice C zs.length cc := hF.out_ (by kernel_rfl) rfl
            have G := hF.own_ 1 rfl rfl (by decide); rw [d1] at G
            refine .inr ⟨wanted_yes rfl rfl rfl G, .inl ⟨.slice C zs.length cc, ?_, Ty.of_is rfl⟩⟩
            simp only [execOp, E2, Sem.run_pure]
          case ob17 =>
            intro vals W0 F hF hS hd
            have d1 : vals 1 = .bool true := hd ⟨1, .guard⟩ (Array.mem_of_getElem? (i := 0) rfl) rfl
            have E15 : F.eval (.tmp 15) = .int .i64 (n : Int) := hF.out_ (by kernel_rfl) rfl
            have G := hF.own_ 1 rfl rfl (by decide); rw [d1] at G
            refine .inr ⟨wanted_yes rfl rfl rfl G, .inl ⟨.int .i64 (n : Int), ?_, Ty.of_is rfl⟩⟩
            simp only [execOp, E15, Sem.run_pure]
          case ob18 =>
            intro vals W0 F hF hS hd
            have d1 : vals 1 = .bool true := hd ⟨1, .guard⟩ (Array.mem_of_getElem? (i := 2) rfl) rfl
            have d16 : vals 16 = .slice C zs.length cc := hd ⟨16, .data⟩ (Array.mem_of_getElem? (i := 0) rfl) rfl
            have d17 : vals 17 = .int .i64 (n : Int) := hd ⟨17, .data⟩ (Array.mem_of_getElem? (i := 1) rfl) rfl
            have E133 := eval_some (hF.own_ 16 rfl rfl (by decide)); rw [d16] at E133
            have E134 := eval_some (hF.own_ 17 rfl rfl (by decide)); rw [d17] at E134
            have G := hF.own_ 1 rfl rfl (by decide); rw [d1] at G
            refine .inr ⟨wanted_yes rfl rfl rfl G, ?_⟩
            exact .inl ⟨_, slice_to _ _ _ _ _ _ _ _ C zs.length cc n HC.out.where_ E133 E134 (by omega) (by omega) W0, Ty.of_is rfl⟩
          case ob19 =>
            intro vals W0 F hF hS hd
            have d1 : vals 1 = .bool true := hd ⟨1, .guard⟩ (Array.mem_of_getElem? (i := 1) rfl) rfl
            have d18 : vals 18 = .slice C n cc := hd ⟨18, .data⟩ (Array.mem_of_getElem? (i := 0) rfl) rfl
            have E135 := eval_some (hF.own_ 18 rfl rfl (by decide)); rw [d18] at E135
            have G := hF.own_ 1 rfl rfl (by decide); rw [d1] at G
            refine .inr ⟨wanted_yes rfl rfl rfl G, ?_⟩
            refine .inr (.inl ⟨_, _, build_one _ _ _ _ _ _ _ _ _ _ E135 W0, (Below.refl _ _).alloc (Nat.le_refl _) _, ?_⟩)
            show (Ty.row (asRow (onePart C (zs.take n) cc))).p _ _
            rw [HR19.out]
            exact new_row W0 _ 1 rfl
          case ob20 =>
            intro vals W0 F hF hS hd
            have d1 : vals 1 = .bool true := hd ⟨1, .guard⟩ (Array.mem_of_getElem? (i := 2) rfl) rfl
            obtain ⟨g19, hspec19, hg19, hc19⟩ := hd ⟨19, .data⟩ (Array.mem_of_getElem? (i := 0) rfl) rfl
            have d19 : vals 19 = .slice (some ⟨g19, 0, none⟩) (asRow (onePart C (zs.take n) cc)).length (asRow (onePart C (zs.take n) cc)).length := hspec19
            have E136 := eval_some (hF.own_ 19 rfl rfl (by decide)); rw [d19] at E136
            have G := hF.own_ 1 rfl rfl (by decide); rw [d1] at G
            refine .inr ⟨wanted_yes rfl rfl rfl G, ?_⟩
            refine .inr (.inr ⟨9, #[.slice (some ⟨g19, 0, none⟩) (asRow (onePart C (zs.take n) cc)).length (asRow (onePart C (zs.take n) cc)).length], ?_, (sum_at (onePart C (zs.take n) cc) (by simp [onePart]) W0 g19 hg19 hc19 (fun p hp => by rw [onePart, List.mem_singleton] at hp; subst hp; exact ⟨hzn.out.later hS, by simp only [List.length_take]; have := HOL.out; omega⟩)).mono ?_⟩)
            · have Ec : ∀ v, F.eval (.const v) = v := fun _ => rfl; have Ef : ∀ f, F.eval (.func f) = .func (.func f) #[] #[] := fun _ => rfl; clear hF hd; generalize F.eval = ρ at E136 Ec Ef ⊢
              simp [execOp, go_sem, Ec, Ef, E136]
            rintro e W1 ⟨rfl, hb⟩
            exact ⟨_, rfl, hb, by rw [show flat (onePart C (zs.take n) cc) = (zs.take n) by simp [flat, onePart]]; exact Ty.of_is rfl⟩
          case ob21 =>
            intro vals W0 F hF hS hd
            have d1 : vals 1 = .bool true := hd ⟨1, .guard⟩ (Array.mem_of_getElem? (i := 2) rfl) rfl
            have d15 : vals 15 = .int .u32 ((onS 0 (xs.take n) ^^^ onS 0 (ys.take n) : Nat) : Int) := hd ⟨15, .data⟩ (Array.mem_of_getElem? (i := 0) rfl) rfl
            have d20 : vals 20 = .int .u32 (onS 0 (zs.take n) : Int) := hd ⟨20, .data⟩ (Array.mem_of_getElem? (i := 1) rfl) rfl
            have E132 := eval_some (hF.own_ 15 rfl rfl (by decide)); rw [d15] at E132
            have E137 := eval_some (hF.own_ 20 rfl rfl (by decide)); rw [d20] at E137
            have G := hF.own_ 1 rfl rfl (by decide); rw [d1] at G
            refine .inr ⟨wanted_yes rfl rfl rfl G, ?_⟩
            refine .inl ⟨.int .u32 ((onS 0 (xs.take n) ^^^ onS 0 (ys.take n) ^^^ onS 0 (zs.take n) : Nat) : Int), ?_, Ty.of_is rfl⟩
            have Ec : ∀ v, F.eval (.const v) = v := fun _ => rfl; have Ef : ∀ f, F.eval (.func f) = .func (.func f) #[] #[] := fun _ => rfl; clear hF hd; generalize F.eval = ρ at E132 E137 Ec Ef ⊢
            simp [execOp, go_sem, Ec, E132, E137, bx2]
          case ob22 =>
            intro vals W0 F hF hS hd
            have d1 : vals 1 = .bool true := hd ⟨1, .guard⟩ (Array.mem_of_getElem? (i := 2) rfl) rfl
            have d4 : vals 4 = .int .u32 (onS 0 ov : Int) := hd ⟨4, .data⟩ (Array.mem_of_getElem? (i := 0) rfl) rfl
            have d21 : vals 21 = .int .u32 ((onS 0 (xs.take n) ^^^ onS 0 (ys.take n) ^^^ onS 0 (zs.take n) : Nat) : Int) := hd ⟨21, .data⟩ (Array.mem_of_getElem? (i := 1) rfl) rfl
            have E121 := eval_some (hF.own_ 4 rfl rfl (by decide)); rw [d4] at E121
            have E138 := eval_some (hF.own_ 21 rfl rfl (by decide)); rw [d21] at E138
            have G := hF.own_ 1 rfl rfl (by decide); rw [d1] at G
            refine .inr ⟨wanted_yes rfl rfl rfl G, ?_⟩
            refine .inl ⟨.bool true, ?_, Ty.of_is rfl⟩
            have hos := HOS.out
            have Ec : ∀ v, F.eval (.const v) = v := fun _ => rfl; have Ef : ∀ f, F.eval (.func f) = .func (.func f) #[] #[] := fun _ => rfl; clear hF hd; generalize F.eval = ρ at E121 E138 Ec Ef ⊢
            simp [execOp, go_sem, Ec, E121, E138, hos]
          case ob23 =>
            intro vals W0 F hF hS hd
            have d1 : vals 1 = .bool true := hd ⟨1, .data⟩ (Array.mem_of_getElem? (i := 0) rfl) rfl
            have d22 : vals 22 = .bool true := hd ⟨22, .data⟩ (Array.mem_of_getElem? (i := 1) rfl) rfl
            have E118 := eval_some (hF.own_ 1 rfl rfl (by decide)); rw [d1] at E118
            have E139 := eval_some (hF.own_ 22 rfl rfl (by decide)); rw [d22] at E139
            refine .inr ⟨wanted_none rfl, .inl ⟨.bool true, ?_, Ty.of_is rfl⟩⟩
            have Ec : ∀ v, F.eval (.const v) = v := fun _ => rfl; have Ef : ∀ f, F.eval (.func f) = .func (.func f) #[] #[] := fun _ => rfl; clear hF hd; generalize F.eval = ρ at E118 E139 Ec Ef ⊢
            simp [execOp, go_sem, Ec, E118, E139]
          case ob24 =>
            intro vals W0 F hF hS hd
            have d23 : vals 23 = .bool true := hd ⟨23, .data⟩ (Array.mem_of_getElem? (i := 0) rfl) rfl
            have E140 := eval_some (hF.own_ 23 rfl rfl (by decide)); rw [d23] at E140
            refine .inr ⟨wanted_none rfl, .inl ⟨.bool true, ?_, Ty.of_is rfl⟩⟩
            simp only [execOp, E140, Sem.run_pure]
          case obend =>
            intro vals W0 F hF hdef hS hT
            have e6 := hF.own_ 24 rfl rfl (by decide)
            have d24 : vals 24 = .bool true := hT 24 (by decide)
            rw [d24] at e6
            rename_i K hK
            refine hK _ _ (wp_ret (bodyPost_ret (results_tmp rfl _ _ _) hdef ?_))
            refine ⟨?_, hBr.trans (hS.mono hBr.size)⟩
            show Ending.returned (F.tmps.getD 10 undef) = _
            rw [Array.getD_eq_getD_getElem?, e6]
            rfl
      
      
end Go.Proofs.Ytagcdgfdflnphaa
