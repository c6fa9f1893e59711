/- get: is what a call wrote what is read? No condition beyond the memory's reach. -/
import Derived.Test.YtngkckngjobojaaOctKK
import Derived.Test.YtngkckngjobojaaOctHB
namespace Go.Proofs.Ytngkckngjobojaa.Oct
open Go.Proofs.Ytngkckngjobojaa Go.RowKit Go.Shelf
def GetOp (N r : Nat) (ok : Bool) (ys : List UInt8) (w : World) (e : Ending) (w' : World) : Prop := e = .returned (.bool ok) ∧ EyeIn N w' r ys ∧ Below N w w'
set_option maxRecDepth 100000 in
set_option maxHeartbeats 2000000 in
theorem get_0_err (s : Int) (x : Nat) (bs : List UInt8) (A : Option Addr) (c r N : Nat) (u ys : List UInt8) (m : Nat) (E : Int) (hE : (E == 0) = false) (hR : fixedR u s = (m, E, ys)) (w : World) (hh : Bytes8 N w A bs) (hbl : bs.length ≤ 1000000) (hN : N ≤ w.heap.size) (he : EyeIn N w r u) (hul : u.length ≤ 10000000) :
    Calls Try.prog 33 #[.pointer (some ⟨r, 0, none⟩), .agg #[.int .i64 0, .int .i64 s, .int .u64 (x : Int), .slice A bs.length c]] w (GetOp N r false ys w) := by
  have hb0 := new_below0 w (.cells #[.int .i64 0, .int .i64 s, .int .u64 (x : Int), .slice A bs.length c] 33)
  have HEY := Lib.hid (he.below hb0)
  have HB0 := Lib.hid (hb0.mono hN)
  have HBX := Lib.hid (heap_alloc_new w (.cells #[.int .i64 0, .int .i64 s, .int .u64 (x : Int), .slice A bs.length c] 33))
  have hsz : w.heap.size < (w.alloc (.cells #[.int .i64 0, .int .i64 s, .int .u64 (x : Int), .slice A bs.length c] 33)).heap.size := by rw [World.size_alloc]; omega
  have hrw : r < w.heap.size := he.lt
  have HH := Lib.hid hh
  have HF := Lib.hid (eye_fixed_in u ys s E m (by omega) hR N r _ HEY.out)
  clear he hh hb0 hR
  go_enter Try.func33, Try.ntmps33
  go_wp2_with (go_at_call 17; refine HF.out.mono ?_; rintro e w1 ⟨rfl, hey1, hbl1, hst1⟩; have HEY1 := Lib.hid hey1; have HB1 := Lib.hid (HB0.out.trans hbl1); have hbx1 := (hst1.keep w.heap.size hsz (by omega)).trans HBX.out; have e2 := cell_of_row w1 w.heap.size 2 _ _ _ hbx1; have e3 := cell_of_row w1 w.heap.size 3 _ _ _ hbx1; simp only [List.getElem?_toArray, List.getElem?_cons_zero, List.getElem?_cons_succ] at e2 e3; clear hey1 hbl1 hst1 hbx1)
  go_ret
  exact ⟨rfl, HEY1.out, HB1.out⟩
set_option maxRecDepth 100000 in
set_option maxHeartbeats 2000000 in
theorem get_0_eq (s : Int) (x : Nat) (bs : List UInt8) (A : Option Addr) (c r N : Nat) (u ys : List UInt8) (hR : fixedR u s = (x, 0, ys)) (w : World) (hh : Bytes8 N w A bs) (hbl : bs.length ≤ 1000000) (hN : N ≤ w.heap.size) (he : EyeIn N w r u) (hul : u.length ≤ 10000000) :
    Calls Try.prog 33 #[.pointer (some ⟨r, 0, none⟩), .agg #[.int .i64 0, .int .i64 s, .int .u64 (x : Int), .slice A bs.length c]] w (GetOp N r true ys w) := by
  have hb0 := new_below0 w (.cells #[.int .i64 0, .int .i64 s, .int .u64 (x : Int), .slice A bs.length c] 33)
  have HEY := Lib.hid (he.below hb0)
  have HB0 := Lib.hid (hb0.mono hN)
  have HBX := Lib.hid (heap_alloc_new w (.cells #[.int .i64 0, .int .i64 s, .int .u64 (x : Int), .slice A bs.length c] 33))
  have hsz : w.heap.size < (w.alloc (.cells #[.int .i64 0, .int .i64 s, .int .u64 (x : Int), .slice A bs.length c] 33)).heap.size := by rw [World.size_alloc]; omega
  have hrw : r < w.heap.size := he.lt
  have HH := Lib.hid hh
  have HF := Lib.hid (eye_fixed_in u ys s 0 x (by omega) hR N r _ HEY.out)
  clear he hh hb0 hR
  go_enter Try.func33, Try.ntmps33
  go_wp2_with (go_at_call 17; refine HF.out.mono ?_; rintro e w1 ⟨rfl, hey1, hbl1, hst1⟩; have HEY1 := Lib.hid hey1; have HB1 := Lib.hid (HB0.out.trans hbl1); have hbx1 := (hst1.keep w.heap.size hsz (by omega)).trans HBX.out; have e2 := cell_of_row w1 w.heap.size 2 _ _ _ hbx1; have e3 := cell_of_row w1 w.heap.size 3 _ _ _ hbx1; simp only [List.getElem?_toArray, List.getElem?_cons_zero, List.getElem?_cons_succ] at e2 e3; clear hey1 hbl1 hst1 hbx1)
  go_ret
  exact ⟨rfl, HEY1.out, HB1.out⟩
set_option maxRecDepth 100000 in
set_option maxHeartbeats 2000000 in
theorem get_0_ne (s : Int) (x : Nat) (bs : List UInt8) (A : Option Addr) (c r N : Nat) (u ys : List UInt8) (m : Nat) (hR : fixedR u s = (m, 0, ys)) (hne : ¬ m = x) (w : World) (hh : Bytes8 N w A bs) (hbl : bs.length ≤ 1000000) (hN : N ≤ w.heap.size) (he : EyeIn N w r u) (hul : u.length ≤ 10000000) :
    Calls Try.prog 33 #[.pointer (some ⟨r, 0, none⟩), .agg #[.int .i64 0, .int .i64 s, .int .u64 (x : Int), .slice A bs.length c]] w (GetOp N r false ys w) := by
  have hb0 := new_below0 w (.cells #[.int .i64 0, .int .i64 s, .int .u64 (x : Int), .slice A bs.length c] 33)
  have HEY := Lib.hid (he.below hb0)
  have HB0 := Lib.hid (hb0.mono hN)
  have HBX := Lib.hid (heap_alloc_new w (.cells #[.int .i64 0, .int .i64 s, .int .u64 (x : Int), .slice A bs.length c] 33))
  have hsz : w.heap.size < (w.alloc (.cells #[.int .i64 0, .int .i64 s, .int .u64 (x : Int), .slice A bs.length c] 33)).heap.size := by rw [World.size_alloc]; omega
  have hrw : r < w.heap.size := he.lt
  have HH := Lib.hid hh
  have HF := Lib.hid (eye_fixed_in u ys s 0 m (by omega) hR N r _ HEY.out)
  clear he hh hb0 hR
  have hn2 : ((m : Int) == (x : Int)) = false := by simp; omega
  go_enter Try.func33, Try.ntmps33
  go_wp2_with (go_at_call 17; refine HF.out.mono ?_; rintro e w1 ⟨rfl, hey1, hbl1, hst1⟩; have HEY1 := Lib.hid hey1; have HB1 := Lib.hid (HB0.out.trans hbl1); have hbx1 := (hst1.keep w.heap.size hsz (by omega)).trans HBX.out; have e2 := cell_of_row w1 w.heap.size 2 _ _ _ hbx1; have e3 := cell_of_row w1 w.heap.size 3 _ _ _ hbx1; simp only [List.getElem?_toArray, List.getElem?_cons_zero, List.getElem?_cons_succ] at e2 e3; clear hey1 hbl1 hst1 hbx1)
  go_ret
  exact ⟨rfl, HEY1.out, HB1.out⟩
set_option maxRecDepth 100000 in
set_option maxHeartbeats 2000000 in
theorem get_1_err (s : Int) (x : Nat) (bs : List UInt8) (A : Option Addr) (c r N : Nat) (u ys : List UInt8) (m : Nat) (E : Int) (hE : (E == 0) = false) (hR : eyeSizeR u = (m, E, ys)) (w : World) (hh : Bytes8 N w A bs) (hbl : bs.length ≤ 1000000) (hN : N ≤ w.heap.size) (he : EyeIn N w r u) (hul : u.length ≤ 10000000) :
    Calls Try.prog 33 #[.pointer (some ⟨r, 0, none⟩), .agg #[.int .i64 1, .int .i64 s, .int .u64 (x : Int), .slice A bs.length c]] w (GetOp N r false ys w) := by
  have hb0 := new_below0 w (.cells #[.int .i64 1, .int .i64 s, .int .u64 (x : Int), .slice A bs.length c] 33)
  have HEY := Lib.hid (he.below hb0)
  have HB0 := Lib.hid (hb0.mono hN)
  have HBX := Lib.hid (heap_alloc_new w (.cells #[.int .i64 1, .int .i64 s, .int .u64 (x : Int), .slice A bs.length c] 33))
  have hsz : w.heap.size < (w.alloc (.cells #[.int .i64 1, .int .i64 s, .int .u64 (x : Int), .slice A bs.length c] 33)).heap.size := by rw [World.size_alloc]; omega
  have hrw : r < w.heap.size := he.lt
  have HH := Lib.hid hh
  have HF := Lib.hid (eye_size_in u ys E m (by omega) hR N r _ HEY.out)
  clear he hh hb0 hR
  go_enter Try.func33, Try.ntmps33
  go_wp2_with (go_at_call 19; refine HF.out.mono ?_; rintro e w1 ⟨rfl, hey1, hbl1, hst1⟩; have HEY1 := Lib.hid hey1; have HB1 := Lib.hid (HB0.out.trans hbl1); have hbx1 := (hst1.keep w.heap.size hsz (by omega)).trans HBX.out; have e2 := cell_of_row w1 w.heap.size 2 _ _ _ hbx1; have e3 := cell_of_row w1 w.heap.size 3 _ _ _ hbx1; simp only [List.getElem?_toArray, List.getElem?_cons_zero, List.getElem?_cons_succ] at e2 e3; clear hey1 hbl1 hst1 hbx1)
  go_ret
  exact ⟨rfl, HEY1.out, HB1.out⟩
set_option maxRecDepth 100000 in
set_option maxHeartbeats 2000000 in
theorem get_1_eq (s : Int) (x : Nat) (bs : List UInt8) (A : Option Addr) (c r N : Nat) (u ys : List UInt8) (hR : eyeSizeR u = (x, 0, ys)) (w : World) (hh : Bytes8 N w A bs) (hbl : bs.length ≤ 1000000) (hN : N ≤ w.heap.size) (he : EyeIn N w r u) (hul : u.length ≤ 10000000) :
    Calls Try.prog 33 #[.pointer (some ⟨r, 0, none⟩), .agg #[.int .i64 1, .int .i64 s, .int .u64 (x : Int), .slice A bs.length c]] w (GetOp N r true ys w) := by
  have hb0 := new_below0 w (.cells #[.int .i64 1, .int .i64 s, .int .u64 (x : Int), .slice A bs.length c] 33)
  have HEY := Lib.hid (he.below hb0)
  have HB0 := Lib.hid (hb0.mono hN)
  have HBX := Lib.hid (heap_alloc_new w (.cells #[.int .i64 1, .int .i64 s, .int .u64 (x : Int), .slice A bs.length c] 33))
  have hsz : w.heap.size < (w.alloc (.cells #[.int .i64 1, .int .i64 s, .int .u64 (x : Int), .slice A bs.length c] 33)).heap.size := by rw [World.size_alloc]; omega
  have hrw : r < w.heap.size := he.lt
  have HH := Lib.hid hh
  have HF := Lib.hid (eye_size_in u ys 0 x (by omega) hR N r _ HEY.out)
  clear he hh hb0 hR
  go_enter Try.func33, Try.ntmps33
  go_wp2_with (go_at_call 19; refine HF.out.mono ?_; rintro e w1 ⟨rfl, hey1, hbl1, hst1⟩; have HEY1 := Lib.hid hey1; have HB1 := Lib.hid (HB0.out.trans hbl1); have hbx1 := (hst1.keep w.heap.size hsz (by omega)).trans HBX.out; have e2 := cell_of_row w1 w.heap.size 2 _ _ _ hbx1; have e3 := cell_of_row w1 w.heap.size 3 _ _ _ hbx1; simp only [List.getElem?_toArray, List.getElem?_cons_zero, List.getElem?_cons_succ] at e2 e3; clear hey1 hbl1 hst1 hbx1)
  go_ret
  exact ⟨rfl, HEY1.out, HB1.out⟩
set_option maxRecDepth 100000 in
set_option maxHeartbeats 2000000 in
theorem get_1_ne (s : Int) (x : Nat) (bs : List UInt8) (A : Option Addr) (c r N : Nat) (u ys : List UInt8) (m : Nat) (hR : eyeSizeR u = (m, 0, ys)) (hne : ¬ m = x) (w : World) (hh : Bytes8 N w A bs) (hbl : bs.length ≤ 1000000) (hN : N ≤ w.heap.size) (he : EyeIn N w r u) (hul : u.length ≤ 10000000) :
    Calls Try.prog 33 #[.pointer (some ⟨r, 0, none⟩), .agg #[.int .i64 1, .int .i64 s, .int .u64 (x : Int), .slice A bs.length c]] w (GetOp N r false ys w) := by
  have hb0 := new_below0 w (.cells #[.int .i64 1, .int .i64 s, .int .u64 (x : Int), .slice A bs.length c] 33)
  have HEY := Lib.hid (he.below hb0)
  have HB0 := Lib.hid (hb0.mono hN)
  have HBX := Lib.hid (heap_alloc_new w (.cells #[.int .i64 1, .int .i64 s, .int .u64 (x : Int), .slice A bs.length c] 33))
  have hsz : w.heap.size < (w.alloc (.cells #[.int .i64 1, .int .i64 s, .int .u64 (x : Int), .slice A bs.length c] 33)).heap.size := by rw [World.size_alloc]; omega
  have hrw : r < w.heap.size := he.lt
  have HH := Lib.hid hh
  have HF := Lib.hid (eye_size_in u ys 0 m (by omega) hR N r _ HEY.out)
  clear he hh hb0 hR
  have hn2 : ((m : Int) == (x : Int)) = false := by simp; omega
  go_enter Try.func33, Try.ntmps33
  go_wp2_with (go_at_call 19; refine HF.out.mono ?_; rintro e w1 ⟨rfl, hey1, hbl1, hst1⟩; have HEY1 := Lib.hid hey1; have HB1 := Lib.hid (HB0.out.trans hbl1); have hbx1 := (hst1.keep w.heap.size hsz (by omega)).trans HBX.out; have e2 := cell_of_row w1 w.heap.size 2 _ _ _ hbx1; have e3 := cell_of_row w1 w.heap.size 3 _ _ _ hbx1; simp only [List.getElem?_toArray, List.getElem?_cons_zero, List.getElem?_cons_succ] at e2 e3; clear hey1 hbl1 hst1 hbx1)
  go_ret
  exact ⟨rfl, HEY1.out, HB1.out⟩
set_option maxRecDepth 100000 in
set_option maxHeartbeats 2000000 in
theorem get_2_err (s : Int) (x : Nat) (bs : List UInt8) (A : Option Addr) (c r N : Nat) (u ys : List UInt8) (zs : List UInt8) (E : Int) (hE : (E == 0) = false) (hR : bytesR u (bs.length : Int) = (zs, E, ys)) (w : World) (hh : Bytes8 N w A bs) (hbl : bs.length ≤ 1000000) (hN : N ≤ w.heap.size) (he : EyeIn N w r u) (hul : u.length ≤ 10000000) :
    Calls Try.prog 33 #[.pointer (some ⟨r, 0, none⟩), .agg #[.int .i64 2, .int .i64 s, .int .u64 (x : Int), .slice A bs.length c]] w (GetOp N r false ys w) := by
  have hb0 := new_below0 w (.cells #[.int .i64 2, .int .i64 s, .int .u64 (x : Int), .slice A bs.length c] 33)
  have HEY := Lib.hid (he.below hb0)
  have HB0 := Lib.hid (hb0.mono hN)
  have HBX := Lib.hid (heap_alloc_new w (.cells #[.int .i64 2, .int .i64 s, .int .u64 (x : Int), .slice A bs.length c] 33))
  have hsz : w.heap.size < (w.alloc (.cells #[.int .i64 2, .int .i64 s, .int .u64 (x : Int), .slice A bs.length c] 33)).heap.size := by rw [World.size_alloc]; omega
  have hrw : r < w.heap.size := he.lt
  have HH := Lib.hid hh
  have HF := Lib.hid (eye_bytes_in u zs ys (bs.length : Int) E zs.length (by omega) (by omega) hR rfl N r _ HEY.out)
  clear he hh hb0 hR
  go_enter Try.func33, Try.ntmps33
  go_wp2_with (go_at_call 22; refine HF.out.mono ?_; rintro e w1 ⟨X, cx, rfl, hx1, hxa, hxr, hey1, hbl1, hst1⟩; have est1 := str_of hx1 cx; have est2 := str_bytes (HH.out.below (HB0.out.trans hbl1) (Nat.le_refl _)) c; have HEY1 := Lib.hid hey1; have HB1 := Lib.hid (HB0.out.trans hbl1); have hbx1 := (hst1.keep w.heap.size hsz (by omega)).trans HBX.out; have e2 := cell_of_row w1 w.heap.size 2 _ _ _ hbx1; have e3 := cell_of_row w1 w.heap.size 3 _ _ _ hbx1; simp only [List.getElem?_toArray, List.getElem?_cons_zero, List.getElem?_cons_succ] at e2 e3; clear hey1 hbl1 hst1 hbx1)
  go_ret
  exact ⟨rfl, HEY1.out, HB1.out⟩
set_option maxRecDepth 100000 in
set_option maxHeartbeats 2000000 in
theorem get_2_eq (s : Int) (x : Nat) (bs : List UInt8) (A : Option Addr) (c r N : Nat) (u ys : List UInt8) (hR : bytesR u (bs.length : Int) = (bs, 0, ys)) (w : World) (hh : Bytes8 N w A bs) (hbl : bs.length ≤ 1000000) (hN : N ≤ w.heap.size) (he : EyeIn N w r u) (hul : u.length ≤ 10000000) :
    Calls Try.prog 33 #[.pointer (some ⟨r, 0, none⟩), .agg #[.int .i64 2, .int .i64 s, .int .u64 (x : Int), .slice A bs.length c]] w (GetOp N r true ys w) := by
  have hb0 := new_below0 w (.cells #[.int .i64 2, .int .i64 s, .int .u64 (x : Int), .slice A bs.length c] 33)
  have HEY := Lib.hid (he.below hb0)
  have HB0 := Lib.hid (hb0.mono hN)
  have HBX := Lib.hid (heap_alloc_new w (.cells #[.int .i64 2, .int .i64 s, .int .u64 (x : Int), .slice A bs.length c] 33))
  have hsz : w.heap.size < (w.alloc (.cells #[.int .i64 2, .int .i64 s, .int .u64 (x : Int), .slice A bs.length c] 33)).heap.size := by rw [World.size_alloc]; omega
  have hrw : r < w.heap.size := he.lt
  have HH := Lib.hid hh
  have HF := Lib.hid (eye_bytes_in u bs ys (bs.length : Int) 0 bs.length (by omega) (by omega) hR rfl N r _ HEY.out)
  clear he hh hb0 hR
  go_enter Try.func33, Try.ntmps33
  go_wp2_with (go_at_call 22; refine HF.out.mono ?_; rintro e w1 ⟨X, cx, rfl, hx1, hxa, hxr, hey1, hbl1, hst1⟩; have est1 := str_of hx1 cx; have est2 := str_bytes (HH.out.below (HB0.out.trans hbl1) (Nat.le_refl _)) c; have HEY1 := Lib.hid hey1; have HB1 := Lib.hid (HB0.out.trans hbl1); have hbx1 := (hst1.keep w.heap.size hsz (by omega)).trans HBX.out; have e2 := cell_of_row w1 w.heap.size 2 _ _ _ hbx1; have e3 := cell_of_row w1 w.heap.size 3 _ _ _ hbx1; simp only [List.getElem?_toArray, List.getElem?_cons_zero, List.getElem?_cons_succ] at e2 e3; clear hey1 hbl1 hst1 hbx1)
  go_ret
  exact ⟨rfl, HEY1.out, HB1.out⟩
set_option maxRecDepth 100000 in
set_option maxHeartbeats 2000000 in
theorem get_2_ne (s : Int) (x : Nat) (bs : List UInt8) (A : Option Addr) (c r N : Nat) (u ys : List UInt8) (zs : List UInt8) (hR : bytesR u (bs.length : Int) = (zs, 0, ys)) (hne : ¬ zs = bs) (w : World) (hh : Bytes8 N w A bs) (hbl : bs.length ≤ 1000000) (hN : N ≤ w.heap.size) (he : EyeIn N w r u) (hul : u.length ≤ 10000000) :
    Calls Try.prog 33 #[.pointer (some ⟨r, 0, none⟩), .agg #[.int .i64 2, .int .i64 s, .int .u64 (x : Int), .slice A bs.length c]] w (GetOp N r false ys w) := by
  have hb0 := new_below0 w (.cells #[.int .i64 2, .int .i64 s, .int .u64 (x : Int), .slice A bs.length c] 33)
  have HEY := Lib.hid (he.below hb0)
  have HB0 := Lib.hid (hb0.mono hN)
  have HBX := Lib.hid (heap_alloc_new w (.cells #[.int .i64 2, .int .i64 s, .int .u64 (x : Int), .slice A bs.length c] 33))
  have hsz : w.heap.size < (w.alloc (.cells #[.int .i64 2, .int .i64 s, .int .u64 (x : Int), .slice A bs.length c] 33)).heap.size := by rw [World.size_alloc]; omega
  have hrw : r < w.heap.size := he.lt
  have HH := Lib.hid hh
  have HF := Lib.hid (eye_bytes_in u zs ys (bs.length : Int) 0 zs.length (by omega) (by omega) hR rfl N r _ HEY.out)
  clear he hh hb0 hR
  have hn2 : (zs == bs) = false := by simpa using hne
  go_enter Try.func33, Try.ntmps33
  go_wp2_with (go_at_call 22; refine HF.out.mono ?_; rintro e w1 ⟨X, cx, rfl, hx1, hxa, hxr, hey1, hbl1, hst1⟩; have est1 := str_of hx1 cx; have est2 := str_bytes (HH.out.below (HB0.out.trans hbl1) (Nat.le_refl _)) c; have HEY1 := Lib.hid hey1; have HB1 := Lib.hid (HB0.out.trans hbl1); have hbx1 := (hst1.keep w.heap.size hsz (by omega)).trans HBX.out; have e2 := cell_of_row w1 w.heap.size 2 _ _ _ hbx1; have e3 := cell_of_row w1 w.heap.size 3 _ _ _ hbx1; simp only [List.getElem?_toArray, List.getElem?_cons_zero, List.getElem?_cons_succ] at e2 e3; clear hey1 hbl1 hst1 hbx1)
  go_ret
  exact ⟨rfl, HEY1.out, HB1.out⟩
set_option maxRecDepth 100000 in
set_option maxHeartbeats 2000000 in
theorem get_raw_err (kd : Int) (n0 : (kd == 0) = false) (n1 : (kd == 1) = false) (n2 : (kd == 2) = false) (s : Int) (x : Nat) (bs : List UInt8) (A : Option Addr) (c r N : Nat) (u ys : List UInt8) (zs : List UInt8) (E : Int) (hE : (E == 0) = false) (hR : rawR u (bs.length : Int) = (zs, E, ys)) (w : World) (hh : Bytes8 N w A bs) (hbl : bs.length ≤ 1000000) (hN : N ≤ w.heap.size) (he : EyeIn N w r u) (hul : u.length ≤ 10000000) :
    Calls Try.prog 33 #[.pointer (some ⟨r, 0, none⟩), .agg #[.int .i64 kd, .int .i64 s, .int .u64 (x : Int), .slice A bs.length c]] w (GetOp N r false ys w) := by
  have hb0 := new_below0 w (.cells #[.int .i64 kd, .int .i64 s, .int .u64 (x : Int), .slice A bs.length c] 33)
  have HEY := Lib.hid (he.below hb0)
  have HB0 := Lib.hid (hb0.mono hN)
  have HBX := Lib.hid (heap_alloc_new w (.cells #[.int .i64 kd, .int .i64 s, .int .u64 (x : Int), .slice A bs.length c] 33))
  have hsz : w.heap.size < (w.alloc (.cells #[.int .i64 kd, .int .i64 s, .int .u64 (x : Int), .slice A bs.length c] 33)).heap.size := by rw [World.size_alloc]; omega
  have hrw : r < w.heap.size := he.lt
  have HH := Lib.hid hh
  have HF := Lib.hid (eye_raw_in u zs ys (bs.length : Int) E zs.length (by omega) hR rfl N r _ HEY.out)
  clear he hh hb0 hR
  go_enter Try.func33, Try.ntmps33
  go_wp2_with (go_at_call 21; refine HF.out.mono ?_; rintro e w1 ⟨X, cx, rfl, hx1, hxa, hxr, hey1, hbl1, hst1⟩; have est1 := str_of hx1 cx; have est2 := str_bytes (HH.out.below (HB0.out.trans hbl1) (Nat.le_refl _)) c; have HEY1 := Lib.hid hey1; have HB1 := Lib.hid (HB0.out.trans hbl1); have hbx1 := (hst1.keep w.heap.size hsz (by omega)).trans HBX.out; have e2 := cell_of_row w1 w.heap.size 2 _ _ _ hbx1; have e3 := cell_of_row w1 w.heap.size 3 _ _ _ hbx1; simp only [List.getElem?_toArray, List.getElem?_cons_zero, List.getElem?_cons_succ] at e2 e3; clear hey1 hbl1 hst1 hbx1)
  go_ret
  exact ⟨rfl, HEY1.out, HB1.out⟩
set_option maxRecDepth 100000 in
set_option maxHeartbeats 2000000 in
theorem get_raw_eq (kd : Int) (n0 : (kd == 0) = false) (n1 : (kd == 1) = false) (n2 : (kd == 2) = false) (s : Int) (x : Nat) (bs : List UInt8) (A : Option Addr) (c r N : Nat) (u ys : List UInt8) (hR : rawR u (bs.length : Int) = (bs, 0, ys)) (w : World) (hh : Bytes8 N w A bs) (hbl : bs.length ≤ 1000000) (hN : N ≤ w.heap.size) (he : EyeIn N w r u) (hul : u.length ≤ 10000000) :
    Calls Try.prog 33 #[.pointer (some ⟨r, 0, none⟩), .agg #[.int .i64 kd, .int .i64 s, .int .u64 (x : Int), .slice A bs.length c]] w (GetOp N r true ys w) := by
  have hb0 := new_below0 w (.cells #[.int .i64 kd, .int .i64 s, .int .u64 (x : Int), .slice A bs.length c] 33)
  have HEY := Lib.hid (he.below hb0)
  have HB0 := Lib.hid (hb0.mono hN)
  have HBX := Lib.hid (heap_alloc_new w (.cells #[.int .i64 kd, .int .i64 s, .int .u64 (x : Int), .slice A bs.length c] 33))
  have hsz : w.heap.size < (w.alloc (.cells #[.int .i64 kd, .int .i64 s, .int .u64 (x : Int), .slice A bs.length c] 33)).heap.size := by rw [World.size_alloc]; omega
  have hrw : r < w.heap.size := he.lt
  have HH := Lib.hid hh
  have HF := Lib.hid (eye_raw_in u bs ys (bs.length : Int) 0 bs.length (by omega) hR rfl N r _ HEY.out)
  clear he hh hb0 hR
  go_enter Try.func33, Try.ntmps33
  go_wp2_with (go_at_call 21; refine HF.out.mono ?_; rintro e w1 ⟨X, cx, rfl, hx1, hxa, hxr, hey1, hbl1, hst1⟩; have est1 := str_of hx1 cx; have est2 := str_bytes (HH.out.below (HB0.out.trans hbl1) (Nat.le_refl _)) c; have HEY1 := Lib.hid hey1; have HB1 := Lib.hid (HB0.out.trans hbl1); have hbx1 := (hst1.keep w.heap.size hsz (by omega)).trans HBX.out; have e2 := cell_of_row w1 w.heap.size 2 _ _ _ hbx1; have e3 := cell_of_row w1 w.heap.size 3 _ _ _ hbx1; simp only [List.getElem?_toArray, List.getElem?_cons_zero, List.getElem?_cons_succ] at e2 e3; clear hey1 hbl1 hst1 hbx1)
  go_ret
  exact ⟨rfl, HEY1.out, HB1.out⟩
set_option maxRecDepth 100000 in
set_option maxHeartbeats 2000000 in
theorem get_raw_ne (kd : Int) (n0 : (kd == 0) = false) (n1 : (kd == 1) = false) (n2 : (kd == 2) = false) (s : Int) (x : Nat) (bs : List UInt8) (A : Option Addr) (c r N : Nat) (u ys : List UInt8) (zs : List UInt8) (hR : rawR u (bs.length : Int) = (zs, 0, ys)) (hne : ¬ zs = bs) (w : World) (hh : Bytes8 N w A bs) (hbl : bs.length ≤ 1000000) (hN : N ≤ w.heap.size) (he : EyeIn N w r u) (hul : u.length ≤ 10000000) :
    Calls Try.prog 33 #[.pointer (some ⟨r, 0, none⟩), .agg #[.int .i64 kd, .int .i64 s, .int .u64 (x : Int), .slice A bs.length c]] w (GetOp N r false ys w) := by
  have hb0 := new_below0 w (.cells #[.int .i64 kd, .int .i64 s, .int .u64 (x : Int), .slice A bs.length c] 33)
  have HEY := Lib.hid (he.below hb0)
  have HB0 := Lib.hid (hb0.mono hN)
  have HBX := Lib.hid (heap_alloc_new w (.cells #[.int .i64 kd, .int .i64 s, .int .u64 (x : Int), .slice A bs.length c] 33))
  have hsz : w.heap.size < (w.alloc (.cells #[.int .i64 kd, .int .i64 s, .int .u64 (x : Int), .slice A bs.length c] 33)).heap.size := by rw [World.size_alloc]; omega
  have hrw : r < w.heap.size := he.lt
  have HH := Lib.hid hh
  have HF := Lib.hid (eye_raw_in u zs ys (bs.length : Int) 0 zs.length (by omega) hR rfl N r _ HEY.out)
  clear he hh hb0 hR
  have hn2 : (zs == bs) = false := by simpa using hne
  go_enter Try.func33, Try.ntmps33
  go_wp2_with (go_at_call 21; refine HF.out.mono ?_; rintro e w1 ⟨X, cx, rfl, hx1, hxa, hxr, hey1, hbl1, hst1⟩; have est1 := str_of hx1 cx; have est2 := str_bytes (HH.out.below (HB0.out.trans hbl1) (Nat.le_refl _)) c; have HEY1 := Lib.hid hey1; have HB1 := Lib.hid (HB0.out.trans hbl1); have hbx1 := (hst1.keep w.heap.size hsz (by omega)).trans HBX.out; have e2 := cell_of_row w1 w.heap.size 2 _ _ _ hbx1; have e3 := cell_of_row w1 w.heap.size 3 _ _ _ hbx1; simp only [List.getElem?_toArray, List.getElem?_cons_zero, List.getElem?_cons_succ] at e2 e3; clear hey1 hbl1 hst1 hbx1)
  go_ret
  exact ⟨rfl, HEY1.out, HB1.out⟩
set_option maxHeartbeats 1000000 in
theorem get_any (o : OpD) (r N : Nat) (u : List UInt8) (w : World) (hh : Bytes8 N w o.A o.b) (hbl : o.b.length ≤ 1000000) (hN : N ≤ w.heap.size) (he : EyeIn N w r u) (hul : u.length ≤ 10000000) :
    Calls Try.prog 33 #[.pointer (some ⟨r, 0, none⟩), .agg #[.int .i64 o.kind, .int .i64 o.size, .int .u64 (o.n : Int), .slice o.A o.b.length o.c]] w (GetOp N r (getR u o).1 (getR u o).2 w) := by
  obtain ⟨k, s, n, A, bs, c⟩ := o
  simp only at hh hbl
  unfold getR
  simp only
  by_cases h0 : k = 0
  · subst h0
    rw [if_pos rfl]
    obtain ⟨m, E, ys, hR⟩ : ∃ m E ys, fixedR u s = (m, E, ys) := ⟨_, _, _, rfl⟩
    rw [hR]
    simp only
    cases hE : (E == 0) with
    | false => exact get_0_err s n bs A c r N u ys m E hE hR w hh hbl hN he hul
    | true =>
      obtain rfl : E = 0 := by simpa using hE
      by_cases hm : m = n
      · subst hm
        rw [beq_self_eq_true, Bool.and_self]
        exact get_0_eq s m bs A c r N u ys hR w hh hbl hN he hul
      · rw [show (m == n) = false by simpa using hm, Bool.and_false]
        exact get_0_ne s n bs A c r N u ys m hR hm w hh hbl hN he hul
  rw [if_neg h0]
  by_cases h1 : k = 1
  · subst h1
    rw [if_pos rfl]
    obtain ⟨m, E, ys, hR⟩ : ∃ m E ys, eyeSizeR u = (m, E, ys) := ⟨_, _, _, rfl⟩
    rw [hR]
    simp only
    cases hE : (E == 0) with
    | false => exact get_1_err s n bs A c r N u ys m E hE hR w hh hbl hN he hul
    | true =>
      obtain rfl : E = 0 := by simpa using hE
      by_cases hm : m = n
      · subst hm
        rw [beq_self_eq_true, Bool.and_self]
        exact get_1_eq s m bs A c r N u ys hR w hh hbl hN he hul
      · rw [show (m == n) = false by simpa using hm, Bool.and_false]
        exact get_1_ne s n bs A c r N u ys m hR hm w hh hbl hN he hul
  rw [if_neg h1]
  by_cases h2 : k = 2
  · subst h2
    rw [if_pos rfl]
    obtain ⟨m, E, ys, hR⟩ : ∃ m E ys, bytesR u (bs.length : Int) = (m, E, ys) := ⟨_, _, _, rfl⟩
    rw [hR]
    simp only
    cases hE : (E == 0) with
    | false => exact get_2_err s n bs A c r N u ys m E hE hR w hh hbl hN he hul
    | true =>
      obtain rfl : E = 0 := by simpa using hE
      by_cases hm : m = bs
      · subst hm
        rw [beq_self_eq_true, Bool.and_self]
        exact get_2_eq s n m A c r N u ys hR w hh hbl hN he hul
      · rw [show (m == bs) = false by simpa using hm, Bool.and_false]
        exact get_2_ne s n bs A c r N u ys m hR hm w hh hbl hN he hul
  rw [if_neg h2]
  obtain ⟨m, E, ys, hR⟩ : ∃ m E ys, rawR u (bs.length : Int) = (m, E, ys) := ⟨_, _, _, rfl⟩
  rw [hR]
  simp only
  have q0 : (k == 0) = false := by simpa using h0
  have q1 : (k == 1) = false := by simpa using h1
  have q2 : (k == 2) = false := by simpa using h2
  cases hE : (E == 0) with
  | false => exact get_raw_err k q0 q1 q2 s n bs A c r N u ys m E hE hR w hh hbl hN he hul
  | true =>
    obtain rfl : E = 0 := by simpa using hE
    by_cases hm : m = bs
    · subst hm
      rw [beq_self_eq_true, Bool.and_self]
      exact get_raw_eq k q0 q1 q2 s n m A c r N u ys hR w hh hbl hN he hul
    · rw [show (m == bs) = false by simpa using hm, Bool.and_false]
      exact get_raw_ne k q0 q1 q2 s n bs A c r N u ys m hR hm w hh hbl hN he hul
end Go.Proofs.Ytngkckngjobojaa.Oct
