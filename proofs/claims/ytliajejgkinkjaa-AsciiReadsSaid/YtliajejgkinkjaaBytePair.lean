/-
  Given for the seat's laws: the contracts of the reader's Byte and Pair. No condition but those of the theorems.
-/
import Derived.Test.YtliajejgkinkjaaReads
namespace Go.Proofs.Ytliajejgkinkjaa.reader
open Go.RowKit mem
set_option linter.unusedVariables false

theorem enters_byte (args : Array Value) (W : World) : (callFunc 27 args).run Try.prog W = .ok (.enter 27 args) W := enters Try.func27 (by kernel_rfl) (by kernel_rfl) args W

theorem enters_pair (args : Array Value) (W : World) : (callFunc 28 args).run Try.prog W = .ok (.enter 28 args) W := enters Try.func28 (by kernel_rfl) (by kernel_rfl) args W

set_option maxHeartbeats 400000 in
theorem byte_fn {w : World} {g off c b : Nat} {x : Int} {v : Value} (hc : w.cell? ⟨g, off, none⟩ = some (.int .u8 x)) (hb : Lies w b 5 #[v]) :
    Calls Try.prog 27 #[.slice (some ⟨g, off, none⟩) 1 c, .pointer (some ⟨b, 0, none⟩)] w fun e w' => e = .returned (.tuple #[]) ∧ w' = w.setCell ⟨b, 0, none⟩ (.int .u8 x) := by
  have c0 := hb.cell 0
  have f0 := hb.frozen 0
  clear hb
  go_enter Try.func27, Try.ntmps27
  go_wp2
  go_end0
  exact ⟨rfl, rfl⟩

theorem or_pair (x y : Int) (hx : 0 ≤ x ∧ x < 256) (hy : 0 ≤ y ∧ y < 256) : bits .or .i64 (IntKind.i64.wrap (IntKind.i64.wrap x * 256)) (IntKind.i64.wrap y) = 256 * x + y := by
  rw [IntWalk.i64_in x (by omega), IntWalk.i64_in y (by omega), IntWalk.i64_in (x * 256) (by omega)]
  obtain ⟨a, rfl⟩ := Int.eq_ofNat_of_zero_le hx.1
  obtain ⟨b, rfl⟩ := Int.eq_ofNat_of_zero_le hy.1
  have e1 : ((a : Int) * 256) = ((a * 256 : Nat) : Int) := by omega
  have ho : (a * 256 ||| b) = a * 256 + b := by
    rw [show a * 256 = a <<< 8 by rw [Nat.shiftLeft_eq], Nat.shiftLeft_add_eq_or_of_lt (show b < 2 ^ 8 by omega)]
  have hb : IntKind.i64.bits = 64 := rfl
  have h1 : (BitVec.ofInt 64 ((a * 256 : Nat) : Int)).toNat = a * 256 := by rw [BitVec.ofInt_natCast, BitVec.toNat_ofNat, Nat.mod_eq_of_lt (by omega)]
  have h2 : (BitVec.ofInt 64 ((b : Nat) : Int)).toNat = b := by rw [BitVec.ofInt_natCast, BitVec.toNat_ofNat, Nat.mod_eq_of_lt (by omega)]
  rw [e1]
  unfold bits
  show IntKind.i64.wrap (((BitVec.ofInt 64 ((a * 256 : Nat) : Int)) ||| (BitVec.ofInt 64 ((b : Nat) : Int))).toNat : Int) = _
  rw [BitVec.toNat_or, h1, h2, ho, IntWalk.i64_in _ (by omega)]
  omega

set_option maxHeartbeats 400000 in
theorem pair_fn {w : World} {g off c b : Nat} {x y : Int} {v : Value} (h0 : w.cell? ⟨g, off, none⟩ = some (.int .u8 x)) (h1 : w.cell? ⟨g, off + 1, none⟩ = some (.int .u8 y)) (hx : 0 ≤ x ∧ x < 256) (hy : 0 ≤ y ∧ y < 256) (hb : Lies w b 3 #[v]) :
    Calls Try.prog 28 #[.slice (some ⟨g, off, none⟩) 2 c, .pointer (some ⟨b, 0, none⟩)] w fun e w' => e = .returned (.tuple #[]) ∧ ∃ W, Still w W ∧ w' = W.setCell ⟨b, 0, none⟩ (.int .i64 (256 * x + y)) := by
  have c0 := hb.cell 0
  have f0 := hb.frozen 0
  clear hb
  go_enter Try.func28, Try.ntmps28
  have HO := Lib.hid (or_pair x y hx hy)
  go_still_tail 10, (by kernel_rfl)
  rw [HO.out]
  change wpList _ _ _ _ _ w.drew
  have d0 : w.drew.cell? ⟨b, 0, none⟩ = some v := c0
  have d1 : w.drew.frozen? ⟨b, 0, none⟩ = false := f0
  have hst : Still w w.drew := Still.drew1 w
  generalize w.drew = w2 at *
  have HST := Lib.hid hst
  clear hst c0 f0 h0 h1
  go_wp2
  go_end0
  exact ⟨rfl, w2, HST.out, rfl⟩

section
variable {w : World} {B r : Nat} {A : Option Addr} {n c : Nat} {xs : List Int} {k : Nat}

set_option maxHeartbeats 400000 in
theorem byte_more (h : Has w B r A n c xs k) (hk : n < k + 1) : Calls Try.prog 18 #[.pointer (some ⟨r, 0, none⟩)] w (Reads (.tuple #[.int .u8 0, .int .i64 5]) w B r A n c xs k) := by
  have hb : Below w.heap.size w (w.alloc (.cells #[.int .u8 0] 5)) := (Below.refl _ w).alloc (Nat.le_refl _) _
  have hn := next_more (w.alloc (.cells #[.int .u8 0] 5)) (h.below hb (Nat.le_refl _)) 1 (by omega) (by omega) (.func (.func 27) #[] #[.pointer (some ⟨w.heap.size, 0, none⟩)])
  have hbox := Lies.new w 5 #[.int .u8 0]
  have HN := Lib.hid hn
  have HH := Lib.hid h
  have HB := Lib.hid hb
  clear hn h hk hb
  go_enter Try.func18, Try.ntmps18
  go_wp2_with fail
  refine HN.out.mono ?_
  rintro e w2 ⟨rfl, hst⟩
  have hc : w2.cell? ⟨w.heap.size, 0, none⟩ = some (.int .u8 0) := (hst.cell _).trans (hbox.cell 0)
  have HST := Lib.hid hst
  clear hst hbox
  go_wp2
  go_ret2
  exact ⟨rfl, Left.stay HH.out (HB.out.trans ((Still.below HST.out _).mono (Nat.le_refl _)))⟩

set_option maxHeartbeats 400000 in
theorem byte_ok (h : Has w B r A n c xs k) (hk : k + 1 ≤ n) {x : Int} (hx : xs[k]? = some x) : Calls Try.prog 18 #[.pointer (some ⟨r, 0, none⟩)] w (Reads (.tuple #[.int .u8 x, .int .i64 0]) w B r A n c xs (k + 1)) := by
  have hb : Below w.heap.size w (w.alloc (.cells #[.int .u8 0] 5)) := (Below.refl _ w).alloc (Nat.le_refl _) _
  have hbox := Lies.new w 5 #[.int .u8 0]
  have h1 := h.below hb (Nat.le_refl _)
  have hr := h.head.lt
  have hn := next_ok (w.alloc (.cells #[.int .u8 0] 5)) h1 1 hk 27 #[.pointer (some ⟨w.heap.size, 0, none⟩)]
    (fun w' => Below w.heap.size w w' ∧ w'.cell? ⟨w.heap.size, 0, none⟩ = some (.int .u8 x)) enters_byte (fun W hW => by
      have hs := (h1.src.still hW).cut k 1 hk
      obtain ⟨g, off, y, e, _, hy, hc⟩ := hs.cell (i := 0) (by omega)
      have : y = x := by
        rw [List.getElem?_take, if_pos (by omega), List.getElem?_drop, Nat.add_zero, hx] at hy
        exact (Option.some.inj hy).symm
      subst this
      rw [e]
      have hl : Lies W w.heap.size 5 #[.int .u8 0] := hbox.of_same (by rw [hW.heap])
      refine (byte_fn hc hl).mono ?_
      rintro e' w' ⟨rfl, rfl⟩
      refine ⟨rfl, (Below.heap_setCell _ _ _ _ (by simp; omega)).trans (by rw [hW.heap]), ((hb.trans (hW.below _)).setCell (Nat.le_refl _) _), ?_⟩
      exact (hl.set 0 _).cell 0)
  have HN := Lib.hid hn
  have HH := Lib.hid h
  clear hn h h1 hb hx hbox
  go_enter Try.func18, Try.ntmps18
  go_wp2_with fail
  refine HN.out.mono ?_
  rintro e w2 ⟨rfl, w1, ⟨hbel, hc1⟩, hr1, rfl⟩
  have HB := Lib.hid hbel
  have hc : (w1.setCell ⟨r, 1, none⟩ (.int .i64 ((k + 1 : Nat) : Int))).cell? ⟨w.heap.size, 0, none⟩ = some (.int .u8 x) := (World.cell?_of_block (Below.heap_setCell _ _ _ _ (by simp; omega))).trans hc1
  clear hbel hc1 hr1
  generalize hW2 : w1.setCell ⟨r, 1, none⟩ (.int .i64 ((k + 1 : Nat) : Int)) = w2 at *
  have HW2 := Lib.hid hW2
  clear hW2
  go_wp2
  go_ret2
  refine ⟨rfl, ?_⟩
  rw [← HW2.out]
  exact Left.moved HH.out HB.out _ hk
set_option maxHeartbeats 400000 in
theorem pair_more (h : Has w B r A n c xs k) (hk : n < k + 2) : Calls Try.prog 19 #[.pointer (some ⟨r, 0, none⟩)] w (Reads (.tuple #[.int .i64 0, .int .i64 5]) w B r A n c xs k) := by
  have hb : Below w.heap.size w (w.alloc (.cells #[.int .i64 0] 3)) := (Below.refl _ w).alloc (Nat.le_refl _) _
  have hle := h.le
  have hn := next_more (w.alloc (.cells #[.int .i64 0] 3)) (h.below hb (Nat.le_refl _)) 2 (by omega) (by omega) (.func (.func 28) #[] #[.pointer (some ⟨w.heap.size, 0, none⟩)])
  have hbox := Lies.new w 3 #[.int .i64 0]
  have HN := Lib.hid hn
  have HH := Lib.hid h
  have HB := Lib.hid hb
  clear hn h hk hb hle
  go_enter Try.func19, Try.ntmps19
  go_wp2_with fail
  refine HN.out.mono ?_
  rintro e w2 ⟨rfl, hst⟩
  have hc : w2.cell? ⟨w.heap.size, 0, none⟩ = some (.int .i64 0) := (hst.cell _).trans (hbox.cell 0)
  have HST := Lib.hid hst
  clear hst hbox
  go_wp2
  go_ret2
  exact ⟨rfl, Left.stay HH.out (HB.out.trans ((Still.below HST.out _).mono (Nat.le_refl _)))⟩

set_option maxHeartbeats 400000 in
theorem pair_ok (h : Has w B r A n c xs k) (hk : k + 2 ≤ n) {x y : Int} (hx : xs[k]? = some x) (hy : xs[k + 1]? = some y) : Calls Try.prog 19 #[.pointer (some ⟨r, 0, none⟩)] w (Reads (.tuple #[.int .i64 (256 * x + y), .int .i64 0]) w B r A n c xs (k + 2)) := by
  have hb : Below w.heap.size w (w.alloc (.cells #[.int .i64 0] 3)) := (Below.refl _ w).alloc (Nat.le_refl _) _
  have hbox := Lies.new w 3 #[.int .i64 0]
  have h1 := h.below hb (Nat.le_refl _)
  have hr := h.head.lt
  have rx := h.rng x (List.mem_of_getElem? hx)
  have ry := h.rng y (List.mem_of_getElem? hy)
  have hn := next_ok (w.alloc (.cells #[.int .i64 0] 3)) h1 2 hk 28 #[.pointer (some ⟨w.heap.size, 0, none⟩)]
    (fun w' => Below w.heap.size w w' ∧ w'.cell? ⟨w.heap.size, 0, none⟩ = some (.int .i64 (256 * x + y))) enters_pair (fun W hW => by
      have hs := (h1.src.still hW).cut k 2 hk
      obtain ⟨g, off, e, _, hc⟩ := hs.lies (by rw [hs.len]; omega)
      have g0 := hc 0 x (by rw [List.getElem?_take, if_pos (by omega), List.getElem?_drop, Nat.add_zero, hx])
      have g1 := hc 1 y (by rw [List.getElem?_take, if_pos (by omega), List.getElem?_drop, hy])
      rw [e]
      have hl : Lies W w.heap.size 3 #[.int .i64 0] := hbox.of_same (by rw [hW.heap])
      refine (pair_fn g0 g1 rx ry hl).mono ?_
      rintro e' w' ⟨rfl, W2, hW2, rfl⟩
      have hl2 : Lies W2 w.heap.size 3 #[.int .i64 0] := hl.of_same (by rw [hW2.heap])
      refine ⟨rfl, (Below.heap_setCell _ _ _ _ (by simp; omega)).trans (by rw [hW2.heap, hW.heap]), (((hb.trans (hW.below _)).trans (hW2.below _)).setCell (Nat.le_refl _) _), ?_⟩
      exact (hl2.set 0 _).cell 0)
  have HN := Lib.hid hn
  have HH := Lib.hid h
  clear hn h h1 hb hx hy hbox rx ry
  go_enter Try.func19, Try.ntmps19
  go_wp2_with fail
  refine HN.out.mono ?_
  rintro e w2 ⟨rfl, w1, ⟨hbel, hc1⟩, hr1, rfl⟩
  have HB := Lib.hid hbel
  have hc : (w1.setCell ⟨r, 1, none⟩ (.int .i64 ((k + 2 : Nat) : Int))).cell? ⟨w.heap.size, 0, none⟩ = some (.int .i64 (256 * x + y)) := (World.cell?_of_block (Below.heap_setCell _ _ _ _ (by simp; omega))).trans hc1
  clear hbel hc1 hr1
  generalize hW2 : w1.setCell ⟨r, 1, none⟩ (.int .i64 ((k + 2 : Nat) : Int)) = w2 at *
  have HW2 := Lib.hid hW2
  clear hW2
  go_wp2
  go_ret2
  refine ⟨rfl, ?_⟩
  rw [← HW2.out]
  exact Left.moved HH.out HB.out _ hk

end

end Go.Proofs.Ytliajejgkinkjaa.reader
