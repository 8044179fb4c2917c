/-
  Given for the seat's laws: the contract of the law's own function reads: an act reads the same from both readers. No condition but those of the theorems.
-/
import Derived.Test.YtliajejgkinkjaaBump
namespace Go.Proofs.Ytliajejgkinkjaa.model
open Go.RowKit mem reader plain
set_option linter.unusedVariables false

def args (r m : Nat) (kd x : Int) : Array Value := #[.pointer (some ⟨r, 0, none⟩), .pointer (some ⟨m, 0, none⟩), .agg #[.int .u8 kd, .int .i64 x]]

/-- the world behind the first statement: the act's box -/
def boxed (w : World) (kd x : Int) : World := w.alloc (.cells #[.int .u8 kd, .int .i64 x] 36)

section
variable {w w1 w2 w3 : World} {B r : Nat} {A : Option Addr} {n c B' m : Nat} {A' : Option Addr} {c' : Nat} {xs : List Int} {k k' : Nat}

theorem boxed_below (w : World) (kd x : Int) : Below w.heap.size w (boxed w kd x) := (Below.refl _ w).alloc (Nat.le_refl _) _
theorem boxed_lies (w : World) (kd x : Int) : Lies (boxed w kd x) w.heap.size 36 #[.int .u8 kd, .int .i64 x] := Lies.new _ _ _
theorem boxed_size (w : World) (kd x : Int) : (boxed w kd x).heap.size = w.heap.size + 1 := by simp [boxed]
theorem Two.box (h : Two w B r A n c B' m A' c' xs k) (kd x : Int) : Two (boxed w kd x) B r A n c B' m A' c' xs k := h.later (boxed_below w kd x)
/-- the box behind the first reader's call -/
theorem Two.boxAfter (h : Two w B r A n c B' m A' c' xs k) {kd x : Int} (hl : reader.Left (boxed w kd x) w2 B r A n c xs k') : Lies w2 w.heap.size 36 #[.int .u8 kd, .int .i64 x] :=
  (boxed_lies w kd x).keep hl.keep (by rw [boxed_size]; omega) (fun e => by have := h.lts.1; omega)

/-- a byte of a row of the call's own -/
theorem own_at {W : World} {C : Nat} {D : Option Addr} {j cD : Nat} {bs : List Int} (ho : W.ownsRow C 5 1 (.slice D j cD) j (B8 bs)) (hr : ∀ x ∈ bs, 0 ≤ x ∧ x < 256) (hj : 0 < j) :
    ∃ g off, D = some ⟨g, off, none⟩ ∧ ∀ (i : Nat) (x : Int), bs[i]? = some x → W.cell? ⟨g, off + i, none⟩ = some (.int .u8 x) := by
  have hs := src_of_own ho hr
  obtain ⟨g, off, e, _, hc⟩ := hs.lies (by rw [hs.len]; exact hj)
  exact ⟨g, off, e, hc⟩

theorem rng_cut {xs : List Int} (h : ∀ x ∈ xs, 0 ≤ x ∧ x < 256) (k j : Nat) : ∀ x ∈ (xs.drop k).take j, 0 ≤ x ∧ x < 256 := fun x hx => h x (List.mem_of_mem_drop (List.mem_of_mem_take hx))

theorem same_self (W : World) {okA okB : Nat → Prop} {D E : Option Addr} {la ca lb cb : Nat} {ys : List Int} (hA : Src W okA D la ca ys) (hB : Src W okB E lb cb ys) :
    Calls Try.prog 14 #[.slice D la ca, .slice E lb cb] W fun e w' => e = .returned (.bool true) ∧ Still W w' := by
  refine (same_any W hA hB).mono ?_
  rintro e w' ⟨rfl, hs⟩
  exact ⟨by rw [sameB_refl], hs⟩

def DoneE (w : World) (B r : Nat) (A : Option Addr) (n c B' m : Nat) (A' : Option Addr) (c' : Nat) (xs : List Int) (e : Ending) (w' : World) : Prop := e = .returned (.bool true) ∧ Done w w' B r A n c B' m A' c' xs

set_option maxRecDepth 20000 in
set_option maxHeartbeats 2000000 in
theorem reads_byte_ok (h : Two w B r A n c B' m A' c' xs k) (kd x : Int) (hk0 : 0 ≤ kd) (hk1 : kd ≤ 255) (hq : kd % 4 = 0) (hk : k + 1 ≤ n) : Calls Try.prog 15 (args r m kd x) w (DoneE w B r A n c B' m A' c' xs) := by
  have HH := Lib.hid h
  have HX := Lib.hid (h.box kd x)
  obtain ⟨z, hz⟩ : ∃ z, xs[k]? = some z := ⟨_, List.getElem?_eq_getElem (by rw [h.has.len]; omega)⟩
  have HN1 := Lib.hid (byte_ok HX.out.has hk hz)
  have HN2 := Lib.hid (fun W (hl : reader.Left (boxed w kd x) W B r A n c xs (k + 1)) => mbytes_ok (HX.out.modAfter hl) 1 hk)
  have HZ := Lib.hid (show ((xs.drop k).take 1)[0]? = some z by rw [List.getElem?_take, if_pos (by omega), List.getElem?_drop, Nat.add_zero]; exact hz)
  have HR := Lib.hid (rng_cut h.has.rng k 1)
  clear hz hk
  clear h
  unfold args
  go_enter Try.func15, Try.ntmps15
  go_wp2_with fail
  refine HN1.out.mono ?_
  rintro e w2 ⟨rfl, hl⟩
  have HL := Lib.hid hl
  clear hl
  go_wp2_with fail
  refine (HN2.out _ HL.out).mono ?_
  rintro e w3 ⟨D, cD, rfl, ho, hml⟩
  have HML := Lib.hid hml
  obtain ⟨g, off, rfl, hc⟩ := own_at ho HR.out (by omega)
  have c0 := hc 0 z HZ.out
  rw [Nat.add_zero] at c0
  clear hc ho hml HN1 HN2
  go_wp2
  go_ret
  exact ⟨by simp, Two.done (boxed_below w kd x) HX.out HL.out HML.out (Below.refl _ _)⟩

set_option maxRecDepth 20000 in
set_option maxHeartbeats 2000000 in
theorem reads_byte_more (h : Two w B r A n c B' m A' c' xs k) (kd x : Int) (hk0 : 0 ≤ kd) (hk1 : kd ≤ 255) (hq : kd % 4 = 0) (hk : n < k + 1) : Calls Try.prog 15 (args r m kd x) w (DoneE w B r A n c B' m A' c' xs) := by
  have HH := Lib.hid h
  have HX := Lib.hid (h.box kd x)
  have HN1 := Lib.hid (byte_more HX.out.has hk)
  have HN2 := Lib.hid (fun W (hl : reader.Left (boxed w kd x) W B r A n c xs k) => mbytes_more (HX.out.modAfter hl) 1 (by omega) (by omega))
  clear hk
  clear h
  unfold args
  go_enter Try.func15, Try.ntmps15
  go_wp2_with fail
  refine HN1.out.mono ?_
  rintro e w2 ⟨rfl, hl⟩
  have HL := Lib.hid hl
  clear hl
  go_wp2_with fail
  refine (HN2.out _ HL.out).mono ?_
  rintro e w3 ⟨rfl, hml⟩
  have HML := Lib.hid hml
  clear hml HN1 HN2
  go_wp2
  go_ret
  exact ⟨by simp, Two.done (boxed_below w kd x) HX.out HL.out HML.out (Below.refl _ _)⟩

set_option maxRecDepth 20000 in
set_option maxHeartbeats 2000000 in
theorem reads_pair_ok (h : Two w B r A n c B' m A' c' xs k) (kd x : Int) (hk0 : 0 ≤ kd) (hk1 : kd ≤ 255) (hq : kd % 4 = 1) (hk : k + 2 ≤ n) : Calls Try.prog 15 (args r m kd x) w (DoneE w B r A n c B' m A' c' xs) := by
  have HH := Lib.hid h
  have HX := Lib.hid (h.box kd x)
  obtain ⟨z, hz⟩ : ∃ z, xs[k]? = some z := ⟨_, List.getElem?_eq_getElem (by rw [h.has.len]; omega)⟩
  obtain ⟨y, hy⟩ : ∃ y, xs[k + 1]? = some y := ⟨_, List.getElem?_eq_getElem (by rw [h.has.len]; omega)⟩
  have HN1 := Lib.hid (pair_ok HX.out.has hk hz hy)
  have HN2 := Lib.hid (fun W (hl : reader.Left (boxed w kd x) W B r A n c xs (k + 2)) => mbytes_ok (HX.out.modAfter hl) 2 hk)
  have HZ := Lib.hid (show ((xs.drop k).take 2)[0]? = some z by rw [List.getElem?_take, if_pos (by omega), List.getElem?_drop, Nat.add_zero]; exact hz)
  have HY := Lib.hid (show ((xs.drop k).take 2)[1]? = some y by rw [List.getElem?_take, if_pos (by omega), List.getElem?_drop]; exact hy)
  have HR := Lib.hid (rng_cut h.has.rng k 2)
  have rz := h.has.rng z (List.mem_of_getElem? hz)
  have ry := h.has.rng y (List.mem_of_getElem? hy)
  have z0 := rz.1
  have z1 := rz.2
  have y0 := ry.1
  have y1 := ry.2
  clear hz hy hk rz ry
  clear h
  unfold args
  go_enter Try.func15, Try.ntmps15
  go_wp2_with fail
  refine HN1.out.mono ?_
  rintro e w2 ⟨rfl, hl⟩
  have HL := Lib.hid hl
  clear hl
  go_wp2_with fail
  refine (HN2.out _ HL.out).mono ?_
  rintro e w3 ⟨D, cD, rfl, ho, hml⟩
  have HML := Lib.hid hml
  obtain ⟨g, off, rfl, hc⟩ := own_at ho HR.out (by omega)
  have c0 := hc 0 z HZ.out
  have c1 := hc 1 y HY.out
  rw [Nat.add_zero] at c0
  have wz : IntKind.i64.wrap z = z := IntWalk.i64_in _ (by omega)
  have wy : IntKind.i64.wrap y = y := IntWalk.i64_in _ (by omega)
  have wz2 : IntKind.i64.wrap (256 * z) = 256 * z := IntWalk.i64_in _ (by omega)
  have wzy : IntKind.i64.wrap (256 * z + y) = 256 * z + y := IntWalk.i64_in _ (by omega)
  clear hc ho hml HN1 HN2
  go_wp2_with fail
  go_quiet (fail)
  generalize hW : World.drewN w3 _ = w4 at *
  have HS := Lib.hid (show Still w3 w4 from ⟨_, hW.symm⟩)
  clear hW
  go_wp2
  go_ret
  exact ⟨by simp, Two.done (boxed_below w kd x) HX.out HL.out HML.out (HS.out.below _)⟩

set_option maxRecDepth 20000 in
set_option maxHeartbeats 2000000 in
theorem reads_pair_more (h : Two w B r A n c B' m A' c' xs k) (kd x : Int) (hk0 : 0 ≤ kd) (hk1 : kd ≤ 255) (hq : kd % 4 = 1) (hk : n < k + 2) : Calls Try.prog 15 (args r m kd x) w (DoneE w B r A n c B' m A' c' xs) := by
  have HH := Lib.hid h
  have HX := Lib.hid (h.box kd x)
  have HN1 := Lib.hid (pair_more HX.out.has hk)
  have HN2 := Lib.hid (fun W (hl : reader.Left (boxed w kd x) W B r A n c xs k) => mbytes_more (HX.out.modAfter hl) 2 (by omega) (by omega))
  clear hk
  clear h
  unfold args
  go_enter Try.func15, Try.ntmps15
  go_wp2_with fail
  refine HN1.out.mono ?_
  rintro e w2 ⟨rfl, hl⟩
  have HL := Lib.hid hl
  clear hl
  go_wp2_with fail
  refine (HN2.out _ HL.out).mono ?_
  rintro e w3 ⟨rfl, hml⟩
  have HML := Lib.hid hml
  clear hml HN1 HN2
  go_wp2_with fail
  go_quiet (fail)
  generalize hW : World.drewN w3 _ = w4 at *
  have HS := Lib.hid (show Still w3 w4 from ⟨_, hW.symm⟩)
  clear hW
  go_wp2
  go_ret
  exact ⟨by simp, Two.done (boxed_below w kd x) HX.out HL.out HML.out (HS.out.below _)⟩

set_option maxRecDepth 20000 in
set_option maxHeartbeats 2000000 in
theorem reads_bytes_neg (h : Two w B r A n c B' m A' c' xs k) (kd x : Int) (hk0 : 0 ≤ kd) (hk1 : kd ≤ 255) (hq : kd % 4 = 2) (hx : x < 0) : Calls Try.prog 15 (args r m kd x) w (DoneE w B r A n c B' m A' c' xs) := by
  have HH := Lib.hid h
  have HX := Lib.hid (h.box kd x)
  have HN1 := Lib.hid (bytes_neg HX.out.has x hx)
  have HN2 := Lib.hid (fun W (hl : reader.Left (boxed w kd x) W B r A n c xs k) => mbytes_neg (HX.out.modAfter hl) x hx)
  have HSM := Lib.hid (fun W => same_self W (Src.nil W (fun _ => True)) (Src.nil W (fun _ => True)))
  clear h
  unfold args
  go_enter Try.func15, Try.ntmps15
  go_wp2_with fail
  refine HN1.out.mono ?_
  rintro e w2 ⟨rfl, hl⟩
  have HL := Lib.hid hl
  have hb2 := HH.out.boxAfter hl
  have f0 := hb2.cell 0
  have f1 := hb2.cell 1
  clear hl hb2
  go_wp2_with fail
  refine (HN2.out _ HL.out).mono ?_
  rintro e w3 ⟨rfl, hml⟩
  have HML := Lib.hid hml
  clear hml HN1 HN2 f0 f1
  go_wp2_with fail
  refine (HSM.out _).mono ?_
  rintro e w4 ⟨rfl, hst⟩
  have HS := Lib.hid hst
  clear hst HSM
  go_wp2_with fail
  go_loopg [20] 0 (fun g s20 wx => g = 0 ∧ s20 = .int .i64 0 ∧ wx = w4)
  case atStart => exact ⟨rfl, rfl, rfl⟩
  case round =>
    obtain ⟨rfl, rfl, rfl⟩ := hrel
    go_wp2_with fail
    go_ret
    exact ⟨by simp, Two.done (boxed_below w kd x) HX.out HL.out HML.out (HS.out.below _)⟩

set_option maxRecDepth 20000 in
set_option maxHeartbeats 2000000 in
theorem reads_bytes_more (h : Two w B r A n c B' m A' c' xs k) (kd x : Int) (hk0 : 0 ≤ kd) (hk1 : kd ≤ 255) (hq : kd % 4 = 2) (hx : 0 ≤ x) (hk : (n : Int) < (k : Int) + x) : Calls Try.prog 15 (args r m kd x) w (DoneE w B r A n c B' m A' c' xs) := by
  have HH := Lib.hid h
  have HX := Lib.hid (h.box kd x)
  have HN1 := Lib.hid (bytes_more HX.out.has x hx hk)
  have HN2 := Lib.hid (fun W (hl : reader.Left (boxed w kd x) W B r A n c xs k) => mbytes_more (HX.out.modAfter hl) x hx hk)
  have HSM := Lib.hid (fun W => same_self W (Src.nil W (fun _ => True)) (Src.nil W (fun _ => True)))
  clear h
  unfold args
  go_enter Try.func15, Try.ntmps15
  go_wp2_with fail
  refine HN1.out.mono ?_
  rintro e w2 ⟨rfl, hl⟩
  have HL := Lib.hid hl
  have hb2 := HH.out.boxAfter hl
  have f0 := hb2.cell 0
  have f1 := hb2.cell 1
  clear hl hb2
  go_wp2_with fail
  refine (HN2.out _ HL.out).mono ?_
  rintro e w3 ⟨rfl, hml⟩
  have HML := Lib.hid hml
  clear hml HN1 HN2 f0 f1
  go_wp2_with fail
  refine (HSM.out _).mono ?_
  rintro e w4 ⟨rfl, hst⟩
  have HS := Lib.hid hst
  clear hst HSM
  go_wp2_with fail
  go_loopg [20] 0 (fun g s20 wx => g = 0 ∧ s20 = .int .i64 0 ∧ wx = w4)
  case atStart => exact ⟨rfl, rfl, rfl⟩
  case round =>
    obtain ⟨rfl, rfl, rfl⟩ := hrel
    go_wp2_with fail
    go_ret
    exact ⟨by simp, Two.done (boxed_below w kd x) HX.out HL.out HML.out (HS.out.below _)⟩

set_option maxRecDepth 20000 in
set_option maxHeartbeats 2000000 in
theorem reads_bytes_ok (h : Two w B r A n c B' m A' c' xs k) (kd x : Int) (hk0 : 0 ≤ kd) (hk1 : kd ≤ 255) (hq : kd % 4 = 2) (j : Nat) (hx : x = (j : Int)) (hk : k + j ≤ n) : Calls Try.prog 15 (args r m kd x) w (DoneE w B r A n c B' m A' c' xs) := by
  have HH := Lib.hid h
  have HX := Lib.hid (h.box kd x)
  subst hx
  have HN1 := Lib.hid (bytes_ok HX.out.has j hk)
  have HN2 := Lib.hid (fun W (hl : reader.Left (boxed w kd (j : Int)) W B r A n c xs (k + j)) => mbytes_ok (HX.out.modAfter hl) j hk)
  have HR := Lib.hid (rng_cut h.has.rng k j)
  have hjn : j ≤ 5000 := by have := h.has.small; omega
  clear hk
  clear h
  unfold args
  go_enter Try.func15, Try.ntmps15
  go_wp2_with fail
  refine HN1.out.mono ?_
  rintro e w2 ⟨D, cD, rfl, ho, hl⟩
  have HL := Lib.hid hl
  have HO := Lib.hid ho
  have hb2 := HH.out.boxAfter hl
  have f0 := hb2.cell 0
  have f1 := hb2.cell 1
  clear hl hb2 ho
  go_wp2_with fail
  refine (HN2.out _ HL.out).mono ?_
  rintro e w3 ⟨E, cE, rfl, hoE, hml⟩
  have HML := Lib.hid hml
  have ho3 := own_same (w' := w3) HO.out (fun g hg => hml.keep.block g (own_lt HO.out hg).2 (fun e => by have := (own_lt HO.out hg).1; have := HX.out.lts.2.1; omega))
  have HO3 := Lib.hid ho3
  have HSM := Lib.hid (same_self w3 (src_of_own ho3 HR.out) (src_of_own hoE HR.out))
  clear hml HN1 HN2 f0 f1 ho3 hoE
  go_wp2_with fail
  refine HSM.out.mono ?_
  rintro e w4 ⟨rfl, hst⟩
  have HS := Lib.hid hst
  have ho4 := own_same (w' := w4) HO3.out (fun g hg => by rw [hst.heap])
  have HO4 := Lib.hid ho4
  have HB4 := Lib.hid (bump_start ho4)
  have HD := Lib.hid (fun (W : World) (hW : Bump w4 W D j) => Two.done (boxed_below w kd (j : Int)) HX.out HL.out HML.out ((hst.below _).trans (hW.below ho4 (by rw [hst.size]; exact Nat.le_trans HL.out.keep.size HML.out.keep.size))))
  clear hst ho4 HSM HO HO3 HO4
  go_wp2_with fail
  go_loopg [20] j (fun g s20 wx => ∃ i : Nat, i ≤ j ∧ g = j - i ∧ s20 = .int .i64 i ∧ Hid (Bump w4 wx D j))
  case atStart => exact ⟨0, Nat.zero_le _, rfl, rfl, HB4⟩
  case round =>
    clear HB4
    obtain ⟨i, hi, rfl, rfl, hb⟩ := hrel
    by_cases hij : i < j
    · obtain ⟨g, cur, rfl, hl, hg, hc⟩ := hb.out.cells (by omega)
      obtain ⟨z, hz⟩ := hc i hij
      have cz := (hl.cell i).trans hz
      have fz := hl.frozen i
      have HRD := Lib.hid (fun y => bump_round (j := i) (y := y) hb.out.keep hl hg hc)
      clear hb hl hg hc hz
      go_wp2_with fail
      go_roundg (j - (i + 1))
      case measure => omega
      case rel => exact ⟨i + 1, by omega, rfl, by go_num, HRD.out _⟩
    · go_wp2_with fail
      go_ret
      exact ⟨by simp, HD.out _ hb.out⟩

set_option maxRecDepth 20000 in
set_option maxHeartbeats 2000000 in
theorem reads_line_neg (h : Two w B r A n c B' m A' c' xs k) (kd x : Int) (hk0 : 0 ≤ kd) (hk1 : kd ≤ 255) (hq : kd % 4 = 3) (hx : x < 0) : Calls Try.prog 15 (args r m kd x) w (DoneE w B r A n c B' m A' c' xs) := by
  have HH := Lib.hid h
  have HX := Lib.hid (h.box kd x)
  have HN1 := Lib.hid (line_neg HX.out.has x hx)
  have HN2 := Lib.hid (fun W (hl : reader.Left (boxed w kd x) W B r A n c xs k) => mline_neg (HX.out.modAfter hl) x hx)
  clear h
  unfold args
  go_enter Try.func15, Try.ntmps15
  go_wp2_with fail
  refine HN1.out.mono ?_
  rintro e w2 ⟨rfl, hl⟩
  have HL := Lib.hid hl
  have hb2 := HH.out.boxAfter hl
  have f0 := hb2.cell 0
  have f1 := hb2.cell 1
  clear hl hb2
  go_wp2_with fail
  refine (HN2.out _ HL.out).mono ?_
  rintro e w3 ⟨rfl, hml⟩
  have HML := Lib.hid hml
  clear hml HN1 HN2 f0 f1
  go_wp2
  go_ret
  exact ⟨by simp, Two.done (boxed_below w kd x) HX.out HL.out HML.out (Below.refl _ _)⟩

set_option maxRecDepth 20000 in
set_option maxHeartbeats 2000000 in
theorem reads_line_err (h : Two w B r A n c B' m A' c' xs k) (kd x : Int) (hk0 : 0 ≤ kd) (hk1 : kd ≤ 255) (hq : kd % 4 = 3) (hx : 0 ≤ x) (v er : Int) (hf : lineF (xs.drop k) x = (v, er)) (h56 : er = 5 ∨ er = 6) : Calls Try.prog 15 (args r m kd x) w (DoneE w B r A n c B' m A' c' xs) := by
  have HH := Lib.hid h
  have HX := Lib.hid (h.box kd x)
  have HN1 := Lib.hid (line_err HX.out.has x hx v er hf h56)
  have HN2 := Lib.hid (fun W (hl : reader.Left (boxed w kd x) W B r A n c xs k) => (mline_any (HX.out.modAfter hl) x hx).mono (fun e w' hM => hM.2 v er hf h56))
  clear hf
  clear h
  unfold args
  go_enter Try.func15, Try.ntmps15
  go_wp2_with fail
  refine HN1.out.mono ?_
  rintro e w2 ⟨rfl, hl⟩
  have HL := Lib.hid hl
  have hb2 := HH.out.boxAfter hl
  have f0 := hb2.cell 0
  have f1 := hb2.cell 1
  clear hl hb2
  go_wp2_with fail
  refine (HN2.out _ HL.out).mono ?_
  rintro e w3 ⟨rfl, hml⟩
  have HML := Lib.hid hml
  clear hml HN1 HN2 f0 f1
  go_wp2
  go_ret
  exact ⟨by simp, Two.done (boxed_below w kd x) HX.out HL.out HML.out (Below.refl _ _)⟩

set_option maxRecDepth 20000 in
set_option maxHeartbeats 2000000 in
theorem reads_line_ok (h : Two w B r A n c B' m A' c' xs k) (kd x : Int) (hk0 : 0 ≤ kd) (hk1 : kd ≤ 255) (hq : kd % 4 = 3) (hx : 0 ≤ x) (i : Nat) (hf : lineF (xs.drop k) x = ((i : Int), 0)) : Calls Try.prog 15 (args r m kd x) w (DoneE w B r A n c B' m A' c' xs) := by
  have HH := Lib.hid h
  have HX := Lib.hid (h.box kd x)
  have HN1 := Lib.hid (line_ok HX.out.has x hx i hf)
  have HN2 := Lib.hid (fun W (hl : reader.Left (boxed w kd x) W B r A n c xs (k + (i + 2))) => (mline_any (HX.out.modAfter hl) x hx).mono (fun e w' hM => hM.1 i hf))
  clear hf
  generalize strOfNums ((xs.drop k).take i) = s at *
  have hself : (s.toList != s.toList) = false := by simp
  have hself2 : (s.toList == s.toList) = true := by simp
  clear h
  unfold args
  go_enter Try.func15, Try.ntmps15
  go_wp2_with fail
  refine HN1.out.mono ?_
  rintro e w2 ⟨rfl, hl⟩
  have HL := Lib.hid hl
  have hb2 := HH.out.boxAfter hl
  have f0 := hb2.cell 0
  have f1 := hb2.cell 1
  clear hl hb2
  go_wp2_with fail
  refine (HN2.out _ HL.out).mono ?_
  rintro e w3 ⟨rfl, hml⟩
  have HML := Lib.hid hml
  clear hml HN1 HN2 f0 f1
  go_wp2
  go_ret
  exact ⟨by simp, Two.done (boxed_below w kd x) HX.out HL.out HML.out (Below.refl _ _)⟩
end

end Go.Proofs.Ytliajejgkinkjaa.model
