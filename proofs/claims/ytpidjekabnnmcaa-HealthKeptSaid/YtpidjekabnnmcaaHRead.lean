/-
  Given for the seat's laws: what a health table tells: made, at, Now, Key, Lets, Tells, Place. No condition but those of the theorems.
-/
import Derived.Test.YtpidjekabnnmcaaHMem
namespace Go.Proofs.Ytpidjekabnnmcaa.hp
open Go.RowKit mem find pb
set_option linter.unusedVariables false

theorem infoHealth' : (Try.prog.info? 35).map (fun _ => ()) = some () := by kernel_rfl
theorem run_eql_self (w : World) (b : Nat) : (binOp .eql 31 (.pointer (some ⟨b, 0, none⟩)) (.pointer (some ⟨b, 0, none⟩))).run Try.prog w = .ok (.bool true) w := by
  obtain ⟨j, hj, _⟩ := Option.map_eq_some_iff.1 infoHealth'
  exact run_eql_ptr_same w _ Try.underlying31 hj
set_option maxHeartbeats 400000 in
theorem hmade_at {w : World} {r : Nat} (hc : w.cell? ⟨r, 0, none⟩ = some (.pointer (some ⟨r, 0, none⟩))) : Calls Try.prog 24 #[.pointer (some ⟨r, 0, none⟩)] w fun e w' => e = .returned (.bool true) ∧ w = w' := by
  have he := run_eql_self w r
  go_enter Try.func24, Try.ntmps24
  go_wp2
  go_ret
  exact ⟨rfl, rfl⟩

section
variable {w : World} {S : Nat → Prop} {r c q : Nat} {D : HD} {A : Option Addr} {bs : List Nat}
theorem hmade_yes (h : Hx w S r D A c q bs) : Calls Try.prog 24 #[bp r] w fun e w' => e = .returned (.bool true) ∧ w = w' := hmade_at (h.hd.cell 0)

set_option maxHeartbeats 1000000 in
theorem at_yes (h : Hx w S r D A c q bs) {i b : Nat} (hi : bs[i]? = some b) (hs : D.R.length ≤ 1000) : Calls Try.prog 25 #[bp r, .int .i64 (i : Int)] w fun e w' => e = .returned (bp b) ∧ w = w' := by
  have HM := Lib.hid (hmade_yes h)
  have hil : i < D.R.length := by rw [← h.len]; exact (List.getElem?_eq_some_iff.1 hi).1
  obtain ⟨g, rfl, hg, _, hcell⟩ := h.row.cell (by rw [h.len]; omega)
  have c4 := h.hd.cell 4
  simp at c4
  have ci := hcell i b hi
  generalize D.R.length = n at *
  clear h hcell hi hg
  go_enter Try.func25, Try.ntmps25
  go_wp2_with (go_at_call 24; refine HM.out.mono ?_; rintro e w' ⟨rfl, rfl⟩)
  go_ret
  exact ⟨rfl, rfl⟩
set_option maxHeartbeats 1000000 in
theorem at_no (h : Hx w S r D A c q bs) {i : Int} (hi : i < 0 ∨ (D.R.length : Int) ≤ i) : Calls Try.prog 25 #[bp r, .int .i64 i] w fun e w' => e = .returned (.pointer none) ∧ w = w' := by
  have HM := Lib.hid (hmade_yes h)
  have c4 := h.hd.cell 4
  simp at c4
  generalize D.R.length = n at *
  clear h
  by_cases h0 : i < 0
  · clear hi
    go_enter Try.func25, Try.ntmps25
    go_wp2_with (go_at_call 24; refine HM.out.mono ?_; rintro e w' ⟨rfl, rfl⟩)
    go_ret
    exact ⟨rfl, rfl⟩
  · have h1 : (n : Int) ≤ i := by omega
    have h2 : decide (i < 0) = false := by simp; omega
    clear hi
    go_enter Try.func25, Try.ntmps25
    go_wp2_with (go_at_call 24; refine HM.out.mono ?_; rintro e w' ⟨rfl, rfl⟩)
    go_ret
    exact ⟨rfl, rfl⟩
/-- the record at a place, by number -/
def HD.rec? (D : HD) (i : Int) : Option RD := if 0 ≤ i then D.R[i.toNat]? else none
theorem rec_none {D : HD} {i : Int} (h : D.rec? i = none) : i < 0 ∨ (D.R.length : Int) ≤ i := by
  unfold HD.rec? at h
  split at h
  · have := List.getElem?_eq_none_iff.1 h; omega
  · omega
theorem rec_some {D : HD} {i : Int} {x : RD} (h : D.rec? i = some x) : ∃ k : Nat, i = (k : Int) ∧ D.R[k]? = some x := by
  unfold HD.rec? at h
  split at h
  · exact ⟨i.toNat, by omega, h⟩
  · cases h
theorem rec_at {D : HD} (k : Nat) : D.rec? (k : Int) = D.R[k]? := by simp [HD.rec?]

set_option maxHeartbeats 400000 in
theorem now_any (h : Hx w S r D A c q bs) : Calls Try.prog 12 #[bp r] w fun e w' => e = .returned (.int .i64 D.now) ∧ w = w' := by
  have HM := Lib.hid (hmade_yes h)
  have c1 := h.hd.cell 1
  simp at c1
  clear h
  go_enter Try.func12, Try.ntmps12
  go_wp2_with (go_at_call 24; refine HM.out.mono ?_; rintro e w' ⟨rfl, rfl⟩)
  go_ret
  exact ⟨rfl, rfl⟩
set_option maxHeartbeats 400000 in
theorem key_yes' (h : Hx w S r D A c q bs) (hs : D.R.length ≤ 1000) {k : Nat} {x : RD} (hx : D.R[k]? = some x) : Calls Try.prog 13 #[bp r, .int .i64 (k : Int)] w fun e w' => e = .returned (.int .i64 x.key) ∧ w = w' := by
  obtain ⟨b, hb, hl, _⟩ := h.recs.get hx
  have HA := Lib.hid (at_yes h hb hs)
  have c0 := hl.cell 0
  simp at c0
  clear h hl hb
  go_enter Try.func13, Try.ntmps13
  go_wp2_with (go_at_call 25; refine HA.out.mono ?_; rintro e w' ⟨rfl, rfl⟩)
  go_ret
  exact ⟨rfl, rfl⟩
set_option maxHeartbeats 400000 in
theorem key_no' (h : Hx w S r D A c q bs) {i : Int} (hi : i < 0 ∨ (D.R.length : Int) ≤ i) : Calls Try.prog 13 #[bp r, .int .i64 i] w fun e w' => e = .returned (.int .i64 0) ∧ w = w' := by
  have HA := Lib.hid (at_no h hi)
  clear h
  go_enter Try.func13, Try.ntmps13
  go_wp2_with (go_at_call 25; refine HA.out.mono ?_; rintro e w' ⟨rfl, rfl⟩)
  go_ret
  exact ⟨rfl, rfl⟩
/-- Key -/
def HD.keyAt (D : HD) (i : Int) : Int := match D.rec? i with | some x => x.key | none => 0
theorem hkey_any (h : Hx w S r D A c q bs) (hs : D.R.length ≤ 1000) (i : Int) : Calls Try.prog 13 #[bp r, .int .i64 i] w fun e w' => e = .returned (.int .i64 (D.keyAt i)) ∧ w = w' := by
  unfold HD.keyAt
  cases e : D.rec? i with
  | none => exact key_no' h (rec_none e)
  | some x => obtain ⟨k, rfl, hk⟩ := rec_some e; exact key_yes' h hs hk

theorem bel_grew {w : World} {f : FuncId} {args : Array Value} {v : Value} (u : qt.Bel w) (h : ∀ W, Calls Try.prog f args W (bk.Gv v W)) :
    Calls Try.prog f args u.w' fun e w'' => e = .returned v ∧ ∃ u : qt.Bel w, w'' = u.w' :=
  qt.bel_call u fun W => (h W).mono fun e w' ⟨he, hg⟩ => ⟨he, hg.below⟩

set_option maxHeartbeats 1000000 in
theorem lets_yes (h : Hx w S r D A c q bs) (hs : D.R.length ≤ 1000) {k : Nat} {x : RD} (hx : D.R[k]? = some x) : Calls Try.prog 15 #[bp r, .int .i64 (k : Int)] w fun e w' => e = .returned (.bool (bk.lets x.br D.now)) ∧ Below w.heap.size w w' := by
  obtain ⟨b, hb, hl, _⟩ := h.recs.get hx
  have hmix : Try.prog.follows .mixedOrders = true := by kernel_rfl
  have HA := Lib.hid (at_yes h hb hs)
  have c7 := fun u => qt.bel_cell (hl.cell 7) u
  have c8 := fun u => qt.bel_cell (hl.cell 8) u
  have c9 := fun u => qt.bel_cell (hl.cell 9) u
  have c10 := fun u => qt.bel_cell (hl.cell 10) u
  have c1 := fun u => qt.bel_cell (h.hd.cell 1) u
  simp at c7 c8 c9 c10 c1
  have HL := bk.Bx.mk (bk.lets_any x.br D.now)
  clear h hl hb
  go_enter Try.func15, Try.ntmps15
  go_wp2_with (go_at_call 25; refine HA.out.mono ?_; rintro e w' ⟨rfl, rfl⟩)
  refine qt.region_bel hmix (by kernel_rfl) ?_
  repeat (go_big_quiet_step (first | (go_at_call 34; exact bel_grew _ HL.out)))
  refine wpQuiet_nil ?_
  rintro w2 ⟨u, rfl⟩
  have hu := u.b
  go_wp2_with fail
  go_ret
  exact ⟨rfl, hu⟩

set_option maxHeartbeats 1000000 in
theorem lets_no (h : Hx w S r D A c q bs) {i : Int} (hi : i < 0 ∨ (D.R.length : Int) ≤ i) : Calls Try.prog 15 #[bp r, .int .i64 i] w fun e w' => e = .returned (.bool false) ∧ Below w.heap.size w w' := by
  have HA := Lib.hid (at_no h hi)
  clear h
  go_enter Try.func15, Try.ntmps15
  go_wp2_with (first
    | (go_at_call 25; refine HA.out.mono ?_; rintro e w' ⟨rfl, rfl⟩)
    | (go_quiet (fail)))
  go_ret
  exact ⟨rfl, by first | exact Below.refl _ _ | exact ⟨rfl, rfl, rfl, Nat.le_refl _, fun _ _ => rfl⟩⟩
def HD.lets (D : HD) (i : Int) : Bool := match D.rec? i with | some x => bk.lets x.br D.now | none => false
theorem hlets_any (h : Hx w S r D A c q bs) (hs : D.R.length ≤ 1000) (i : Int) : Calls Try.prog 15 #[bp r, .int .i64 i] w fun e w' => e = .returned (.bool (D.lets i)) ∧ Below w.heap.size w w' := by
  unfold HD.lets
  cases e : D.rec? i with
  | none => exact lets_no h (rec_none e)
  | some x => obtain ⟨k, rfl, hk⟩ := rec_some e; exact lets_yes h hs hk

set_option maxHeartbeats 1000000 in
theorem tells_no (h : Hx w S r D A c q bs) {i : Int} (hi : i < 0 ∨ (D.R.length : Int) ≤ i) : Calls Try.prog 9 #[bp r, .int .i64 i] w fun e w' => e = .returned (.tuple #[.int .u16 0, bk.bv bk.zb]) ∧ Below w.heap.size w w' := by
  have hb : Below w.heap.size w (w.alloc (.cells #[.bool false, .int .i64 0, .int .i64 0, .bool false] 43)) := (Below.refl _ w).alloc (Nat.le_refl _) _
  have HM := Lib.hid (at_no (h.below hb) hi)
  have HB := Lib.hid hb
  have f0 := fun i => Lies.frozen (Lies.new w 43 #[.bool false, .int .i64 0, .int .i64 0, .bool false]) i
  clear h hb
  go_enter Try.func9, Try.ntmps9
  go_wp2_with (go_at_call 25; refine HM.out.mono ?_; rintro e w' ⟨rfl, rfl⟩)
  refine bodyPost_ret (v := .tuple #[.int .u16 0, bk.bv bk.zb]) (by simp [results, Try.results9, go_sem]) rfl ⟨rfl, ?_⟩
  repeat (first | exact HB.out | refine Below.setCell ?_ (by simp) _)
set_option maxHeartbeats 2000000 in
theorem tells_yes (h : Hx w S r D A c q bs) (hs : D.R.length ≤ 1000) {k : Nat} {x : RD} (hx : D.R[k]? = some x) : Calls Try.prog 9 #[bp r, .int .i64 (k : Int)] w fun e w' => e = .returned (.tuple #[.int .u16 (x.wi : Int), bk.bv x.br]) ∧ Below w.heap.size w w' := by
  have hmix : Try.prog.follows .mixedOrders = true := by kernel_rfl
  have hb : Below w.heap.size w (w.alloc (.cells #[.bool false, .int .i64 0, .int .i64 0, .bool false] 43)) := (Below.refl _ w).alloc (Nat.le_refl _) _
  obtain ⟨b, hbi, hl, _⟩ := h.recs.get hx
  have HM := Lib.hid (at_yes (h.below hb) hbi hs)
  have HB := Lib.hid hb
  have hlt := hl.lt
  have f0 := fun i => Lies.frozen (Lies.new w 43 #[.bool false, .int .i64 0, .int .i64 0, .bool false]) i
  have c6 := hl.cell 6
  have c7 := hl.cell 7
  have c8 := hl.cell 8
  have c9 := hl.cell 9
  have c10 := hl.cell 10
  simp at c6 c7 c8 c9 c10
  clear h hb hl hbi
  go_enter Try.func9, Try.ntmps9
  go_wp2_with (go_at_call 25; refine HM.out.mono ?_; rintro e w' ⟨rfl, rfl⟩)
  go_region
  all_goals
    go_wp2_with fail
    refine bodyPost_ret (v := .tuple #[.int .u16 (x.wi : Int), bk.bv x.br]) (by simp [results, Try.results9, go_sem]) rfl ⟨rfl, ?_⟩
    repeat (first | exact HB.out | exact (Below.refl _ _).alloc (Nat.le_refl _) _ | refine Below.setCell ?_ (by simp) _ | refine Below.drew ?_)
def HD.tells (D : HD) (i : Int) : Value := match D.rec? i with | some x => .tuple #[.int .u16 (x.wi : Int), bk.bv x.br] | none => .tuple #[.int .u16 0, bk.bv bk.zb]
theorem tells_any (h : Hx w S r D A c q bs) (hs : D.R.length ≤ 1000) (i : Int) : Calls Try.prog 9 #[bp r, .int .i64 i] w fun e w' => e = .returned (D.tells i) ∧ Below w.heap.size w w' := by
  unfold HD.tells
  cases e : D.rec? i with
  | none => exact tells_no h (rec_none e)
  | some x => obtain ⟨k, rfl, hk⟩ := rec_some e; exact tells_yes h hs hk
end
end Go.Proofs.Ytpidjekabnnmcaa.hp
