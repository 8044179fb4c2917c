/-
  Given for the seat's laws: HostOne at any two targets. No condition but those of the theorems.
-/
import Derived.Test.YtpllhnknejceiaaGreatDoorHGreatW
import Derived.Deep.RegionHeld3
namespace Go.Proofs.YtpllhnknejceiaaGreatDoor.hw
open Go.RowKit mem hostp own
set_option linter.unusedVariables false

theorem hh_ne {k k' : Int} {t t' : ByteArray} (h0 : 0 ≤ k) (h1 : 0 ≤ k') (h : ¬ (k = k' ∧ t = t')) : hh k t ≠ hh k' t' := fun e => by
  unfold hh at e
  simp only [H.mk.injEq] at e
  refine h ⟨by omega, ?_⟩
  apply ByteArray.ext
  exact Array.toList_inj.1 e.2
theorem S_ne {a b : Str} (h : a ≠ b) : ((S a).toList == (S b).toList) = false := by
  rw [Lib.toList_data, Lib.toList_data, S_list, S_list]
  exact beq_eq_false_iff_ne.2 h
theorem ba_ne {a b : ByteArray} (h : a ≠ b) : (a.toList == b.toList) = false := by
  rw [Lib.toList_data, Lib.toList_data]
  exact beq_eq_false_iff_ne.2 fun e => h (ByteArray.ext (Array.toList_inj.1 e))

/-- two targets as they lie, and nothing that was there has turned -/
structure PO (w : World) (ga gb : Nat) (k : Int) (t : ByteArray) (p : Int) (k' : Int) (t' : ByteArray) (p' : Int) (wr : World) : Prop where
  one : Lies wr ga 30 #[.int .u8 k, .string t, .int .i64 p]
  two : Lies wr gb 30 #[.int .u8 k', .string t', .int .i64 p']
  below : Below w.heap.size w wr
theorem PO.fresh {w wr w2 : World} {ga gb : Nat} {k : Int} {t : ByteArray} {p : Int} {k' : Int} {t' : ByteArray} {p' : Int} (h : PO w ga gb k t p k' t' p' wr) (hb : Below wr.heap.size wr w2) : PO w ga gb k t p k' t' p' w2 :=
  ⟨h.one.below hb h.one.lt, h.two.below hb h.two.lt, h.below.trans (hb.mono h.below.size)⟩
theorem PO.cells {w wr : World} {ga gb : Nat} {k : Int} {t : ByteArray} {p : Int} {k' : Int} {t' : ByteArray} {p' : Int} (h : PO w ga gb k t p k' t' p' wr) :
    wr.cell? ⟨ga, 0, none⟩ = some (.int .u8 k) ∧ wr.cell? ⟨ga, 1, none⟩ = some (.string t) ∧ wr.cell? ⟨ga, 2, none⟩ = some (.int .i64 p) ∧ wr.cell? ⟨gb, 0, none⟩ = some (.int .u8 k') ∧ wr.cell? ⟨gb, 1, none⟩ = some (.string t') ∧ wr.cell? ⟨gb, 2, none⟩ = some (.int .i64 p') :=
  ⟨h.one.cell 0, h.one.cell 1, h.one.cell 2, h.two.cell 0, h.two.cell 1, h.two.cell 2⟩

set_option maxRecDepth 100000 in
set_option maxHeartbeats 16000000 in
theorem one_walk (k : Int) (t : ByteArray) (p : Int) (h0 : 0 ≤ k) (k' : Int) (t' : ByteArray) (p' : Int) (h0' : 0 ≤ k') (w : World) (he : Env w) : Calls Tryz.prog 5 #[tv k t p, tv k' t' p'] w (Gives (.bool true) w) := by
  obtain ⟨w0, hw0⟩ : ∃ w0, w0 = (w.alloc (.cells #[.int .u8 k, .string t, .int .i64 p] 30)).alloc (.cells #[.int .u8 k', .string t', .int .i64 p'] 30) := ⟨_, rfl⟩
  obtain ⟨ga, hga⟩ : ∃ ga, ga = w.heap.size := ⟨_, rfl⟩
  obtain ⟨gb, hgb⟩ : ∃ gb, gb = w.heap.size + 1 := ⟨_, rfl⟩
  have hP : PO w ga gb k t p k' t' p' w0 := by
    rw [hw0, hga, hgb]
    refine ⟨(Lies.new w _ _).alloc _, ?_, ((Below.refl _ w).alloc (Nat.le_refl _) _).alloc (by simp) _⟩
    have := Lies.new (w.alloc (.cells #[.int .u8 k, .string t, .int .i64 p] 30)) 30 #[.int .u8 k', .string t', .int .i64 p']
    simpa using this
  have hAW := awake_any w0 (he.below hP.below)
  have HAW := Bx.mk hAW
  have HP := Bx.mk hP
  have HE := Bx.mk he
  clear hAW hP he
  unfold tv
  go_enter Tryz.func5, Tryz.ntmps5
  go_wp2_with fail
  rw [← hw0, ← hgb, ← hga]
  clear hw0 hga hgb
  refine HAW.out.mono ?_
  rintro e w1 ⟨rfl, hb1⟩
  have HP1 := Bx.mk (HP.out.fresh hb1)
  clear hb1 HP HAW
  obtain ⟨a0, a1, a2, b0, b1, b2⟩ := HP1.out.cells
  by_cases hs : 2000 < t.size
  · go_wp2_with fail
    go_ret
    exact ⟨rfl, HP1.out.below⟩
  · by_cases hs' : 2000 < t'.size
    · go_wp2_with fail
      go_ret
      exact ⟨rfl, HP1.out.below⟩
    · go_upto_region 5 with fail
      go_cut [41] (fun s41 wx => s41 = .bool false ∧ Bx (PO w ga gb k t p k' t' p' wx))
      case first =>
        clear a0 a1 a2 b0 b1 b2
        have HC := Bx.mk (show ∀ W, Below w1.heap.size w1 W → _ from fun W hW => (HP1.out.fresh hW).cells)
        have bb : Below w1.heap.size w1 w1.drew := (Below.refl _ w1).drew
        have HE1 := Bx.mk (HE.out.below HP1.out.below)
        by_cases hma : may (hh k t) = true
        · by_cases hmb : may (hh k' t') = true
          · by_cases hk : k = k'
            · by_cases ht : t = t'
              · subst hk ht
                have h1 := fun W => may_any k t h0 W
                have h2 := fun W => may_any k t h0 W
                have h5 := fun W (hW : Below w1.heap.size w1 W) => text_any k t h0 W (HE1.out.below hW)
                have h6 := fun W (hW : Below w1.heap.size w1 W) => text_any k t h0 W (HE1.out.below hW)
                unfold hv at h1 h2 h5 h6
                rw [hma] at h1
                rw [hma] at h2
                generalize S (text (hh k t)) = x1 at h5 h6
                have e1 : (x1.toList == x1.toList) = true := beq_self_eq_true _
                have e2 : (k == k) = true := beq_self_eq_true _
                have e3 : (t.toList == t.toList) = true := beq_self_eq_true _
                have H1 := Bx.mk h1; have H2 := Bx.mk h2; have H5 := Bx.mk h5; have H6 := Bx.mk h6
                clear h1 h2 h5 h6 hma hmb
                go_region_held3 (fun W' => W'.cell? ⟨ga, 0, none⟩ = some (.int .u8 k) ∧ W'.cell? ⟨ga, 1, none⟩ = some (.string t) ∧ W'.cell? ⟨ga, 2, none⟩ = some (.int .i64 p) ∧ W'.cell? ⟨gb, 0, none⟩ = some (.int .u8 k) ∧ W'.cell? ⟨gb, 1, none⟩ = some (.string t) ∧ W'.cell? ⟨gb, 2, none⟩ = some (.int .i64 p'))
                  (first | exact HC.out _ bb)
                  (first | ((go_at_call 13; first | (with_reducible refine (H1.out _).mono ?_) | (with_reducible refine (H2.out _).mono ?_)); rintro e w2 ⟨rfl, hb2⟩; replace bb := bb.trans (hb2.mono bb.size); clear hb2) | ((go_at_call 14; first | (with_reducible refine (H5.out _ bb).mono ?_) | (with_reducible refine (H6.out _ bb).mono ?_)); rintro e w2 ⟨rfl, hb2⟩; replace bb := bb.trans (hb2.mono bb.size); clear hb2))
                all_goals
                  go_wp2_with fail
                  go_meet
                  exact ⟨rfl, ⟨HP1.out.fresh bb⟩⟩
              · subst hk
                have h1 := fun W => may_any k t h0 W
                have h2 := fun W => may_any k t' h0' W
                have h5 := fun W (hW : Below w1.heap.size w1 W) => text_any k t h0 W (HE1.out.below hW)
                have h6 := fun W (hW : Below w1.heap.size w1 W) => text_any k t' h0' W (HE1.out.below hW)
                unfold hv at h1 h2 h5 h6
                rw [hma] at h1
                rw [hmb] at h2
                have e1 := S_ne (a := text (hh k t)) (b := text (hh k t')) (fun e => hh_ne h0 h0' (fun e2 => ht e2.2) (text_inj hma hmb e))
                generalize S (text (hh k t)) = x1 at h5 e1
                generalize S (text (hh k t')) = x2 at h6 e1
                have e2 : (k == k) = true := beq_self_eq_true _
                have e3 : (t.toList == t'.toList) = false := ba_ne ht
                have H1 := Bx.mk h1; have H2 := Bx.mk h2; have H5 := Bx.mk h5; have H6 := Bx.mk h6
                clear h1 h2 h5 h6 hma hmb ht
                go_region_held3 (fun W' => W'.cell? ⟨ga, 0, none⟩ = some (.int .u8 k) ∧ W'.cell? ⟨ga, 1, none⟩ = some (.string t) ∧ W'.cell? ⟨ga, 2, none⟩ = some (.int .i64 p) ∧ W'.cell? ⟨gb, 0, none⟩ = some (.int .u8 k) ∧ W'.cell? ⟨gb, 1, none⟩ = some (.string t') ∧ W'.cell? ⟨gb, 2, none⟩ = some (.int .i64 p'))
                  (first | exact HC.out _ bb)
                  (first | ((go_at_call 13; first | (with_reducible refine (H1.out _).mono ?_) | (with_reducible refine (H2.out _).mono ?_)); rintro e w2 ⟨rfl, hb2⟩; replace bb := bb.trans (hb2.mono bb.size); clear hb2) | ((go_at_call 14; first | (with_reducible refine (H5.out _ bb).mono ?_) | (with_reducible refine (H6.out _ bb).mono ?_)); rintro e w2 ⟨rfl, hb2⟩; replace bb := bb.trans (hb2.mono bb.size); clear hb2))
                all_goals
                  go_wp2_with fail
                  go_meet
                  exact ⟨rfl, ⟨HP1.out.fresh bb⟩⟩
            · have e2 : (k == k') = false := beq_eq_false_iff_ne.2 hk
              have h1 := fun W => may_any k t h0 W
              have h2 := fun W => may_any k' t' h0' W
              have h5 := fun W (hW : Below w1.heap.size w1 W) => text_any k t h0 W (HE1.out.below hW)
              have h6 := fun W (hW : Below w1.heap.size w1 W) => text_any k' t' h0' W (HE1.out.below hW)
              unfold hv at h1 h2 h5 h6
              rw [hma] at h1
              rw [hmb] at h2
              have e1 := S_ne (a := text (hh k t)) (b := text (hh k' t')) (fun e => hh_ne h0 h0' (fun e2 => hk e2.1) (text_inj hma hmb e))
              generalize S (text (hh k t)) = x1 at h5 e1
              generalize S (text (hh k' t')) = x2 at h6 e1
              have H1 := Bx.mk h1; have H2 := Bx.mk h2; have H5 := Bx.mk h5; have H6 := Bx.mk h6
              clear h1 h2 h5 h6 hma hmb hk
              go_region_held3 (fun W' => W'.cell? ⟨ga, 0, none⟩ = some (.int .u8 k) ∧ W'.cell? ⟨ga, 1, none⟩ = some (.string t) ∧ W'.cell? ⟨ga, 2, none⟩ = some (.int .i64 p) ∧ W'.cell? ⟨gb, 0, none⟩ = some (.int .u8 k') ∧ W'.cell? ⟨gb, 1, none⟩ = some (.string t') ∧ W'.cell? ⟨gb, 2, none⟩ = some (.int .i64 p'))
                (first | exact HC.out _ bb)
                (first | ((go_at_call 13; first | (with_reducible refine (H1.out _).mono ?_) | (with_reducible refine (H2.out _).mono ?_)); rintro e w2 ⟨rfl, hb2⟩; replace bb := bb.trans (hb2.mono bb.size); clear hb2) | ((go_at_call 14; first | (with_reducible refine (H5.out _ bb).mono ?_) | (with_reducible refine (H6.out _ bb).mono ?_)); rintro e w2 ⟨rfl, hb2⟩; replace bb := bb.trans (hb2.mono bb.size); clear hb2))
              all_goals
                go_wp2_with fail
                go_meet
                exact ⟨rfl, ⟨HP1.out.fresh bb⟩⟩
          · have hmb := eq_false_of_ne_true hmb
            have h1 := fun W => may_any k t h0 W
            have h2 := fun W => may_any k' t' h0' W
            have h5 := fun W (hW : Below w1.heap.size w1 W) => text_any k t h0 W (HE1.out.below hW)
            have h6 := fun W (hW : Below w1.heap.size w1 W) => text_any k' t' h0' W (HE1.out.below hW)
            unfold hv at h1 h2 h5 h6
            rw [hma] at h1
            rw [hmb] at h2
            have H1 := Bx.mk h1; have H2 := Bx.mk h2; have H5 := Bx.mk h5; have H6 := Bx.mk h6
            clear h1 h2 h5 h6 hma hmb
            refine wp_region_held_drew (S := fun W' => W'.cell? ⟨ga, 0, none⟩ = some (.int .u8 k) ∧ W'.cell? ⟨ga, 1, none⟩ = some (.string t) ∧ W'.cell? ⟨ga, 2, none⟩ = some (.int .i64 p) ∧ W'.cell? ⟨gb, 0, none⟩ = some (.int .u8 k') ∧ W'.cell? ⟨gb, 1, none⟩ = some (.string t') ∧ W'.cell? ⟨gb, 2, none⟩ = some (.int .i64 p')) (by kernel_rfl) (HC.out _ bb) (fun hHeld => ?_)
            refine wpAnyH_take (i := 0) (oi := { dst := some 19, op := Op.fieldAddr 30 (Operand.tmp 2) 0, type := 0, pos := "outright.go:117", after := #[], guard := none }) (v := ?v1) rfl (by kernel_rfl) (by kernel_rfl) (by kernel_rfl) (fun _ _ _ h => h) (Or.inl ⟨by rfl, ?y1⟩) hHeld ?r1
            case y1 => (intro W hSw; (try dsimp only at hSw); go_simp; try with_reducible rfl)
            try simp only [Act.put, List.setIfInBounds_toArray, List.set_cons_zero, List.set_cons_succ]
            refine wpAnyH_take (i := 1) (oi := { dst := some 20, op := Op.load 23 (Operand.tmp 19), type := 23, pos := "outright.go:117", after := #[{ on := 0, ground := Ground.data }], guard := none }) (v := ?v2) rfl (by kernel_rfl) (by kernel_rfl) (by kernel_rfl) (fun _ _ _ h => h) (Or.inl ⟨by rfl, ?y2⟩) hHeld ?r2
            case y2 => (intro W hSw; (try dsimp only at hSw); go_simp; try with_reducible rfl)
            try simp only [Act.put, List.setIfInBounds_toArray, List.set_cons_zero, List.set_cons_succ]
            refine wpAnyH_ready (rs := [2]) (by kernel_rfl) (by simp) (AllReadyH.cons (o := { dst := some 21, op := Op.call { callee := Callee.value (Operand.func 13), args := #[Operand.tmp 20], argTypes := #[23] }, type := 4, pos := "outright.go:117", after := #[{ on := 1, ground := Ground.data }], guard := none }) rfl (fun K hK => ?_) AllReadyH.nil)
            go_simp
            refine (H1.out _).mono ?_
            rintro e w2 ⟨rfl, hb2⟩
            replace bb := bb.trans (hb2.mono bb.size)
            refine hK.out _ _ (HC.out _ bb) (fun hHeld => ?_)
            clear hK K hb2
            try simp only [Act.put, List.setIfInBounds_toArray, List.set_cons_zero, List.set_cons_succ]
            refine wpAnyH_take (i := 3) (oi := { dst := some 22, op := Op.move (Operand.tmp 21), type := 4, pos := "outright.go:117", after := #[{ on := 2, ground := Ground.data }, { on := 2, ground := Ground.chain }], guard := none }) (v := ?v4) rfl (by kernel_rfl) (by kernel_rfl) (by kernel_rfl) (fun _ _ _ h => h) (Or.inl ⟨by rfl, ?y4⟩) hHeld ?r4
            case y4 => (intro W hSw; (try dsimp only at hSw); go_simp; try with_reducible rfl)
            try simp only [Act.put, List.setIfInBounds_toArray, List.set_cons_zero, List.set_cons_succ]
            refine wpAnyH_take (i := 4) (oi := { dst := some 23, op := Op.fieldAddr 30 (Operand.tmp 3) 0, type := 0, pos := "outright.go:117", after := #[{ on := 3, ground := Ground.guard }], guard := some (3, true) }) (v := ?v5) rfl (by kernel_rfl) (by kernel_rfl) (by kernel_rfl) (fun _ _ _ h => h) (Or.inl ⟨by rfl, ?y5⟩) hHeld ?r5
            case y5 => (intro W hSw; (try dsimp only at hSw); go_simp; try with_reducible rfl)
            try simp only [Act.put, List.setIfInBounds_toArray, List.set_cons_zero, List.set_cons_succ]
            refine wpAnyH_take (i := 5) (oi := { dst := some 24, op := Op.load 23 (Operand.tmp 23), type := 23, pos := "outright.go:117", after := #[{ on := 4, ground := Ground.data }, { on := 3, ground := Ground.guard }], guard := some (3, true) }) (v := ?v6) rfl (by kernel_rfl) (by kernel_rfl) (by kernel_rfl) (fun _ _ _ h => h) (Or.inl ⟨by rfl, ?y6⟩) hHeld ?r6
            case y6 => (intro W hSw; (try dsimp only at hSw); go_simp; try with_reducible rfl)
            try simp only [Act.put, List.setIfInBounds_toArray, List.set_cons_zero, List.set_cons_succ]
            refine wpAnyH_ready (rs := [6]) (by kernel_rfl) (by simp) (AllReadyH.cons (o := { dst := some 25, op := Op.call { callee := Callee.value (Operand.func 13), args := #[Operand.tmp 24], argTypes := #[23] }, type := 4, pos := "outright.go:117", after := #[{ on := 5, ground := Ground.data }, { on := 3, ground := Ground.chain }, { on := 3, ground := Ground.guard }], guard := some (3, true) }) rfl (fun K hK => ?_) AllReadyH.nil)
            go_simp
            refine (H2.out _).mono ?_
            rintro e w2 ⟨rfl, hb2⟩
            replace bb := bb.trans (hb2.mono bb.size)
            refine hK.out _ _ (HC.out _ bb) (fun hHeld => ?_)
            clear hK K hb2
            try simp only [Act.put, List.setIfInBounds_toArray, List.set_cons_zero, List.set_cons_succ]
            refine wpAnyH_take (i := 7) (oi := { dst := some 26, op := Op.pick (Operand.tmp 22) (Operand.tmp 25) (Operand.const (Value.bool false)), type := 4, pos := "outright.go:117", after := #[{ on := 3, ground := Ground.data }, { on := 6, ground := Ground.data }], guard := none }) (v := ?v8) rfl (by kernel_rfl) (by kernel_rfl) (by kernel_rfl) (fun _ _ _ h => h) (Or.inl ⟨by rfl, ?y8⟩) hHeld ?r8
            case y8 => (intro W hSw; (try dsimp only at hSw); go_simp; try with_reducible rfl)
            try simp only [Act.put, List.setIfInBounds_toArray, List.set_cons_zero, List.set_cons_succ]
            refine wpAnyH_take (i := 8) (oi := { dst := some 27, op := Op.move (Operand.tmp 26), type := 4, pos := "outright.go:117", after := #[{ on := 7, ground := Ground.data }, { on := 6, ground := Ground.chain }], guard := none }) (v := ?v9) rfl (by kernel_rfl) (by kernel_rfl) (by kernel_rfl) (fun _ _ _ h => h) (Or.inl ⟨by rfl, ?y9⟩) hHeld ?r9
            case y9 => (intro W hSw; (try dsimp only at hSw); go_simp; try with_reducible rfl)
            try simp only [Act.put, List.setIfInBounds_toArray, List.set_cons_zero, List.set_cons_succ]
            refine wpAnyH_take (i := 9) (oi := { dst := some 28, op := Op.fieldAddr 30 (Operand.tmp 2) 0, type := 0, pos := "outright.go:117", after := #[{ on := 8, ground := Ground.guard }], guard := some (8, true) }) (v := undef) rfl (by kernel_rfl) (by kernel_rfl) (by kernel_rfl) (fun _ _ _ h => h) (Or.inr ⟨by rfl, rfl⟩) hHeld ?r10
            try simp only [Act.put, List.setIfInBounds_toArray, List.set_cons_zero, List.set_cons_succ]
            refine wpAnyH_take (i := 10) (oi := { dst := some 29, op := Op.load 23 (Operand.tmp 28), type := 23, pos := "outright.go:117", after := #[{ on := 9, ground := Ground.data }, { on := 8, ground := Ground.guard }], guard := some (8, true) }) (v := undef) rfl (by kernel_rfl) (by kernel_rfl) (by kernel_rfl) (fun _ _ _ h => h) (Or.inr ⟨by rfl, rfl⟩) hHeld ?r11
            try simp only [Act.put, List.setIfInBounds_toArray, List.set_cons_zero, List.set_cons_succ]
            refine wpAnyH_take (i := 11) (oi := { dst := some 30, op := Op.call { callee := Callee.value (Operand.func 14), args := #[Operand.tmp 29], argTypes := #[23] }, type := 9, pos := "outright.go:117", after := #[{ on := 10, ground := Ground.data }, { on := 8, ground := Ground.chain }, { on := 8, ground := Ground.guard }], guard := some (8, true) }) (v := undef) rfl (by kernel_rfl) (by kernel_rfl) (by kernel_rfl) (fun _ _ _ h => h) (Or.inr ⟨by rfl, rfl⟩) hHeld ?r12
            try simp only [Act.put, List.setIfInBounds_toArray, List.set_cons_zero, List.set_cons_succ]
            refine wpAnyH_take (i := 12) (oi := { dst := some 31, op := Op.fieldAddr 30 (Operand.tmp 3) 0, type := 0, pos := "outright.go:117", after := #[{ on := 8, ground := Ground.guard }], guard := some (8, true) }) (v := undef) rfl (by kernel_rfl) (by kernel_rfl) (by kernel_rfl) (fun _ _ _ h => h) (Or.inr ⟨by rfl, rfl⟩) hHeld ?r13
            try simp only [Act.put, List.setIfInBounds_toArray, List.set_cons_zero, List.set_cons_succ]
            refine wpAnyH_take (i := 13) (oi := { dst := some 32, op := Op.load 23 (Operand.tmp 31), type := 23, pos := "outright.go:117", after := #[{ on := 12, ground := Ground.data }, { on := 8, ground := Ground.guard }], guard := some (8, true) }) (v := undef) rfl (by kernel_rfl) (by kernel_rfl) (by kernel_rfl) (fun _ _ _ h => h) (Or.inr ⟨by rfl, rfl⟩) hHeld ?r14
            try simp only [Act.put, List.setIfInBounds_toArray, List.set_cons_zero, List.set_cons_succ]
            refine wpAnyH_take (i := 14) (oi := { dst := some 33, op := Op.call { callee := Callee.value (Operand.func 14), args := #[Operand.tmp 32], argTypes := #[23] }, type := 9, pos := "outright.go:117", after := #[{ on := 13, ground := Ground.data }, { on := 11, ground := Ground.chain }, { on := 8, ground := Ground.guard }], guard := some (8, true) }) (v := undef) rfl (by kernel_rfl) (by kernel_rfl) (by kernel_rfl) (fun _ _ _ h => h) (Or.inr ⟨by rfl, rfl⟩) hHeld ?r15
            try simp only [Act.put, List.setIfInBounds_toArray, List.set_cons_zero, List.set_cons_succ]
            refine wpAnyH_take (i := 15) (oi := { dst := some 34, op := Op.binOp BinOp.eql 9 (Operand.tmp 30) (Operand.tmp 33) 9, type := 4, pos := "outright.go:117", after := #[{ on := 11, ground := Ground.data }, { on := 14, ground := Ground.data }, { on := 8, ground := Ground.guard }], guard := some (8, true) }) (v := undef) rfl (by kernel_rfl) (by kernel_rfl) (by kernel_rfl) (fun _ _ _ h => h) (Or.inr ⟨by rfl, rfl⟩) hHeld ?r16
            try simp only [Act.put, List.setIfInBounds_toArray, List.set_cons_zero, List.set_cons_succ]
            refine wpAnyH_take (i := 16) (oi := { dst := some 35, op := Op.fieldAddr 30 (Operand.tmp 2) 0, type := 0, pos := "outright.go:117", after := #[{ on := 8, ground := Ground.guard }], guard := some (8, true) }) (v := undef) rfl (by kernel_rfl) (by kernel_rfl) (by kernel_rfl) (fun _ _ _ h => h) (Or.inr ⟨by rfl, rfl⟩) hHeld ?r17
            try simp only [Act.put, List.setIfInBounds_toArray, List.set_cons_zero, List.set_cons_succ]
            refine wpAnyH_take (i := 17) (oi := { dst := some 36, op := Op.load 23 (Operand.tmp 35), type := 23, pos := "outright.go:117", after := #[{ on := 16, ground := Ground.data }, { on := 8, ground := Ground.guard }], guard := some (8, true) }) (v := undef) rfl (by kernel_rfl) (by kernel_rfl) (by kernel_rfl) (fun _ _ _ h => h) (Or.inr ⟨by rfl, rfl⟩) hHeld ?r18
            try simp only [Act.put, List.setIfInBounds_toArray, List.set_cons_zero, List.set_cons_succ]
            refine wpAnyH_take (i := 18) (oi := { dst := some 37, op := Op.fieldAddr 30 (Operand.tmp 3) 0, type := 0, pos := "outright.go:117", after := #[{ on := 8, ground := Ground.guard }], guard := some (8, true) }) (v := undef) rfl (by kernel_rfl) (by kernel_rfl) (by kernel_rfl) (fun _ _ _ h => h) (Or.inr ⟨by rfl, rfl⟩) hHeld ?r19
            try simp only [Act.put, List.setIfInBounds_toArray, List.set_cons_zero, List.set_cons_succ]
            refine wpAnyH_take (i := 19) (oi := { dst := some 38, op := Op.load 23 (Operand.tmp 37), type := 23, pos := "outright.go:117", after := #[{ on := 18, ground := Ground.data }, { on := 8, ground := Ground.guard }], guard := some (8, true) }) (v := undef) rfl (by kernel_rfl) (by kernel_rfl) (by kernel_rfl) (fun _ _ _ h => h) (Or.inr ⟨by rfl, rfl⟩) hHeld ?r20
            try simp only [Act.put, List.setIfInBounds_toArray, List.set_cons_zero, List.set_cons_succ]
            refine wpAnyH_take (i := 20) (oi := { dst := some 39, op := Op.binOp BinOp.eql 23 (Operand.tmp 36) (Operand.tmp 38) 23, type := 4, pos := "outright.go:117", after := #[{ on := 17, ground := Ground.data }, { on := 19, ground := Ground.data }, { on := 8, ground := Ground.guard }], guard := some (8, true) }) (v := undef) rfl (by kernel_rfl) (by kernel_rfl) (by kernel_rfl) (fun _ _ _ h => h) (Or.inr ⟨by rfl, rfl⟩) hHeld ?r21
            try simp only [Act.put, List.setIfInBounds_toArray, List.set_cons_zero, List.set_cons_succ]
            refine wpAnyH_take (i := 21) (oi := { dst := some 40, op := Op.binOp BinOp.neq 4 (Operand.tmp 34) (Operand.tmp 39) 4, type := 4, pos := "outright.go:117", after := #[{ on := 15, ground := Ground.data }, { on := 20, ground := Ground.data }, { on := 8, ground := Ground.guard }], guard := some (8, true) }) (v := undef) rfl (by kernel_rfl) (by kernel_rfl) (by kernel_rfl) (fun _ _ _ h => h) (Or.inr ⟨by rfl, rfl⟩) hHeld ?r22
            try simp only [Act.put, List.setIfInBounds_toArray, List.set_cons_zero, List.set_cons_succ]
            refine wpAnyH_take (i := 22) (oi := { dst := some 41, op := Op.pick (Operand.tmp 27) (Operand.tmp 40) (Operand.const (Value.bool false)), type := 4, pos := "outright.go:117", after := #[{ on := 8, ground := Ground.data }, { on := 21, ground := Ground.data }], guard := none }) (v := ?v23) rfl (by kernel_rfl) (by kernel_rfl) (by kernel_rfl) (fun _ _ _ h => h) (Or.inl ⟨by rfl, ?y23⟩) hHeld ?r23
            case y23 => (intro W hSw; (try dsimp only at hSw); go_simp; try with_reducible rfl)
            try simp only [Act.put, List.setIfInBounds_toArray, List.set_cons_zero, List.set_cons_succ]
            refine wpAnyH_done (by kernel_rfl) ?_ _
            go_wp2_with fail
            go_meet
            exact ⟨rfl, ⟨HP1.out.fresh bb⟩⟩
        · have hma := eq_false_of_ne_true hma
          have h1 := fun W => may_any k t h0 W
          have h2 := fun W => may_any k' t' h0' W
          have h5 := fun W (hW : Below w1.heap.size w1 W) => text_any k t h0 W (HE1.out.below hW)
          have h6 := fun W (hW : Below w1.heap.size w1 W) => text_any k' t' h0' W (HE1.out.below hW)
          unfold hv at h1 h2 h5 h6
          rw [hma] at h1
          have H1 := Bx.mk h1; have H2 := Bx.mk h2; have H5 := Bx.mk h5; have H6 := Bx.mk h6
          clear h1 h2 h5 h6 hma
          refine wp_region_held_drew (S := fun W' => W'.cell? ⟨ga, 0, none⟩ = some (.int .u8 k) ∧ W'.cell? ⟨ga, 1, none⟩ = some (.string t) ∧ W'.cell? ⟨ga, 2, none⟩ = some (.int .i64 p) ∧ W'.cell? ⟨gb, 0, none⟩ = some (.int .u8 k') ∧ W'.cell? ⟨gb, 1, none⟩ = some (.string t') ∧ W'.cell? ⟨gb, 2, none⟩ = some (.int .i64 p')) (by kernel_rfl) (HC.out _ bb) (fun hHeld => ?_)
          refine wpAnyH_take (i := 0) (oi := { dst := some 19, op := Op.fieldAddr 30 (Operand.tmp 2) 0, type := 0, pos := "outright.go:117", after := #[], guard := none }) (v := ?v24) rfl (by kernel_rfl) (by kernel_rfl) (by kernel_rfl) (fun _ _ _ h => h) (Or.inl ⟨by rfl, ?y24⟩) hHeld ?r24
          case y24 => (intro W hSw; (try dsimp only at hSw); go_simp; try with_reducible rfl)
          try simp only [Act.put, List.setIfInBounds_toArray, List.set_cons_zero, List.set_cons_succ]
          refine wpAnyH_take (i := 1) (oi := { dst := some 20, op := Op.load 23 (Operand.tmp 19), type := 23, pos := "outright.go:117", after := #[{ on := 0, ground := Ground.data }], guard := none }) (v := ?v25) rfl (by kernel_rfl) (by kernel_rfl) (by kernel_rfl) (fun _ _ _ h => h) (Or.inl ⟨by rfl, ?y25⟩) hHeld ?r25
          case y25 => (intro W hSw; (try dsimp only at hSw); go_simp; try with_reducible rfl)
          try simp only [Act.put, List.setIfInBounds_toArray, List.set_cons_zero, List.set_cons_succ]
          refine wpAnyH_ready (rs := [2]) (by kernel_rfl) (by simp) (AllReadyH.cons (o := { dst := some 21, op := Op.call { callee := Callee.value (Operand.func 13), args := #[Operand.tmp 20], argTypes := #[23] }, type := 4, pos := "outright.go:117", after := #[{ on := 1, ground := Ground.data }], guard := none }) rfl (fun K hK => ?_) AllReadyH.nil)
          go_simp
          refine (H1.out _).mono ?_
          rintro e w2 ⟨rfl, hb2⟩
          replace bb := bb.trans (hb2.mono bb.size)
          refine hK.out _ _ (HC.out _ bb) (fun hHeld => ?_)
          clear hK K hb2
          try simp only [Act.put, List.setIfInBounds_toArray, List.set_cons_zero, List.set_cons_succ]
          refine wpAnyH_take (i := 3) (oi := { dst := some 22, op := Op.move (Operand.tmp 21), type := 4, pos := "outright.go:117", after := #[{ on := 2, ground := Ground.data }, { on := 2, ground := Ground.chain }], guard := none }) (v := ?v27) rfl (by kernel_rfl) (by kernel_rfl) (by kernel_rfl) (fun _ _ _ h => h) (Or.inl ⟨by rfl, ?y27⟩) hHeld ?r27
          case y27 => (intro W hSw; (try dsimp only at hSw); go_simp; try with_reducible rfl)
          try simp only [Act.put, List.setIfInBounds_toArray, List.set_cons_zero, List.set_cons_succ]
          refine wpAnyH_take (i := 4) (oi := { dst := some 23, op := Op.fieldAddr 30 (Operand.tmp 3) 0, type := 0, pos := "outright.go:117", after := #[{ on := 3, ground := Ground.guard }], guard := some (3, true) }) (v := undef) rfl (by kernel_rfl) (by kernel_rfl) (by kernel_rfl) (fun _ _ _ h => h) (Or.inr ⟨by rfl, rfl⟩) hHeld ?r28
          try simp only [Act.put, List.setIfInBounds_toArray, List.set_cons_zero, List.set_cons_succ]
          refine wpAnyH_take (i := 5) (oi := { dst := some 24, op := Op.load 23 (Operand.tmp 23), type := 23, pos := "outright.go:117", after := #[{ on := 4, ground := Ground.data }, { on := 3, ground := Ground.guard }], guard := some (3, true) }) (v := undef) rfl (by kernel_rfl) (by kernel_rfl) (by kernel_rfl) (fun _ _ _ h => h) (Or.inr ⟨by rfl, rfl⟩) hHeld ?r29
          try simp only [Act.put, List.setIfInBounds_toArray, List.set_cons_zero, List.set_cons_succ]
          refine wpAnyH_take (i := 6) (oi := { dst := some 25, op := Op.call { callee := Callee.value (Operand.func 13), args := #[Operand.tmp 24], argTypes := #[23] }, type := 4, pos := "outright.go:117", after := #[{ on := 5, ground := Ground.data }, { on := 3, ground := Ground.chain }, { on := 3, ground := Ground.guard }], guard := some (3, true) }) (v := undef) rfl (by kernel_rfl) (by kernel_rfl) (by kernel_rfl) (fun _ _ _ h => h) (Or.inr ⟨by rfl, rfl⟩) hHeld ?r30
          try simp only [Act.put, List.setIfInBounds_toArray, List.set_cons_zero, List.set_cons_succ]
          refine wpAnyH_take (i := 7) (oi := { dst := some 26, op := Op.pick (Operand.tmp 22) (Operand.tmp 25) (Operand.const (Value.bool false)), type := 4, pos := "outright.go:117", after := #[{ on := 3, ground := Ground.data }, { on := 6, ground := Ground.data }], guard := none }) (v := ?v31) rfl (by kernel_rfl) (by kernel_rfl) (by kernel_rfl) (fun _ _ _ h => h) (Or.inl ⟨by rfl, ?y31⟩) hHeld ?r31
          case y31 => (intro W hSw; (try dsimp only at hSw); go_simp; try with_reducible rfl)
          try simp only [Act.put, List.setIfInBounds_toArray, List.set_cons_zero, List.set_cons_succ]
          refine wpAnyH_take (i := 8) (oi := { dst := some 27, op := Op.move (Operand.tmp 26), type := 4, pos := "outright.go:117", after := #[{ on := 7, ground := Ground.data }, { on := 6, ground := Ground.chain }], guard := none }) (v := ?v32) rfl (by kernel_rfl) (by kernel_rfl) (by kernel_rfl) (fun _ _ _ h => h) (Or.inl ⟨by rfl, ?y32⟩) hHeld ?r32
          case y32 => (intro W hSw; (try dsimp only at hSw); go_simp; try with_reducible rfl)
          try simp only [Act.put, List.setIfInBounds_toArray, List.set_cons_zero, List.set_cons_succ]
          refine wpAnyH_take (i := 9) (oi := { dst := some 28, op := Op.fieldAddr 30 (Operand.tmp 2) 0, type := 0, pos := "outright.go:117", after := #[{ on := 8, ground := Ground.guard }], guard := some (8, true) }) (v := undef) rfl (by kernel_rfl) (by kernel_rfl) (by kernel_rfl) (fun _ _ _ h => h) (Or.inr ⟨by rfl, rfl⟩) hHeld ?r33
          try simp only [Act.put, List.setIfInBounds_toArray, List.set_cons_zero, List.set_cons_succ]
          refine wpAnyH_take (i := 10) (oi := { dst := some 29, op := Op.load 23 (Operand.tmp 28), type := 23, pos := "outright.go:117", after := #[{ on := 9, ground := Ground.data }, { on := 8, ground := Ground.guard }], guard := some (8, true) }) (v := undef) rfl (by kernel_rfl) (by kernel_rfl) (by kernel_rfl) (fun _ _ _ h => h) (Or.inr ⟨by rfl, rfl⟩) hHeld ?r34
          try simp only [Act.put, List.setIfInBounds_toArray, List.set_cons_zero, List.set_cons_succ]
          refine wpAnyH_take (i := 11) (oi := { dst := some 30, op := Op.call { callee := Callee.value (Operand.func 14), args := #[Operand.tmp 29], argTypes := #[23] }, type := 9, pos := "outright.go:117", after := #[{ on := 10, ground := Ground.data }, { on := 8, ground := Ground.chain }, { on := 8, ground := Ground.guard }], guard := some (8, true) }) (v := undef) rfl (by kernel_rfl) (by kernel_rfl) (by kernel_rfl) (fun _ _ _ h => h) (Or.inr ⟨by rfl, rfl⟩) hHeld ?r35
          try simp only [Act.put, List.setIfInBounds_toArray, List.set_cons_zero, List.set_cons_succ]
          refine wpAnyH_take (i := 12) (oi := { dst := some 31, op := Op.fieldAddr 30 (Operand.tmp 3) 0, type := 0, pos := "outright.go:117", after := #[{ on := 8, ground := Ground.guard }], guard := some (8, true) }) (v := undef) rfl (by kernel_rfl) (by kernel_rfl) (by kernel_rfl) (fun _ _ _ h => h) (Or.inr ⟨by rfl, rfl⟩) hHeld ?r36
          try simp only [Act.put, List.setIfInBounds_toArray, List.set_cons_zero, List.set_cons_succ]
          refine wpAnyH_take (i := 13) (oi := { dst := some 32, op := Op.load 23 (Operand.tmp 31), type := 23, pos := "outright.go:117", after := #[{ on := 12, ground := Ground.data }, { on := 8, ground := Ground.guard }], guard := some (8, true) }) (v := undef) rfl (by kernel_rfl) (by kernel_rfl) (by kernel_rfl) (fun _ _ _ h => h) (Or.inr ⟨by rfl, rfl⟩) hHeld ?r37
          try simp only [Act.put, List.setIfInBounds_toArray, List.set_cons_zero, List.set_cons_succ]
          refine wpAnyH_take (i := 14) (oi := { dst := some 33, op := Op.call { callee := Callee.value (Operand.func 14), args := #[Operand.tmp 32], argTypes := #[23] }, type := 9, pos := "outright.go:117", after := #[{ on := 13, ground := Ground.data }, { on := 11, ground := Ground.chain }, { on := 8, ground := Ground.guard }], guard := some (8, true) }) (v := undef) rfl (by kernel_rfl) (by kernel_rfl) (by kernel_rfl) (fun _ _ _ h => h) (Or.inr ⟨by rfl, rfl⟩) hHeld ?r38
          try simp only [Act.put, List.setIfInBounds_toArray, List.set_cons_zero, List.set_cons_succ]
          refine wpAnyH_take (i := 15) (oi := { dst := some 34, op := Op.binOp BinOp.eql 9 (Operand.tmp 30) (Operand.tmp 33) 9, type := 4, pos := "outright.go:117", after := #[{ on := 11, ground := Ground.data }, { on := 14, ground := Ground.data }, { on := 8, ground := Ground.guard }], guard := some (8, true) }) (v := undef) rfl (by kernel_rfl) (by kernel_rfl) (by kernel_rfl) (fun _ _ _ h => h) (Or.inr ⟨by rfl, rfl⟩) hHeld ?r39
          try simp only [Act.put, List.setIfInBounds_toArray, List.set_cons_zero, List.set_cons_succ]
          refine wpAnyH_take (i := 16) (oi := { dst := some 35, op := Op.fieldAddr 30 (Operand.tmp 2) 0, type := 0, pos := "outright.go:117", after := #[{ on := 8, ground := Ground.guard }], guard := some (8, true) }) (v := undef) rfl (by kernel_rfl) (by kernel_rfl) (by kernel_rfl) (fun _ _ _ h => h) (Or.inr ⟨by rfl, rfl⟩) hHeld ?r40
          try simp only [Act.put, List.setIfInBounds_toArray, List.set_cons_zero, List.set_cons_succ]
          refine wpAnyH_take (i := 17) (oi := { dst := some 36, op := Op.load 23 (Operand.tmp 35), type := 23, pos := "outright.go:117", after := #[{ on := 16, ground := Ground.data }, { on := 8, ground := Ground.guard }], guard := some (8, true) }) (v := undef) rfl (by kernel_rfl) (by kernel_rfl) (by kernel_rfl) (fun _ _ _ h => h) (Or.inr ⟨by rfl, rfl⟩) hHeld ?r41
          try simp only [Act.put, List.setIfInBounds_toArray, List.set_cons_zero, List.set_cons_succ]
          refine wpAnyH_take (i := 18) (oi := { dst := some 37, op := Op.fieldAddr 30 (Operand.tmp 3) 0, type := 0, pos := "outright.go:117", after := #[{ on := 8, ground := Ground.guard }], guard := some (8, true) }) (v := undef) rfl (by kernel_rfl) (by kernel_rfl) (by kernel_rfl) (fun _ _ _ h => h) (Or.inr ⟨by rfl, rfl⟩) hHeld ?r42
          try simp only [Act.put, List.setIfInBounds_toArray, List.set_cons_zero, List.set_cons_succ]
          refine wpAnyH_take (i := 19) (oi := { dst := some 38, op := Op.load 23 (Operand.tmp 37), type := 23, pos := "outright.go:117", after := #[{ on := 18, ground := Ground.data }, { on := 8, ground := Ground.guard }], guard := some (8, true) }) (v := undef) rfl (by kernel_rfl) (by kernel_rfl) (by kernel_rfl) (fun _ _ _ h => h) (Or.inr ⟨by rfl, rfl⟩) hHeld ?r43
          try simp only [Act.put, List.setIfInBounds_toArray, List.set_cons_zero, List.set_cons_succ]
          refine wpAnyH_take (i := 20) (oi := { dst := some 39, op := Op.binOp BinOp.eql 23 (Operand.tmp 36) (Operand.tmp 38) 23, type := 4, pos := "outright.go:117", after := #[{ on := 17, ground := Ground.data }, { on := 19, ground := Ground.data }, { on := 8, ground := Ground.guard }], guard := some (8, true) }) (v := undef) rfl (by kernel_rfl) (by kernel_rfl) (by kernel_rfl) (fun _ _ _ h => h) (Or.inr ⟨by rfl, rfl⟩) hHeld ?r44
          try simp only [Act.put, List.setIfInBounds_toArray, List.set_cons_zero, List.set_cons_succ]
          refine wpAnyH_take (i := 21) (oi := { dst := some 40, op := Op.binOp BinOp.neq 4 (Operand.tmp 34) (Operand.tmp 39) 4, type := 4, pos := "outright.go:117", after := #[{ on := 15, ground := Ground.data }, { on := 20, ground := Ground.data }, { on := 8, ground := Ground.guard }], guard := some (8, true) }) (v := undef) rfl (by kernel_rfl) (by kernel_rfl) (by kernel_rfl) (fun _ _ _ h => h) (Or.inr ⟨by rfl, rfl⟩) hHeld ?r45
          try simp only [Act.put, List.setIfInBounds_toArray, List.set_cons_zero, List.set_cons_succ]
          refine wpAnyH_take (i := 22) (oi := { dst := some 41, op := Op.pick (Operand.tmp 27) (Operand.tmp 40) (Operand.const (Value.bool false)), type := 4, pos := "outright.go:117", after := #[{ on := 8, ground := Ground.data }, { on := 21, ground := Ground.data }], guard := none }) (v := ?v46) rfl (by kernel_rfl) (by kernel_rfl) (by kernel_rfl) (fun _ _ _ h => h) (Or.inl ⟨by rfl, ?y46⟩) hHeld ?r46
          case y46 => (intro W hSw; (try dsimp only at hSw); go_simp; try with_reducible rfl)
          try simp only [Act.put, List.setIfInBounds_toArray, List.set_cons_zero, List.set_cons_succ]
          refine wpAnyH_done (by kernel_rfl) ?_ _
          go_wp2_with fail
          go_meet
          exact ⟨rfl, ⟨HP1.out.fresh bb⟩⟩
      case rest =>
        obtain ⟨rfl, HPc⟩ := hcut
        clear a0 a1 a2 b0 b1 b2 HP1
        have HP1 := HPc
        have hcc := HPc.out.cells
        obtain ⟨w1', hw1'⟩ : ∃ y, wc = y := ⟨_, rfl⟩
        subst hw1'
        go_upto_region 7 with fail
        clear hcc
        have HE1 := Bx.mk (HE.out.below HPc.out.below)
        have HC := Bx.mk (show ∀ W, Below wc.heap.size wc W → _ from fun W hW => (HPc.out.fresh hW).cells)
        have bb : Below wc.heap.size wc wc.drew := (Below.refl _ wc).drew
        by_cases hma : mayT (tt k t p) = true
        · by_cases hmb : mayT (tt k' t' p') = true
          · by_cases hk : k = k'
            · by_cases ht : t = t'
              · by_cases hp : p = p'
                · subst hk ht hp
                  have h1 := fun W => mayTarget_any k t p h0 W
                  have h2 := fun W => mayTarget_any k t p h0 W
                  have h5 := fun W (hW : Below wc.heap.size wc W) => print_any k t p h0 W (HE1.out.below hW)
                  have h6 := fun W (hW : Below wc.heap.size wc W) => print_any k t p h0 W (HE1.out.below hW)
                  unfold tv at h1 h2 h5 h6
                  rw [hma] at h1
                  rw [hma] at h2
                  generalize S (print (tt k t p)) = x1 at h5 h6
                  have e1 : (x1.toList == x1.toList) = true := beq_self_eq_true _
                  have e2 : (k == k) = true := beq_self_eq_true _
                  have e3 : (t.toList == t.toList) = true := beq_self_eq_true _
                  have e4 : (p == p) = true := beq_self_eq_true _
                  have H1 := Bx.mk h1; have H2 := Bx.mk h2; have H5 := Bx.mk h5; have H6 := Bx.mk h6
                  clear h1 h2 h5 h6 hma hmb
                  go_region_held3 (fun W' => W'.cell? ⟨ga, 0, none⟩ = some (.int .u8 k) ∧ W'.cell? ⟨ga, 1, none⟩ = some (.string t) ∧ W'.cell? ⟨ga, 2, none⟩ = some (.int .i64 p) ∧ W'.cell? ⟨gb, 0, none⟩ = some (.int .u8 k) ∧ W'.cell? ⟨gb, 1, none⟩ = some (.string t) ∧ W'.cell? ⟨gb, 2, none⟩ = some (.int .i64 p))
                    (first | exact HC.out _ bb)
                    (first | ((go_at_call 15; first | (with_reducible refine (H1.out _).mono ?_) | (with_reducible refine (H2.out _).mono ?_)); rintro e w2 ⟨rfl, hb2⟩; replace bb := bb.trans (hb2.mono bb.size); clear hb2) | ((go_at_call 16; first | (with_reducible refine (H5.out _ bb).mono ?_) | (with_reducible refine (H6.out _ bb).mono ?_)); rintro e w2 ⟨rfl, hb2⟩; replace bb := bb.trans (hb2.mono bb.size); clear hb2))
                  all_goals
                    have HB3 := Bx.mk (HPc.out.fresh bb).below
                    clear bb
                    go_wp2_with fail
                    go_ret
                    exact ⟨rfl, HB3.out⟩
                · subst hk ht
                  have h1 := fun W => mayTarget_any k t p h0 W
                  have h2 := fun W => mayTarget_any k t p' h0' W
                  have h5 := fun W (hW : Below wc.heap.size wc W) => print_any k t p h0 W (HE1.out.below hW)
                  have h6 := fun W (hW : Below wc.heap.size wc W) => print_any k t p' h0' W (HE1.out.below hW)
                  unfold tv at h1 h2 h5 h6
                  rw [hma] at h1
                  rw [hmb] at h2
                  have e1 := S_ne (a := print (tt k t p)) (b := print (tt k t p')) (fun e => by have := print_inj hma hmb e; unfold tt at this; simp only [T.mk.injEq] at this; exact hp this.2)
                  generalize S (print (tt k t p)) = x1 at h5 e1
                  generalize S (print (tt k t p')) = x2 at h6 e1
                  have e2 : (k == k) = true := beq_self_eq_true _
                  have e3 : (t.toList == t.toList) = true := beq_self_eq_true _
                  have e4 : (p == p') = false := beq_eq_false_iff_ne.2 hp
                  have H1 := Bx.mk h1; have H2 := Bx.mk h2; have H5 := Bx.mk h5; have H6 := Bx.mk h6
                  clear h1 h2 h5 h6 hma hmb hp
                  go_region_held3 (fun W' => W'.cell? ⟨ga, 0, none⟩ = some (.int .u8 k) ∧ W'.cell? ⟨ga, 1, none⟩ = some (.string t) ∧ W'.cell? ⟨ga, 2, none⟩ = some (.int .i64 p) ∧ W'.cell? ⟨gb, 0, none⟩ = some (.int .u8 k) ∧ W'.cell? ⟨gb, 1, none⟩ = some (.string t) ∧ W'.cell? ⟨gb, 2, none⟩ = some (.int .i64 p'))
                    (first | exact HC.out _ bb)
                    (first | ((go_at_call 15; first | (with_reducible refine (H1.out _).mono ?_) | (with_reducible refine (H2.out _).mono ?_)); rintro e w2 ⟨rfl, hb2⟩; replace bb := bb.trans (hb2.mono bb.size); clear hb2) | ((go_at_call 16; first | (with_reducible refine (H5.out _ bb).mono ?_) | (with_reducible refine (H6.out _ bb).mono ?_)); rintro e w2 ⟨rfl, hb2⟩; replace bb := bb.trans (hb2.mono bb.size); clear hb2))
                  all_goals
                    have HB3 := Bx.mk (HPc.out.fresh bb).below
                    clear bb
                    go_wp2_with fail
                    go_ret
                    exact ⟨rfl, HB3.out⟩
              · subst hk
                have h1 := fun W => mayTarget_any k t p h0 W
                have h2 := fun W => mayTarget_any k t' p' h0' W
                have h5 := fun W (hW : Below wc.heap.size wc W) => print_any k t p h0 W (HE1.out.below hW)
                have h6 := fun W (hW : Below wc.heap.size wc W) => print_any k t' p' h0' W (HE1.out.below hW)
                unfold tv at h1 h2 h5 h6
                rw [hma] at h1
                rw [hmb] at h2
                have e1 := S_ne (a := print (tt k t p)) (b := print (tt k t' p')) (fun e => by have := print_inj hma hmb e; unfold tt at this; simp only [T.mk.injEq] at this; exact hh_ne h0 h0' (fun e2 => ht e2.2) this.1)
                generalize S (print (tt k t p)) = x1 at h5 e1
                generalize S (print (tt k t' p')) = x2 at h6 e1
                have e2 : (k == k) = true := beq_self_eq_true _
                have e3 : (t.toList == t'.toList) = false := ba_ne ht
                have H1 := Bx.mk h1; have H2 := Bx.mk h2; have H5 := Bx.mk h5; have H6 := Bx.mk h6
                clear h1 h2 h5 h6 hma hmb ht
                go_region_held3 (fun W' => W'.cell? ⟨ga, 0, none⟩ = some (.int .u8 k) ∧ W'.cell? ⟨ga, 1, none⟩ = some (.string t) ∧ W'.cell? ⟨ga, 2, none⟩ = some (.int .i64 p) ∧ W'.cell? ⟨gb, 0, none⟩ = some (.int .u8 k) ∧ W'.cell? ⟨gb, 1, none⟩ = some (.string t') ∧ W'.cell? ⟨gb, 2, none⟩ = some (.int .i64 p'))
                  (first | exact HC.out _ bb)
                  (first | ((go_at_call 15; first | (with_reducible refine (H1.out _).mono ?_) | (with_reducible refine (H2.out _).mono ?_)); rintro e w2 ⟨rfl, hb2⟩; replace bb := bb.trans (hb2.mono bb.size); clear hb2) | ((go_at_call 16; first | (with_reducible refine (H5.out _ bb).mono ?_) | (with_reducible refine (H6.out _ bb).mono ?_)); rintro e w2 ⟨rfl, hb2⟩; replace bb := bb.trans (hb2.mono bb.size); clear hb2))
                all_goals
                  have HB3 := Bx.mk (HPc.out.fresh bb).below
                  clear bb
                  go_wp2_with fail
                  go_ret
                  exact ⟨rfl, HB3.out⟩
            · have e2 : (k == k') = false := beq_eq_false_iff_ne.2 hk
              have h1 := fun W => mayTarget_any k t p h0 W
              have h2 := fun W => mayTarget_any k' t' p' h0' W
              have h5 := fun W (hW : Below wc.heap.size wc W) => print_any k t p h0 W (HE1.out.below hW)
              have h6 := fun W (hW : Below wc.heap.size wc W) => print_any k' t' p' h0' W (HE1.out.below hW)
              unfold tv at h1 h2 h5 h6
              rw [hma] at h1
              rw [hmb] at h2
              have e1 := S_ne (a := print (tt k t p)) (b := print (tt k' t' p')) (fun e => by have := print_inj hma hmb e; unfold tt at this; simp only [T.mk.injEq] at this; exact hh_ne h0 h0' (fun e2 => hk e2.1) this.1)
              generalize S (print (tt k t p)) = x1 at h5 e1
              generalize S (print (tt k' t' p')) = x2 at h6 e1
              have H1 := Bx.mk h1; have H2 := Bx.mk h2; have H5 := Bx.mk h5; have H6 := Bx.mk h6
              clear h1 h2 h5 h6 hma hmb hk
              go_region_held3 (fun W' => W'.cell? ⟨ga, 0, none⟩ = some (.int .u8 k) ∧ W'.cell? ⟨ga, 1, none⟩ = some (.string t) ∧ W'.cell? ⟨ga, 2, none⟩ = some (.int .i64 p) ∧ W'.cell? ⟨gb, 0, none⟩ = some (.int .u8 k') ∧ W'.cell? ⟨gb, 1, none⟩ = some (.string t') ∧ W'.cell? ⟨gb, 2, none⟩ = some (.int .i64 p'))
                (first | exact HC.out _ bb)
                (first | ((go_at_call 15; first | (with_reducible refine (H1.out _).mono ?_) | (with_reducible refine (H2.out _).mono ?_)); rintro e w2 ⟨rfl, hb2⟩; replace bb := bb.trans (hb2.mono bb.size); clear hb2) | ((go_at_call 16; first | (with_reducible refine (H5.out _ bb).mono ?_) | (with_reducible refine (H6.out _ bb).mono ?_)); rintro e w2 ⟨rfl, hb2⟩; replace bb := bb.trans (hb2.mono bb.size); clear hb2))
              all_goals
                have HB3 := Bx.mk (HPc.out.fresh bb).below
                clear bb
                go_wp2_with fail
                go_ret
                exact ⟨rfl, HB3.out⟩
          · have hmb := eq_false_of_ne_true hmb
            have h1 := fun W => mayTarget_any k t p h0 W
            have h2 := fun W => mayTarget_any k' t' p' h0' W
            have h5 := fun W (hW : Below wc.heap.size wc W) => print_any k t p h0 W (HE1.out.below hW)
            have h6 := fun W (hW : Below wc.heap.size wc W) => print_any k' t' p' h0' W (HE1.out.below hW)
            unfold tv at h1 h2 h5 h6
            rw [hma] at h1
            rw [hmb] at h2
            have H1 := Bx.mk h1; have H2 := Bx.mk h2; have H5 := Bx.mk h5; have H6 := Bx.mk h6
            clear h1 h2 h5 h6 hma hmb
            refine wp_region_held_drew (S := fun W' => W'.cell? ⟨ga, 0, none⟩ = some (.int .u8 k) ∧ W'.cell? ⟨ga, 1, none⟩ = some (.string t) ∧ W'.cell? ⟨ga, 2, none⟩ = some (.int .i64 p) ∧ W'.cell? ⟨gb, 0, none⟩ = some (.int .u8 k') ∧ W'.cell? ⟨gb, 1, none⟩ = some (.string t') ∧ W'.cell? ⟨gb, 2, none⟩ = some (.int .i64 p')) (by kernel_rfl) (HC.out _ bb) (fun hHeld => ?_)
            refine wpAnyH_take (i := 0) (oi := { dst := some 42, op := Op.load 30 (Operand.tmp 2), type := 30, pos := "outright.go:120", after := #[], guard := none }) (v := ?v47) rfl (by kernel_rfl) (by kernel_rfl) (by kernel_rfl) (fun _ _ _ h => h) (Or.inl ⟨by rfl, ?y47⟩) hHeld ?r47
            case y47 => (intro W hSw; (try dsimp only at hSw); go_simp; try with_reducible rfl)
            try simp only [Act.put, List.setIfInBounds_toArray, List.set_cons_zero, List.set_cons_succ]
            refine wpAnyH_ready (rs := [1]) (by kernel_rfl) (by simp) (AllReadyH.cons (o := { dst := some 43, op := Op.call { callee := Callee.value (Operand.func 15), args := #[Operand.tmp 42], argTypes := #[30] }, type := 4, pos := "outright.go:120", after := #[{ on := 0, ground := Ground.data }], guard := none }) rfl (fun K hK => ?_) AllReadyH.nil)
            go_simp
            refine (H1.out _).mono ?_
            rintro e w2 ⟨rfl, hb2⟩
            replace bb := bb.trans (hb2.mono bb.size)
            refine hK.out _ _ (HC.out _ bb) (fun hHeld => ?_)
            clear hK K hb2
            try simp only [Act.put, List.setIfInBounds_toArray, List.set_cons_zero, List.set_cons_succ]
            refine wpAnyH_take (i := 2) (oi := { dst := some 44, op := Op.unOp UnOp.not 4 (Operand.tmp 43), type := 4, pos := "outright.go:120", after := #[{ on := 1, ground := Ground.data }], guard := none }) (v := ?v49) rfl (by kernel_rfl) (by kernel_rfl) (by kernel_rfl) (fun _ _ _ h => h) (Or.inl ⟨by rfl, ?y49⟩) hHeld ?r49
            case y49 => (intro W hSw; (try dsimp only at hSw); go_simp; try with_reducible rfl)
            try simp only [Act.put, List.setIfInBounds_toArray, List.set_cons_zero, List.set_cons_succ]
            refine wpAnyH_take (i := 3) (oi := { dst := some 45, op := Op.move (Operand.tmp 44), type := 4, pos := "outright.go:120", after := #[{ on := 2, ground := Ground.data }, { on := 1, ground := Ground.chain }], guard := none }) (v := ?v50) rfl (by kernel_rfl) (by kernel_rfl) (by kernel_rfl) (fun _ _ _ h => h) (Or.inl ⟨by rfl, ?y50⟩) hHeld ?r50
            case y50 => (intro W hSw; (try dsimp only at hSw); go_simp; try with_reducible rfl)
            try simp only [Act.put, List.setIfInBounds_toArray, List.set_cons_zero, List.set_cons_succ]
            refine wpAnyH_take (i := 4) (oi := { dst := some 46, op := Op.load 30 (Operand.tmp 3), type := 30, pos := "outright.go:120", after := #[{ on := 3, ground := Ground.guard }], guard := some (3, false) }) (v := ?v51) rfl (by kernel_rfl) (by kernel_rfl) (by kernel_rfl) (fun _ _ _ h => h) (Or.inl ⟨by rfl, ?y51⟩) hHeld ?r51
            case y51 => (intro W hSw; (try dsimp only at hSw); go_simp; try with_reducible rfl)
            try simp only [Act.put, List.setIfInBounds_toArray, List.set_cons_zero, List.set_cons_succ]
            refine wpAnyH_ready (rs := [5]) (by kernel_rfl) (by simp) (AllReadyH.cons (o := { dst := some 47, op := Op.call { callee := Callee.value (Operand.func 15), args := #[Operand.tmp 46], argTypes := #[30] }, type := 4, pos := "outright.go:120", after := #[{ on := 4, ground := Ground.data }, { on := 3, ground := Ground.chain }, { on := 3, ground := Ground.guard }], guard := some (3, false) }) rfl (fun K hK => ?_) AllReadyH.nil)
            go_simp
            refine (H2.out _).mono ?_
            rintro e w2 ⟨rfl, hb2⟩
            replace bb := bb.trans (hb2.mono bb.size)
            refine hK.out _ _ (HC.out _ bb) (fun hHeld => ?_)
            clear hK K hb2
            try simp only [Act.put, List.setIfInBounds_toArray, List.set_cons_zero, List.set_cons_succ]
            refine wpAnyH_take (i := 6) (oi := { dst := some 48, op := Op.unOp UnOp.not 4 (Operand.tmp 47), type := 4, pos := "outright.go:120", after := #[{ on := 5, ground := Ground.data }, { on := 3, ground := Ground.guard }], guard := some (3, false) }) (v := ?v53) rfl (by kernel_rfl) (by kernel_rfl) (by kernel_rfl) (fun _ _ _ h => h) (Or.inl ⟨by rfl, ?y53⟩) hHeld ?r53
            case y53 => (intro W hSw; (try dsimp only at hSw); go_simp; try with_reducible rfl)
            try simp only [Act.put, List.setIfInBounds_toArray, List.set_cons_zero, List.set_cons_succ]
            refine wpAnyH_take (i := 7) (oi := { dst := some 49, op := Op.pick (Operand.tmp 45) (Operand.const (Value.bool true)) (Operand.tmp 48), type := 4, pos := "outright.go:120", after := #[{ on := 3, ground := Ground.data }, { on := 6, ground := Ground.data }], guard := none }) (v := ?v54) rfl (by kernel_rfl) (by kernel_rfl) (by kernel_rfl) (fun _ _ _ h => h) (Or.inl ⟨by rfl, ?y54⟩) hHeld ?r54
            case y54 => (intro W hSw; (try dsimp only at hSw); go_simp; try with_reducible rfl)
            try simp only [Act.put, List.setIfInBounds_toArray, List.set_cons_zero, List.set_cons_succ]
            refine wpAnyH_take (i := 8) (oi := { dst := some 50, op := Op.move (Operand.tmp 49), type := 4, pos := "outright.go:120", after := #[{ on := 7, ground := Ground.data }, { on := 5, ground := Ground.chain }], guard := none }) (v := ?v55) rfl (by kernel_rfl) (by kernel_rfl) (by kernel_rfl) (fun _ _ _ h => h) (Or.inl ⟨by rfl, ?y55⟩) hHeld ?r55
            case y55 => (intro W hSw; (try dsimp only at hSw); go_simp; try with_reducible rfl)
            try simp only [Act.put, List.setIfInBounds_toArray, List.set_cons_zero, List.set_cons_succ]
            refine wpAnyH_take (i := 9) (oi := { dst := some 51, op := Op.load 30 (Operand.tmp 2), type := 30, pos := "outright.go:120", after := #[{ on := 8, ground := Ground.guard }], guard := some (8, false) }) (v := undef) rfl (by kernel_rfl) (by kernel_rfl) (by kernel_rfl) (fun _ _ _ h => h) (Or.inr ⟨by rfl, rfl⟩) hHeld ?r56
            try simp only [Act.put, List.setIfInBounds_toArray, List.set_cons_zero, List.set_cons_succ]
            refine wpAnyH_take (i := 10) (oi := { dst := some 52, op := Op.call { callee := Callee.value (Operand.func 16), args := #[Operand.tmp 51], argTypes := #[30] }, type := 9, pos := "outright.go:120", after := #[{ on := 9, ground := Ground.data }, { on := 8, ground := Ground.chain }, { on := 8, ground := Ground.guard }], guard := some (8, false) }) (v := undef) rfl (by kernel_rfl) (by kernel_rfl) (by kernel_rfl) (fun _ _ _ h => h) (Or.inr ⟨by rfl, rfl⟩) hHeld ?r57
            try simp only [Act.put, List.setIfInBounds_toArray, List.set_cons_zero, List.set_cons_succ]
            refine wpAnyH_take (i := 11) (oi := { dst := some 53, op := Op.load 30 (Operand.tmp 3), type := 30, pos := "outright.go:120", after := #[{ on := 8, ground := Ground.guard }], guard := some (8, false) }) (v := undef) rfl (by kernel_rfl) (by kernel_rfl) (by kernel_rfl) (fun _ _ _ h => h) (Or.inr ⟨by rfl, rfl⟩) hHeld ?r58
            try simp only [Act.put, List.setIfInBounds_toArray, List.set_cons_zero, List.set_cons_succ]
            refine wpAnyH_take (i := 12) (oi := { dst := some 54, op := Op.call { callee := Callee.value (Operand.func 16), args := #[Operand.tmp 53], argTypes := #[30] }, type := 9, pos := "outright.go:120", after := #[{ on := 11, ground := Ground.data }, { on := 10, ground := Ground.chain }, { on := 8, ground := Ground.guard }], guard := some (8, false) }) (v := undef) rfl (by kernel_rfl) (by kernel_rfl) (by kernel_rfl) (fun _ _ _ h => h) (Or.inr ⟨by rfl, rfl⟩) hHeld ?r59
            try simp only [Act.put, List.setIfInBounds_toArray, List.set_cons_zero, List.set_cons_succ]
            refine wpAnyH_take (i := 13) (oi := { dst := some 55, op := Op.binOp BinOp.eql 9 (Operand.tmp 52) (Operand.tmp 54) 9, type := 4, pos := "outright.go:120", after := #[{ on := 10, ground := Ground.data }, { on := 12, ground := Ground.data }, { on := 8, ground := Ground.guard }], guard := some (8, false) }) (v := undef) rfl (by kernel_rfl) (by kernel_rfl) (by kernel_rfl) (fun _ _ _ h => h) (Or.inr ⟨by rfl, rfl⟩) hHeld ?r60
            try simp only [Act.put, List.setIfInBounds_toArray, List.set_cons_zero, List.set_cons_succ]
            refine wpAnyH_take (i := 14) (oi := { dst := some 56, op := Op.load 30 (Operand.tmp 2), type := 30, pos := "outright.go:120", after := #[{ on := 8, ground := Ground.guard }], guard := some (8, false) }) (v := undef) rfl (by kernel_rfl) (by kernel_rfl) (by kernel_rfl) (fun _ _ _ h => h) (Or.inr ⟨by rfl, rfl⟩) hHeld ?r61
            try simp only [Act.put, List.setIfInBounds_toArray, List.set_cons_zero, List.set_cons_succ]
            refine wpAnyH_take (i := 15) (oi := { dst := some 57, op := Op.load 30 (Operand.tmp 3), type := 30, pos := "outright.go:120", after := #[{ on := 8, ground := Ground.guard }], guard := some (8, false) }) (v := undef) rfl (by kernel_rfl) (by kernel_rfl) (by kernel_rfl) (fun _ _ _ h => h) (Or.inr ⟨by rfl, rfl⟩) hHeld ?r62
            try simp only [Act.put, List.setIfInBounds_toArray, List.set_cons_zero, List.set_cons_succ]
            refine wpAnyH_take (i := 16) (oi := { dst := some 58, op := Op.binOp BinOp.eql 30 (Operand.tmp 56) (Operand.tmp 57) 30, type := 4, pos := "outright.go:120", after := #[{ on := 14, ground := Ground.data }, { on := 15, ground := Ground.data }, { on := 8, ground := Ground.guard }], guard := some (8, false) }) (v := undef) rfl (by kernel_rfl) (by kernel_rfl) (by kernel_rfl) (fun _ _ _ h => h) (Or.inr ⟨by rfl, rfl⟩) hHeld ?r63
            try simp only [Act.put, List.setIfInBounds_toArray, List.set_cons_zero, List.set_cons_succ]
            refine wpAnyH_take (i := 17) (oi := { dst := some 59, op := Op.binOp BinOp.eql 4 (Operand.tmp 55) (Operand.tmp 58) 4, type := 4, pos := "outright.go:120", after := #[{ on := 13, ground := Ground.data }, { on := 16, ground := Ground.data }, { on := 8, ground := Ground.guard }], guard := some (8, false) }) (v := undef) rfl (by kernel_rfl) (by kernel_rfl) (by kernel_rfl) (fun _ _ _ h => h) (Or.inr ⟨by rfl, rfl⟩) hHeld ?r64
            try simp only [Act.put, List.setIfInBounds_toArray, List.set_cons_zero, List.set_cons_succ]
            refine wpAnyH_take (i := 18) (oi := { dst := some 60, op := Op.pick (Operand.tmp 50) (Operand.const (Value.bool true)) (Operand.tmp 59), type := 4, pos := "outright.go:120", after := #[{ on := 8, ground := Ground.data }, { on := 17, ground := Ground.data }], guard := none }) (v := ?v65) rfl (by kernel_rfl) (by kernel_rfl) (by kernel_rfl) (fun _ _ _ h => h) (Or.inl ⟨by rfl, ?y65⟩) hHeld ?r65
            case y65 => (intro W hSw; (try dsimp only at hSw); go_simp; try with_reducible rfl)
            try simp only [Act.put, List.setIfInBounds_toArray, List.set_cons_zero, List.set_cons_succ]
            refine wpAnyH_take (i := 19) (oi := { dst := some 4, op := Op.assign (Operand.tmp 60), type := 4, pos := "outright.go:120", after := #[{ on := 18, ground := Ground.data }, { on := 12, ground := Ground.chain }, { on := 0, ground := Ground.phase }, { on := 1, ground := Ground.phase }, { on := 2, ground := Ground.phase }, { on := 3, ground := Ground.phase }, { on := 4, ground := Ground.phase }, { on := 5, ground := Ground.phase }, { on := 6, ground := Ground.phase }, { on := 7, ground := Ground.phase }, { on := 8, ground := Ground.phase }, { on := 9, ground := Ground.phase }, { on := 10, ground := Ground.phase }, { on := 11, ground := Ground.phase }, { on := 12, ground := Ground.phase }, { on := 13, ground := Ground.phase }, { on := 14, ground := Ground.phase }, { on := 15, ground := Ground.phase }, { on := 16, ground := Ground.phase }, { on := 17, ground := Ground.phase }, { on := 18, ground := Ground.phase }], guard := none }) (v := ?v66) rfl (by kernel_rfl) (by kernel_rfl) (by kernel_rfl) (fun _ _ _ h => h) (Or.inl ⟨by rfl, ?y66⟩) hHeld ?r66
            case y66 => (intro W hSw; (try dsimp only at hSw); go_simp; try with_reducible rfl)
            try simp only [Act.put, List.setIfInBounds_toArray, List.set_cons_zero, List.set_cons_succ]
            refine wpAnyH_done (by kernel_rfl) ?_ _
            have HB3 := Bx.mk (HPc.out.fresh bb).below
            clear bb
            go_wp2_with fail
            go_ret
            exact ⟨rfl, HB3.out⟩
        · have hma := eq_false_of_ne_true hma
          have h1 := fun W => mayTarget_any k t p h0 W
          have h2 := fun W => mayTarget_any k' t' p' h0' W
          have h5 := fun W (hW : Below wc.heap.size wc W) => print_any k t p h0 W (HE1.out.below hW)
          have h6 := fun W (hW : Below wc.heap.size wc W) => print_any k' t' p' h0' W (HE1.out.below hW)
          unfold tv at h1 h2 h5 h6
          rw [hma] at h1
          have H1 := Bx.mk h1; have H2 := Bx.mk h2; have H5 := Bx.mk h5; have H6 := Bx.mk h6
          clear h1 h2 h5 h6 hma
          refine wp_region_held_drew (S := fun W' => W'.cell? ⟨ga, 0, none⟩ = some (.int .u8 k) ∧ W'.cell? ⟨ga, 1, none⟩ = some (.string t) ∧ W'.cell? ⟨ga, 2, none⟩ = some (.int .i64 p) ∧ W'.cell? ⟨gb, 0, none⟩ = some (.int .u8 k') ∧ W'.cell? ⟨gb, 1, none⟩ = some (.string t') ∧ W'.cell? ⟨gb, 2, none⟩ = some (.int .i64 p')) (by kernel_rfl) (HC.out _ bb) (fun hHeld => ?_)
          refine wpAnyH_take (i := 0) (oi := { dst := some 42, op := Op.load 30 (Operand.tmp 2), type := 30, pos := "outright.go:120", after := #[], guard := none }) (v := ?v67) rfl (by kernel_rfl) (by kernel_rfl) (by kernel_rfl) (fun _ _ _ h => h) (Or.inl ⟨by rfl, ?y67⟩) hHeld ?r67
          case y67 => (intro W hSw; (try dsimp only at hSw); go_simp; try with_reducible rfl)
          try simp only [Act.put, List.setIfInBounds_toArray, List.set_cons_zero, List.set_cons_succ]
          refine wpAnyH_ready (rs := [1]) (by kernel_rfl) (by simp) (AllReadyH.cons (o := { dst := some 43, op := Op.call { callee := Callee.value (Operand.func 15), args := #[Operand.tmp 42], argTypes := #[30] }, type := 4, pos := "outright.go:120", after := #[{ on := 0, ground := Ground.data }], guard := none }) rfl (fun K hK => ?_) AllReadyH.nil)
          go_simp
          refine (H1.out _).mono ?_
          rintro e w2 ⟨rfl, hb2⟩
          replace bb := bb.trans (hb2.mono bb.size)
          refine hK.out _ _ (HC.out _ bb) (fun hHeld => ?_)
          clear hK K hb2
          try simp only [Act.put, List.setIfInBounds_toArray, List.set_cons_zero, List.set_cons_succ]
          refine wpAnyH_take (i := 2) (oi := { dst := some 44, op := Op.unOp UnOp.not 4 (Operand.tmp 43), type := 4, pos := "outright.go:120", after := #[{ on := 1, ground := Ground.data }], guard := none }) (v := ?v69) rfl (by kernel_rfl) (by kernel_rfl) (by kernel_rfl) (fun _ _ _ h => h) (Or.inl ⟨by rfl, ?y69⟩) hHeld ?r69
          case y69 => (intro W hSw; (try dsimp only at hSw); go_simp; try with_reducible rfl)
          try simp only [Act.put, List.setIfInBounds_toArray, List.set_cons_zero, List.set_cons_succ]
          refine wpAnyH_take (i := 3) (oi := { dst := some 45, op := Op.move (Operand.tmp 44), type := 4, pos := "outright.go:120", after := #[{ on := 2, ground := Ground.data }, { on := 1, ground := Ground.chain }], guard := none }) (v := ?v70) rfl (by kernel_rfl) (by kernel_rfl) (by kernel_rfl) (fun _ _ _ h => h) (Or.inl ⟨by rfl, ?y70⟩) hHeld ?r70
          case y70 => (intro W hSw; (try dsimp only at hSw); go_simp; try with_reducible rfl)
          try simp only [Act.put, List.setIfInBounds_toArray, List.set_cons_zero, List.set_cons_succ]
          refine wpAnyH_take (i := 4) (oi := { dst := some 46, op := Op.load 30 (Operand.tmp 3), type := 30, pos := "outright.go:120", after := #[{ on := 3, ground := Ground.guard }], guard := some (3, false) }) (v := undef) rfl (by kernel_rfl) (by kernel_rfl) (by kernel_rfl) (fun _ _ _ h => h) (Or.inr ⟨by rfl, rfl⟩) hHeld ?r71
          try simp only [Act.put, List.setIfInBounds_toArray, List.set_cons_zero, List.set_cons_succ]
          refine wpAnyH_take (i := 5) (oi := { dst := some 47, op := Op.call { callee := Callee.value (Operand.func 15), args := #[Operand.tmp 46], argTypes := #[30] }, type := 4, pos := "outright.go:120", after := #[{ on := 4, ground := Ground.data }, { on := 3, ground := Ground.chain }, { on := 3, ground := Ground.guard }], guard := some (3, false) }) (v := undef) rfl (by kernel_rfl) (by kernel_rfl) (by kernel_rfl) (fun _ _ _ h => h) (Or.inr ⟨by rfl, rfl⟩) hHeld ?r72
          try simp only [Act.put, List.setIfInBounds_toArray, List.set_cons_zero, List.set_cons_succ]
          refine wpAnyH_take (i := 6) (oi := { dst := some 48, op := Op.unOp UnOp.not 4 (Operand.tmp 47), type := 4, pos := "outright.go:120", after := #[{ on := 5, ground := Ground.data }, { on := 3, ground := Ground.guard }], guard := some (3, false) }) (v := undef) rfl (by kernel_rfl) (by kernel_rfl) (by kernel_rfl) (fun _ _ _ h => h) (Or.inr ⟨by rfl, rfl⟩) hHeld ?r73
          try simp only [Act.put, List.setIfInBounds_toArray, List.set_cons_zero, List.set_cons_succ]
          refine wpAnyH_take (i := 7) (oi := { dst := some 49, op := Op.pick (Operand.tmp 45) (Operand.const (Value.bool true)) (Operand.tmp 48), type := 4, pos := "outright.go:120", after := #[{ on := 3, ground := Ground.data }, { on := 6, ground := Ground.data }], guard := none }) (v := ?v74) rfl (by kernel_rfl) (by kernel_rfl) (by kernel_rfl) (fun _ _ _ h => h) (Or.inl ⟨by rfl, ?y74⟩) hHeld ?r74
          case y74 => (intro W hSw; (try dsimp only at hSw); go_simp; try with_reducible rfl)
          try simp only [Act.put, List.setIfInBounds_toArray, List.set_cons_zero, List.set_cons_succ]
          refine wpAnyH_take (i := 8) (oi := { dst := some 50, op := Op.move (Operand.tmp 49), type := 4, pos := "outright.go:120", after := #[{ on := 7, ground := Ground.data }, { on := 5, ground := Ground.chain }], guard := none }) (v := ?v75) rfl (by kernel_rfl) (by kernel_rfl) (by kernel_rfl) (fun _ _ _ h => h) (Or.inl ⟨by rfl, ?y75⟩) hHeld ?r75
          case y75 => (intro W hSw; (try dsimp only at hSw); go_simp; try with_reducible rfl)
          try simp only [Act.put, List.setIfInBounds_toArray, List.set_cons_zero, List.set_cons_succ]
          refine wpAnyH_take (i := 9) (oi := { dst := some 51, op := Op.load 30 (Operand.tmp 2), type := 30, pos := "outright.go:120", after := #[{ on := 8, ground := Ground.guard }], guard := some (8, false) }) (v := undef) rfl (by kernel_rfl) (by kernel_rfl) (by kernel_rfl) (fun _ _ _ h => h) (Or.inr ⟨by rfl, rfl⟩) hHeld ?r76
          try simp only [Act.put, List.setIfInBounds_toArray, List.set_cons_zero, List.set_cons_succ]
          refine wpAnyH_take (i := 10) (oi := { dst := some 52, op := Op.call { callee := Callee.value (Operand.func 16), args := #[Operand.tmp 51], argTypes := #[30] }, type := 9, pos := "outright.go:120", after := #[{ on := 9, ground := Ground.data }, { on := 8, ground := Ground.chain }, { on := 8, ground := Ground.guard }], guard := some (8, false) }) (v := undef) rfl (by kernel_rfl) (by kernel_rfl) (by kernel_rfl) (fun _ _ _ h => h) (Or.inr ⟨by rfl, rfl⟩) hHeld ?r77
          try simp only [Act.put, List.setIfInBounds_toArray, List.set_cons_zero, List.set_cons_succ]
          refine wpAnyH_take (i := 11) (oi := { dst := some 53, op := Op.load 30 (Operand.tmp 3), type := 30, pos := "outright.go:120", after := #[{ on := 8, ground := Ground.guard }], guard := some (8, false) }) (v := undef) rfl (by kernel_rfl) (by kernel_rfl) (by kernel_rfl) (fun _ _ _ h => h) (Or.inr ⟨by rfl, rfl⟩) hHeld ?r78
          try simp only [Act.put, List.setIfInBounds_toArray, List.set_cons_zero, List.set_cons_succ]
          refine wpAnyH_take (i := 12) (oi := { dst := some 54, op := Op.call { callee := Callee.value (Operand.func 16), args := #[Operand.tmp 53], argTypes := #[30] }, type := 9, pos := "outright.go:120", after := #[{ on := 11, ground := Ground.data }, { on := 10, ground := Ground.chain }, { on := 8, ground := Ground.guard }], guard := some (8, false) }) (v := undef) rfl (by kernel_rfl) (by kernel_rfl) (by kernel_rfl) (fun _ _ _ h => h) (Or.inr ⟨by rfl, rfl⟩) hHeld ?r79
          try simp only [Act.put, List.setIfInBounds_toArray, List.set_cons_zero, List.set_cons_succ]
          refine wpAnyH_take (i := 13) (oi := { dst := some 55, op := Op.binOp BinOp.eql 9 (Operand.tmp 52) (Operand.tmp 54) 9, type := 4, pos := "outright.go:120", after := #[{ on := 10, ground := Ground.data }, { on := 12, ground := Ground.data }, { on := 8, ground := Ground.guard }], guard := some (8, false) }) (v := undef) rfl (by kernel_rfl) (by kernel_rfl) (by kernel_rfl) (fun _ _ _ h => h) (Or.inr ⟨by rfl, rfl⟩) hHeld ?r80
          try simp only [Act.put, List.setIfInBounds_toArray, List.set_cons_zero, List.set_cons_succ]
          refine wpAnyH_take (i := 14) (oi := { dst := some 56, op := Op.load 30 (Operand.tmp 2), type := 30, pos := "outright.go:120", after := #[{ on := 8, ground := Ground.guard }], guard := some (8, false) }) (v := undef) rfl (by kernel_rfl) (by kernel_rfl) (by kernel_rfl) (fun _ _ _ h => h) (Or.inr ⟨by rfl, rfl⟩) hHeld ?r81
          try simp only [Act.put, List.setIfInBounds_toArray, List.set_cons_zero, List.set_cons_succ]
          refine wpAnyH_take (i := 15) (oi := { dst := some 57, op := Op.load 30 (Operand.tmp 3), type := 30, pos := "outright.go:120", after := #[{ on := 8, ground := Ground.guard }], guard := some (8, false) }) (v := undef) rfl (by kernel_rfl) (by kernel_rfl) (by kernel_rfl) (fun _ _ _ h => h) (Or.inr ⟨by rfl, rfl⟩) hHeld ?r82
          try simp only [Act.put, List.setIfInBounds_toArray, List.set_cons_zero, List.set_cons_succ]
          refine wpAnyH_take (i := 16) (oi := { dst := some 58, op := Op.binOp BinOp.eql 30 (Operand.tmp 56) (Operand.tmp 57) 30, type := 4, pos := "outright.go:120", after := #[{ on := 14, ground := Ground.data }, { on := 15, ground := Ground.data }, { on := 8, ground := Ground.guard }], guard := some (8, false) }) (v := undef) rfl (by kernel_rfl) (by kernel_rfl) (by kernel_rfl) (fun _ _ _ h => h) (Or.inr ⟨by rfl, rfl⟩) hHeld ?r83
          try simp only [Act.put, List.setIfInBounds_toArray, List.set_cons_zero, List.set_cons_succ]
          refine wpAnyH_take (i := 17) (oi := { dst := some 59, op := Op.binOp BinOp.eql 4 (Operand.tmp 55) (Operand.tmp 58) 4, type := 4, pos := "outright.go:120", after := #[{ on := 13, ground := Ground.data }, { on := 16, ground := Ground.data }, { on := 8, ground := Ground.guard }], guard := some (8, false) }) (v := undef) rfl (by kernel_rfl) (by kernel_rfl) (by kernel_rfl) (fun _ _ _ h => h) (Or.inr ⟨by rfl, rfl⟩) hHeld ?r84
          try simp only [Act.put, List.setIfInBounds_toArray, List.set_cons_zero, List.set_cons_succ]
          refine wpAnyH_take (i := 18) (oi := { dst := some 60, op := Op.pick (Operand.tmp 50) (Operand.const (Value.bool true)) (Operand.tmp 59), type := 4, pos := "outright.go:120", after := #[{ on := 8, ground := Ground.data }, { on := 17, ground := Ground.data }], guard := none }) (v := ?v85) rfl (by kernel_rfl) (by kernel_rfl) (by kernel_rfl) (fun _ _ _ h => h) (Or.inl ⟨by rfl, ?y85⟩) hHeld ?r85
          case y85 => (intro W hSw; (try dsimp only at hSw); go_simp; try with_reducible rfl)
          try simp only [Act.put, List.setIfInBounds_toArray, List.set_cons_zero, List.set_cons_succ]
          refine wpAnyH_take (i := 19) (oi := { dst := some 4, op := Op.assign (Operand.tmp 60), type := 4, pos := "outright.go:120", after := #[{ on := 18, ground := Ground.data }, { on := 12, ground := Ground.chain }, { on := 0, ground := Ground.phase }, { on := 1, ground := Ground.phase }, { on := 2, ground := Ground.phase }, { on := 3, ground := Ground.phase }, { on := 4, ground := Ground.phase }, { on := 5, ground := Ground.phase }, { on := 6, ground := Ground.phase }, { on := 7, ground := Ground.phase }, { on := 8, ground := Ground.phase }, { on := 9, ground := Ground.phase }, { on := 10, ground := Ground.phase }, { on := 11, ground := Ground.phase }, { on := 12, ground := Ground.phase }, { on := 13, ground := Ground.phase }, { on := 14, ground := Ground.phase }, { on := 15, ground := Ground.phase }, { on := 16, ground := Ground.phase }, { on := 17, ground := Ground.phase }, { on := 18, ground := Ground.phase }], guard := none }) (v := ?v86) rfl (by kernel_rfl) (by kernel_rfl) (by kernel_rfl) (fun _ _ _ h => h) (Or.inl ⟨by rfl, ?y86⟩) hHeld ?r86
          case y86 => (intro W hSw; (try dsimp only at hSw); go_simp; try with_reducible rfl)
          try simp only [Act.put, List.setIfInBounds_toArray, List.set_cons_zero, List.set_cons_succ]
          refine wpAnyH_done (by kernel_rfl) ?_ _
          have HB3 := Bx.mk (HPc.out.fresh bb).below
          clear bb
          go_wp2_with fail
          go_ret
          exact ⟨rfl, HB3.out⟩
end Go.Proofs.YtpllhnknejceiaaGreatDoor.hw
