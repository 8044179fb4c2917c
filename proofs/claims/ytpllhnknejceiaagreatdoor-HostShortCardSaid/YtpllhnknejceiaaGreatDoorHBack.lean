/-
  Given for the seat's laws: HostBack at any target and any text. No condition but those of the theorems.
-/
import Derived.Test.YtpllhnknejceiaaGreatDoorHAll
import Derived.Deep.DeepCutAuto
import Derived.Deep.CutBlock
namespace Go.Proofs.YtpllhnknejceiaaGreatDoor.hw
open Go.RowKit mem hostp own
set_option linter.unusedVariables false

/-- a target as it lies, and nothing that was there has turned -/
structure P1 (w : World) (ga : Nat) (k : Int) (t : ByteArray) (p : Int) (wr : World) : Prop where
  one : Lies wr ga 30 #[.int .u8 k, .string t, .int .i64 p]
  below : Below w.heap.size w wr
theorem P1.fresh {w wr w2 : World} {ga : Nat} {k : Int} {t : ByteArray} {p : Int} (h : P1 w ga k t p wr) (hb : Below wr.heap.size wr w2) : P1 w ga k t p w2 :=
  ⟨h.one.below hb h.one.lt, h.below.trans (hb.mono h.below.size)⟩
theorem P1.more {w wr : World} {ga : Nat} {k : Int} {t : ByteArray} {p : Int} (h : P1 w ga k t p wr) (o : Obj) : P1 w ga k t p (wr.alloc o) :=
  h.fresh ((Below.refl _ _).alloc (Nat.le_refl _) o)
theorem P1.cells {w wr : World} {ga : Nat} {k : Int} {t : ByteArray} {p : Int} (h : P1 w ga k t p wr) :
    wr.cell? ⟨ga, 0, none⟩ = some (.int .u8 k) ∧ wr.cell? ⟨ga, 1, none⟩ = some (.string t) ∧ wr.cell? ⟨ga, 2, none⟩ = some (.int .i64 p) :=
  ⟨h.one.cell 0, h.one.cell 1, h.one.cell 2⟩

theorem HPv_hh {k : Int} {t : ByteArray} (h0 : 0 ≤ k) : HPv (some (hh k t)) = .tuple #[.agg #[.int .u8 k, .string t], .int .i64 0] := by
  unfold HPv hv hh
  simp only [S_data]
  rw [show ((k.toNat : Nat) : Int) = k by omega]
theorem PTv_tt {k p : Int} {t : ByteArray} (h0 : 0 ≤ k) : PTv (some (tt k t p)) = .tuple #[.agg #[.int .u8 k, .string t, .int .i64 p], .int .i64 0] := by
  unfold PTv tv tt hh
  simp only [S_data]
  rw [show ((k.toNat : Nat) : Int) = k by omega]
theorem hh_of (h : H) : hh (h.kind : Int) (S h.text) = h := by
  unfold hh
  rw [S_list]
  rfl
theorem tt_of (t : T) : tt (t.host.kind : Int) (S t.host.text) t.port = t := by
  unfold tt
  rw [hh_of]

/-- the text of a host that may be, and what it is parsed as -/
theorem round_host {k : Int} {t : ByteArray} (h0 : 0 ≤ k) (hm : may (hh k t) = true) : ∃ x : ByteArray, x = S (text (hh k t)) ∧
    (∀ W, Env W → Calls Tryz.prog 14 #[.agg #[.int .u8 k, .string t]] W (Gives (.string x) W)) ∧
    (∀ W, Env W → Calls Tryz.prog 8 #[.string x] W (Gives (.tuple #[.agg #[.int .u8 k, .string t], .int .i64 0]) W)) ∧
    (∀ W, Calls Tryz.prog 13 #[.agg #[.int .u8 k, .string t]] W (Gives (.bool true) W)) := by
  refine ⟨_, rfl, fun W he => text_any k t h0 W he, fun W he => ?_, fun W => ?_⟩
  · have h := parse_any (S (text (hh k t))) (by rw [S_size]; have := text_len hm; omega) W he
    rw [S_list, parse_text hm, HPv_hh h0] at h
    exact h
  · have h := may_any k t h0 W
    rw [hm] at h
    exact h
theorem print_size {k p : Int} {t : ByteArray} (hm : mayT (tt k t p) = true) : (S (print (tt k t p))).size ≤ 3000 := by
  rw [S_size]
  obtain ⟨h1, h2, h3⟩ := mayT_parts hm
  have hl := text_len h1
  have hn : (nm 10 p.toNat).length ≤ 5 := nm_len (by omega) 4 _ (by omega)
  unfold print
  rw [if_pos hm]
  split
  · simp only [List.length_cons, List.length_append]
    show (text (hh k t)).length + ((nm 10 p.toNat).length + 1 + 1) + 1 ≤ 3000
    omega
  · simp only [List.length_cons, List.length_append]
    show (text (hh k t)).length + ((nm 10 p.toNat).length + 1) ≤ 3000
    omega
theorem round_target {k p : Int} {t : ByteArray} (h0 : 0 ≤ k) (hm : mayT (tt k t p) = true) : ∃ x : ByteArray, x = S (print (tt k t p)) ∧
    (∀ W, Env W → Calls Tryz.prog 16 #[.agg #[.int .u8 k, .string t, .int .i64 p]] W (Gives (.string x) W)) ∧
    (∀ W, Env W → Calls Tryz.prog 10 #[.string x] W (Gives (.tuple #[.agg #[.int .u8 k, .string t, .int .i64 p], .int .i64 0]) W)) ∧
    (∀ W, Calls Tryz.prog 15 #[.agg #[.int .u8 k, .string t, .int .i64 p]] W (Gives (.bool true) W)) := by
  refine ⟨_, rfl, fun W he => print_any k t p h0 W he, fun W he => ?_, fun W => ?_⟩
  · have h := parseTarget_any (S (print (tt k t p))) (print_size hm) W he
    rw [S_list, parseT_print hm, PTv_tt h0] at h
    exact h
  · have h := mayTarget_any k t p h0 W
    rw [hm] at h
    exact h
theorem upper_all {w : World} {A : Option Addr} {n c : Nat} (l : Str) (hl : l.length ≤ n) (hn : n ≤ 3000) (hw : Bools w A n (List.replicate n true)) : Calls Tryz.prog 17 #[.string (S l), .slice A n c] w (Gives (.string (S (l.map upc))) w) := by
  have h := upper_any (c := c) l (by omega) hw
  rw [up_all l n hl] at h
  exact h

set_option maxRecDepth 100000 in
set_option maxHeartbeats 16000000 in
theorem back_at (k : Int) (t : ByteArray) (p : Int) (h0 : 0 ≤ k) (l : Str) (w : World) (he : Env w) : Calls Tryz.prog 4 #[tv k t p, .string (S l)] w (Gives (.bool true) w) := by
  have hsz : (S l).size = l.length := S_size l
  obtain ⟨n, hn⟩ : ∃ n, l.length = n := ⟨_, rfl⟩
  rw [hn] at hsz
  have HN := Bx.mk hn
  obtain ⟨w0, hw0⟩ : ∃ w0, w0 = w.alloc (.cells #[.int .u8 k, .string t, .int .i64 p] 30) := ⟨_, rfl⟩
  obtain ⟨ga, hga⟩ : ∃ ga, ga = w.heap.size := ⟨_, rfl⟩
  have hP : P1 w ga k t p w0 := by
    rw [hw0, hga]
    exact ⟨Lies.new w _ _, (Below.refl _ w).alloc (Nat.le_refl _) _⟩
  have HAW := Bx.mk (awake_any w0 (he.below hP.below))
  have HP := Bx.mk hP
  have HE := Bx.mk he
  clear hP he hn
  unfold tv
  go_enter Tryz.func4, Tryz.ntmps4
  go_wp2_with fail
  rw [← hw0, ← hga]
  clear hw0 hga
  refine HAW.out.mono ?_
  rintro e w1 ⟨rfl, hb1⟩
  have HP1 := Bx.mk (HP.out.fresh hb1)
  clear hb1 HP HAW
  obtain ⟨a0, a1, a2⟩ := HP1.out.cells
  by_cases hs : 2000 < t.size
  · go_wp2_with fail
    go_ret
    exact ⟨rfl, HP1.out.below⟩
  · by_cases hs' : 2000 < n
    · go_wp2_with fail
      go_ret
      exact ⟨rfl, HP1.out.below⟩
    · have hmay := fun W => may_any k t h0 W
      obtain ⟨bm, hbm⟩ : ∃ bm, may (hh k t) = bm := ⟨_, rfl⟩
      rw [hbm] at hmay
      unfold hv at hmay
      have HMAY := Bx.mk hmay
      have HBM := Bx.mk hbm
      clear hmay hbm
      go_upto_if 31 with ((with_reducible refine (HMAY.out _).mono ?_); rintro e w2 ⟨rfl, hb2⟩; have HP2 := Bx.mk (HP1.out.fresh hb2); obtain ⟨b0, b1, b2⟩ := HP2.out.cells; clear hb2 a0 a1 a2 HP1)
      go_cut [18] (fun s18 wx => s18 = .bool false ∧ Bx (P1 w ga k t p wx))
      case first =>
        cases bm with
        | true =>
          obtain ⟨x, -, hx1, hx2, -⟩ := round_host h0 HBM.out
          have HX1 := Bx.mk hx1; have HX2 := Bx.mk hx2
          have e1 : (k == k) = true := beq_self_eq_true _
          have e2 : (t.toList == t.toList) = true := beq_self_eq_true _
          clear hx1 hx2
          go_wp2_with fail
          refine (HX1.out _ (HE.out.below HP2.out.below)).mono ?_
          rintro e w3 ⟨rfl, hb3⟩
          have HP3 := Bx.mk (HP2.out.fresh hb3)
          clear hb3 b0 b1 b2 HP2
          go_wp2_with fail
          refine (HX2.out _ (HE.out.below HP3.out.below)).mono ?_
          rintro e w4 ⟨rfl, hb4⟩
          have HP4 := Bx.mk (HP3.out.fresh hb4)
          obtain ⟨v4, hv4⟩ : ∃ v, v = w4.alloc (.cells #[.int .u8 k, .string t] 23) := ⟨_, rfl⟩
          obtain ⟨q4, hq4⟩ : ∃ b, b = w4.heap.size := ⟨_, rfl⟩
          have HP5 := Bx.mk (show P1 w ga k t p v4 by rw [hv4]; exact HP4.out.more _)
          have hl4 : Lies v4 q4 23 #[.int .u8 k, .string t] := by rw [hv4, hq4]; exact Lies.new _ _ _
          obtain ⟨b0, b1, b2⟩ := HP5.out.cells
          have d0 := hl4.cell 0
          have d1 := hl4.cell 1
          simp at d0 d1
          clear hb4 HP3 HP4 hl4
          go_upto_region 7 with fail
          rw [← hv4, ← hq4]
          clear hv4 hq4
          go_wp2_with fail
          go_meet
          exact ⟨rfl, HP5⟩
        | false =>
          have hx := fun W (hW : Env W) => text_any k t h0 W hW
          have hno : text (hh k t) = [] := by unfold text; rw [if_neg (by rw [HBM.out]; simp)]
          rw [hno] at hx
          unfold hv at hx
          have HX := Bx.mk (show ∀ W, Env W → Calls Tryz.prog 14 #[.agg #[.int .u8 k, .string t]] W (Gives (.string ⟨#[]⟩) W) from hx)
          clear hx hno
          go_wp2_with fail
          refine (HX.out _ (HE.out.below HP2.out.below)).mono ?_
          rintro e w3 ⟨rfl, hb3⟩
          have HP3 := Bx.mk (HP2.out.fresh hb3)
          clear hb3 b0 b1 b2 HP2
          go_wp2_with fail
          go_meet
          exact ⟨rfl, HP3⟩
      case rest =>
        obtain ⟨rfl, HP6⟩ := hcut
        obtain ⟨a0, a1, a2⟩ := HP6.out.cells
        clear HMAY HBM HP2
        have hmay := fun W => mayTarget_any k t p h0 W
        obtain ⟨bt, hbt⟩ : ∃ bt, mayT (tt k t p) = bt := ⟨_, rfl⟩
        rw [hbt] at hmay
        unfold tv at hmay
        have HMAY := Bx.mk hmay
        have HBT := Bx.mk hbt
        clear hmay hbt
        go_upto_if 52 with ((with_reducible refine (HMAY.out _).mono ?_); rintro e w7 ⟨rfl, hb7⟩; have HP7 := Bx.mk (HP6.out.fresh hb7); obtain ⟨b0, b1, b2⟩ := HP7.out.cells; clear hb7 a0 a1 a2 HP6)
        go_cut [18] (fun s18 wx => s18 = .bool false ∧ Bx (P1 w ga k t p wx))
        case first =>
          cases bt with
          | true =>
            obtain ⟨x, -, hx1, hx2, -⟩ := round_target h0 HBT.out
            have HX1 := Bx.mk hx1; have HX2 := Bx.mk hx2
            have e1 : (k == k) = true := beq_self_eq_true _
            have e2 : (t.toList == t.toList) = true := beq_self_eq_true _
            have e3 : (p == p) = true := beq_self_eq_true _
            clear hx1 hx2
            go_wp2_with fail
            refine (HX1.out _ (HE.out.below HP7.out.below)).mono ?_
            rintro e w3 ⟨rfl, hb3⟩
            have HP3 := Bx.mk (HP7.out.fresh hb3)
            clear hb3 b0 b1 b2 HP7
            go_wp2_with fail
            refine (HX2.out _ (HE.out.below HP3.out.below)).mono ?_
            rintro e w4 ⟨rfl, hb4⟩
            have HP4 := Bx.mk (HP3.out.fresh hb4)
            obtain ⟨v4, hv4⟩ : ∃ v, v = w4.alloc (.cells #[.int .u8 k, .string t, .int .i64 p] 30) := ⟨_, rfl⟩
            obtain ⟨q4, hq4⟩ : ∃ b, b = w4.heap.size := ⟨_, rfl⟩
            have HP5 := Bx.mk (show P1 w ga k t p v4 by rw [hv4]; exact HP4.out.more _)
            have hl4 : Lies v4 q4 30 #[.int .u8 k, .string t, .int .i64 p] := by rw [hv4, hq4]; exact Lies.new _ _ _
            obtain ⟨b0, b1, b2⟩ := HP5.out.cells
            have d0 := hl4.cell 0
            have d1 := hl4.cell 1
            have d2 := hl4.cell 2
            simp at d0 d1 d2
            clear hb4 HP3 HP4 hl4
            go_upto_region 13 with fail
            rw [← hv4, ← hq4]
            clear hv4 hq4
            go_wp2_with fail
            go_meet
            exact ⟨rfl, HP5⟩
          | false =>
            have hx := fun W (hW : Env W) => print_any k t p h0 W hW
            have hno : print (tt k t p) = [] := by unfold print; rw [if_neg (by rw [HBT.out]; simp)]
            rw [hno] at hx
            unfold tv at hx
            have HX := Bx.mk (show ∀ W, Env W → Calls Tryz.prog 16 #[.agg #[.int .u8 k, .string t, .int .i64 p]] W (Gives (.string ⟨#[]⟩) W) from hx)
            clear hx hno
            go_wp2_with fail
            refine (HX.out _ (HE.out.below HP7.out.below)).mono ?_
            rintro e w3 ⟨rfl, hb3⟩
            have HP3 := Bx.mk (HP7.out.fresh hb3)
            clear hb3 b0 b1 b2 HP7
            go_wp2_with fail
            go_meet
            exact ⟨rfl, HP3⟩
        case rest =>
          obtain ⟨rfl, HP8⟩ := hcut
          clear HMAY HBT HP7
          have HB8 := Bx.mk HP8.out.below
          clear HP8
          have hpt := fun W (hW : Env W) => parseTarget_any (S l) (by rw [hsz]; omega) W hW
          have hps := fun W (hW : Env W) => parse_any (S l) (by rw [hsz]; omega) W hW
          rw [S_list] at hpt hps
          have HPT := Bx.mk hpt
          clear hpt
          rename_i wc
          rcases hpo : parse l with _ | hst
          · rw [hpo] at hps
            have HPS := Bx.mk (show ∀ W, Env W → Calls Tryz.prog 8 #[.string (S l)] W (Gives (.tuple #[.agg #[.int .u8 0, .string ⟨#[]⟩], .int .i64 40]) W) from hps)
            clear hps hpo
            go_wp2_with fail
            refine (HPS.out _ (HE.out.below HB8.out)).mono ?_
            rintro e w9 ⟨rfl, hb9⟩
            have HB9 := Bx.mk ((HB8.out.trans (hb9.mono HB8.out.size)).alloc (HB8.out.trans (hb9.mono HB8.out.size)).size (.cells #[.int .u8 0, .string ⟨#[]⟩] 23))
            clear hb9 HB8
            go_upto_region 24 with fail
            rcases hto : parseT l with _ | tg
            · have ht := HPT.out
              rw [hto] at ht
              have HT := Bx.mk (show ∀ W, Env W → Calls Tryz.prog 10 #[.string (S l)] W (Gives (.tuple #[.agg #[.int .u8 0, .string ⟨#[]⟩, .int .i64 0], .int .i64 40]) W) from ht)
              clear ht hto HPT
              go_wp2_with fail
              refine (HT.out _ (HE.out.below HB9.out)).mono ?_
              rintro e w20 ⟨rfl, hb20⟩
              have HB20 := Bx.mk (HB9.out.trans (hb20.mono HB9.out.size))
              clear hb20
              go_wp2_with fail
              go_ret
              exact ⟨rfl, HB20.out.alloc HB20.out.size _⟩
            · have hm := parseT_may hto
              obtain ⟨k2, t2, p2, h02, htg⟩ : ∃ (k2 : Int) (t2 : ByteArray) (p2 : Int), 0 ≤ k2 ∧ tt k2 t2 p2 = tg := ⟨_, _, _, by omega, tt_of tg⟩
              have ht := HPT.out
              rw [hto, ← htg, PTv_tt h02] at ht
              rw [← htg] at hm
              obtain ⟨x2, -, hx1, hx2, hx3⟩ := round_target h02 hm
              have HT := Bx.mk ht
              have HX1 := Bx.mk hx1; have HX2 := Bx.mk hx2; have HX3 := Bx.mk hx3
              have e1 : (k2 == k2) = true := beq_self_eq_true _
              have e2 : (t2.toList == t2.toList) = true := beq_self_eq_true _
              have e3 : (p2 == p2) = true := beq_self_eq_true _
              clear ht hto HPT hm htg hx1 hx2 hx3
              go_wp2_with fail
              refine (HT.out _ (HE.out.below HB9.out)).mono ?_
              rintro e w20 ⟨rfl, hb20⟩
              obtain ⟨v20, hv20⟩ : ∃ v, v = w20.alloc (.cells #[.int .u8 k2, .string t2, .int .i64 p2] 30) := ⟨_, rfl⟩
              obtain ⟨q20, hq20⟩ : ∃ b, b = w20.heap.size := ⟨_, rfl⟩
              have HB20 := Bx.mk (show Below w.heap.size w v20 by rw [hv20]; exact (HB9.out.trans (hb20.mono HB9.out.size)).alloc (HB9.out.trans (hb20.mono HB9.out.size)).size _)
              have HL20 := Bx.mk (show Lies v20 q20 30 #[.int .u8 k2, .string t2, .int .i64 p2] by rw [hv20, hq20]; exact Lies.new _ _ _)
              clear hb20
              go_upto_region 25 with fail
              rw [← hv20, ← hq20]
              clear hv20 hq20
              have u0 := HL20.out.cell 0
              have u1 := HL20.out.cell 1
              have u2 := HL20.out.cell 2
              simp at u0 u1 u2
              go_wp2_with fail
              refine (HX1.out _ (HE.out.below HB20.out)).mono ?_
              rintro e w21 ⟨rfl, hb21⟩
              have HB21 := Bx.mk (HB20.out.trans (hb21.mono HB20.out.size))
              have HL21 := Bx.mk (HL20.out.below hb21 HL20.out.lt)
              clear hb21 u0 u1 u2 HL20
              go_wp2_with fail
              refine (HX2.out _ (HE.out.below HB21.out)).mono ?_
              rintro e w22 ⟨rfl, hb22⟩
              obtain ⟨v22, hv22⟩ : ∃ v, v = w22.alloc (.cells #[.int .u8 k2, .string t2, .int .i64 p2] 30) := ⟨_, rfl⟩
              obtain ⟨q22, hq22⟩ : ∃ b, b = w22.heap.size := ⟨_, rfl⟩
              have HB22 := Bx.mk (show Below w.heap.size w v22 by rw [hv22]; exact (HB21.out.trans (hb22.mono HB21.out.size)).alloc (HB21.out.trans (hb22.mono HB21.out.size)).size _)
              have HL22 := Bx.mk (show Lies v22 q20 30 #[.int .u8 k2, .string t2, .int .i64 p2] by rw [hv22]; exact (HL21.out.below hb22 HL21.out.lt).alloc _)
              have HM22 := Bx.mk (show Lies v22 q22 30 #[.int .u8 k2, .string t2, .int .i64 p2] by rw [hv22, hq22]; exact Lies.new _ _ _)
              clear hb22 HL21
              go_upto_region 28 with fail
              rw [← hv22, ← hq22]
              clear hv22 hq22
              have u0 := HL22.out.cell 0
              have u1 := HL22.out.cell 1
              have u2 := HL22.out.cell 2
              simp at u0 u1 u2
              go_wp2_with fail
              refine (HX3.out _).mono ?_
              rintro e w23 ⟨rfl, hb23⟩
              have HB23 := Bx.mk (HB22.out.trans (hb23.mono HB22.out.size))
              have hl23 := HL22.out.below hb23 HL22.out.lt
              have hm23 := HM22.out.below hb23 HM22.out.lt
              clear hb23 u0 u1 u2
              have u0 := hl23.cell 0
              have u1 := hl23.cell 1
              have u2 := hl23.cell 2
              have m0 := hm23.cell 0
              have m1 := hm23.cell 1
              have m2 := hm23.cell 2
              simp at u0 u1 u2 m0 m1 m2
              clear hl23 hm23 HL22 HM22
              go_wp2_with fail
              go_ret
              exact ⟨rfl, HB23.out⟩
          · obtain ⟨hm, hlow⟩ := parse_may hpo
            obtain ⟨k3, t3, h03, hk3, hst3⟩ : ∃ (k3 : Int) (t3 : ByteArray), 0 ≤ k3 ∧ k3 = (hst.kind : Int) ∧ hh k3 t3 = hst := ⟨_, _, by omega, rfl, hh_of hst⟩
            rw [hpo, ← hst3, HPv_hh h03] at hps
            rw [← hst3] at hm hlow
            obtain ⟨x3, hx3, hx1, hx2, hx0⟩ := round_host h03 hm
            have HPS := Bx.mk hps
            have HX1 := Bx.mk hx1; have HX2 := Bx.mk hx2; have HX0 := Bx.mk hx0
            have e1 : (k3 == k3) = true := beq_self_eq_true _
            have e2 : (t3.toList == t3.toList) = true := beq_self_eq_true _
            have HLOW := Bx.mk (show k3 ≠ 2 → x3 = S (low l) from fun h => by rw [hx3, hlow (by show ¬ k3.toNat = 2; omega)])
            clear hps hpo hm hlow hx3 hx1 hx2 hx0 hk3 hst3
            go_wp2_with fail
            refine (HPS.out _ (HE.out.below HB8.out)).mono ?_
            rintro e w9 ⟨rfl, hb9⟩
            obtain ⟨v9, hv9⟩ : ∃ v, v = w9.alloc (.cells #[.int .u8 k3, .string t3] 23) := ⟨_, rfl⟩
            obtain ⟨q9, hq9⟩ : ∃ b, b = w9.heap.size := ⟨_, rfl⟩
            have HB9 := Bx.mk (show Below w.heap.size w v9 by rw [hv9]; exact (HB8.out.trans (hb9.mono HB8.out.size)).alloc (HB8.out.trans (hb9.mono HB8.out.size)).size _)
            have HL9 := Bx.mk (show Lies v9 q9 23 #[.int .u8 k3, .string t3] by rw [hv9, hq9]; exact Lies.new _ _ _)
            clear hb9 HB8
            go_upto_region 18 with fail
            rw [← hv9, ← hq9]
            clear hv9 hq9
            have y0 := HL9.out.cell 0
            have y1 := HL9.out.cell 1
            simp at y0 y1
            go_wp2_with fail
            refine (HX1.out _ (HE.out.below HB9.out)).mono ?_
            rintro e w10 ⟨rfl, hb10⟩
            have HB10 := Bx.mk (HB9.out.trans (hb10.mono HB9.out.size))
            have HL10 := Bx.mk (HL9.out.below hb10 HL9.out.lt)
            clear hb10 y0 y1 HL9
            go_wp2_with fail
            refine (HX2.out _ (HE.out.below HB10.out)).mono ?_
            rintro e w11 ⟨rfl, hb11⟩
            obtain ⟨v11, hv11⟩ : ∃ v, v = w11.alloc (.cells #[.int .u8 k3, .string t3] 23) := ⟨_, rfl⟩
            obtain ⟨q11, hq11⟩ : ∃ b, b = w11.heap.size := ⟨_, rfl⟩
            have HB11 := Bx.mk (show Below w.heap.size w v11 by rw [hv11]; exact (HB10.out.trans (hb11.mono HB10.out.size)).alloc (HB10.out.trans (hb11.mono HB10.out.size)).size _)
            have HL11 := Bx.mk (show Lies v11 q9 23 #[.int .u8 k3, .string t3] by rw [hv11]; exact (HL10.out.below hb11 HL10.out.lt).alloc _)
            have HM11 := Bx.mk (show Lies v11 q11 23 #[.int .u8 k3, .string t3] by rw [hv11, hq11]; exact Lies.new _ _ _)
            clear hb11 HL10
            go_upto_region 22 with fail
            rw [← hv11, ← hq11]
            clear hv11 hq11
            have y0 := HL11.out.cell 0
            have y1 := HL11.out.cell 1
            simp at y0 y1
            by_cases hk2 : k3 = 2
            · have ek : (k3 != 2) = false := by rw [hk2]; rfl
              clear hk2
              go_wp2_with fail
              refine (HX0.out _).mono ?_
              rintro e w12 ⟨rfl, hb12⟩
              have HB12 := Bx.mk (HB11.out.trans (hb12.mono HB11.out.size))
              have hl12 := HL11.out.below hb12 HL11.out.lt
              have hm12 := HM11.out.below hb12 HM11.out.lt
              clear hb12 y0 y1
              have y0 := hl12.cell 0
              have y1 := hl12.cell 1
              have z0 := hm12.cell 0
              have z1 := hm12.cell 1
              simp at y0 y1 z0 z1
              clear hl12 hm12 HL11 HM11
              go_upto_region 24 with fail
              clear y0 y1 z0 z1
              rcases hto : parseT l with _ | tg
              · have ht := HPT.out
                rw [hto] at ht
                have HT := Bx.mk (show ∀ W, Env W → Calls Tryz.prog 10 #[.string (S l)] W (Gives (.tuple #[.agg #[.int .u8 0, .string ⟨#[]⟩, .int .i64 0], .int .i64 40]) W) from ht)
                clear ht hto HPT
                go_wp2_with fail
                refine (HT.out _ (HE.out.below HB12.out)).mono ?_
                rintro e w20 ⟨rfl, hb20⟩
                have HB20 := Bx.mk (HB12.out.trans (hb20.mono HB12.out.size))
                clear hb20
                go_wp2_with fail
                go_ret
                exact ⟨rfl, HB20.out.alloc HB20.out.size _⟩
              · have hm := parseT_may hto
                obtain ⟨k2, t2, p2, h02, htg⟩ : ∃ (k2 : Int) (t2 : ByteArray) (p2 : Int), 0 ≤ k2 ∧ tt k2 t2 p2 = tg := ⟨_, _, _, by omega, tt_of tg⟩
                have ht := HPT.out
                rw [hto, ← htg, PTv_tt h02] at ht
                rw [← htg] at hm
                obtain ⟨x2, -, hx1, hx2, hx3⟩ := round_target h02 hm
                have HT := Bx.mk ht
                have HX1 := Bx.mk hx1; have HX2 := Bx.mk hx2; have HX3 := Bx.mk hx3
                have e1 : (k2 == k2) = true := beq_self_eq_true _
                have e2 : (t2.toList == t2.toList) = true := beq_self_eq_true _
                have e3 : (p2 == p2) = true := beq_self_eq_true _
                clear ht hto HPT hm htg hx1 hx2 hx3
                go_wp2_with fail
                refine (HT.out _ (HE.out.below HB12.out)).mono ?_
                rintro e w20 ⟨rfl, hb20⟩
                obtain ⟨v20, hv20⟩ : ∃ v, v = w20.alloc (.cells #[.int .u8 k2, .string t2, .int .i64 p2] 30) := ⟨_, rfl⟩
                obtain ⟨q20, hq20⟩ : ∃ b, b = w20.heap.size := ⟨_, rfl⟩
                have HB20 := Bx.mk (show Below w.heap.size w v20 by rw [hv20]; exact (HB12.out.trans (hb20.mono HB12.out.size)).alloc (HB12.out.trans (hb20.mono HB12.out.size)).size _)
                have HL20 := Bx.mk (show Lies v20 q20 30 #[.int .u8 k2, .string t2, .int .i64 p2] by rw [hv20, hq20]; exact Lies.new _ _ _)
                clear hb20
                go_upto_region 25 with fail
                rw [← hv20, ← hq20]
                clear hv20 hq20
                have u0 := HL20.out.cell 0
                have u1 := HL20.out.cell 1
                have u2 := HL20.out.cell 2
                simp at u0 u1 u2
                go_wp2_with fail
                refine (HX1.out _ (HE.out.below HB20.out)).mono ?_
                rintro e w21 ⟨rfl, hb21⟩
                have HB21 := Bx.mk (HB20.out.trans (hb21.mono HB20.out.size))
                have HL21 := Bx.mk (HL20.out.below hb21 HL20.out.lt)
                clear hb21 u0 u1 u2 HL20
                go_wp2_with fail
                refine (HX2.out _ (HE.out.below HB21.out)).mono ?_
                rintro e w22 ⟨rfl, hb22⟩
                obtain ⟨v22, hv22⟩ : ∃ v, v = w22.alloc (.cells #[.int .u8 k2, .string t2, .int .i64 p2] 30) := ⟨_, rfl⟩
                obtain ⟨q22, hq22⟩ : ∃ b, b = w22.heap.size := ⟨_, rfl⟩
                have HB22 := Bx.mk (show Below w.heap.size w v22 by rw [hv22]; exact (HB21.out.trans (hb22.mono HB21.out.size)).alloc (HB21.out.trans (hb22.mono HB21.out.size)).size _)
                have HL22 := Bx.mk (show Lies v22 q20 30 #[.int .u8 k2, .string t2, .int .i64 p2] by rw [hv22]; exact (HL21.out.below hb22 HL21.out.lt).alloc _)
                have HM22 := Bx.mk (show Lies v22 q22 30 #[.int .u8 k2, .string t2, .int .i64 p2] by rw [hv22, hq22]; exact Lies.new _ _ _)
                clear hb22 HL21
                go_upto_region 28 with fail
                rw [← hv22, ← hq22]
                clear hv22 hq22
                have u0 := HL22.out.cell 0
                have u1 := HL22.out.cell 1
                have u2 := HL22.out.cell 2
                simp at u0 u1 u2
                go_wp2_with fail
                refine (HX3.out _).mono ?_
                rintro e w23 ⟨rfl, hb23⟩
                have HB23 := Bx.mk (HB22.out.trans (hb23.mono HB22.out.size))
                have hl23 := HL22.out.below hb23 HL22.out.lt
                have hm23 := HM22.out.below hb23 HM22.out.lt
                clear hb23 u0 u1 u2
                have u0 := hl23.cell 0
                have u1 := hl23.cell 1
                have u2 := hl23.cell 2
                have m0 := hm23.cell 0
                have m1 := hm23.cell 1
                have m2 := hm23.cell 2
                simp at u0 u1 u2 m0 m1 m2
                clear hl23 hm23 HL22 HM22
                go_wp2_with fail
                go_ret
                exact ⟨rfl, HB23.out⟩
            · have ek : (k3 != 2) = true := bne_iff_ne.2 hk2
              have hxl := HLOW.out hk2
              subst hxl
              have HX1 := Bx.mk (show ∀ W, Env W → Calls Tryz.prog 14 #[.agg #[.int .u8 k3, .string t3]] W (Gives (.string (S (low l))) W) from HX1.out)
              have hln : (low l).length = n := by rw [← HN.out]; simp [low]
              have HALL := Bx.mk (all_any n (by omega))
              have HUP1 := Bx.mk (fun (W : World) (A : Option Addr) (hw : Bools W A n (List.replicate n true)) => upper_all (c := n) (low l) (by omega) (by omega) hw)
              have HUP2 := Bx.mk (fun (W : World) (A : Option Addr) (hw : Bools W A n (List.replicate n true)) => upper_all (c := n) l (by rw [HN.out]; exact Nat.le_refl _) (by omega) hw)
              rw [up_low] at HUP1
              obtain ⟨U, hU⟩ : ∃ U, S (l.map upc) = U := ⟨_, rfl⟩
              rw [hU] at HUP1 HUP2
              have eU : (U.toList == U.toList) = true := beq_self_eq_true _
              clear hU hk2 hln
              go_wp2_with fail
              refine (HX0.out _).mono ?_
              rintro e w12 ⟨rfl, hb12⟩
              have HB12 := Bx.mk (HB11.out.trans (hb12.mono HB11.out.size))
              have HL12 := Bx.mk (HL11.out.below hb12 HL11.out.lt)
              have hm12 := HM11.out.below hb12 HM11.out.lt
              clear hb12 y0 y1 HL11 HM11
              have y0 := HL12.out.cell 0
              have y1 := HL12.out.cell 1
              have z0 := hm12.cell 0
              have z1 := hm12.cell 1
              simp at y0 y1 z0 z1
              clear hm12
              go_wp2_with fail
              refine (HX1.out _ (HE.out.below HB12.out)).mono ?_
              rintro e w13 ⟨rfl, hb13⟩
              have HB13 := Bx.mk (HB12.out.trans (hb13.mono HB12.out.size))
              clear hb13 y0 y1 z0 z1 HL12
              go_wp2_with fail
              refine (HALL.out _).mono ?_
              rintro e w14 ⟨A14, rfl, hw14, hb14⟩
              have HB14 := Bx.mk (HB13.out.trans (hb14.mono HB13.out.size))
              have HW14 := Bx.mk hw14
              clear hb14 hw14
              go_wp2_with fail
              refine (HUP1.out _ _ HW14.out).mono ?_
              rintro e w15 ⟨rfl, hb15⟩
              have HB15 := Bx.mk (HB14.out.trans (hb15.mono HB14.out.size))
              clear hb15 HW14
              go_wp2_with fail
              refine (HALL.out _).mono ?_
              rintro e w16 ⟨A16, rfl, hw16, hb16⟩
              have HB16 := Bx.mk (HB15.out.trans (hb16.mono HB15.out.size))
              have HW16 := Bx.mk hw16
              clear hb16 hw16
              go_wp2_with fail
              refine (HUP2.out _ _ HW16.out).mono ?_
              rintro e w17 ⟨rfl, hb17⟩
              have HB17 := Bx.mk (HB16.out.trans (hb17.mono HB16.out.size))
              clear hb17 HW16
              go_upto_region 24 with fail
              rcases hto : parseT l with _ | tg
              · have ht := HPT.out
                rw [hto] at ht
                have HT := Bx.mk (show ∀ W, Env W → Calls Tryz.prog 10 #[.string (S l)] W (Gives (.tuple #[.agg #[.int .u8 0, .string ⟨#[]⟩, .int .i64 0], .int .i64 40]) W) from ht)
                clear ht hto HPT
                go_wp2_with fail
                refine (HT.out _ (HE.out.below HB17.out)).mono ?_
                rintro e w20 ⟨rfl, hb20⟩
                have HB20 := Bx.mk (HB17.out.trans (hb20.mono HB17.out.size))
                clear hb20
                go_wp2_with fail
                go_ret
                exact ⟨rfl, HB20.out.alloc HB20.out.size _⟩
              · have hm := parseT_may hto
                obtain ⟨k2, t2, p2, h02, htg⟩ : ∃ (k2 : Int) (t2 : ByteArray) (p2 : Int), 0 ≤ k2 ∧ tt k2 t2 p2 = tg := ⟨_, _, _, by omega, tt_of tg⟩
                have ht := HPT.out
                rw [hto, ← htg, PTv_tt h02] at ht
                rw [← htg] at hm
                obtain ⟨x2, -, hx1, hx2, hx3⟩ := round_target h02 hm
                have HT := Bx.mk ht
                have HX1 := Bx.mk hx1; have HX2 := Bx.mk hx2; have HX3 := Bx.mk hx3
                have e1 : (k2 == k2) = true := beq_self_eq_true _
                have e2 : (t2.toList == t2.toList) = true := beq_self_eq_true _
                have e3 : (p2 == p2) = true := beq_self_eq_true _
                clear ht hto HPT hm htg hx1 hx2 hx3
                go_wp2_with fail
                refine (HT.out _ (HE.out.below HB17.out)).mono ?_
                rintro e w20 ⟨rfl, hb20⟩
                obtain ⟨v20, hv20⟩ : ∃ v, v = w20.alloc (.cells #[.int .u8 k2, .string t2, .int .i64 p2] 30) := ⟨_, rfl⟩
                obtain ⟨q20, hq20⟩ : ∃ b, b = w20.heap.size := ⟨_, rfl⟩
                have HB20 := Bx.mk (show Below w.heap.size w v20 by rw [hv20]; exact (HB17.out.trans (hb20.mono HB17.out.size)).alloc (HB17.out.trans (hb20.mono HB17.out.size)).size _)
                have HL20 := Bx.mk (show Lies v20 q20 30 #[.int .u8 k2, .string t2, .int .i64 p2] by rw [hv20, hq20]; exact Lies.new _ _ _)
                clear hb20
                go_upto_region 25 with fail
                rw [← hv20, ← hq20]
                clear hv20 hq20
                have u0 := HL20.out.cell 0
                have u1 := HL20.out.cell 1
                have u2 := HL20.out.cell 2
                simp at u0 u1 u2
                go_wp2_with fail
                refine (HX1.out _ (HE.out.below HB20.out)).mono ?_
                rintro e w21 ⟨rfl, hb21⟩
                have HB21 := Bx.mk (HB20.out.trans (hb21.mono HB20.out.size))
                have HL21 := Bx.mk (HL20.out.below hb21 HL20.out.lt)
                clear hb21 u0 u1 u2 HL20
                go_wp2_with fail
                refine (HX2.out _ (HE.out.below HB21.out)).mono ?_
                rintro e w22 ⟨rfl, hb22⟩
                obtain ⟨v22, hv22⟩ : ∃ v, v = w22.alloc (.cells #[.int .u8 k2, .string t2, .int .i64 p2] 30) := ⟨_, rfl⟩
                obtain ⟨q22, hq22⟩ : ∃ b, b = w22.heap.size := ⟨_, rfl⟩
                have HB22 := Bx.mk (show Below w.heap.size w v22 by rw [hv22]; exact (HB21.out.trans (hb22.mono HB21.out.size)).alloc (HB21.out.trans (hb22.mono HB21.out.size)).size _)
                have HL22 := Bx.mk (show Lies v22 q20 30 #[.int .u8 k2, .string t2, .int .i64 p2] by rw [hv22]; exact (HL21.out.below hb22 HL21.out.lt).alloc _)
                have HM22 := Bx.mk (show Lies v22 q22 30 #[.int .u8 k2, .string t2, .int .i64 p2] by rw [hv22, hq22]; exact Lies.new _ _ _)
                clear hb22 HL21
                go_upto_region 28 with fail
                rw [← hv22, ← hq22]
                clear hv22 hq22
                have u0 := HL22.out.cell 0
                have u1 := HL22.out.cell 1
                have u2 := HL22.out.cell 2
                simp at u0 u1 u2
                go_wp2_with fail
                refine (HX3.out _).mono ?_
                rintro e w23 ⟨rfl, hb23⟩
                have HB23 := Bx.mk (HB22.out.trans (hb23.mono HB22.out.size))
                have hl23 := HL22.out.below hb23 HL22.out.lt
                have hm23 := HM22.out.below hb23 HM22.out.lt
                clear hb23 u0 u1 u2
                have u0 := hl23.cell 0
                have u1 := hl23.cell 1
                have u2 := hl23.cell 2
                have m0 := hm23.cell 0
                have m1 := hm23.cell 1
                have m2 := hm23.cell 2
                simp at u0 u1 u2 m0 m1 m2
                clear hl23 hm23 HL22 HM22
                go_wp2_with fail
                go_ret
                exact ⟨rfl, HB23.out⟩
theorem back_any (k : Int) (t : ByteArray) (p : Int) (h0 : 0 ≤ k) (s : ByteArray) (w : World) (he : Env w) : Calls Tryz.prog 4 #[tv k t p, .string s] w (Gives (.bool true) w) := by
  have h := back_at k t p h0 s.data.toList w he
  rwa [S_data] at h
end Go.Proofs.YtpllhnknejceiaaGreatDoor.hw
