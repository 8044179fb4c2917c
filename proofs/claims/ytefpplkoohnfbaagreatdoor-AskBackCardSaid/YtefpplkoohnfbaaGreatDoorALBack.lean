/-
  Given for the seat's laws: AskBack at any target and bytes. No condition but those of the theorem.
-/
import Derived.Test.YtefpplkoohnfbaaGreatDoorAKBack
import Derived.Deep.RegionHeld3
namespace Go.Proofs.YtefpplkoohnfbaaGreatDoor.ak
open Go.RowKit mem hostp hw own
set_option linter.unusedVariables false

theorem cut_h (V : World) (A : Option Addr) (n c k : Nat) (h : k ≤ c) : (Instr.slice 22 (.slice A n c) none (some (.int .i64 (k : Int))) none).run Tryz.prog V = .ok (.slice A k c) V := by
  obtain ⟨i0, hi, hz0, hz1, hz2⟩ := info_parts (show (Tryz.prog.info? 5).map (fun i => (i.zero, i.size, i.bytes)) = some (some (.int .u8 0), 1, 1) by kernel_rfl)
  rw [run_slice_h V 22 _ n c (by kernel_rfl) .i64 _ (by omega) (by omega)]
  have he : Tryz.prog.elem 22 = 5 := by kernel_rfl
  rw [he]
  have hs : (sizeOf 5).run Tryz.prog V = .ok 1 V := by simp [sizeOf, typeInfo, hi, hz1]
  rw [hs]
  cases A <;> simp [Result.andThen, sliced, Addr.add]
theorem cut_lh (V : World) (A : Option Addr) (n c k j : Nat) (h : k ≤ j) (h2 : j ≤ c) : (Instr.slice 22 (.slice A n c) (some (.int .i64 (k : Int))) (some (.int .i64 (j : Int))) none).run Tryz.prog V = .ok (.slice (cutA A c k) (j - k) (c - k)) V := by
  obtain ⟨i0, hi, hz0, hz1, hz2⟩ := info_parts (show (Tryz.prog.info? 5).map (fun i => (i.zero, i.size, i.bytes)) = some (some (.int .u8 0), 1, 1) by kernel_rfl)
  rw [run_slice_lh V 22 _ n c (by kernel_rfl) .i64 .i64 _ _ (by omega) (by omega) (by omega)]
  have he : Tryz.prog.elem 22 = 5 := by kernel_rfl
  rw [he]
  have hs : (sizeOf 5).run Tryz.prog V = .ok 1 V := by simp [sizeOf, typeInfo, hi, hz1]
  rw [hs]
  simp only [Result.andThen, sliced, Int.toNat_natCast, Nat.mul_one]
  rfl
set_option maxHeartbeats 8000000 in
set_option maxRecDepth 100000 in
theorem back_big {w : World} {k : Int} {x : Str} {p : Int} {B : Option Addr} {m d : Nat} (hq : 1000 < x.length ∨ 300 < m) (he : Env w) (hN : Nums w) : Calls Tryz.prog 4 #[tv k (S x) p, .slice B m d] w (True_ w) := by
  have hb0 : Below w.heap.size w (w.alloc (.cells #[.int .u8 k, .string (S x), .int .i64 p] 26)) := (Below.refl _ _).alloc (Nat.le_refl _) _
  have HA := Bx.mk (awake_any _ (he.below hb0) (hN.below hb0 (Nat.le_refl _)))
  have HB0 := Bx.mk hb0
  have HL := Bx.mk (Lies.new w 26 #[.int .u8 k, .string (S x), .int .i64 p])
  have hsz := S_size x
  unfold tv
  clear he hN hb0
  rcases (show 1000 < x.length ∨ (¬ 1000 < x.length ∧ 300 < m) by omega) with h1 | ⟨h1, h2⟩
  all_goals
    clear hq
    go_enter Tryz.func4, Tryz.ntmps4
    go_wp2_with fail
    refine HA.out.mono ?_
    rintro e w1 ⟨rfl, hb1⟩
    have hl1 := HL.out.below hb1 (by simp)
    have c1 := hl1.cell 1
    simp at c1
    have HB1 := Bx.mk (HB0.out.trans (hb1.mono HB0.out.size))
    clear hb1 hl1
    go_wp2_with fail
    go_ret
    exact ⟨rfl, HB1.out⟩
set_option maxHeartbeats 8000000 in
set_option maxRecDepth 100000 in
theorem back_bad {w : World} {k : Int} {x : Str} {p : Int} (h0 : 0 ≤ k) {B : Option Addr} {m d : Nat} {b : Str} (hs : Spell w (fun g => g < w.heap.size) B m d b) (hx : x.length ≤ 1000) (hm3 : m ≤ 300) (hmt : mayT (tt k (S x) p) = false) (he : Env w) (hN : Nums w) : Calls Tryz.prog 4 #[tv k (S x) p, .slice B m d] w (True_ w) := by
  have hb0 : Below w.heap.size w (w.alloc (.cells #[.int .u8 k, .string (S x), .int .i64 p] 26)) := (Below.refl _ _).alloc (Nat.le_refl _) _
  have HA := Bx.mk (awake_any _ (he.below hb0) (hN.below hb0 (Nat.le_refl _)))
  have HB0 := Bx.mk hb0
  have HL := Bx.mk (Lies.new w 26 #[.int .u8 k, .string (S x), .int .i64 p])
  have hsz := S_size x
  have HP : Bx (∀ V, Calls Tryz.prog 13 #[.agg #[.int .u8 k, .string (S x), .int .i64 p]] V (PrintAs [] 0 2 V)) := ⟨fun V => print_bad h0 hmt V⟩
  have HE := Bx.mk he
  have HS := Bx.mk hs
  have hbl := spell_len hs
  have HBL := Bx.mk hbl
  have HF : Bx (b.take m = b) := ⟨by rw [← hbl]; exact List.take_length⟩
  have hx' : ¬ 1000 < x.length := by omega
  have hm' : ¬ 300 < m := by omega
  unfold tv
  clear he hN hb0 hs hbl hmt
  go_enter Tryz.func4, Tryz.ntmps4
  go_wp2_with fail
  refine HA.out.mono ?_
  rintro e w1 ⟨rfl, hb1⟩
  have hl1 := HL.out.below hb1 (by simp)
  have c0 := hl1.cell 0; have c1 := hl1.cell 1; have c2 := hl1.cell 2
  simp at c0 c1 c2
  have HB1 := Bx.mk (HB0.out.trans (hb1.mono HB0.out.size))
  clear hb1 hl1 HA HL HB0
  go_wp2_with fail
  refine (HP.out _).mono ?_
  rintro e w2 ⟨A2, c2', rfl, hm2⟩
  have HST : Bx (Std w w2 B m d b) := ⟨⟨HB1.out.trans (hm2.below.mono HB1.out.size), HS.out.below (HB1.out.trans (hm2.below.mono HB1.out.size)) (fun g hg => hg)⟩⟩
  clear hm2 HB1 HP HS c0 c1 c2
  obtain ⟨y, hy⟩ : ∃ y, tk b = y := ⟨_, rfl⟩
  have HY := Bx.mk hy
  have HT2 : Bx (Calls Tryz.prog 8 #[.slice B m d] w2 _) := ⟨HST.out.take (x := y) (Nat.le_refl m) (by omega) HE.out (by rw [HF.out]; exact HY.out)⟩
  clear hy
  go_wp2_with fail
  refine HT2.out.mono ?_
  rintro e wa ⟨rfl, hba⟩
  have La := Lies.new wa 26 #[.int .u8 (y.kind : Int), .string (S y.text), .int .i64 (y.port : Int)]
  have hbaa := hba.alloc hba.size (.cells #[.int .u8 (y.kind : Int), .string (S y.text), .int .i64 (y.port : Int)] 26)
  have HSTa := Bx.mk (HST.out.next hbaa)
  have HLa := Bx.mk La
  clear hba hbaa La HT2 HST
  go_upto_region 13 with fail
  generalize wa.alloc (.cells #[.int .u8 (y.kind : Int), .string (S y.text), .int .i64 (y.port : Int)] 26) = Wa at *
  generalize wa.heap.size = ga at *
  by_cases e0 : y.e = 0
  · obtain ⟨b1, b2, b3, b4, b5, b6, b7⟩ := back2 HY.out e0
    have E0 : (((y.e : Nat) : Int) != 0) = false := by simp; omega
    have HPr : Bx (∀ V, Calls Tryz.prog 13 #[.agg #[.int .u8 (y.kind : Int), .string (S y.text), .int .i64 (y.port : Int)]] V (PrintAs (pr y.kind y.text y.port) y.n 0 V)) := ⟨fun V => by
      have h := print_any (y.kind : Int) y.text (y.port : Int) (by omega) V
      unfold pk at h
      rw [if_pos b1] at h
      have h : Calls Tryz.prog 13 #[.agg #[.int .u8 (y.kind : Int), .string (S y.text), .int .i64 (y.port : Int)]] V (PrintAs (pr y.kind y.text y.port) (pr y.kind y.text y.port).length 0 V) := h
      rw [b2] at h
      exact h⟩
    have c0 := HLa.out.cell 0; have c1 := HLa.out.cell 1; have c2 := HLa.out.cell 2
    simp at c0 c1 c2
    clear b1
    go_wp2_with fail
    refine (HPr.out _).mono ?_
    rintro e wb ⟨Ab, cb, rfl, hmb⟩
    have HSTb := Bx.mk (HSTa.out.next hmb.below)
    have k0 := (HLa.out.below hmb.below HLa.out.lt).cell 0
    simp at k0
    have hyb : y.n ≤ m := by rw [← HBL.out]; exact b3
    have hyb' : ¬ (m : Int) < (y.n : Int) := by omega
    have hsb := HSTb.out.sp
    have hcap := hsb.cap
    have hsp := made_spell hmb b2
    have hcapb := hsp.cap
    generalize pr y.kind y.text y.port = l at *
    by_cases hk3 : y.kind = 3
    · have q3 : ((y.kind : Int) != 3) = false := by simp; omega
      obtain ⟨b8, b9⟩ := b7 hk3
      have s1 := take_spell hsp (show y.n - 2 ≤ y.n by omega)
      have s2 := take_spell hsb (show y.n - 2 ≤ m by omega)
      have HSM : Bx (∀ V, Below wb.heap.size wb V → Calls Tryz.prog 14 #[.slice B (y.n - 2 : Nat) d, .int .i64 5] V (Gives (.string (S (sm (b.take (y.n - 2))))) V)) := ⟨fun V hV => small_any (s2.below (hV.mono HSTb.out.be.size) (fun g hg => hg)) (fun g hg => Nat.lt_of_lt_of_le hg (Nat.le_trans HSTb.out.be.size hV.size)) (by omega)⟩
      have s3 := Src.cut hsp (y.n - 2) 2 (by omega)
      have s4 := Src.cut hsb (y.n - 2) 2 (by omega)
      have e3 : ((ints l).drop (y.n - 2)).take 2 = ints (l.drop (y.n - 2)) := by
        rw [ints_drop, ints_take, List.take_of_length_le (by simp; omega)]
      have e4 : ((ints b).drop (y.n - 2)).take 2 = ints (l.drop (y.n - 2)) := by
        rw [b9, ints_drop, ints_take]
        congr 1
        rw [List.drop_take]
        congr 1
        omega
      rw [e3] at s3
      rw [e4] at s4
      obtain ⟨n2, hn2⟩ : ∃ n2, y.n = n2 + 2 := ⟨y.n - 2, by omega⟩
      have hs2 : y.n - 2 = n2 := by omega
      rw [hs2] at s1 s2 s3 s4 HSM b8
      have hb8 : S (l.take n2) = S (sm (b.take n2)) := by rw [b8]
      rw [← hb8] at HSM
      have hsub : ((y.n : Nat) : Int) - 2 = (n2 : Int) := by omega
      have hwr : IntKind.i64.wrap (n2 : Int) = (n2 : Int) := IntWalk.i64_in _ (by omega)
      have hn2a : (n2 : Int) ≤ (y.n : Int) := by omega
      have hn2b : (n2 : Int) ≤ (cb : Int) := by omega
      have hn2c : (n2 : Int) ≤ (d : Int) := by omega
      have hn2d : (y.n : Int) ≤ (d : Int) := by omega
      have z1 : ∀ V, (Instr.slice 22 (.slice Ab y.n cb) none (some (.int .i64 (n2 : Int))) none).run Tryz.prog V = .ok (.slice Ab n2 cb) V := fun V => cut_h V Ab y.n cb n2 (by omega)
      have z2 : ∀ V, (Instr.slice 22 (.slice B m d) none (some (.int .i64 (n2 : Int))) none).run Tryz.prog V = .ok (.slice B n2 d) V := fun V => cut_h V B m d n2 (by omega)
      obtain ⟨L1, hL1⟩ : ∃ L, L = cutA Ab cb n2 := ⟨_, rfl⟩
      obtain ⟨L2, hL2⟩ : ∃ L, L = cutA B d n2 := ⟨_, rfl⟩
      have z3 : ∀ V, (Instr.slice 22 (.slice Ab y.n cb) (some (.int .i64 (n2 : Int))) none none).run Tryz.prog V = .ok (.slice L1 2 (cb - n2)) V := fun V => by
        have := cut_l V Ab y.n cb n2 (by omega)
        rw [show y.n - n2 = 2 by omega, ← hL1] at this
        exact this
      have z4 : ∀ V, (Instr.slice 22 (.slice B m d) (some (.int .i64 (n2 : Int))) (some (.int .i64 ((y.n : Nat) : Int))) none).run Tryz.prog V = .ok (.slice L2 2 (d - n2)) V := fun V => by
        have := cut_lh V B m d n2 y.n (by omega) (by omega)
        rw [show y.n - n2 = 2 by omega, ← hL2] at this
        exact this
      rw [← hL1] at s3
      rw [← hL2] at s4
      have HC : Bx (∀ V, Below wb.heap.size wb V → (convert 22 9 (.slice Ab n2 cb)).run Tryz.prog V = .ok (.string (S (l.take n2))) V ∧ (convert 22 9 (.slice L1 2 (cb - n2))).run Tryz.prog V = .ok (.string (S (l.drop n2))) V ∧ (convert 22 9 (.slice L2 2 (d - n2))).run Tryz.prog V = .ok (.string (S (l.drop n2))) V) :=
        ⟨fun V hV => ⟨spell_str (s1.below hV (fun g hg => hg)), spell_str (Src.below s3 hV (fun g hg => hg)), spell_str (Src.below s4 (hV.mono HSTb.out.be.size) (fun g hg => hg))⟩⟩
      have q5 := (str_eq (l.take n2)).1
      have q6 := (str_eq (l.drop n2)).1
      have HBe := Bx.mk HSTb.out.be
      clear s1 s2 s3 s4 e3 e4 hL1 hL2 b4 b5 b6 b7 b8 b9 hb8 hsp hsb hmb HSTb HSTa HPr HLa c0 c1 c2 HY HF hcap hcapb hs2 hn2
      go_upto_region 20 with fail
      have bb : Below wb.heap.size wb wb.drew := (Below.refl _ wb).drew
      go_region_held3 (fun V => (convert 22 9 (.slice Ab n2 cb)).run Tryz.prog V = .ok (.string (S (l.take n2))) V ∧ (convert 22 9 (.slice L1 2 (cb - n2))).run Tryz.prog V = .ok (.string (S (l.drop n2))) V ∧ (convert 22 9 (.slice L2 2 (d - n2))).run Tryz.prog V = .ok (.string (S (l.drop n2))) V)
        (first | with_reducible exact HC.out _ bb)
        (first
          | (go_at_call 14; refine (HSM.out _ bb).mono ?_; rintro e w5 ⟨rfl, hg5⟩; replace bb := step_bb (by with_reducible exact bb) hg5))
      all_goals
        go_wp2_with fail
        go_ret
        exact ⟨rfl, HBe.out.trans (bb.mono HBe.out.size)⟩
    · have q3 : ((y.kind : Int) != 3) = true := by simp; omega
      have b8 := b6 hk3
      have s1 := spell_str hsp
      have s2 := spell_str (take_spell hsb hyb)
      rw [← b8] at s2
      have hn2d : (y.n : Int) ≤ (d : Int) := by omega
      have q5 := (str_eq l).1
      have HBe := Bx.mk HSTb.out.be
      have HC : Bx (∀ V, Below wb.heap.size wb V → (convert 22 9 (.slice Ab y.n cb)).run Tryz.prog V = .ok (.string (S l)) V ∧ (convert 22 9 (.slice B y.n d)).run Tryz.prog V = .ok (.string (S l)) V) :=
        ⟨fun V hV => ⟨spell_str (hsp.below hV (fun g hg => hg)), by
          have := spell_str ((take_spell hsb hyb).below (hV.mono HSTb.out.be.size) (fun g hg => hg))
          rw [← b8] at this
          exact this⟩⟩
      have z1 : ∀ V, (Instr.slice 22 (.slice B m d) none (some (.int .i64 ((y.n : Nat) : Int))) none).run Tryz.prog V = .ok (.slice B y.n d) V := fun V => cut_h V B m d y.n (by omega)
      clear s1 s2 b4 b5 b6 b7 b8 hsp hsb hmb HSTb HSTa HPr HLa c0 c1 c2 HY HF hcap hcapb
      go_upto_region 19 with fail
      have bb : Below wb.heap.size wb wb.drew := (Below.refl _ wb).drew
      go_region_held3 (fun V => (convert 22 9 (.slice Ab y.n cb)).run Tryz.prog V = .ok (.string (S l)) V ∧ (convert 22 9 (.slice B y.n d)).run Tryz.prog V = .ok (.string (S l)) V)
        (first | with_reducible exact HC.out _ bb)
        (fail)
      all_goals
        go_wp2_with fail
        go_ret
        exact ⟨rfl, HBe.out.trans (bb.mono HBe.out.size)⟩
  · obtain ⟨h1, h2⟩ := tk_err (b := b) (by rw [HY.out]; exact e0)
    rw [HY.out] at h1
    have E0 : (((y.e : Nat) : Int) != 0) = true := by simp; omega
    have e1 : y.kind = 0 := by rw [h1]; rfl
    have e2 : y.text = [] := by rw [h1]; rfl
    have e3 : y.port = 0 := by rw [h1]; rfl
    have e4 : y.n = 0 := by rw [h1]; rfl
    rw [e1, e2, e3] at HLa
    rw [e4]
    have HL0 : Lies Wa ga 26 #[.int .u8 0, .string ⟨#[]⟩, .int .i64 0] := HLa.out
    have c0 := HL0.cell 0; have c1 := HL0.cell 1; have c2 := HL0.cell 2
    simp at c0 c1 c2
    clear h1 h2 e1 e2 e3 e4 HLa HL0 HY HF
    go_wp2_with fail
    go_ret
    exact ⟨rfl, HSTa.out.be⟩
set_option maxHeartbeats 8000000 in
set_option maxRecDepth 100000 in
theorem back_good {w : World} {k : Nat} {x : Str} {q : Nat} {B : Option Addr} {m d : Nat} {b : Str} (hs : Spell w (fun g => g < w.heap.size) B m d b) (hm3 : m ≤ 300) (hmt : mayT (tt (k : Int) (S x) (q : Int)) = true) (he : Env w) (hN : Nums w) : Calls Tryz.prog 4 #[tv (k : Int) (S x) (q : Int), .slice B m d] w (True_ w) := by
  obtain ⟨t1, t2, t3⟩ := back1 hmt b
  have hb0 : Below w.heap.size w (w.alloc (.cells #[.int .u8 (k : Int), .string (S x), .int .i64 (q : Int)] 26)) := (Below.refl _ _).alloc (Nat.le_refl _) _
  have HA := Bx.mk (awake_any _ (he.below hb0) (hN.below hb0 (Nat.le_refl _)))
  have HB0 := Bx.mk hb0
  have HL := Bx.mk (Lies.new w 26 #[.int .u8 (k : Int), .string (S x), .int .i64 (q : Int)])
  have hsz := S_size x
  have HP : Bx (∀ V, Calls Tryz.prog 13 #[.agg #[.int .u8 (k : Int), .string (S x), .int .i64 (q : Int)]] V (PrintAs (pr k x q) (pr k x q).length 0 V)) := ⟨fun V => by
    have h := print_any (k : Int) x (q : Int) (by omega) V
    unfold pk at h
    rw [if_pos hmt] at h
    exact h⟩
  have HT1 := Bx.mk t1
  have HE := Bx.mk he
  have HS := Bx.mk hs
  have hbl := spell_len hs
  have HBL := Bx.mk hbl
  have HF : Bx (b.take m = b) := ⟨by rw [← hbl]; exact List.take_length⟩
  have hx' : ¬ 1000 < x.length := by omega
  have hm' : ¬ 300 < m := by omega
  obtain ⟨l, hl⟩ : ∃ l, pr k x q = l := ⟨_, rfl⟩
  rw [hl] at HP HT1 t2
  obtain ⟨L, hL⟩ : ∃ L, l.length = L := ⟨_, rfl⟩
  rw [hL] at HP HT1 t2
  have HLL := Bx.mk hL
  unfold tv
  clear he hN hb0 hs hbl hmt t1 hl hL
  go_enter Tryz.func4, Tryz.ntmps4
  go_wp2_with fail
  refine HA.out.mono ?_
  rintro e w1 ⟨rfl, hb1⟩
  have hl1 := HL.out.below hb1 (by simp)
  have c0 := hl1.cell 0; have c1 := hl1.cell 1; have c2 := hl1.cell 2
  simp at c0 c1 c2
  have HB1 := Bx.mk (HB0.out.trans (hb1.mono HB0.out.size))
  have HL1 := Bx.mk hl1
  clear hb1 hl1 HA HL HB0
  go_wp2_with fail
  refine (HP.out _).mono ?_
  rintro e w2 ⟨A2, c2', rfl, hm2⟩
  have HST : Bx (Std w w2 B m d b) := ⟨⟨HB1.out.trans (hm2.below.mono HB1.out.size), HS.out.below (HB1.out.trans (hm2.below.mono HB1.out.size)) (fun g hg => hg)⟩⟩
  obtain ⟨A3, c3, w3, A4, c4, w4, ha3, ha4, hm4⟩ := both (made_spell hm2 HLL.out) (HST.out.sp.weak (fun g hg => Nat.lt_of_lt_of_le hg HST.out.be.size)) (by omega) (by omega)
  have HA3 := Bx.mk ha3
  have HA4 := Bx.mk ha4
  have HST4 := Bx.mk (HST.out.next hm4.below)
  have HL2 := Bx.mk ((HL1.out.below hm2.below HL1.out.lt).below hm4.below (by have := HL1.out.lt; have := hm2.below.size; omega))
  have HTK : Bx (Calls Tryz.prog 8 #[.slice A4 (L + m : Nat) c4] w4 _) := ⟨take_as (made_spell hm4 (by rw [List.length_append, HLL.out, HBL.out])) (fun g hg => hg) (by omega) (HE.out.below HST4.out.be) HT1.out⟩
  clear hm2 HB1 HP HS c0 c1 c2 ha3 ha4 hm4 HST HL1
  go_wp2_with (at_builtin; first | (refine wpList_append_eq rfl _ _ rfl rfl rfl rfl HA3.out ?_; clear HA3) | (refine wpList_append_eq rfl _ _ rfl rfl rfl rfl HA4.out ?_; clear HA4))
  refine HTK.out.mono ?_
  rintro e w5 ⟨rfl, hb5⟩
  have hb5a := hb5.alloc hb5.size (.cells #[.int .u8 (k : Int), .string (S x), .int .i64 (q : Int)] 26)
  have l2 := HL2.out.below hb5a HL2.out.lt
  have l3 := Lies.new w5 26 #[.int .u8 (k : Int), .string (S x), .int .i64 (q : Int)]
  have HST := Bx.mk (HST4.out.next hb5a)
  have HL3 := Bx.mk l2
  have HL4 := Bx.mk l3
  clear hb5 hb5a l2 l3 HTK HST4 HL2
  go_upto_region 8 with fail
  generalize w5.alloc (.cells #[.int .u8 (k : Int), .string (S x), .int .i64 (q : Int)] 26) = W5 at *
  generalize w5.heap.size = g5 at *
  have c0 := HL3.out.cell 0; have c1 := HL3.out.cell 1; have c2 := HL3.out.cell 2
  have d0 := HL4.out.cell 0; have d1 := HL4.out.cell 1; have d2 := HL4.out.cell 2
  simp at c0 c1 c2 d0 d1 d2
  have q9 := (str_eq x)
  clear HL3 HL4
  go_upto_region 12 with fail
  clear c0 c1 c2 d0 d1 d2 q9
  obtain ⟨y, hy⟩ : ∃ y, tk b = y := ⟨_, rfl⟩
  have HY := Bx.mk hy
  have HT2 : Bx (Calls Tryz.prog 8 #[.slice B m d] W5 _) := ⟨HST.out.take (x := y) (Nat.le_refl m) (by omega) HE.out (by rw [HF.out]; exact HY.out)⟩
  clear hy
  go_wp2_with fail
  refine HT2.out.mono ?_
  rintro e wa ⟨rfl, hba⟩
  have La := Lies.new wa 26 #[.int .u8 (y.kind : Int), .string (S y.text), .int .i64 (y.port : Int)]
  have hbaa := hba.alloc hba.size (.cells #[.int .u8 (y.kind : Int), .string (S y.text), .int .i64 (y.port : Int)] 26)
  have HSTa := Bx.mk (HST.out.next hbaa)
  have HLa := Bx.mk La
  clear hba hbaa La HT2 HST
  go_upto_region 13 with fail
  generalize wa.alloc (.cells #[.int .u8 (y.kind : Int), .string (S y.text), .int .i64 (y.port : Int)] 26) = Wa at *
  generalize wa.heap.size = ga at *
  by_cases e0 : y.e = 0
  · obtain ⟨b1, b2, b3, b4, b5, b6, b7⟩ := back2 HY.out e0
    have E0 : (((y.e : Nat) : Int) != 0) = false := by simp; omega
    have HPr : Bx (∀ V, Calls Tryz.prog 13 #[.agg #[.int .u8 (y.kind : Int), .string (S y.text), .int .i64 (y.port : Int)]] V (PrintAs (pr y.kind y.text y.port) y.n 0 V)) := ⟨fun V => by
      have h := print_any (y.kind : Int) y.text (y.port : Int) (by omega) V
      unfold pk at h
      rw [if_pos b1] at h
      have h : Calls Tryz.prog 13 #[.agg #[.int .u8 (y.kind : Int), .string (S y.text), .int .i64 (y.port : Int)]] V (PrintAs (pr y.kind y.text y.port) (pr y.kind y.text y.port).length 0 V) := h
      rw [b2] at h
      exact h⟩
    have c0 := HLa.out.cell 0; have c1 := HLa.out.cell 1; have c2 := HLa.out.cell 2
    simp at c0 c1 c2
    clear b1
    go_wp2_with fail
    refine (HPr.out _).mono ?_
    rintro e wb ⟨Ab, cb, rfl, hmb⟩
    have HSTb := Bx.mk (HSTa.out.next hmb.below)
    have k0 := (HLa.out.below hmb.below HLa.out.lt).cell 0
    simp at k0
    have hyb : y.n ≤ m := by rw [← HBL.out]; exact b3
    have hyb' : ¬ (m : Int) < (y.n : Int) := by omega
    have hsb := HSTb.out.sp
    have hcap := hsb.cap
    have hsp := made_spell hmb b2
    have hcapb := hsp.cap
    generalize pr y.kind y.text y.port = l at *
    by_cases hk3 : y.kind = 3
    · have q3 : ((y.kind : Int) != 3) = false := by simp; omega
      obtain ⟨b8, b9⟩ := b7 hk3
      have s1 := take_spell hsp (show y.n - 2 ≤ y.n by omega)
      have s2 := take_spell hsb (show y.n - 2 ≤ m by omega)
      have HSM : Bx (∀ V, Below wb.heap.size wb V → Calls Tryz.prog 14 #[.slice B (y.n - 2 : Nat) d, .int .i64 5] V (Gives (.string (S (sm (b.take (y.n - 2))))) V)) := ⟨fun V hV => small_any (s2.below (hV.mono HSTb.out.be.size) (fun g hg => hg)) (fun g hg => Nat.lt_of_lt_of_le hg (Nat.le_trans HSTb.out.be.size hV.size)) (by omega)⟩
      have s3 := Src.cut hsp (y.n - 2) 2 (by omega)
      have s4 := Src.cut hsb (y.n - 2) 2 (by omega)
      have e3 : ((ints l).drop (y.n - 2)).take 2 = ints (l.drop (y.n - 2)) := by
        rw [ints_drop, ints_take, List.take_of_length_le (by simp; omega)]
      have e4 : ((ints b).drop (y.n - 2)).take 2 = ints (l.drop (y.n - 2)) := by
        rw [b9, ints_drop, ints_take]
        congr 1
        rw [List.drop_take]
        congr 1
        omega
      rw [e3] at s3
      rw [e4] at s4
      obtain ⟨n2, hn2⟩ : ∃ n2, y.n = n2 + 2 := ⟨y.n - 2, by omega⟩
      have hs2 : y.n - 2 = n2 := by omega
      rw [hs2] at s1 s2 s3 s4 HSM b8
      have hb8 : S (l.take n2) = S (sm (b.take n2)) := by rw [b8]
      rw [← hb8] at HSM
      have hsub : ((y.n : Nat) : Int) - 2 = (n2 : Int) := by omega
      have hwr : IntKind.i64.wrap (n2 : Int) = (n2 : Int) := IntWalk.i64_in _ (by omega)
      have hn2a : (n2 : Int) ≤ (y.n : Int) := by omega
      have hn2b : (n2 : Int) ≤ (cb : Int) := by omega
      have hn2c : (n2 : Int) ≤ (d : Int) := by omega
      have hn2d : (y.n : Int) ≤ (d : Int) := by omega
      have z1 : ∀ V, (Instr.slice 22 (.slice Ab y.n cb) none (some (.int .i64 (n2 : Int))) none).run Tryz.prog V = .ok (.slice Ab n2 cb) V := fun V => cut_h V Ab y.n cb n2 (by omega)
      have z2 : ∀ V, (Instr.slice 22 (.slice B m d) none (some (.int .i64 (n2 : Int))) none).run Tryz.prog V = .ok (.slice B n2 d) V := fun V => cut_h V B m d n2 (by omega)
      obtain ⟨L1, hL1⟩ : ∃ L, L = cutA Ab cb n2 := ⟨_, rfl⟩
      obtain ⟨L2, hL2⟩ : ∃ L, L = cutA B d n2 := ⟨_, rfl⟩
      have z3 : ∀ V, (Instr.slice 22 (.slice Ab y.n cb) (some (.int .i64 (n2 : Int))) none none).run Tryz.prog V = .ok (.slice L1 2 (cb - n2)) V := fun V => by
        have := cut_l V Ab y.n cb n2 (by omega)
        rw [show y.n - n2 = 2 by omega, ← hL1] at this
        exact this
      have z4 : ∀ V, (Instr.slice 22 (.slice B m d) (some (.int .i64 (n2 : Int))) (some (.int .i64 ((y.n : Nat) : Int))) none).run Tryz.prog V = .ok (.slice L2 2 (d - n2)) V := fun V => by
        have := cut_lh V B m d n2 y.n (by omega) (by omega)
        rw [show y.n - n2 = 2 by omega, ← hL2] at this
        exact this
      rw [← hL1] at s3
      rw [← hL2] at s4
      have HC : Bx (∀ V, Below wb.heap.size wb V → (convert 22 9 (.slice Ab n2 cb)).run Tryz.prog V = .ok (.string (S (l.take n2))) V ∧ (convert 22 9 (.slice L1 2 (cb - n2))).run Tryz.prog V = .ok (.string (S (l.drop n2))) V ∧ (convert 22 9 (.slice L2 2 (d - n2))).run Tryz.prog V = .ok (.string (S (l.drop n2))) V) :=
        ⟨fun V hV => ⟨spell_str (s1.below hV (fun g hg => hg)), spell_str (Src.below s3 hV (fun g hg => hg)), spell_str (Src.below s4 (hV.mono HSTb.out.be.size) (fun g hg => hg))⟩⟩
      have q5 := (str_eq (l.take n2)).1
      have q6 := (str_eq (l.drop n2)).1
      have HBe := Bx.mk HSTb.out.be
      clear s1 s2 s3 s4 e3 e4 hL1 hL2 b4 b5 b6 b7 b8 b9 hb8 hsp hsb hmb HSTb HSTa HPr HLa c0 c1 c2 HY HF hcap hcapb hs2 hn2
      go_upto_region 20 with fail
      have bb : Below wb.heap.size wb wb.drew := (Below.refl _ wb).drew
      go_region_held3 (fun V => (convert 22 9 (.slice Ab n2 cb)).run Tryz.prog V = .ok (.string (S (l.take n2))) V ∧ (convert 22 9 (.slice L1 2 (cb - n2))).run Tryz.prog V = .ok (.string (S (l.drop n2))) V ∧ (convert 22 9 (.slice L2 2 (d - n2))).run Tryz.prog V = .ok (.string (S (l.drop n2))) V)
        (first | with_reducible exact HC.out _ bb)
        (first
          | (go_at_call 14; refine (HSM.out _ bb).mono ?_; rintro e w5 ⟨rfl, hg5⟩; replace bb := step_bb (by with_reducible exact bb) hg5))
      all_goals
        go_wp2_with fail
        go_ret
        exact ⟨rfl, HBe.out.trans (bb.mono HBe.out.size)⟩
    · have q3 : ((y.kind : Int) != 3) = true := by simp; omega
      have b8 := b6 hk3
      have s1 := spell_str hsp
      have s2 := spell_str (take_spell hsb hyb)
      rw [← b8] at s2
      have hn2d : (y.n : Int) ≤ (d : Int) := by omega
      have q5 := (str_eq l).1
      have HBe := Bx.mk HSTb.out.be
      have HC : Bx (∀ V, Below wb.heap.size wb V → (convert 22 9 (.slice Ab y.n cb)).run Tryz.prog V = .ok (.string (S l)) V ∧ (convert 22 9 (.slice B y.n d)).run Tryz.prog V = .ok (.string (S l)) V) :=
        ⟨fun V hV => ⟨spell_str (hsp.below hV (fun g hg => hg)), by
          have := spell_str ((take_spell hsb hyb).below (hV.mono HSTb.out.be.size) (fun g hg => hg))
          rw [← b8] at this
          exact this⟩⟩
      have z1 : ∀ V, (Instr.slice 22 (.slice B m d) none (some (.int .i64 ((y.n : Nat) : Int))) none).run Tryz.prog V = .ok (.slice B y.n d) V := fun V => cut_h V B m d y.n (by omega)
      clear s1 s2 b4 b5 b6 b7 b8 hsp hsb hmb HSTb HSTa HPr HLa c0 c1 c2 HY HF hcap hcapb
      go_upto_region 19 with fail
      have bb : Below wb.heap.size wb wb.drew := (Below.refl _ wb).drew
      go_region_held3 (fun V => (convert 22 9 (.slice Ab y.n cb)).run Tryz.prog V = .ok (.string (S l)) V ∧ (convert 22 9 (.slice B y.n d)).run Tryz.prog V = .ok (.string (S l)) V)
        (first | with_reducible exact HC.out _ bb)
        (fail)
      all_goals
        go_wp2_with fail
        go_ret
        exact ⟨rfl, HBe.out.trans (bb.mono HBe.out.size)⟩
  · obtain ⟨h1, h2⟩ := tk_err (b := b) (by rw [HY.out]; exact e0)
    rw [HY.out] at h1
    have E0 : (((y.e : Nat) : Int) != 0) = true := by simp; omega
    have e1 : y.kind = 0 := by rw [h1]; rfl
    have e2 : y.text = [] := by rw [h1]; rfl
    have e3 : y.port = 0 := by rw [h1]; rfl
    have e4 : y.n = 0 := by rw [h1]; rfl
    rw [e1, e2, e3] at HLa
    rw [e4]
    have HL0 : Lies Wa ga 26 #[.int .u8 0, .string ⟨#[]⟩, .int .i64 0] := HLa.out
    have c0 := HL0.cell 0; have c1 := HL0.cell 1; have c2 := HL0.cell 2
    simp at c0 c1 c2
    clear h1 h2 e1 e2 e3 e4 HLa HL0 HY HF
    go_wp2_with fail
    go_ret
    exact ⟨rfl, HSTa.out.be⟩
theorem back_walk {w : World} {k : Int} {t : ByteArray} {p : Int} (h0 : 0 ≤ k) {B : Option Addr} {m d : Nat} {cs : List Int} (hs1 : Src w (fun g => g < w.heap.size) B m d cs) (he : Env w) (hN : Nums w) : Calls Tryz.prog 4 #[tv k t p, .slice B m d] w (True_ w) := by
  obtain ⟨b, rfl⟩ := ints_of hs1.rng
  obtain ⟨x, rfl⟩ : ∃ x, t = S x := ⟨_, (S_data t).symm⟩
  by_cases hq : 1000 < x.length ∨ 300 < m
  · exact back_big hq he hN
  · by_cases hmt : mayT (tt k (S x) p) = true
    · obtain ⟨_, h1, h2⟩ := mayT_port hmt
      obtain ⟨k, rfl⟩ : ∃ j : Nat, k = (j : Int) := ⟨k.toNat, by omega⟩
      obtain ⟨q, rfl⟩ : ∃ j : Nat, p = (j : Int) := ⟨p.toNat, by omega⟩
      exact back_good hs1 (by omega) hmt he hN
    · exact back_bad h0 hs1 (by omega) (by omega) (by simpa using hmt) he hN
end Go.Proofs.YtefpplkoohnfbaaGreatDoor.ak
