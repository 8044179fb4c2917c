/-
  Given for the seat's laws: HostShort at any groups. No condition but those of the theorems.
-/
import Derived.Test.YtpllhnknejceiaaGreatDoorHShort0
namespace Go.Proofs.YtpllhnknejceiaaGreatDoor.hw
open Go.RowKit mem hostp own
set_option linter.unusedVariables false

set_option maxRecDepth 100000 in
set_option maxHeartbeats 16000000 in
theorem short_at (g0 g1 g2 g3 g4 g5 g6 g7 : Nat) (hg : ∀ v ∈ [g0, g1, g2, g3, g4, g5, g6, g7], v < 65536) (x0 x1 x2 x3 x4 x5 x6 x7 : Nat) (hx : ∀ v ∈ [x0, x1, x2, x3, x4, x5, x6, x7], v < 256) (fr mn : Nat) (hfr : fr < 256) (hmn : mn < 256) (w : World) (he : Env w) :
    Calls Tryz.prog 7 #[.agg #[.int .u16 (g0 : Int), .int .u16 (g1 : Int), .int .u16 (g2 : Int), .int .u16 (g3 : Int), .int .u16 (g4 : Int), .int .u16 (g5 : Int), .int .u16 (g6 : Int), .int .u16 (g7 : Int)], .agg #[.int .u8 (x0 : Int), .int .u8 (x1 : Int), .int .u8 (x2 : Int), .int .u8 (x3 : Int), .int .u8 (x4 : Int), .int .u8 (x5 : Int), .int .u8 (x6 : Int), .int .u8 (x7 : Int)], .int .u8 (fr : Int), .int .u8 (mn : Int)] w (Gives (.bool true) w) := by
  obtain ⟨gl, hgl⟩ : ∃ gl, [g0, g1, g2, g3, g4, g5, g6, g7] = gl := ⟨_, rfl⟩
  obtain ⟨wl, hwl⟩ : ∃ wl, [x0, x1, x2, x3, x4, x5, x6, x7] = wl := ⟨_, rfl⟩
  have hgc : gc gl = #[.int .u16 (g0 : Int), .int .u16 (g1 : Int), .int .u16 (g2 : Int), .int .u16 (g3 : Int), .int .u16 (g4 : Int), .int .u16 (g5 : Int), .int .u16 (g6 : Int), .int .u16 (g7 : Int)] := by rw [← hgl]; rfl
  have hbc : bc wl = #[.int .u8 (x0 : Int), .int .u8 (x1 : Int), .int .u8 (x2 : Int), .int .u8 (x3 : Int), .int .u8 (x4 : Int), .int .u8 (x5 : Int), .int .u8 (x6 : Int), .int .u8 (x7 : Int)] := by rw [← hwl]; rfl
  have hg8 : gl.length = 8 := by rw [← hgl]; rfl
  have hw8 : wl.length = 8 := by rw [← hwl]; rfl
  rw [hgl] at hg
  rw [hwl] at hx
  clear hgl hwl
  obtain ⟨w0, hw0⟩ : ∃ w0, w0 = (w.alloc (.cells (gc gl) 48)).alloc (.cells (bc wl) 49) := ⟨_, rfl⟩
  obtain ⟨bg, hbg⟩ : ∃ b, b = w.heap.size := ⟨_, rfl⟩
  obtain ⟨bw, hbw⟩ : ∃ b, b = w.heap.size + 1 := ⟨_, rfl⟩
  have hb0 : Below w.heap.size w w0 := by rw [hw0]; exact ((Below.refl _ w).alloc (Nat.le_refl _) _).alloc (by simp) _
  have lg0 : Lies w0 bg 48 (gc gl) := by rw [hw0, hbg]; exact (Lies.new w _ _).alloc _
  have lw0 : Lies w0 bw 49 (bc wl) := by
    rw [hw0, hbw]
    have := Lies.new (w.alloc (.cells (gc gl) 48)) 49 (bc wl)
    simpa using this
  have hord : w.heap.size ≤ bg ∧ bg < bw := by omega
  rw [hgc, hbc] at hw0
  have HAW := Bx.mk (awake_any w0 (he.below hb0))
  have HG := Bx.mk hg; have HX := Bx.mk hx; have HG8 := Bx.mk hg8; have HW8 := Bx.mk hw8; have HGC := Bx.mk hgc
  have HB0 := Bx.mk hb0; have LG0 := Bx.mk lg0; have LW0 := Bx.mk lw0; have HE := Bx.mk he; have HORD := Bx.mk hord
  obtain ⟨wd, hwd⟩ : ∃ wd, wl.map (fun n => 1 + n % 4) = wd := ⟨_, rfl⟩
  obtain ⟨ws, hws⟩ : ∃ ws, words gl wd = ws := ⟨_, rfl⟩
  have hd8 : wd.length = 8 := by rw [← hwd, List.length_map, hw8]
  have hd4 : ∀ n ∈ wd, 1 ≤ n ∧ n ≤ 4 := fun n hn => by
    rw [← hwd] at hn
    obtain ⟨y, _, rfl⟩ := List.mem_map.1 hn
    omega
  have HPW := Bx.mk (fun (k m : Nat) (hz : m = 0 ∨ k + m ≤ 8 ∧ ∀ i, k ≤ i → i < k + m → gl[i]? = some 0) => parse_words hg8 hd8 hg hd4 hz)
  rw [hws] at HPW
  have HS8 := Bx.mk (show ws.length = 8 by rw [← hws, words_len (by omega), hg8])
  have HS4 := Bx.mk (show ∀ x ∈ ws, x.length ≤ 4 by rw [← hws]; exact words_len4 hg (fun n hn => (hd4 n hn).2))
  have HWG := Bx.mk (show ∀ (i v n : Nat), gl[i]? = some v → wl[i]? = some n → ws[i]? = some (word v (1 + n % 4)) from fun i v n h1 h2 => by
    rw [← hws]
    exact words_get h1 (by rw [← hwd, List.getElem?_map, h2]; rfl))
  clear hwd hws hd8 hd4 hg hx hg8 hw8 hgc hbc hb0 lg0 lw0 he hord
  go_enter Tryz.func7, Tryz.ntmps7
  go_wp2_with fail
  rw [← hw0, ← hbw, ← hbg]
  clear hw0 hbw hbg
  generalize (Value.agg #[.int .u16 (g0 : Int), .int .u16 (g1 : Int), .int .u16 (g2 : Int), .int .u16 (g3 : Int), .int .u16 (g4 : Int), .int .u16 (g5 : Int), .int .u16 (g6 : Int), .int .u16 (g7 : Int)]) = G
  generalize (Value.agg #[.int .u8 (x0 : Int), .int .u8 (x1 : Int), .int .u8 (x2 : Int), .int .u8 (x3 : Int), .int .u8 (x4 : Int), .int .u8 (x5 : Int), .int .u8 (x6 : Int), .int .u8 (x7 : Int)]) = Wd
  refine HAW.out.mono ?_
  rintro e w1 ⟨rfl, hb1⟩
  have HB1 := Bx.mk (HB0.out.trans (hb1.mono HB0.out.size))
  have LG1 := Bx.mk (LG0.out.below hb1 LG0.out.lt)
  have LW1 := Bx.mk (LW0.out.below hb1 LW0.out.lt)
  clear hb1 HAW HB0 LG0 LW0
  have c := LG1.out
  rw [HGC.out] at c
  have c0 := c.cell 0; have c1 := c.cell 1; have c2 := c.cell 2; have c3 := c.cell 3; have c4 := c.cell 4; have c5 := c.cell 5; have c6 := c.cell 6; have c7 := c.cell 7
  simp only [List.getElem?_toArray, List.getElem?_cons_zero, List.getElem?_cons_succ] at c0 c1 c2 c3 c4 c5 c6 c7
  obtain ⟨want, hwant⟩ : ∃ want, S (by2 gl) = want := ⟨_, rfl⟩
  have hsix := fun W => six_lit W gl HG8.out HG.out want hwant 47 (0, 0)
  rw [HGC.out] at hsix
  have HSIX := Bx.mk hsix
  have HWANT := Bx.mk hwant
  clear hsix hwant c
  go_wp2_with fail
  refine (HSIX.out _).mono ?_
  rintro e w2 ⟨rfl, hb2⟩
  have hbh : bw < w2.heap.size := Nat.lt_of_lt_of_le LW1.out.lt hb2.size
  obtain ⟨w3, hw3⟩ : ∃ v, v = (w2.alloc (.cells #[.int .u8 2, .string want] 23)).alloc (.cells (wcs ws 0) 51) := ⟨_, rfl⟩
  obtain ⟨bh, hbh'⟩ : ∃ b, b = w2.heap.size := ⟨_, rfl⟩
  obtain ⟨bs, hbs⟩ : ∃ b, b = w2.heap.size + 1 := ⟨_, rfl⟩
  have hSW : SW w bg bw bh gl wl want w3 := by
    rw [hw3, hbh']
    refine ⟨((LG1.out.below hb2 LG1.out.lt).alloc _).alloc _, ((LW1.out.below hb2 LW1.out.lt).alloc _).alloc _, (Lies.new w2 _ _).alloc _, ?_⟩
    have hb := HB1.out.trans (hb2.mono HB1.out.size)
    exact (hb.alloc hb.size _).alloc (by simp; have := hb.size; omega) _
  have hLS : Lies w3 bs 51 (wcs ws 0) := by
    rw [hw3, hbs]
    have := Lies.new (w2.alloc (.cells #[.int .u8 2, .string want] 23)) 51 (wcs ws 0)
    simpa using this
  have HO := Bx.mk (show bg < bs ∧ bw < bs ∧ bh < bs ∧ w.heap.size ≤ bs by have := HORD.out; omega)
  have HSW := Bx.mk hSW; have HLS := Bx.mk hLS
  rw [wcs_zero] at hw3
  clear hb2 hSW hLS c0 c1 c2 c3 c4 c5 c6 c7 HSIX LG1 LW1 HB1 hbh
  go_upto_region 5 with fail
  rw [← hw3, ← hbs, ← hbh']
  clear hw3 hbs hbh'
  go_wp2_with fail
  go_loopw [11] (fun s11 wr => ∃ i : Nat, i ≤ 8 ∧ s11 = .int .i64 (i : Int) ∧ Bx (SW w bg bw bh gl wl want wr) ∧ Bx (Lies wr bs 51 (wcs ws i))) (fun s11 _ => 8 - (intOf s11).toNat)
  case atStart => exact ⟨0, by omega, rfl, HSW, HLS⟩
  case round =>
    clear HSW HLS
    obtain ⟨i, hi, rfl, HS, HL⟩ := hrel
    by_cases hi8 : i < 8
    · obtain ⟨v, hv⟩ : ∃ v, gl[i]? = some v := ⟨_, List.getElem?_eq_getElem (by rw [HG8.out]; exact hi8)⟩
      obtain ⟨n, hn⟩ : ∃ n, wl[i]? = some n := ⟨_, List.getElem?_eq_getElem (by rw [HW8.out]; exact hi8)⟩
      have hvb := HG.out v (List.mem_of_getElem? hv)
      have hnb := HX.out n (List.mem_of_getElem? hn)
      have hwi := HWG.out i v n hv hn
      have k0 := (HS.out.g.cell i).trans (gc_at hv)
      have k1 := (HS.out.wd.cell i).trans (bc_get hn)
      have k2 := (HL.out.cell i).trans (wcs_new HS8.out hi8)
      have k3 := HL.out.frozen i
      have hn4 : (n : Int) % 4 = ((n % 4 : Nat) : Int) := by omega
      have hnl := nz_len hvb
      have hwv : IntKind.i64.wrap (v : Int) = (v : Int) := IntWalk.i64_in _ (by omega)
      have HWI := Bx.mk hwi
      obtain ⟨L, hL⟩ : ∃ L, (nz v).length = L := ⟨_, rfl⟩
      have HLL := Bx.mk hL
      rw [hL] at hnl
      obtain ⟨r4, hr4⟩ : ∃ r4, n % 4 = r4 := ⟨_, rfl⟩
      have HR4 := Bx.mk hr4
      rw [hr4] at hn4
      have hr4b : r4 < 4 := by omega
      have hwr : IntKind.i64.wrap (r4 : Int) = (r4 : Int) := IntWalk.i64_in _ (by omega)
      clear hv hn hwi hL hr4
      go_wp2
      go_loop [12, 13] (fun s12 s13 => ∃ (x : Str) (m : Nat), s12 = .string (S x) ∧ s13 = .int .i64 (m : Int) ∧ m < 65536 ∧ x.length ≤ 4 ∧ Bx (nz m ++ x = nz v)) (fun _ s13 => (intOf s13).toNat)
      case atStart => exact ⟨[], v, rfl, rfl, hvb, by simp, ⟨by simp⟩⟩
      case round =>
        obtain ⟨x, m, rfl, rfl, hm, hxl, HN⟩ := hrel
        by_cases hm0 : 0 < m
        · obtain ⟨r, hr⟩ : ∃ r, m % 16 = r := ⟨_, rfl⟩
          obtain ⟨q, hq⟩ : ∃ q, m / 16 = q := ⟨_, rfl⟩
          have hr1 : (m : Int) % 16 = (r : Int) := by omega
          have hq1 : (m : Int) / 16 = (q : Int) := by omega
          have hrb : r < 16 := by omega
          have hqm : q < m := by omega
          have hnew : nz q ++ (dg r :: x) = nz v := by
            rw [← HN.out, nz_step hm0, hr, hq]
            simp
          have hxl2 : (dg r :: x).length ≤ 4 := by
            have h1 := congrArg List.length hnew
            rw [List.length_append, HLL.out] at h1
            omega
          have hx1 := fun W => hex_at r hrb W
          have ha1 : ∀ W, (Op.stringOp .add (S [dg r]) (S x)).run Tryz.prog W = .ok (.string (S (dg r :: x))) W := fun W => add_str W [dg r] x (by simp) (by omega)
          have HNEW := Bx.mk hnew
          generalize dg r :: x = y at *
          generalize S [dg r] = sr at hx1 ha1
          generalize S x = sx at *
          clear hnew hr hq
          go_wp2
          go_round
          case rel => exact ⟨y, q, rfl, rfl, by omega, hxl2, HNEW⟩
          case measure => simp [intOf]; omega
        · obtain rfl : m = 0 := by omega
          have hxv : x = nz v := by have := HN.out; rw [nz_zero, List.nil_append] at this; exact this
          subst hxv
          have HK0 := Bx.mk (show S (nz v) = S (List.replicate 0 48 ++ nz v) by simp)
          go_wp2
          go_loop [12] (fun s12 => ∃ k : Nat, s12 = .string (S (List.replicate k 48 ++ nz v)) ∧ k ≤ 1 + r4 - L) (fun s12 => 10 - (match s12 with | .string b => b.size | _ => 0))
          case atStart => exact ⟨0, by rw [HK0.out], by omega⟩
          case round =>
            obtain ⟨k, rfl, hk⟩ := hrel
            have hsz : (S (List.replicate k 48 ++ nz v)).size = k + L := by rw [S_size]; simp [HLL.out]
            by_cases hkw : k + L < 1 + r4
            · have ha1 : ∀ W, (Op.stringOp .add ⟨#[48]⟩ (S (List.replicate k 48 ++ nz v))).run Tryz.prog W = .ok (.string (S (List.replicate (k + 1) 48 ++ nz v))) W := fun W => add_str W [48] _ (by simp) (by simp; omega)
              have hsz2 : (S (List.replicate (k + 1) 48 ++ nz v)).size = k + 1 + L := by rw [S_size]; simp [HLL.out]
              have HSZ2 := Bx.mk hsz2
              have HSZ := Bx.mk hsz
              generalize hy : S (List.replicate (k + 1) 48 ++ nz v) = y at *
              have HY := Bx.mk hy
              generalize S (List.replicate k 48 ++ nz v) = z at *
              clear hy hsz2
              go_wp2
              go_round
              case rel => exact ⟨k + 1, by rw [HY.out], by omega⟩
              case measure =>
                have h1 := HSZ.out
                have h2 := HSZ2.out
                show 10 - y.size < 10 - z.size
                omega
            · have hkk : k = (1 + r4) - (nz v).length := by rw [HLL.out]; omega
              have hword : S (List.replicate k 48 ++ nz v) = S (word v (1 + n % 4)) := by rw [hkk, HR4.out]; rfl
              have HS2 := Bx.mk (HS.out.far (i := i) HO.out.1 HO.out.2.1 HO.out.2.2.1 HO.out.2.2.2 (.string (S (word v (1 + n % 4)))))
              have hl2 := HL.out.set i (.string (S (word v (1 + n % 4))))
              rw [wcs_set HS8.out HWI.out] at hl2
              have HL2 := Bx.mk hl2
              rw [hword] at hsz ⊢
              generalize S (word v (1 + n % 4)) = z at *
              clear hkk hword hl2
              go_wp2
              go_roundw
              case rel => exact ⟨i + 1, by omega, by go_num, HS2, HL2⟩
              case measure => simp [intOf]; omega
    · obtain rfl : i = 8 := by omega
      obtain ⟨y0, hy0⟩ : ∃ y, ws[0]? = some y := ⟨_, List.getElem?_eq_getElem (by rw [HS8.out]; omega)⟩
      have k0 := (HL.out.cell 0).trans (wcs_get HS8.out hy0)
      have HJ0 := Bx.mk (show S y0 = S (join 58 (ws.take 1)) by rw [join_take hy0]; simp [join])
      clear hy0
      go_wp2
      go_loop [14, 15] (fun s14 s15 => ∃ i : Nat, 1 ≤ i ∧ i ≤ 8 ∧ s15 = .int .i64 (i : Int) ∧ s14 = .string (S (join 58 (ws.take i)))) (fun _ s15 => 8 - (intOf s15).toNat)
      case atStart => exact ⟨1, by omega, by omega, rfl, by rw [HJ0.out]⟩
      case round =>
        clear k0
        obtain ⟨i, hi1, hi, rfl, rfl⟩ := hrel
        have hjl : (join 58 (ws.take i)).length ≤ 40 := by
          have := join_len4 (a := 58) (c := 4) (l := ws.take i) (fun x hx => HS4.out x (List.mem_of_mem_take hx))
          have h2 : (ws.take i).length ≤ 8 := by rw [List.length_take]; omega
          omega
        by_cases hi8 : i < 8
        · obtain ⟨y, hy⟩ : ∃ y, ws[i]? = some y := ⟨_, List.getElem?_eq_getElem (by rw [HS8.out]; exact hi8)⟩
          have hyl := HS4.out y (List.mem_of_getElem? hy)
          have k1 := (HL.out.cell i).trans (wcs_get HS8.out hy)
          have hjt := join_take (a := 58) hy
          rw [if_neg (by omega)] at hjt
          have ha1 : ∀ W, (Op.stringOp .add (S (join 58 (ws.take i))) ⟨#[58]⟩).run Tryz.prog W = .ok (.string (S (join 58 (ws.take i) ++ [58]))) W := fun W => add_str W _ [58] (by omega) (by simp)
          have ha2 : ∀ W, (Op.stringOp .add (S (join 58 (ws.take i) ++ [58])) (S y)).run Tryz.prog W = .ok (.string (S (join 58 (ws.take (i + 1))))) W := fun W => by
            rw [add_str W _ y (by rw [List.length_append, List.length_cons, List.length_nil]; omega) (by omega), hjt, List.append_assoc]
          generalize hz : S (join 58 (ws.take (i + 1))) = z at *
          have HZ := Bx.mk hz
          generalize S (join 58 (ws.take i) ++ [58]) = z1 at *
          generalize S (join 58 (ws.take i)) = z0 at *
          generalize S y = z2 at *
          clear hz hjt hy hjl
          go_wp2
          go_round
          case rel => exact ⟨i + 1, by omega, by omega, by go_num, by rw [HZ.out]⟩
          case measure => simp [intOf]; omega
        · obtain rfl : i = 8 := by omega
          have hall : ws.take 8 = ws := List.take_of_length_le (by rw [HS8.out]; exact Nat.le_refl _)
          rw [hall] at hjl ⊢
          have hpw := HPW.out 0 0 (.inl rfl)
          have hps := fun W (hW : Env W) => parse_any (S (join 58 ws)) (by rw [S_size]; omega) W hW
          rw [S_list, show join 58 ws = tx6 ws 0 0 from by unfold tx6; rw [if_pos rfl], hpw] at hps
          rw [show tx6 ws 0 0 = join 58 ws from by unfold tx6; rw [if_pos rfl]] at hps
          have HPS := Bx.mk (show ∀ W, Env W → Calls Tryz.prog 8 #[.string (S (join 58 ws))] W (Gives (.tuple #[.agg #[.int .u8 2, .string want], .int .i64 0]) W) by rw [← HWANT.out]; exact hps)
          have ew : (want.toList == want.toList) = true := beq_self_eq_true _
          generalize S (join 58 ws) = z at *
          clear hall hpw hps hjl
          go_wp2_with fail
          refine (HPS.out _ (HE.out.below HS.out.below)).mono ?_
          rintro e w5 ⟨rfl, hb5⟩
          obtain ⟨w6, hw6⟩ : ∃ v, v = w5.alloc (.cells #[.int .u8 2, .string want] 23) := ⟨_, rfl⟩
          obtain ⟨q6, hq6⟩ : ∃ b, b = w5.heap.size := ⟨_, rfl⟩
          have HS6 := Bx.mk (show SW w bg bw bh gl wl want w6 by rw [hw6]; exact (HS.out.fresh hb5).fresh ((Below.refl _ _).alloc (Nat.le_refl _) _))
          have HL6 := Bx.mk (show Lies w6 bs 51 (wcs ws 8) by rw [hw6]; exact (HL.out.below hb5 HL.out.lt).alloc _)
          have HQ6 := Bx.mk (show Lies w6 q6 23 #[.int .u8 2, .string want] by rw [hw6, hq6]; exact Lies.new _ _ _)
          have HOQ := Bx.mk (show bs < q6 by rw [hq6]; exact Nat.lt_of_lt_of_le HL.out.lt hb5.size)
          clear hb5 HS HL HPS
          go_upto_region 22 with fail
          rw [← hw6, ← hq6]
          clear hw6 hq6
          have u0 := HQ6.out.cell 0; have u1 := HQ6.out.cell 1
          have u2 := HS6.out.want.cell 0; have u3 := HS6.out.want.cell 1
          simp only [List.getElem?_toArray, List.getElem?_cons_zero, List.getElem?_cons_succ] at u0 u1 u2 u3
          obtain ⟨a, ha⟩ : ∃ a, fr % 8 = a := ⟨_, rfl⟩
          obtain ⟨b, hb⟩ : ∃ b, mn % 8 = b := ⟨_, rfl⟩
          have ha1 : (fr : Int) % 8 = (a : Int) := by omega
          have hb1 : (mn : Int) % 8 = (b : Int) := by omega
          have ha8 : a < 8 := by omega
          have hb8 : b < 8 := by omega
          have hwa : IntKind.i64.wrap (a : Int) = (a : Int) := IntWalk.i64_in _ (by omega)
          have hwb : IntKind.i64.wrap (b : Int) = (b : Int) := IntWalk.i64_in _ (by omega)
          clear ha hb
          by_cases hend : 8 < a + 1 + b
          · go_wp2_with fail
            go_ret
            exact ⟨rfl, HS6.out.below⟩
          · go_wp2_with fail
            clear u0 u1 u2 u3
            have h00 : Bx (∀ j, a ≤ j → j < 0 → j < a + 1 + b → gl[j]? = some 0) := ⟨fun j _ h _ => absurd h (by omega)⟩
            have H00 := Bx.mk (show (⟨#[]⟩ : ByteArray) = S (out6 ws a (1 + b) 0) by rw [out6_start]; rfl)
            go_loop [20, 21] (fun s20 s21 => ∃ i : Nat, i ≤ 8 ∧ s21 = .int .i64 (i : Int) ∧ s20 = .string (S (out6 ws a (1 + b) i)) ∧ Bx (∀ j, a ≤ j → j < i → j < a + 1 + b → gl[j]? = some 0)) (fun _ s21 => 8 - (intOf s21).toNat)
            case atStart => exact ⟨0, by omega, rfl, by rw [← H00.out], h00⟩
            case round =>
              clear h00 H00
              obtain ⟨i, hi, rfl, rfl, HZR⟩ := hrel
              have hol := out6_len HS8.out HS4.out a (1 + b) i
              by_cases hi8 : i < 8
              · rcases Nat.lt_or_ge i a with hia | hia
                · have HZR2 : Bx (∀ j, a ≤ j → j < i + 1 → j < a + 1 + b → gl[j]? = some 0) := ⟨fun j h1 h2 _ => absurd h1 (by omega)⟩
                  obtain ⟨y, hy⟩ : ∃ y, ws[i]? = some y := ⟨_, List.getElem?_eq_getElem (by rw [HS8.out]; exact hi8)⟩
                  have hyl := HS4.out y (List.mem_of_getElem? hy)
                  have k1 := (HL6.out.cell i).trans (wcs_get HS8.out hy)
                  have hst := out6_before (l := ws) (k := a) (m := 1 + b) hy (.inr hia)
                  by_cases hi0 : i = 0
                  · subst hi0
                    rw [if_pos rfl] at hst
                    have ha2 : ∀ W, (Op.stringOp .add (S (out6 ws a (1 + b) 0)) (S y)).run Tryz.prog W = .ok (.string (S (out6 ws a (1 + b) (0 + 1)))) W := fun W => by
                      rw [add_str W _ y (by omega) (by omega), hst, List.nil_append]
                    generalize hz : S (out6 ws a (1 + b) (0 + 1)) = z at *
                    have HZ := Bx.mk hz
                    generalize S (out6 ws a (1 + b) 0) = z0 at *
                    generalize S y = z2 at *
                    clear hz hst hy hol
                    go_wp2
                    go_round
                    case rel => first | exact ⟨0 + 1, by omega, rfl, by rw [HZ.out], HZR2⟩ | ((repeat apply Exists.intro); exact ⟨⟨0 + 1, by omega, rfl, by rw [HZ.out], HZR2⟩, rfl, rfl, rfl⟩)
                    case measure => simp [intOf]
                  · rw [if_neg hi0] at hst
                    have ha1 : ∀ W, (Op.stringOp .add (S (out6 ws a (1 + b) i)) ⟨#[58]⟩).run Tryz.prog W = .ok (.string (S (out6 ws a (1 + b) i ++ [58]))) W := fun W => add_str W _ [58] (by omega) (by simp)
                    have ha2 : ∀ W, (Op.stringOp .add (S (out6 ws a (1 + b) i ++ [58])) (S y)).run Tryz.prog W = .ok (.string (S (out6 ws a (1 + b) (i + 1)))) W := fun W => by
                      rw [add_str W _ y (by rw [List.length_append, List.length_cons, List.length_nil]; omega) (by omega), hst, List.append_assoc]
                    generalize hz : S (out6 ws a (1 + b) (i + 1)) = z at *
                    have HZ := Bx.mk hz
                    generalize S (out6 ws a (1 + b) i ++ [58]) = z1 at *
                    generalize S (out6 ws a (1 + b) i) = z0 at *
                    generalize S y = z2 at *
                    clear hz hst hy hol
                    go_wp2
                    go_round
                    case rel => first | exact ⟨i + 1, by omega, by go_num, by rw [HZ.out], HZR2⟩ | ((repeat apply Exists.intro); exact ⟨⟨i + 1, by omega, by go_num, by rw [HZ.out], HZR2⟩, rfl, rfl, rfl⟩)
                    case measure => simp [intOf]; omega
                · rcases Nat.lt_or_ge i (a + 1 + b) with hie | hie
                  · obtain ⟨v, hv⟩ : ∃ v, gl[i]? = some v := ⟨_, List.getElem?_eq_getElem (by rw [HG8.out]; exact hi8)⟩
                    have hvb := HG.out v (List.mem_of_getElem? hv)
                    have k0 := (HS6.out.g.cell i).trans (gc_at hv)
                    by_cases hv0 : v = 0
                    · subst hv0
                      have HZR2 : Bx (∀ j, a ≤ j → j < i + 1 → j < a + 1 + b → gl[j]? = some 0) := ⟨fun j h1 h2 h3 => by
                        rcases Nat.lt_or_ge j i with h | h
                        · exact HZR.out j h1 h h3
                        · obtain rfl : j = i := by omega
                          exact hv⟩
                      clear hv
                      by_cases hie2 : i = a
                      · subst hie2
                        have hst := out6_in (l := ws) (k := i) (m := 1 + b) (i := i + 1) (by omega) (by omega) (by omega)
                        have ha1 : ∀ W, (Op.stringOp .add (S (out6 ws i (1 + b) i)) ⟨#[58, 58]⟩).run Tryz.prog W = .ok (.string (S (out6 ws i (1 + b) (i + 1)))) W := fun W => by
                          rw [show (⟨#[58, 58]⟩ : ByteArray) = S [58, 58] from rfl, add_str W _ [58, 58] (by omega) (by simp), hst]
                        generalize hz : S (out6 ws i (1 + b) (i + 1)) = z at *
                        have HZ := Bx.mk hz
                        generalize S (out6 ws i (1 + b) i) = z0 at *
                        clear hz hst hol
                        go_wp2
                        go_round
                        case rel => exact ⟨i + 1, by omega, by go_num, by rw [HZ.out], HZR2⟩
                        case measure => simp [intOf]; omega
                      · have hst1 := out6_in (l := ws) (k := a) (m := 1 + b) (i := i + 1) (by omega) (by omega) (by omega)
                        have hst2 := out6_in (l := ws) (k := a) (m := 1 + b) (i := i) (by omega) (by omega) (by omega)
                        have HZ := Bx.mk (show S (out6 ws a (1 + b) (i + 1)) = S (out6 ws a (1 + b) i) by rw [hst1, hst2])
                        have eia : ((i : Int) == (a : Int)) = false := beq_eq_false_iff_ne.2 (by omega)
                        clear hst1 hst2 hol
                        generalize S (out6 ws a (1 + b) i) = z0 at *
                        go_wp2
                        go_round
                        case rel => exact ⟨i + 1, by omega, by go_num, by rw [HZ.out], HZR2⟩
                        case measure => simp [intOf]; omega
                    · have ev : ((v : Int) != 0) = true := bne_iff_ne.2 (by omega)
                      clear hv hol
                      generalize S (out6 ws a (1 + b) i) = z0 at *
                      go_wp2
                      go_ret
                      exact ⟨rfl, HS6.out.below⟩
                  · have HZR2 : Bx (∀ j, a ≤ j → j < i + 1 → j < a + 1 + b → gl[j]? = some 0) := ⟨fun j h1 h2 h3 => HZR.out j h1 (by omega) h3⟩
                    obtain ⟨y, hy⟩ : ∃ y, ws[i]? = some y := ⟨_, List.getElem?_eq_getElem (by rw [HS8.out]; exact hi8)⟩
                    have hyl := HS4.out y (List.mem_of_getElem? hy)
                    have k1 := (HL6.out.cell i).trans (wcs_get HS8.out hy)
                    have hst := out6_behind (l := ws) (k := a) (m := 1 + b) hy (by omega) (by omega)
                    by_cases hie2 : i = a + 1 + b
                    · rw [if_pos (by omega)] at hst
                      have ene : ((i : Int) != (a : Int) + 1 + (b : Int)) = false := by rw [show (i : Int) = (a : Int) + 1 + (b : Int) by omega]; simp
                      clear hie2
                      have ha2 : ∀ W, (Op.stringOp .add (S (out6 ws a (1 + b) i)) (S y)).run Tryz.prog W = .ok (.string (S (out6 ws a (1 + b) (i + 1)))) W := fun W => by
                        rw [add_str W _ y (by omega) (by omega), hst, List.nil_append]
                      generalize hz : S (out6 ws a (1 + b) (i + 1)) = z at *
                      have HZ := Bx.mk hz
                      generalize S (out6 ws a (1 + b) i) = z0 at *
                      generalize S y = z2 at *
                      clear hz hst hy hol
                      go_wp2
                      go_round
                      case rel => first | exact ⟨i + 1, by omega, by go_num, by rw [HZ.out], HZR2⟩ | ((repeat apply Exists.intro); exact ⟨⟨i + 1, by omega, by go_num, by rw [HZ.out], HZR2⟩, rfl, rfl, rfl⟩)
                      case measure => simp [intOf]; omega
                    · rw [if_neg (by omega)] at hst
                      have ene : ((i : Int) != (a : Int) + 1 + (b : Int)) = true := bne_iff_ne.2 (by omega)
                      clear hie2
                      have ha1 : ∀ W, (Op.stringOp .add (S (out6 ws a (1 + b) i)) ⟨#[58]⟩).run Tryz.prog W = .ok (.string (S (out6 ws a (1 + b) i ++ [58]))) W := fun W => add_str W _ [58] (by omega) (by simp)
                      have ha2 : ∀ W, (Op.stringOp .add (S (out6 ws a (1 + b) i ++ [58])) (S y)).run Tryz.prog W = .ok (.string (S (out6 ws a (1 + b) (i + 1)))) W := fun W => by
                        rw [add_str W _ y (by rw [List.length_append, List.length_cons, List.length_nil]; omega) (by omega), hst, List.append_assoc]
                      generalize hz : S (out6 ws a (1 + b) (i + 1)) = z at *
                      have HZ := Bx.mk hz
                      generalize S (out6 ws a (1 + b) i ++ [58]) = z1 at *
                      generalize S (out6 ws a (1 + b) i) = z0 at *
                      generalize S y = z2 at *
                      clear hz hst hy hol
                      go_wp2
                      go_round
                      case rel => first | exact ⟨i + 1, by omega, by go_num, by rw [HZ.out], HZR2⟩ | ((repeat apply Exists.intro); exact ⟨⟨i + 1, by omega, by go_num, by rw [HZ.out], HZR2⟩, rfl, rfl, rfl⟩)
                      case measure => simp [intOf]; omega
              · obtain rfl : i = 8 := by omega
                have hpw := HPW.out a (1 + b) (.inr ⟨by omega, fun j h1 h2 => HZR.out j h1 (by omega) (by omega)⟩)
                have hend6 := out6_end (l := ws) (k := a) (m := 1 + b) HS8.out (.inr (by omega))
                rw [hend6] at hol ⊢
                have hps := fun W (hW : Env W) => parse_any (S (tx6 ws a (1 + b))) (by rw [S_size]; omega) W hW
                rw [S_list, hpw] at hps
                have HPS := Bx.mk (show ∀ W, Env W → Calls Tryz.prog 8 #[.string (S (tx6 ws a (1 + b)))] W (Gives (.tuple #[.agg #[.int .u8 2, .string want], .int .i64 0]) W) by rw [← HWANT.out]; exact hps)
                generalize S (tx6 ws a (1 + b)) = z at *
                clear hpw hps hol hend6
                go_wp2_with fail
                refine (HPS.out _ (HE.out.below HS6.out.below)).mono ?_
                rintro e w8 ⟨rfl, hb8⟩
                have HS8' := Bx.mk (HS6.out.fresh hb8)
                have hq8 := HQ6.out.below hb8 HQ6.out.lt
                have u0 := hq8.cell 0; have u1 := hq8.cell 1
                have v0 := hq8.frozen 0; have v1 := hq8.frozen 1
                have u2 := HS8'.out.want.cell 0; have u3 := HS8'.out.want.cell 1
                simp only [List.getElem?_toArray, List.getElem?_cons_zero, List.getElem?_cons_succ] at u0 u1 u2 u3
                have hbh : bh ≠ q6 := by have := HO.out; have := HOQ.out; omega
                have HBF := Bx.mk ((HS8'.out.below.setCell (p := ⟨q6, 0, none⟩) (by show w.heap.size ≤ q6; have := HO.out; have := HOQ.out; omega) (.int .u8 2)).setCell (p := ⟨q6, 1, none⟩) (by show w.heap.size ≤ q6; have := HO.out; have := HOQ.out; omega) (.string want))
                clear hb8 hq8 HS6 HQ6 HL6 HPS
                go_wp2_with fail
                go_ret
                exact ⟨rfl, HBF.out⟩
end Go.Proofs.YtpllhnknejceiaaGreatDoor.hw
