/-
  Given for the seat's laws: AskSmall at any target and places. No condition but those of the theorem.
-/
import Derived.Test.YtefpplkoohnfbabGreatDoorAKB1
import Derived.Test.YtefpplkoohnfbabGreatDoorAAwk
namespace Go.Proofs.YtefpplkoohnfbabGreatDoor.ak
open Go.RowKit mem hostp hw own
set_option linter.unusedVariables false

/-- a slice of bools as it lies in memory -/
structure Bools (w : World) (A : Option Addr) (n : Nat) (ws : List Bool) : Prop where
  len : ws.length = n
  at_ : ∀ (j : Nat) (b : Bool), ws[j]? = some b → ∃ g off, A = some ⟨g, off, none⟩ ∧ g < w.heap.size ∧ w.cell? ⟨g, off + j, none⟩ = some (.bool b)
/-- one byte of the call's own is read, or turned -/
theorem Made.cellAt {w wr : World} {A : Option Addr} {n c : Nat} {l : Str} (h : Made w wr (.slice A n c) l) (hl : l.length = n) {i : Nat} {x : UInt8} (hx : l[i]? = some x) :
    ∃ g, A = some ⟨g, 0, none⟩ ∧ wr.cell? ⟨g, i, none⟩ = some (.int .u8 (x.toNat : Int)) ∧ wr.frozen? ⟨g, i, none⟩ = false ∧ ∀ y : UInt8, Made w (wr.setCell ⟨g, i, none⟩ (.int .u8 (y.toNat : Int))) (.slice A n c) (l.set i y) := by
  have hi := (List.getElem?_eq_some_iff.1 hx).1
  obtain ⟨h1, h2 | ⟨g, cap, cur, h3, h4, h5, h6, h7, h8, h9⟩⟩ := h.own
  · rw [hl] at hi
    cases h2.1
    have := h2.2
    omega
  · subst hl
    cases h3
    have hL : Lies wr g 5 cur := h5
    have hcur : cur[i]? = some (.int .u8 (x.toNat : Int)) := by
      have e : (cur.toList.take (l.length * 1))[i]? = (B8 (ints l))[i]? := by rw [h9]
      rw [List.getElem?_take, if_pos (by omega), Array.getElem?_toList] at e
      rw [e]
      simp [B8, ints, hx]
    refine ⟨g, rfl, by rw [hL.cell]; exact hcur, hL.frozen i, fun y => ⟨?_, h.below.setCell (by exact h4) _⟩⟩
    have hs := hL.set i (.int .u8 (y.toNat : Int))
    rw [List.length_set]
    refine ⟨?_, .inr ⟨g, c, _, rfl, h4, hs, h6, h7, by simpa using h8, ?_⟩⟩
    · simp [B8, ints]
    · rw [Array.toList_setIfInBounds, List.take_set, h9]
      simp [B8, ints, List.map_set]
/-- bytes that differ from others by great letters alone, within -/
structure UpTo (l v : Str) (L : Nat) : Prop where
  hd : v.take 5 = l.take 5
  tl : v.drop (L - 2) = l.drop (L - 2)
  lo : low v = low l
  len : v.length = L
theorem UpTo.start (l : Str) : UpTo l l l.length := ⟨rfl, rfl, rfl, rfl⟩
theorem low_set (v : Str) (i : Nat) {x y : UInt8} (hx : v[i]? = some x) (h : lc y = lc x) : low (v.set i y) = low v := by
  apply List.ext_getElem?
  intro j
  simp only [low, List.getElem?_map, List.getElem?_set]
  by_cases hj : i = j
  · subst hj
    have hlt := (List.getElem?_eq_some_iff.1 hx).1
    rw [List.getElem?_eq_getElem hlt] at hx ⊢
    simp [hlt, Option.some.inj hx, h]
  · simp [hj]
theorem UpTo.set {l v : Str} {L i : Nat} (h : UpTo l v L) (h5 : 5 ≤ i) (hi : i < L - 2) {x : UInt8} (hx : v[i]? = some x) : UpTo l (v.set i (upc x)) L := by
  refine ⟨?_, ?_, ?_, by rw [List.length_set]; exact h.len⟩
  · rw [← h.hd, List.take_set, List.set_eq_of_length_le (by simp; omega)]
  · rw [← h.tl, List.drop_set, if_pos hi]
  · rw [low_set v i hx (lc_upc x)]
    exact h.lo
/-- it is taken as the same target -/
theorem up_taken {x v : Str} {q : Nat} (hm : mayT (tt (3 : Nat) (S x) (q : Int)) = true) (h : UpTo (pr 3 x q) v (pr 3 x q).length) : tk v = ⟨3, x, q, (pr 3 x q).length, 0⟩ := by
  obtain ⟨h1, h2, h3⟩ := mayT_port hm
  have hq : q ≤ 65535 := by omega
  obtain ⟨p1, p2⟩ := port_bytes hq
  have hx : nameB x = true := by
    rcases may_fits h1 with ⟨h, _⟩ | ⟨h, _⟩ | ⟨_, h⟩
    · omega
    · omega
    · exact h
  have hl := name_low hx
  have hxl := name_len hx
  have hL : (pr 3 x q).length = 5 + x.length + 2 := pr_len 3 x q
  have hpr : pr 3 x q = hdr 3 x.length ++ (x ++ [UInt8.ofNat (q / 256), UInt8.ofNat (q % 256)]) := rfl
  have hd5 : (hdr 3 x.length).length = 5 := rfl
  -- the parts of v
  obtain ⟨y, hy⟩ : ∃ y, y = (v.drop 5).take x.length := ⟨_, rfl⟩
  have hvl := h.len
  have hyl : y.length = x.length := by rw [hy]; simp; omega
  have hvd : v.drop 5 = y ++ v.drop (5 + x.length) := by
    rw [hy, ← List.drop_drop, List.take_append_drop]
  have hv : v = hdr 3 x.length ++ (y ++ [UInt8.ofNat (q / 256), UInt8.ofNat (q % 256)]) := by
    conv => lhs; rw [← List.take_append_drop 5 v, hvd, h.hd]
    have e1 : (pr 3 x q).take 5 = hdr 3 x.length := by rw [hpr]; exact List.take_left' hd5
    have e2 : v.drop (5 + x.length) = [UInt8.ofNat (q / 256), UInt8.ofNat (q % 256)] := by
      have ht := h.tl
      rw [hL, show 5 + x.length + 2 - 2 = 5 + x.length by omega] at ht
      rw [ht, hpr, show hdr 3 x.length ++ (x ++ [UInt8.ofNat (q / 256), UInt8.ofNat (q % 256)]) = (hdr 3 x.length ++ x) ++ [UInt8.ofNat (q / 256), UInt8.ofNat (q % 256)] by simp]
      exact List.drop_left' (by rw [List.length_append, hd5])
    rw [e1, e2]
  have hlow : low y = x := by
    have e : ((low v).drop 5).take x.length = ((low (pr 3 x q)).drop 5).take x.length := by rw [h.lo]
    have el : ((low v).drop 5).take x.length = low y := by rw [hy]; simp [low, List.map_take, List.map_drop]
    have er : ((low (pr 3 x q)).drop 5).take x.length = x := by
      rw [hpr, low_append, low_append]
      have a1 : (low (hdr 3 x.length)).length = 5 := by rw [low_len]; exact hd5
      rw [List.drop_left' a1, List.take_left' (by rw [low_len]), hl]
    rw [el, er] at e
    exact e
  have hf : fits 3 y := .inr (.inr ⟨rfl, by rw [hlow]; exact hx⟩)
  have hp : 256 * (UInt8.ofNat (q / 256)).toNat + (UInt8.ofNat (q % 256)).toNat = q := by rw [p1, p2]; omega
  rw [hv, ← hyl]
  have e : hdr 3 y.length ++ (y ++ [UInt8.ofNat (q / 256), UInt8.ofNat (q % 256)]) = hdr 3 y.length ++ (y ++ UInt8.ofNat (q / 256) :: UInt8.ofNat (q % 256) :: []) := rfl
  rw [e, tk_form hf (by rw [hp]; omega), hp]
  show (⟨3, low y, q, hdn 3 + y.length + 2, 0⟩ : TK) = _
  rw [hlow, hL, hyl]
  rfl

set_option maxHeartbeats 8000000 in
set_option maxRecDepth 100000 in
theorem small_no {w : World} {k : Int} {x : Str} {p : Int} (h0 : 0 ≤ k) {B : Option Addr} {m d : Nat} (hq : mayT (tt k (S x) p) = false ∨ k ≠ 3) (he : Env w) (hN : Nums w) : Calls Tryz.prog 3 #[tv k (S x) p, .slice B m d] w (True_ w) := by
  have hb0 : Below w.heap.size w (w.alloc (.cells #[.int .u8 k, .string (S x), .int .i64 p] 25)) := (Below.refl _ _).alloc (Nat.le_refl _) _
  have HA := Bx.mk (awake_any _ (he.below hb0) (hN.below hb0 (Nat.le_refl _)))
  have HB0 := Bx.mk hb0
  have HL := Bx.mk (Lies.new w 25 #[.int .u8 k, .string (S x), .int .i64 p])
  have hsz := S_size x
  obtain ⟨l, q, hl⟩ : ∃ l q, pk k x p = (l, q) := ⟨_, _, rfl⟩
  have HP : Bx (∀ V, Calls Tryz.prog 5 #[.agg #[.int .u8 k, .string (S x), .int .i64 p]] V (PrintAs l l.length q V)) := ⟨fun V => by
    have h := print_any k x p h0 V
    rw [hl] at h
    exact h⟩
  have hcase : q ≠ 0 ∨ (q = 0 ∧ k ≠ 3) := by
    rcases Nat.decEq q 0 with h | h
    · exact .inl h
    · refine .inr ⟨h, ?_⟩
      rcases hq with hq | hq
      · unfold pk at hl
        rw [hq, if_neg (by decide)] at hl
        have := congrArg Prod.snd hl
        simp at this
        omega
      · exact hq
  generalize l.length = L at *
  unfold tv
  clear he hN hb0 hl hq
  go_enter Tryz.func3, Tryz.ntmps3
  go_wp2_with fail
  refine HA.out.mono ?_
  rintro e w1 ⟨rfl, hb1⟩
  have hl1 := HL.out.below hb1 (by simp)
  have c0 := hl1.cell 0; have c1 := hl1.cell 1; have c2 := hl1.cell 2
  simp at c0 c1 c2
  have HB1 := Bx.mk (HB0.out.trans (hb1.mono HB0.out.size))
  have HL1 := Bx.mk hl1
  clear hb1 hl1 HA HL HB0
  go_wp2_with fail
  refine (HP.out _).mono ?_
  rintro e w2 ⟨A2, c2', rfl, hm2⟩
  have HB2 := Bx.mk (HB1.out.trans (hm2.below.mono HB1.out.size))
  have hl2 := HL1.out.below hm2.below HL1.out.lt
  have d0 := hl2.cell 0; have d1 := hl2.cell 1
  simp at d0 d1
  clear hm2 hl2 HB1 HL1 HP c0 c1 c2
  by_cases hx : 1000 < x.length
  · clear hcase
    go_wp2_with fail
    go_ret
    exact ⟨rfl, HB2.out⟩
  · rcases hcase with hq | ⟨rfl, hk⟩
    · have hq' : ((q : Int) != 0) = true := by simp; omega
      clear hq
      go_wp2_with fail
      go_ret
      exact ⟨rfl, HB2.out⟩
    · have hk' : (k != 3) = true := by simpa using hk
      clear hk
      go_wp2_with fail
      go_ret
      exact ⟨rfl, HB2.out⟩
set_option maxHeartbeats 8000000 in
set_option maxRecDepth 100000 in
theorem small_yes {w : World} {x : Str} {q : Nat} {B : Option Addr} {m d : Nat} {ws : List Bool} (hw : Bools w B m ws) (hmt : mayT (tt (3 : Nat) (S x) (q : Int)) = true) (he : Env w) (hN : Nums w) : Calls Tryz.prog 3 #[tv 3 (S x) (q : Int), .slice B m d] w (True_ w) := by
  obtain ⟨_, t2, t3⟩ := back1 hmt []
  have hb0 : Below w.heap.size w (w.alloc (.cells #[.int .u8 3, .string (S x), .int .i64 (q : Int)] 25)) := (Below.refl _ _).alloc (Nat.le_refl _) _
  have HA := Bx.mk (awake_any _ (he.below hb0) (hN.below hb0 (Nat.le_refl _)))
  have HB0 := Bx.mk hb0
  have HL := Bx.mk (Lies.new w 25 #[.int .u8 3, .string (S x), .int .i64 (q : Int)])
  have hsz := S_size x
  have HP : Bx (∀ V, Calls Tryz.prog 5 #[.agg #[.int .u8 3, .string (S x), .int .i64 (q : Int)]] V (PrintAs (pr 3 x q) (pr 3 x q).length 0 V)) := ⟨fun V => by
    have h := print_any 3 x (q : Int) (by omega) V
    unfold pk at h
    rw [if_pos (show mayT (tt 3 (S x) (q : Int)) = true from hmt)] at h
    exact h⟩
  have HE := Bx.mk he
  have HW := Bx.mk hw
  have hx' : ¬ 1000 < x.length := by omega
  have HUP : Bx (∀ v, UpTo (pr 3 x q) v (pr 3 x q).length → tk v = ⟨3, x, q, (pr 3 x q).length, 0⟩) := ⟨fun v hv => up_taken hmt hv⟩
  have h7 : 7 ≤ (pr 3 x q).length := by rw [pr_len]; have : hdn 3 = 5 := rfl; omega
  have HST := Bx.mk (UpTo.start (pr 3 x q))
  obtain ⟨l, hl⟩ : ∃ l, pr 3 x q = l := ⟨_, rfl⟩
  rw [hl] at HP HUP t2 h7 HST
  obtain ⟨L, hL⟩ : ∃ L, l.length = L := ⟨_, rfl⟩
  rw [hL] at HP HUP t2 h7 HST
  have HLL := Bx.mk hL
  unfold tv
  clear he hN hb0 hmt hl hL hw
  go_enter Tryz.func3, Tryz.ntmps3
  go_wp2_with fail
  refine HA.out.mono ?_
  rintro e w1 ⟨rfl, hb1⟩
  have hl1 := HL.out.below hb1 (by simp)
  have c0 := hl1.cell 0; have c1 := hl1.cell 1; have c2 := hl1.cell 2
  simp at c0 c1 c2
  have HB1 := Bx.mk (HB0.out.trans (hb1.mono HB0.out.size))
  have HL1 := Bx.mk hl1
  clear hb1 hl1 HA HL HB0
  go_wp2_with fail
  refine (HP.out _).mono ?_
  rintro e w2 ⟨A2, c2', rfl, hm2⟩
  have HB2 := Bx.mk (HB1.out.trans (hm2.below.mono HB1.out.size))
  have hl2 := HL1.out.below hm2.below HL1.out.lt
  have d0 := hl2.cell 0; have d1 := hl2.cell 1
  simp at d0 d1
  have HG : Bx (Made w1 w2 (.slice A2 L c2') l) := ⟨hm2⟩
  have hwL : w.heap.size < w1.heap.size := HL1.out.lt
  clear hm2 hl2 HP c0 c1 c2 HB2
  have hwL2 : IntKind.i64.wrap ((L - 2 : Nat) : Int) = ((L - 2 : Nat) : Int) := IntWalk.i64_in _ (by omega)
  have hL2 : (L : Int) - 2 = ((L - 2 : Nat) : Int) := by omega
  go_upto_region 6 with fail
  clear d0 d1
  go_wp2_with fail
  go_loopw [7] (fun s7 wr => ∃ (i : Nat) (v : Str), 5 ≤ i ∧ i ≤ L - 2 ∧ s7 = .int .i64 (i : Int) ∧ Bx (Made w1 wr (.slice A2 L c2') v) ∧ Bx (UpTo l v L)) (fun s7 _ => L - (intOf s7).toNat)
  case atStart => exact ⟨5, l, Nat.le_refl _, by omega, rfl, HG, HST⟩
  case round =>
    clear HG HST
    obtain ⟨i, v, hi5, hiL, rfl, HG, HU⟩ := hrel
    by_cases hlt : i < L - 2
    · obtain ⟨y, hy⟩ : ∃ y, v[i]? = some y := ⟨_, List.getElem?_eq_getElem (by rw [HU.out.len]; omega)⟩
      obtain ⟨g, rfl, hcy, hfy, hset⟩ := Made.cellAt HG.out HU.out.len hy
      have HSet := Bx.mk hset
      have HUS := Bx.mk (HU.out.set hi5 hlt hy)
      have hi2 : (i : Int) < ((L - 2 : Nat) : Int) := by omega
      have hiL' : (i : Int) < (L : Int) := by omega
      obtain ⟨j, hj⟩ : ∃ j, j = i - 5 := ⟨_, rfl⟩
      have hij : (i : Int) - 5 = (j : Int) := by omega
      have hwj : IntKind.i64.wrap (j : Int) = (j : Int) := IntWalk.i64_in _ (by omega)
      have hy8 := y.toNat_lt
      have HJ := Bx.mk hj
      clear hset hj hy
      by_cases hjm : j < m
      · have hjm' : (j : Int) < (m : Int) := by omega
        obtain ⟨bb, hbb⟩ : ∃ bb, ws[j]? = some bb := ⟨_, List.getElem?_eq_getElem (by rw [HW.out.len]; exact hjm)⟩
        obtain ⟨gb, ob, rfl, hgb, hcb⟩ := HW.out.at_ j bb hbb
        have hcb' : wr.cell? ⟨gb, ob + j, none⟩ = some (.bool bb) := by
          rw [((HB1.out.trans (HG.out.below.mono HB1.out.size)).cell (p := ⟨gb, ob + j, none⟩) hgb)]
          exact hcb
        clear hbb hcb
        cases bb with
        | false =>
          clear HSet HUS
          go_wp2_with fail
          go_roundw
          case rel => exact ⟨i + 1, v, by omega, by omega, by go_num, HG, HU⟩
          case measure => simp [intOf]; omega
        | true =>
          by_cases hr : 97 ≤ y.toNat ∧ y.toNat ≤ 122
          · have hxn : ((upc y).toNat : Int) = (y.toNat : Int) - 97 + 65 := by rw [upc_small hr]; omega
            have hxw : (y.toNat : Int) - 97 + 65 = ((upc y).toNat : Int) := hxn.symm
            obtain ⟨hr1, hr2⟩ := hr
            have HG2 := Bx.mk (HSet.out (upc y))
            clear hxn HSet
            generalize ((upc y).toNat : Int) = z at *
            go_wp2_with fail
            go_roundw
            case rel => exact ⟨i + 1, v.set i (upc y), by omega, by omega, by go_num, HG2, HUS⟩
            case measure => simp [intOf]; omega
          · rcases Nat.lt_or_ge y.toNat 97 with hlo | hlo
            · clear hr HSet HUS
              go_wp2_with fail
              go_roundw
              case rel => exact ⟨i + 1, v, by omega, by omega, by go_num, HG, HU⟩
              case measure => simp [intOf]; omega
            · have hhi : 122 < y.toNat := by omega
              clear hr HSet HUS
              go_wp2_with fail
              go_roundw
              case rel => exact ⟨i + 1, v, by omega, by omega, by go_num, HG, HU⟩
              case measure => simp [intOf]; omega
      · have hjm' : ¬ (j : Int) < (m : Int) := by omega
        clear HSet HUS
        go_wp2_with fail
        go_roundw
        case rel => exact ⟨i + 1, v, by omega, by omega, by go_num, HG, HU⟩
        case measure => simp [intOf]; omega
    · obtain rfl : i = L - 2 := by omega
      have hsp := made_spell HG.out HU.out.len
      have HT : Bx (Calls Tryz.prog 6 #[.slice A2 L c2'] wr _) := ⟨take_as hsp (fun g hg => hg) (by omega) (HE.out.below (HB1.out.trans (HG.out.below.mono HB1.out.size))) (HUP.out v HU.out)⟩
      have hl3 := HL1.out.below HG.out.below HL1.out.lt
      have HL3 := Bx.mk hl3
      have HB3 := Bx.mk (HB1.out.trans (HG.out.below.mono HB1.out.size))
      clear hsp hl3 HG HU
      go_wp2_with fail
      refine HT.out.mono ?_
      rintro e w5 ⟨rfl, hb5⟩
      have hb5a := hb5.alloc hb5.size (.cells #[.int .u8 3, .string (S x), .int .i64 (q : Int)] 25)
      have l1 := HL3.out.below hb5a HL3.out.lt
      have l2 := Lies.new w5 25 #[.int .u8 3, .string (S x), .int .i64 (q : Int)]
      have HB5 := Bx.mk (HB3.out.trans (hb5a.mono HB3.out.size))
      have HL5 := Bx.mk l1
      have HL6 := Bx.mk l2
      clear hb5 hb5a l1 l2 HT HL3 HB3
      go_upto_region 12 with fail
      generalize w5.alloc (.cells #[.int .u8 3, .string (S x), .int .i64 (q : Int)] 25) = W5 at *
      generalize w5.heap.size = g5 at *
      have c0 := HL5.out.cell 0; have c1 := HL5.out.cell 1; have c2 := HL5.out.cell 2
      have d0 := HL6.out.cell 0; have d1 := HL6.out.cell 1; have d2 := HL6.out.cell 2
      simp at c0 c1 c2 d0 d1 d2
      have q9 := (str_eq x)
      clear HL5 HL6
      go_wp2_with fail
      go_ret
      exact ⟨rfl, HB5.out⟩
theorem small_walk {w : World} {k : Int} {t : ByteArray} {p : Int} (h0 : 0 ≤ k) {B : Option Addr} {m d : Nat} {ws : List Bool} (hw : Bools w B m ws) (he : Env w) (hN : Nums w) : Calls Tryz.prog 3 #[tv k t p, .slice B m d] w (True_ w) := by
  obtain ⟨x, rfl⟩ : ∃ x, t = S x := ⟨_, (S_data t).symm⟩
  by_cases hmt : mayT (tt k (S x) p) = true
  · by_cases hk : k = 3
    · subst hk
      obtain ⟨_, h1, h2⟩ := mayT_port hmt
      obtain ⟨q, rfl⟩ : ∃ j : Nat, p = (j : Int) := ⟨p.toNat, by omega⟩
      exact small_yes hw hmt he hN
    · exact small_no h0 (.inr hk) he hN
  · exact small_no h0 (.inl (by simpa using hmt)) he hN
end Go.Proofs.YtefpplkoohnfbabGreatDoor.ak
