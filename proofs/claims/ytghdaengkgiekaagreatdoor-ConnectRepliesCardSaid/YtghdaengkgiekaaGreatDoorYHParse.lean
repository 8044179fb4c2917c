/-
  Given for the seat's laws: the contract of host.Parse. No condition but those of the theorems.
-/
import Derived.Test.YtghdaengkgiekaaGreatDoorYHV6
import Derived.Test.YtghdaengkgiekaaGreatDoorYHKind
import Derived.Test.YtghdaengkgiekaaGreatDoorYHMay
import Derived.Test.YtghdaengkgiekaaGreatDoorYLower
namespace Go.Proofs.YtghdaengkgiekaaGreatDoor.hw
open Go.RowKit mem hostp
set_option linter.unusedVariables false

theorem dd_lc_all : ∀ c : Fin 256, dd (lc (UInt8.ofNat c.1)) = dd (UInt8.ofNat c.1) ∧ (dd (UInt8.ofNat c.1) = true → lc (UInt8.ofNat c.1) = UInt8.ofNat c.1) := by decide +kernel
theorem dd_lc (c : UInt8) : dd (lc c) = dd c ∧ (dd c = true → lc c = c) := by
  have h := dd_lc_all ⟨c.toNat, c.toNat_lt⟩
  simpa using h
theorem low_dd : ∀ l : Str, (low l).all dd = l.all dd
  | [] => rfl
  | c :: l => by
    show (dd (lc c) && (low l).all dd) = (dd c && l.all dd)
    rw [(dd_lc c).1, low_dd l]
theorem low_same : ∀ {l : Str}, l.all dd = true → low l = l
  | [], _ => rfl
  | c :: l, h => by
    rw [List.all_cons, Bool.and_eq_true] at h
    show lc c :: low l = _
    rw [(dd_lc c).2 h.1, low_same h.2]

/-- a host as Parse gives it -/
def HPv (o : Option H) : Value := match o with
  | some h => .tuple #[hv (h.kind : Int) (S h.text), .int .i64 0]
  | none => .tuple #[hv 0 ⟨#[]⟩, .int .i64 40]

theorem results_parse {W : World} {h : Nat} {k : Int} {t : ByteArray} (hl : Lies W h 23 #[.int .u8 k, .string t]) (tmps : Array Value) (h2 : tmps[2]?.getD undef = .pointer (some ⟨h, 0, none⟩)) {v3 : Value} (h3 : tmps[3]?.getD undef = v3) :
    (results Tryz.f109 tmps).run Tryz.prog W = .ok (.tuple #[hv k t, v3]) W := by
  have c0 := hl.cell 0
  have c1 := hl.cell 1
  simp at c0 c1
  unfold hv
  simp [results, Tryz.results109, go_sem, h2, h3, c0, c1]

/-- a text, or none -/
def okV (x : ByteArray) (o : Option ByteArray) : Value := match o with
  | some t => .tuple #[.string t, .bool true]
  | none => .tuple #[.string x, .bool false]
def hostV (k : Int) (o : Option ByteArray) : Value := match o with
  | some t => .tuple #[hv k t, .int .i64 0]
  | none => .tuple #[hv 0 ⟨#[]⟩, .int .i64 40]

/-- the result's cells, and the host's own -/
structure Two (W : World) (hr hb : Nat) (k : Int) (t : ByteArray) : Prop where
  r : Lies W hr 23 #[.int .u8 0, .string ⟨#[]⟩]
  b : Lies W hb 23 #[.int .u8 k, .string t]
  lt : hr < hb
theorem Two.below {W W' : World} {hr hb : Nat} {k : Int} {t : ByteArray} (h : Two W hr hb k t) (hw : Below W.heap.size W W') : Two W' hr hb k t := ⟨h.r.below hw h.r.lt, h.b.below hw h.b.lt, h.lt⟩
theorem Two.put {W : World} {hr hb : Nat} {k : Int} {t : ByteArray} (h : Two W hr hb k t) (u : ByteArray) : Two (W.setCell ⟨hb, 1, none⟩ (.string u)) hr hb k u :=
  ⟨h.r.far (p := ⟨hb, 1, none⟩) (by have := h.lt; show hr ≠ hb; omega) _, h.b.set 1 _, h.lt⟩
theorem Two.yes {W : World} {hr hb : Nat} {k : Int} {t : ByteArray} (h : Two W hr hb k t) : Lies ((W.setCell ⟨hr, 0, none⟩ (.int .u8 k)).setCell ⟨hr, 1, none⟩ (.string t)) hr 23 #[.int .u8 k, .string t] :=
  (h.r.set 0 (.int .u8 k)).set 1 (.string t)
theorem Two.no {W : World} {hr hb : Nat} {k : Int} {t : ByteArray} (h : Two W hr hb k t) : Lies ((W.setCell ⟨hr, 0, none⟩ (.int .u8 0)).setCell ⟨hr, 1, none⟩ (.string ⟨#[]⟩)) hr 23 #[.int .u8 0, .string ⟨#[]⟩] :=
  (h.r.set 0 (.int .u8 0)).set 1 (.string ⟨#[]⟩)

set_option maxRecDepth 100000 in
set_option maxHeartbeats 1600000 in
theorem parseK4 (s : ByteArray) (hs : s.size ≤ 3000) (w : World) (he : Env w) (hk : kindF s.data.toList = 1) (o : Option ByteArray) (x : ByteArray)
    (hv0 : ∀ W, Env W → Calls Tryz.prog 130 #[.string s] W (Gives (okV x o) W)) :
    Calls Tryz.prog 109 #[.string s] w (Gives (hostV 1 o) w) := by
  obtain ⟨w0, hw0⟩ : ∃ w0, w0 = w.alloc (.cells #[.int .u8 0, .string ⟨#[]⟩] 23) := ⟨_, rfl⟩
  have l0 : Lies w0 w.heap.size 23 #[.int .u8 0, .string ⟨#[]⟩] := by rw [hw0]; exact Lies.new _ _ _
  have hb0 : Below w.heap.size w w0 := by rw [hw0]; exact (Below.refl _ w).alloc (Nat.le_refl _) _
  have hkd := kindOf_any s hs w0 (he.below hb0)
  rw [hk] at hkd
  have HKD := Bx.mk hkd
  have HV := Bx.mk hv0
  have HE := Bx.mk he
  have L0 := Bx.mk l0
  have HB0 := Bx.mk hb0
  obtain ⟨hr, hhr⟩ : ∃ hr, hr = w.heap.size := ⟨_, rfl⟩
  have hrw : w.heap.size ≤ hr := by omega
  clear hkd hv0 he l0 hb0 hk
  go_enter Tryz.func109, Tryz.ntmps109
  go_upto_region 1 with fail
  rw [← hw0]
  clear hw0
  go_wp2_with fail
  refine HKD.out.mono ?_
  rintro e w1 ⟨rfl, hb1⟩
  have hl1 := L0.out.below hb1 L0.out.lt
  have hb1' := HB0.out.trans (hb1.mono HB0.out.size)
  have hlt : w.heap.size < w1.heap.size := hl1.lt
  obtain ⟨w2, hw2⟩ : ∃ w2, w2 = w1.alloc (.cells #[.int .u8 1, .string ⟨#[]⟩] 23) := ⟨_, rfl⟩
  have ht2 : Two w2 w.heap.size w1.heap.size 1 ⟨#[]⟩ := by rw [hw2]; exact ⟨hl1.alloc _, Lies.new _ _ _, hlt⟩
  have hb2 : Below w.heap.size w w2 := by rw [hw2]; exact hb1'.alloc hb1'.size _
  have c2 := ht2.b.cell 0
  simp at c2
  obtain ⟨hb, hhb⟩ : ∃ hb, hb = w1.heap.size := ⟨_, rfl⟩
  have hbw : w.heap.size ≤ hb := by omega
  rw [← hhr] at ht2
  rw [← hhb] at ht2 c2
  have HT2 := Bx.mk ht2
  have HB2 := Bx.mk hb2
  have HC := Bx.mk (HV.out w2 (HE.out.below hb2))
  clear hl1 hb1 hb1' ht2 hb2 hlt L0 HB0
  go_upto_region 3 with fail
  rw [← hw2, ← hhr, ← hhb]
  clear hw2 hhr hhb
  cases o with
  | none =>
    have hC := HC.out
    unfold okV at hC
    dsimp only at hC
    have HC2 := Bx.mk hC
    clear hC
    go_wp2_with fail
    refine HC2.out.mono ?_
    rintro e w3 ⟨rfl, hb3⟩
    have ht3 := HT2.out.below hb3
    have f1 := ht3.b.frozen 1
    have k1 := ht3.b.cell 1
    simp at k1
    have ht4 := ht3.put x
    have g0 := ht4.r.frozen 0
    have g1 := ht4.r.frozen 1
    have r0 := ht4.r.cell 0
    have r1 := ht4.r.cell 1
    simp at r0 r1
    have HN := Bx.mk ht4.no
    have HBN := Bx.mk ((((HB2.out.trans (hb3.mono HB2.out.size)).setCell (p := ⟨hb, 1, none⟩) hbw (.string x)).setCell (p := ⟨hr, 0, none⟩) hrw (.int .u8 0)).setCell (p := ⟨hr, 1, none⟩) hrw (.string ⟨#[]⟩))
    clear ht3 ht4 hb3
    go_wp2
    exact bodyPost_ret (v := .tuple #[hv 0 ⟨#[]⟩, .int .i64 40]) (results_parse HN.out _ rfl rfl) rfl ⟨rfl, HBN.out⟩
  | some t =>
    have hC := HC.out
    unfold okV at hC
    dsimp only at hC
    have HC2 := Bx.mk hC
    clear hC
    go_wp2_with fail
    refine HC2.out.mono ?_
    rintro e w3 ⟨rfl, hb3⟩
    have ht3 := HT2.out.below hb3
    have f1 := ht3.b.frozen 1
    have k1 := ht3.b.cell 1
    simp at k1
    have ht4 := ht3.put t
    have g0 := ht4.r.frozen 0
    have g1 := ht4.r.frozen 1
    have r0 := ht4.r.cell 0
    have r1 := ht4.r.cell 1
    have b0 := ht4.b.cell 0
    have b1 := ht4.b.cell 1
    simp at r0 r1 b0 b1
    have HN := Bx.mk ht4.yes
    have HBN := Bx.mk ((((HB2.out.trans (hb3.mono HB2.out.size)).setCell (p := ⟨hb, 1, none⟩) hbw (.string t)).setCell (p := ⟨hr, 0, none⟩) hrw (.int .u8 1)).setCell (p := ⟨hr, 1, none⟩) hrw (.string t))
    clear ht3 ht4 hb3
    go_wp2
    exact bodyPost_ret (v := .tuple #[hv 1 t, .int .i64 0]) (results_parse HN.out _ rfl rfl) rfl ⟨rfl, HBN.out⟩

set_option maxRecDepth 100000 in
set_option maxHeartbeats 1600000 in
theorem parseK6 (s : ByteArray) (hs : s.size ≤ 3000) (w : World) (he : Env w) (hk : kindF s.data.toList = 2) (o : Option ByteArray) (x : ByteArray)
    (hv0 : ∀ W, Env W → Calls Tryz.prog 131 #[.string s] W (Gives (okV x o) W)) :
    Calls Tryz.prog 109 #[.string s] w (Gives (hostV 2 o) w) := by
  obtain ⟨w0, hw0⟩ : ∃ w0, w0 = w.alloc (.cells #[.int .u8 0, .string ⟨#[]⟩] 23) := ⟨_, rfl⟩
  have l0 : Lies w0 w.heap.size 23 #[.int .u8 0, .string ⟨#[]⟩] := by rw [hw0]; exact Lies.new _ _ _
  have hb0 : Below w.heap.size w w0 := by rw [hw0]; exact (Below.refl _ w).alloc (Nat.le_refl _) _
  have hkd := kindOf_any s hs w0 (he.below hb0)
  rw [hk] at hkd
  have HKD := Bx.mk hkd
  have HV := Bx.mk hv0
  have HE := Bx.mk he
  have L0 := Bx.mk l0
  have HB0 := Bx.mk hb0
  obtain ⟨hr, hhr⟩ : ∃ hr, hr = w.heap.size := ⟨_, rfl⟩
  have hrw : w.heap.size ≤ hr := by omega
  clear hkd hv0 he l0 hb0 hk
  go_enter Tryz.func109, Tryz.ntmps109
  go_upto_region 1 with fail
  rw [← hw0]
  clear hw0
  go_wp2_with fail
  refine HKD.out.mono ?_
  rintro e w1 ⟨rfl, hb1⟩
  have hl1 := L0.out.below hb1 L0.out.lt
  have hb1' := HB0.out.trans (hb1.mono HB0.out.size)
  have hlt : w.heap.size < w1.heap.size := hl1.lt
  obtain ⟨w2, hw2⟩ : ∃ w2, w2 = w1.alloc (.cells #[.int .u8 2, .string ⟨#[]⟩] 23) := ⟨_, rfl⟩
  have ht2 : Two w2 w.heap.size w1.heap.size 2 ⟨#[]⟩ := by rw [hw2]; exact ⟨hl1.alloc _, Lies.new _ _ _, hlt⟩
  have hb2 : Below w.heap.size w w2 := by rw [hw2]; exact hb1'.alloc hb1'.size _
  have c2 := ht2.b.cell 0
  simp at c2
  obtain ⟨hb, hhb⟩ : ∃ hb, hb = w1.heap.size := ⟨_, rfl⟩
  have hbw : w.heap.size ≤ hb := by omega
  rw [← hhr] at ht2
  rw [← hhb] at ht2 c2
  have HT2 := Bx.mk ht2
  have HB2 := Bx.mk hb2
  have HC := Bx.mk (HV.out w2 (HE.out.below hb2))
  clear hl1 hb1 hb1' ht2 hb2 hlt L0 HB0
  go_upto_region 3 with fail
  rw [← hw2, ← hhr, ← hhb]
  clear hw2 hhr hhb
  cases o with
  | none =>
    have hC := HC.out
    unfold okV at hC
    dsimp only at hC
    have HC2 := Bx.mk hC
    clear hC
    go_wp2_with fail
    refine HC2.out.mono ?_
    rintro e w3 ⟨rfl, hb3⟩
    have ht3 := HT2.out.below hb3
    have f1 := ht3.b.frozen 1
    have k1 := ht3.b.cell 1
    simp at k1
    have ht4 := ht3.put x
    have g0 := ht4.r.frozen 0
    have g1 := ht4.r.frozen 1
    have r0 := ht4.r.cell 0
    have r1 := ht4.r.cell 1
    simp at r0 r1
    have HN := Bx.mk ht4.no
    have HBN := Bx.mk ((((HB2.out.trans (hb3.mono HB2.out.size)).setCell (p := ⟨hb, 1, none⟩) hbw (.string x)).setCell (p := ⟨hr, 0, none⟩) hrw (.int .u8 0)).setCell (p := ⟨hr, 1, none⟩) hrw (.string ⟨#[]⟩))
    clear ht3 ht4 hb3
    go_wp2
    exact bodyPost_ret (v := .tuple #[hv 0 ⟨#[]⟩, .int .i64 40]) (results_parse HN.out _ rfl rfl) rfl ⟨rfl, HBN.out⟩
  | some t =>
    have hC := HC.out
    unfold okV at hC
    dsimp only at hC
    have HC2 := Bx.mk hC
    clear hC
    go_wp2_with fail
    refine HC2.out.mono ?_
    rintro e w3 ⟨rfl, hb3⟩
    have ht3 := HT2.out.below hb3
    have f1 := ht3.b.frozen 1
    have k1 := ht3.b.cell 1
    simp at k1
    have ht4 := ht3.put t
    have g0 := ht4.r.frozen 0
    have g1 := ht4.r.frozen 1
    have r0 := ht4.r.cell 0
    have r1 := ht4.r.cell 1
    have b0 := ht4.b.cell 0
    have b1 := ht4.b.cell 1
    simp at r0 r1 b0 b1
    have HN := Bx.mk ht4.yes
    have HBN := Bx.mk ((((HB2.out.trans (hb3.mono HB2.out.size)).setCell (p := ⟨hb, 1, none⟩) hbw (.string t)).setCell (p := ⟨hr, 0, none⟩) hrw (.int .u8 2)).setCell (p := ⟨hr, 1, none⟩) hrw (.string t))
    clear ht3 ht4 hb3
    go_wp2
    exact bodyPost_ret (v := .tuple #[hv 2 t, .int .i64 0]) (results_parse HN.out _ rfl rfl) rfl ⟨rfl, HBN.out⟩
end Go.Proofs.YtghdaengkgiekaaGreatDoor.hw

/-
  Given for the seat's laws: the contract of host.Parse at a name, and whole. No condition but those of the theorems.
-/
namespace Go.Proofs.YtghdaengkgiekaaGreatDoor.hw
open Go.RowKit mem hostp
set_option linter.unusedVariables false

theorem lowS_low (s : ByteArray) : lower.lowS s = S (low s.data.toList) := by
  unfold lower.lowS lower.lowL S low
  have : lower.lowc = lc := by funext c; rfl
  rw [this]

set_option maxRecDepth 100000 in
set_option maxHeartbeats 1600000 in
theorem parseK3 (s : ByteArray) (hs : s.size ≤ 3000) (w : World) (he : Env w) (hk : kindF s.data.toList = 3) :
    Calls Tryz.prog 109 #[.string s] w (Gives (hostV 3 (if nameB (low s.data.toList) then some (S (low s.data.toList)) else none)) w) := by
  obtain ⟨w0, hw0⟩ : ∃ w0, w0 = w.alloc (.cells #[.int .u8 0, .string ⟨#[]⟩] 23) := ⟨_, rfl⟩
  have l0 : Lies w0 w.heap.size 23 #[.int .u8 0, .string ⟨#[]⟩] := by rw [hw0]; exact Lies.new _ _ _
  have hb0 : Below w.heap.size w w0 := by rw [hw0]; exact (Below.refl _ w).alloc (Nat.le_refl _) _
  have hkd := kindOf_any s hs w0 (he.below hb0)
  rw [hk] at hkd
  have hlo := fun W => lower.lower_any s hs W
  unfold lower.Lowered at hlo
  rw [lowS_low] at hlo
  obtain ⟨t, ht⟩ : ∃ t, t = S (low s.data.toList) := ⟨_, rfl⟩
  have hnm := fun W => isName_any (S (low s.data.toList)) W
  rw [S_list] at hnm
  rw [← ht] at hlo hnm
  obtain ⟨q, hq⟩ : ∃ q, q = nameB (low s.data.toList) := ⟨_, rfl⟩
  rw [← hq] at hnm
  rw [← hq, ← ht]
  clear hq ht
  obtain ⟨o, ho⟩ : ∃ o, o = (if q = true then some t else none) := ⟨_, rfl⟩
  rw [← ho]
  have HO := Bx.mk ho
  clear ho
  have HKD := Bx.mk hkd
  have HLO := Bx.mk hlo
  have HNM := Bx.mk hnm
  have L0 := Bx.mk l0
  have HB0 := Bx.mk hb0
  obtain ⟨hr, hhr⟩ : ∃ hr, hr = w.heap.size := ⟨_, rfl⟩
  have hrw : w.heap.size ≤ hr := by omega
  clear hkd hlo hnm he l0 hb0 hk
  go_enter Tryz.func109, Tryz.ntmps109
  go_upto_region 1 with fail
  rw [← hw0]
  clear hw0
  go_wp2_with fail
  refine HKD.out.mono ?_
  rintro e w1 ⟨rfl, hb1⟩
  have hl1 := L0.out.below hb1 L0.out.lt
  have hb1' := HB0.out.trans (hb1.mono HB0.out.size)
  have hlt : w.heap.size < w1.heap.size := hl1.lt
  obtain ⟨w2, hw2⟩ : ∃ w2, w2 = w1.alloc (.cells #[.int .u8 3, .string ⟨#[]⟩] 23) := ⟨_, rfl⟩
  have ht2 : Two w2 w.heap.size w1.heap.size 3 ⟨#[]⟩ := by rw [hw2]; exact ⟨hl1.alloc _, Lies.new _ _ _, hlt⟩
  have hb2 : Below w.heap.size w w2 := by rw [hw2]; exact hb1'.alloc hb1'.size _
  have c2 := ht2.b.cell 0
  simp at c2
  obtain ⟨hb, hhb⟩ : ∃ hb, hb = w1.heap.size := ⟨_, rfl⟩
  have hbw : w.heap.size ≤ hb := by omega
  rw [← hhr] at ht2
  rw [← hhb] at ht2 c2
  have HT2 := Bx.mk ht2
  have HB2 := Bx.mk hb2
  clear hl1 hb1 hb1' ht2 hb2 hlt L0 HB0
  go_upto_region 3 with fail
  rw [← hw2, ← hhr, ← hhb]
  clear hw2 hhr hhb
  go_wp2_with fail
  refine (HLO.out _).mono ?_
  rintro e w3 ⟨rfl, hb3⟩
  have ht3 := HT2.out.below hb3
  have f1 := ht3.b.frozen 1
  have k1 := ht3.b.cell 1
  simp at k1
  have ht4 := ht3.put t
  have hb4 := (HB2.out.trans (hb3.mono HB2.out.size)).setCell (p := ⟨hb, 1, none⟩) hbw (.string t)
  have k4 := ht4.b.cell 1
  simp at k4
  have HT4 := Bx.mk ht4
  have HB4 := Bx.mk hb4
  clear ht3 ht4 hb3 hb4
  go_wp2_with fail
  refine (HNM.out _).mono ?_
  rintro e w5 ⟨rfl, hb5⟩
  have ht5 := HT4.out.below hb5
  have g0 := ht5.r.frozen 0
  have g1 := ht5.r.frozen 1
  have r0 := ht5.r.cell 0
  have r1 := ht5.r.cell 1
  have b0 := ht5.b.cell 0
  have b1 := ht5.b.cell 1
  simp at r0 r1 b0 b1
  have hb5' := HB4.out.trans (hb5.mono HB4.out.size)
  cases q with
  | true =>
    have HN := Bx.mk ht5.yes
    have HBN := Bx.mk ((hb5'.setCell (p := ⟨hr, 0, none⟩) hrw (.int .u8 3)).setCell (p := ⟨hr, 1, none⟩) hrw (.string t))
    clear ht5 hb5 hb5'
    go_wp2
    exact bodyPost_ret (v := .tuple #[hv 3 t, .int .i64 0]) (results_parse HN.out _ rfl rfl) rfl ⟨by rw [HO.out]; rfl, HBN.out⟩
  | false =>
    have HN := Bx.mk ht5.no
    have HBN := Bx.mk ((hb5'.setCell (p := ⟨hr, 0, none⟩) hrw (.int .u8 0)).setCell (p := ⟨hr, 1, none⟩) hrw (.string ⟨#[]⟩))
    clear ht5 hb5 hb5'
    go_wp2
    exact bodyPost_ret (v := .tuple #[hv 0 ⟨#[]⟩, .int .i64 40]) (results_parse HN.out _ rfl rfl) rfl ⟨by rw [HO.out]; rfl, HBN.out⟩

theorem parse_any (s : ByteArray) (hs : s.size ≤ 3000) (w : World) (he : Env w) : Calls Tryz.prog 109 #[.string s] w (Gives (HPv (parse s.data.toList)) w) := by
  obtain ⟨l, hl⟩ : ∃ l, l = s.data.toList := ⟨_, rfl⟩
  by_cases h58 : (58 : UInt8) ∈ l
  · have hk : kindF s.data.toList = 2 := by unfold kindF; rw [← hl, if_pos h58]
    have hp : parse l = (six (low l)).map fun g => ⟨2, by2 g⟩ := by unfold parse; rw [if_pos (low_58.2 h58)]
    have := parseK6 s hs w he hk ((six (low l)).map fun g => S (by2 g)) ⟨#[]⟩ (fun W hW => by
      have h := parseV6_any s hs W hW
      rw [← hl] at h
      refine h.mono fun e w' he' => ?_
      cases hs6 : six (low l) with
      | none => rw [hs6] at he'; exact he'
      | some g => rw [hs6] at he'; exact he')
    rw [← hl, hp]
    refine this.mono fun e w' he' => ?_
    cases hs6 : six (low l) with
    | none => rw [hs6] at he'; exact he'
    | some g => rw [hs6] at he'; exact he'
  · by_cases hd : l.all dd = true
    · have hk : kindF s.data.toList = 1 := by unfold kindF; rw [← hl, if_neg h58, if_pos hd]
      have hp : parse l = (four l).map fun b => ⟨1, b.map UInt8.ofNat⟩ := by
        unfold parse
        rw [if_neg (fun h => h58 (low_58.1 h)), low_same hd]
        by_cases h0 : l = []
        · subst h0; rfl
        · rw [if_pos ⟨h0, hd⟩]
      have := parseK4 s hs w he hk ((four l).map fun b => S (b.map UInt8.ofNat)) ⟨#[]⟩ (fun W hW => by
        have h := parseV4_any s hs W hW
        rw [← hl] at h
        refine h.mono fun e w' he' => ?_
        unfold V4 at he'
        cases hs6 : four l with
        | none => rw [hs6] at he'; exact he'
        | some g => rw [hs6] at he'; exact he')
      rw [← hl, hp]
      refine this.mono fun e w' he' => ?_
      cases hs6 : four l with
      | none => rw [hs6] at he'; exact he'
      | some g => rw [hs6] at he'; exact he'
    · have hk : kindF s.data.toList = 3 := by unfold kindF; rw [← hl, if_neg h58, if_neg hd]
      have hp : parse l = if nameB (low l) then some ⟨3, low l⟩ else none := by
        unfold parse
        rw [if_neg (fun h => h58 (low_58.1 h)), if_neg (fun h => hd (by rw [← low_dd]; exact h.2))]
      have := parseK3 s hs w he hk
      rw [← hl] at this
      rw [← hl, hp]
      refine this.mono fun e w' he' => ?_
      cases hn : nameB (low l) with
      | true => rw [hn] at he'; exact he'
      | false => rw [hn] at he'; exact he'
end Go.Proofs.YtghdaengkgiekaaGreatDoor.hw

/-
  Given for the seat's laws: a target as the program reads it, without memory. No condition but those of the theorems.
-/
namespace Go.Proofs.YtghdaengkgiekaaGreatDoor.hw
open Go.RowKit mem hostp
set_option linter.unusedVariables false

theorem occ_drop {s sep : Str} {i : Nat} (h : Lib.occAt s sep i = true) : ∃ t, s.drop i = sep ++ t := by
  unfold Lib.occAt at h
  obtain ⟨t, ht⟩ := List.isPrefixOf_iff_prefix.1 h
  exact ⟨t, ht.symm⟩
theorem occ_put (x sep y : Str) : Lib.occAt (x ++ sep ++ y) sep x.length = true := by
  unfold Lib.occAt
  rw [List.append_assoc, List.drop_left]
  exact List.isPrefixOf_iff_prefix.2 ⟨y, rfl⟩
theorem cut_cases (s sep : Str) : (∃ x y, Lib.cut s sep = (x, y, true) ∧ s = x ++ sep ++ y ∧ ∀ j, j < x.length → Lib.occAt s sep j = false) ∨ (Lib.cut s sep = (s, [], false) ∧ ∀ j, j ≤ s.length → Lib.occAt s sep j = false) := by
  rcases Lib.index_spec s sep with ⟨h, hno⟩ | ⟨i, h, hi, hocc, hno⟩
  · right
    unfold Lib.cut
    rw [h, if_neg (by omega)]
    exact ⟨rfl, hno⟩
  · left
    obtain ⟨t, ht⟩ := occ_drop hocc
    refine ⟨s.take i, t, ?_, ?_, fun j hj => hno j (by rw [List.length_take] at hj; omega)⟩
    · unfold Lib.cut
      rw [h, if_pos (by omega), Int.toNat_natCast]
      congr 2
      rw [← List.drop_drop, ht]
      simp
    · rw [List.append_assoc, ← ht, List.take_append_drop]
theorem occ_one {s : Str} {c : UInt8} {j : Nat} (h : s[j]? = some c) : Lib.occAt s [c] j = true := by
  obtain ⟨hj, e⟩ := List.getElem?_eq_some_iff.1 h
  unfold Lib.occAt
  rw [List.drop_eq_getElem_cons hj, e]
  simp [List.isPrefixOf]
theorem free_of {x : Str} {c : UInt8} {r : Str} (h : ∀ j, j < x.length → Lib.occAt (x ++ r) [c] j = false) : c ∉ x := fun hc => by
  obtain ⟨j, hj, e⟩ := List.getElem_of_mem hc
  have h1 := h j hj
  rw [occ_one (by rw [List.getElem?_append_left hj, List.getElem?_eq_getElem hj, e])] at h1
  cases h1
theorem cut58_cases (s : Str) : (∃ x y, Lib.cut s [58] = (x, y, true) ∧ s = x ++ 58 :: y ∧ (58 : UInt8) ∉ x) ∨ (Lib.cut s [58] = (s, [], false) ∧ (58 : UInt8) ∉ s) := by
  rcases cut_cases s [58] with ⟨x, y, h1, h2, h3⟩ | ⟨h1, h2⟩
  · refine .inl ⟨x, y, h1, by rw [h2]; simp, ?_⟩
    rw [h2, List.append_assoc] at h3
    exact free_of h3
  · refine .inr ⟨h1, ?_⟩
    have : ∀ j, j < s.length → Lib.occAt (s ++ []) [58] j = false := fun j hj => by rw [List.append_nil]; exact h2 j (by omega)
    exact free_of this

/-- the target that the program reads -/
def ptP (s : Str) : Option T :=
  if s.head? = some 91 then (parse (Lib.cut s.tail [93, 58]).1).bind fun h => if h.kind = 2 then withPort h (Lib.cut s.tail [93, 58]).2.1 else none
  else (parse (Lib.cut s [58]).1).bind fun h => withPort h (Lib.cut s [58]).2.1

theorem dec_colon {x : Str} (h : (58 : UInt8) ∈ x) : dec x 65535 = none := by
  cases hd : dec x 65535 with
  | none => rfl
  | some n =>
    obtain ⟨_, h2⟩ := (dec_iff (by omega)).1 hd
    have := nm10_free n 58 (by rw [← h2]; exact h)
    simp at this
theorem port_colon {h : H} {x : Str} (hx : (58 : UInt8) ∈ x) : withPort h x = none := by unfold withPort; rw [dec_colon hx]
theorem port_nil (h : H) : withPort h [] = none := by
  unfold withPort
  cases hd : dec [] 65535 with
  | none => rfl
  | some n =>
    obtain ⟨_, h2⟩ := (dec_iff (by omega)).1 hd
    exact absurd h2.symm (nm_ne (by omega) n)
theorem parse_no58 {t : Str} {h : H} (h58 : (58 : UInt8) ∉ t) (hp : parse t = some h) : h.kind ≠ 2 := by
  unfold parse at hp
  rw [if_neg (fun e => h58 (low_58.1 e))] at hp
  split at hp
  · cases hf : four (low t) with
    | none => rw [hf] at hp; cases hp
    | some b => rw [hf] at hp; simp at hp; rw [← hp]; simp
  · split at hp
    · simp at hp; rw [← hp]; simp
    · cases hp
theorem parse_58 {t : Str} {h : H} (h58 : (58 : UInt8) ∈ t) (hp : parse t = some h) : h.kind = 2 := by
  unfold parse at hp
  rw [if_pos (low_58.2 h58)] at hp
  cases hf : six (low t) with
  | none => rw [hf] at hp; cases hp
  | some b => rw [hf] at hp; simp at hp; rw [← hp]
theorem grps_mem : ∀ {l : List Str} {a : List Nat}, grps l = some a → ∀ x ∈ l, ∀ c ∈ x, ∃ d, dv c = some d
  | [], _, _, x, hx, _, _ => by simp at hx
  | y :: l, a, h, x, hx, c, hc => by
    unfold grps at h
    split at h
    · cases h
    · rename_i v hv
      split at h
      · cases h
      · rename_i t ht
        rcases List.mem_cons.1 hx with rfl | hx
        · unfold grp at hv
          split at hv
          · obtain ⟨d, hd, _⟩ := vl_mem hv c hc
            exact ⟨d, hd⟩
          · cases hv
        · exact grps_mem ht x hx c hc
theorem groups_mem {s : Str} {a : List Nat} (h : groups s = some a) : ∀ c ∈ s, c = 58 ∨ ∃ d, dv c = some d := fun c hc => by
  unfold groups at h
  split at h
  · rename_i h0; rw [h0] at hc; simp at hc
  · rw [← join_cut 58 s] at hc
    rcases join_mem hc with e | ⟨x, hx, hc⟩
    · exact .inl e
    · exact .inr (grps_mem h x hx c hc)
theorem six_mem {s : Str} {a : List Nat} (h : six s = some a) : ∀ c ∈ s, c = 58 ∨ ∃ d, dv c = some d := fun c hc => by
  unfold six at h
  cases hd : cutDC s with
  | none =>
    rw [hd] at h
    dsimp only at h
    cases hg : groups s with
    | none => rw [hg] at h; cases h
    | some b => exact groups_mem hg c hc
  | some q =>
    rw [hd] at h
    dsimp only at h
    rw [cutDC_some (p := q.1) (r := q.2) hd] at hc
    cases hg : groups q.1 with
    | none => rw [hg] at h; cases h
    | some b =>
      cases hg2 : groups q.2 with
      | none => rw [hg, hg2] at h; cases h
      | some b2 =>
        rcases List.mem_append.1 hc with hc | hc
        · exact groups_mem hg c hc
        · rcases List.mem_cons.1 hc with e | hc
          · exact .inl e
          · rcases List.mem_cons.1 hc with e | hc
            · exact .inl e
            · exact groups_mem hg2 c hc
theorem lc_93 : lc 93 = 93 := by decide
theorem parse_93 {t : Str} (h58 : (58 : UInt8) ∈ t) (h93 : (93 : UInt8) ∈ t) : parse t = none := by
  unfold parse
  rw [if_pos (low_58.2 h58)]
  cases hs : six (low t) with
  | none => rfl
  | some a =>
    have h1 : (93 : UInt8) ∈ low t := List.mem_map.2 ⟨93, h93, lc_93⟩
    rcases six_mem hs 93 h1 with e | ⟨d, hd⟩
    · simp at e
    · rw [show dv 93 = none by decide] at hd
      cases hd

theorem last_mem : ∀ {y : Str}, (58 : UInt8) ∈ y → ∃ z p, y = z ++ 58 :: p ∧ (58 : UInt8) ∉ p
  | [], h => by simp at h
  | c :: r, h => by
    by_cases hr : (58 : UInt8) ∈ r
    · obtain ⟨z, p, h1, h2⟩ := last_mem hr
      exact ⟨c :: z, p, by rw [h1]; rfl, h2⟩
    · rcases List.mem_cons.1 h with e | e
      · exact ⟨[], r, by rw [e]; rfl, hr⟩
      · exact absurd e hr
theorem ahead_last {x y u p : Str} (h : x ++ 58 :: y = u ++ 58 :: p) (hy : (58 : UInt8) ∈ y) (hp : (58 : UInt8) ∉ p) : ∃ z, u = x ++ 58 :: z := by
  obtain ⟨z, q, h1, h2⟩ := last_mem hy
  refine ⟨z, ?_⟩
  have e1 := lastC_put u hp
  rw [← h, h1, show x ++ 58 :: (z ++ 58 :: q) = (x ++ 58 :: z) ++ 58 :: q by simp, lastC_put _ h2] at e1
  simp only [Option.some.injEq, Prod.mk.injEq] at e1
  exact e1.1.symm

theorem ptP_eq (s : Str) : ptP s = parseT s := by
  unfold ptP
  by_cases h91 : s.head? = some 91
  · obtain ⟨r, rfl⟩ : ∃ r, s = 91 :: r := by
      cases s with
      | nil => simp at h91
      | cons c r => simp at h91; exact ⟨r, by rw [h91]⟩
    rw [if_pos h91]
    show (parse (Lib.cut r [93, 58]).1).bind (fun h => if h.kind = 2 then withPort h (Lib.cut r [93, 58]).2.1 else none) = _
    rcases cut_cases r [93, 58] with ⟨x, y, hc, hr, _⟩ | ⟨hc, hno⟩
    · rw [hc]
      dsimp only
      have hr' : r = (x ++ [93]) ++ 58 :: y := by rw [hr]; simp
      by_cases h58 : (58 : UInt8) ∈ y
      · have hl : (parse x).bind (fun h => if h.kind = 2 then withPort h y else none) = none := by
          cases parse x with
          | none => rfl
          | some h =>
            show (if h.kind = 2 then withPort h y else none) = none
            rw [port_colon h58]; simp
        rw [hl]
        unfold parseT
        cases hlc : lastC (91 :: r) with
        | none => rfl
        | some q =>
          obtain ⟨t, p⟩ := q
          obtain ⟨he, hp58⟩ := lastC_some hlc
          dsimp only
          have ht : hostOf t = none := by
            cases t with
            | nil => rfl
            | cons c t' =>
              obtain ⟨rfl, he'⟩ : (91 : UInt8) = c ∧ r = t' ++ 58 :: p := by simpa using he
              unfold hostOf
              dsimp only
              rw [if_pos rfl]
              split
              · rename_i hgl
                obtain ⟨u, hu⟩ : ∃ u, t' = u ++ [93] := by
                  obtain ⟨u, hu⟩ := List.getLast?_eq_some_iff.1 hgl
                  exact ⟨u, hu⟩
                have hin : (58 : UInt8) ∈ u ∧ (93 : UInt8) ∈ u := by
                  obtain ⟨z, hz⟩ := ahead_last (hr'.symm.trans he') h58 hp58
                  rw [hu] at hz
                  rcases List.eq_nil_or_concat z with rfl | ⟨z', e, rfl⟩
                  · exfalso
                    have := congrArg List.getLast? hz
                    simp at this
                  · rw [List.concat_eq_append] at hz
                    have h2 := congrArg List.dropLast hz
                    rw [List.dropLast_concat, show (x ++ [(93 : UInt8)]) ++ 58 :: (z' ++ [e]) = ((x ++ [93]) ++ 58 :: z') ++ [e] by simp, List.dropLast_concat] at h2
                    rw [h2]
                    simp
                rw [hu, List.dropLast_concat, parse_93 hin.1 hin.2]
                rfl
              · rfl
          rw [ht]
          rfl
      · unfold parseT
        rw [hr', ← List.cons_append, lastC_put (91 :: (x ++ [93])) h58]
        dsimp only
        show _ = (hostOf (91 :: (x ++ [93]))).bind fun h => withPort h y
        unfold hostOf
        dsimp only
        rw [if_pos rfl, if_pos (by simp), List.dropLast_concat]
        cases parse x with
        | none => rfl
        | some h =>
          show (if h.kind = 2 then withPort h y else none) = (if h.kind = 2 then some h else none).bind fun h => withPort h y
          by_cases hk : h.kind = 2
          · rw [if_pos hk, if_pos hk]; rfl
          · rw [if_neg hk, if_neg hk]; rfl
    · rw [hc]
      dsimp only
      have hl : (parse r).bind (fun h => if h.kind = 2 then withPort h [] else none) = none := by
        cases parse r with
        | none => rfl
        | some h =>
          show (if h.kind = 2 then withPort h [] else none) = none
          rw [port_nil]; simp
      rw [hl]
      unfold parseT
      cases hlc : lastC (91 :: r) with
      | none => rfl
      | some q =>
        obtain ⟨t, p⟩ := q
        obtain ⟨he, hp58⟩ := lastC_some hlc
        dsimp only
        have ht : hostOf t = none := by
          cases t with
          | nil => rfl
          | cons c t' =>
            obtain ⟨rfl, he'⟩ : (91 : UInt8) = c ∧ r = t' ++ 58 :: p := by simpa using he
            unfold hostOf
            dsimp only
            rw [if_pos rfl]
            split
            · rename_i hgl
              obtain ⟨u, hu⟩ := List.getLast?_eq_some_iff.1 hgl
              exfalso
              have e : r = u ++ [93, 58] ++ p := by rw [he', hu]; simp
              have h1 := hno u.length (by rw [e]; simp)
              rw [e, occ_put] at h1
              cases h1
            · rfl
        rw [ht]
        rfl
  · rw [if_neg h91]
    rcases cut58_cases s with ⟨x, y, hc, hs, hx⟩ | ⟨hc, hno⟩
    · rw [hc]
      dsimp only
      by_cases h58 : (58 : UInt8) ∈ y
      · have hl : (parse x).bind (fun h => withPort h y) = none := by
          cases parse x with
          | none => rfl
          | some h => exact port_colon h58
        rw [hl]
        unfold parseT
        cases hlc : lastC s with
        | none => rfl
        | some q =>
          obtain ⟨t, p⟩ := q
          obtain ⟨he, hp58⟩ := lastC_some hlc
          dsimp only
          have ht : hostOf t = none := by
            have hin : (58 : UInt8) ∈ t := by
              obtain ⟨z, hz⟩ := ahead_last (hs.symm.trans he) h58 hp58
              rw [hz]
              simp
            cases t with
            | nil => rfl
            | cons c t' =>
              have hc91 : c ≠ 91 := fun e => h91 (by rw [he, e]; rfl)
              unfold hostOf
              dsimp only
              rw [if_neg hc91]
              cases hp : parse (c :: t') with
              | none => rfl
              | some h =>
                show (if h.kind = 2 then none else some h) = none
                rw [if_pos (parse_58 hin hp)]
          rw [ht]
          rfl
      · unfold parseT
        rw [hs, lastC_put x h58]
        dsimp only
        cases x with
        | nil => rfl
        | cons c t' =>
          have hc91 : c ≠ 91 := fun e => h91 (by rw [hs, e]; rfl)
          unfold hostOf
          dsimp only
          rw [if_neg hc91]
          cases hp : parse (c :: t') with
          | none => rfl
          | some h =>
            show withPort h y = (if h.kind = 2 then none else some h).bind fun h => withPort h y
            rw [if_neg (parse_no58 hx hp)]
            rfl
    · rw [hc]
      dsimp only
      have hl : (parse s).bind (fun h => withPort h []) = none := by
        cases parse s with
        | none => rfl
        | some h => exact port_nil h
      rw [hl]
      unfold parseT
      rw [lastC_free hno]
end Go.Proofs.YtghdaengkgiekaaGreatDoor.hw

/-
  Given for the seat's laws: the contract of host.ParseTarget. No condition but those of the theorems.
-/
namespace Go.Proofs.YtghdaengkgiekaaGreatDoor.hw
open Go.RowKit mem hostp
set_option linter.unusedVariables false

/-- a target as ParseTarget gives it -/
def PTv (o : Option T) : Value := match o with
  | some t => .tuple #[tv (t.host.kind : Int) (S t.host.text) t.port, .int .i64 0]
  | none => .tuple #[tv 0 ⟨#[]⟩ 0, .int .i64 40]

theorem cutX (s sep : ByteArray) (hs : s.size ≤ 3000) (w : World) (he : Env w) (p r : Str) (gap : Bool) (hc : Lib.cut s.data.toList sep.data.toList = (p, r, gap)) :
    Calls Tryz.prog 67 #[.string s, .string sep] w fun e w' => e = .returned (.tuple #[.string (S p), .string (S r), .bool gap]) ∧ Below w.heap.size w w' := by
  obtain ⟨m, hm⟩ := he.maxlen
  refine (Tryz.strings_Cut s sep m w (by omega) hm).mono ?_
  rintro e w' ⟨rfl, n, rfl⟩
  rw [hc]
  exact ⟨rfl, (Still.drewN w n).below _⟩
theorem pre_yes (s : ByteArray) (r : Str) (hs : s.data.toList = 91 :: r) (w : World) : Calls Tryz.prog 108 #[.string s, .string ⟨#[91]⟩] w fun e w' => e = .returned (.tuple #[.string (S r), .bool true]) ∧ w' = w := by
  have h := Tryz.strings_CutPrefix s ⟨#[91]⟩ w
  rw [hs] at h
  have e1 : Lib.hasPrefix (91 :: r) (⟨#[91]⟩ : ByteArray).data.toList = true := by simp [Lib.hasPrefix, List.isPrefixOf]
  have e2 : Lib.trimPrefix (91 :: r) (⟨#[91]⟩ : ByteArray).data.toList = r := by unfold Lib.trimPrefix; rw [if_pos e1]; rfl
  rw [e1, e2] at h
  exact h
theorem pre_no (s : ByteArray) (hs : s.data.toList.head? ≠ some 91) (w : World) : Calls Tryz.prog 108 #[.string s, .string ⟨#[91]⟩] w fun e w' => e = .returned (.tuple #[.string s, .bool false]) ∧ w' = w := by
  have h := Tryz.strings_CutPrefix s ⟨#[91]⟩ w
  have e1 : Lib.hasPrefix s.data.toList (⟨#[91]⟩ : ByteArray).data.toList = false := by
    unfold Lib.hasPrefix
    cases hl : s.data.toList with
    | nil => rfl
    | cons c r =>
      rw [hl] at hs
      have hc : c ≠ 91 := fun e => hs (by rw [e]; rfl)
      have : ((91 : UInt8) == c) = false := beq_eq_false_iff_ne.2 (fun e => hc e.symm)
      simp [List.isPrefixOf, this]
  have e2 : Lib.trimPrefix s.data.toList (⟨#[91]⟩ : ByteArray).data.toList = s.data.toList := by unfold Lib.trimPrefix; rw [e1]; rfl
  rw [e1, e2] at h
  exact h

/-- the port of a text, as ascii.Parse reads it -/
def portN (p : Str) : Option Nat := match dec p 65535 with
  | some n => if 1 ≤ n then some n else none
  | none => none
theorem withPort_portN (h : H) (p : Str) : withPort h p = (portN p).map fun n => ⟨h, (n : Int)⟩ := by
  unfold withPort portN
  cases dec p 65535 with
  | none => rfl
  | some n => by_cases h1 : 1 ≤ n <;> simp [h1]
theorem port_yes (s : ByteArray) (hs : s.size ≤ 3000) {n : Nat} (h : portN s.data.toList = some n) (w : World) : Calls Tryz.prog 110 #[.string s, .int .i64 1, .int .i64 65535] w fun e w' => e = .returned (.tuple #[.int .i64 (n : Int), .int .i64 0]) ∧ w = w' := by
  have hp := parseF_dec (l := s.data.toList) (m := 65535) (by omega) 1
  unfold portN at h
  refine (parse.parse_in s 1 65535 hs (by omega) (by omega) (by omega) w).mono ?_
  rintro e w' ⟨rfl, rfl⟩
  rw [show ((65535 : Nat) : Int) = 65535 from rfl] at hp
  cases hd : dec s.data.toList 65535 with
  | none => rw [hd] at h; cases h
  | some k =>
    rw [hd] at h hp
    dsimp only at h hp
    by_cases h1 : 1 ≤ k
    · rw [if_pos h1] at h
      obtain rfl := Option.some.inj h
      rw [if_pos (by omega)] at hp
      rw [hp]
      exact ⟨rfl, rfl⟩
    · rw [if_neg h1] at h; cases h
theorem port_no (s : ByteArray) (hs : s.size ≤ 3000) (h : portN s.data.toList = none) (w : World) : Calls Tryz.prog 110 #[.string s, .int .i64 1, .int .i64 65535] w fun e w' => e = .returned (.tuple #[.int .i64 0, .int .i64 6]) ∧ w = w' := by
  have hp := parseF_dec (l := s.data.toList) (m := 65535) (by omega) 1
  unfold portN at h
  refine (parse.parse_in s 1 65535 hs (by omega) (by omega) (by omega) w).mono ?_
  rintro e w' ⟨rfl, rfl⟩
  rw [show ((65535 : Nat) : Int) = 65535 from rfl] at hp
  cases hd : dec s.data.toList 65535 with
  | none =>
    rw [hd] at hp
    rw [hp]
    exact ⟨rfl, rfl⟩
  | some k =>
    rw [hd] at h hp
    dsimp only at h hp
    by_cases h1 : 1 ≤ k
    · rw [if_pos h1] at h; cases h
    · rw [if_neg (by omega)] at hp
      rw [hp]
      exact ⟨rfl, rfl⟩

theorem results_pt {W : World} {h : Nat} {k : Int} {t : ByteArray} {p : Int} (hl : Lies W h 25 #[.int .u8 k, .string t, .int .i64 p]) (tmps : Array Value) (h2 : tmps[2]?.getD undef = .pointer (some ⟨h, 0, none⟩)) {v3 : Value} (h3 : tmps[3]?.getD undef = v3) :
    (results Tryz.f88 tmps).run Tryz.prog W = .ok (.tuple #[tv k t p, v3]) W := by
  have c0 := hl.cell 0
  have c1 := hl.cell 1
  have c2 := hl.cell 2
  simp at c0 c1 c2
  unfold tv
  simp [results, Tryz.results88, go_sem, h2, h3, c0, c1, c2]

/-- the result's cells, in a world whose old ones are as they were -/
structure Res (w W : World) (hr : Nat) : Prop where
  r : Lies W hr 25 #[.int .u8 0, .string ⟨#[]⟩, .int .i64 0]
  b : Below w.heap.size w W
theorem Res.below {w W W' : World} {hr : Nat} (h : Res w W hr) (hw : Below W.heap.size W W') : Res w W' hr := ⟨h.r.below hw h.r.lt, h.b.trans (hw.mono h.b.size)⟩
theorem Res.put {w W : World} {hr : Nat} (h : Res w W hr) (hh : w.heap.size ≤ hr) (k : Int) (t : ByteArray) (p : Int) :
    Lies (((W.setCell ⟨hr, 0, none⟩ (.int .u8 k)).setCell ⟨hr, 1, none⟩ (.string t)).setCell ⟨hr, 2, none⟩ (.int .i64 p)) hr 25 #[.int .u8 k, .string t, .int .i64 p] ∧ Below w.heap.size w (((W.setCell ⟨hr, 0, none⟩ (.int .u8 k)).setCell ⟨hr, 1, none⟩ (.string t)).setCell ⟨hr, 2, none⟩ (.int .i64 p)) :=
  ⟨((h.r.set 0 (.int .u8 k)).set 1 (.string t)).set 2 (.int .i64 p), ((h.b.setCell (p := ⟨hr, 0, none⟩) hh _).setCell (p := ⟨hr, 1, none⟩) hh _).setCell (p := ⟨hr, 2, none⟩) hh _⟩

set_option maxRecDepth 100000 in
set_option maxHeartbeats 1600000 in
theorem pt_nb (s : ByteArray) (hs : s.size ≤ 3000) (w : World) (he : Env w) (h91 : s.data.toList.head? ≠ some 91) : Calls Tryz.prog 88 #[.string s] w (Gives (PTv (ptP s.data.toList)) w) := by
  obtain ⟨t, p, g1, hc1⟩ : ∃ x y g, Lib.cut s.data.toList [58] = (x, y, g) := ⟨_, _, _, rfl⟩
  have hsz : t.length ≤ 3000 ∧ p.length ≤ 3000 := by
    have hrl : s.data.toList.length ≤ 3000 := by rw [list_len]; exact hs
    rcases cut_cases s.data.toList [58] with ⟨x, y, h1, h2, _⟩ | ⟨h1, _⟩
    · rw [hc1] at h1
      simp only [Prod.mk.injEq] at h1
      obtain ⟨rfl, rfl, _⟩ := h1
      rw [h2] at hrl
      simp at hrl
      omega
    · rw [hc1] at h1
      simp only [Prod.mk.injEq] at h1
      obtain ⟨rfl, rfl, _⟩ := h1
      exact ⟨hrl, by simp⟩
  have hpt : ptP s.data.toList = (parse t).bind fun h => withPort h p := by
    unfold ptP
    rw [if_neg h91, hc1]
  have hcp := fun W => pre_no s h91 W
  have hk1 := fun W hW => cutX s ⟨#[58]⟩ hs W hW t p g1 hc1
  obtain ⟨w0, hw0⟩ : ∃ w0, w0 = w.alloc (.cells #[.int .u8 0, .string ⟨#[]⟩, .int .i64 0] 25) := ⟨_, rfl⟩
  have hr0 : Res w w0 w.heap.size := by rw [hw0]; exact ⟨Lies.new _ _ _, (Below.refl _ w).alloc (Nat.le_refl _) _⟩
  obtain ⟨hr, hhr⟩ : ∃ hr, hr = w.heap.size := ⟨_, rfl⟩
  have hrw : w.heap.size ≤ hr := by omega
  have HK1 := Bx.mk hk1
  have HCP := Bx.mk hcp
  have HPT0 := Bx.mk hpt
  have HE := Bx.mk he
  have hts : (S t).size ≤ 3000 := by rw [S_size]; exact hsz.1
  have hps : (S p).size ≤ 3000 := by rw [S_size]; exact hsz.2
  rw [← hhr] at hr0
  have R0 := Bx.mk hr0
  clear h91
  clear hk1 hcp hpt hc1 hsz he hr0
  go_enter Tryz.func88, Tryz.ntmps88
  go_upto_region 1 with fail
  rw [← hw0, ← hhr]
  clear hw0 hhr
  go_wp2_with fail
  refine (HK1.out _ (HE.out.below R0.out.b)).mono ?_
  rintro e w1 ⟨rfl, hb1⟩
  have R1 := Bx.mk (R0.out.below hb1)
  clear hb1
  go_wp2_with fail
  refine (HCP.out _).mono ?_
  rintro e w2 ⟨rfl, rfl⟩
  have hpp := parse_any (S t) hts _ (HE.out.below R1.out.b)
  rw [S_list] at hpp
  unfold HPv at hpp
  cases hpo : parse t with
  | none =>
    rw [hpo] at hpp
    dsimp only at hpp
    have hpt : ptP s.data.toList = none := by rw [HPT0.out, hpo]; rfl
    have HPT := Bx.mk hpt
    have HPP := Bx.mk hpp
    clear hpp hpt hpo
    go_wp2_with fail
    refine HPP.out.mono ?_
    rintro e w5 ⟨rfl, hb5⟩
    have R5 := (R1.out.below hb5).below ((Below.refl _ w5).alloc (Nat.le_refl _) (.cells #[.int .u8 0, .string ⟨#[]⟩] 23))
    clear hb5
    unfold hv
    have g0 := R5.r.frozen 0
    have g1 := R5.r.frozen 1
    have g2 := R5.r.frozen 2
    have r0 := R5.r.cell 0
    have r1 := R5.r.cell 1
    have r2 := R5.r.cell 2
    simp at r0 r1 r2
    obtain ⟨hno1, hno2⟩ := R5.put hrw 0 ⟨#[]⟩ 0
    have HN1 := Bx.mk hno1
    have HN2 := Bx.mk hno2
    clear hno1 hno2 R5
    go_wp2
    exact bodyPost_ret (v := .tuple #[tv 0 ⟨#[]⟩ 0, .int .i64 40]) (results_pt HN1.out _ rfl rfl) rfl ⟨by rw [HPT.out]; rfl, HN2.out⟩
  | some h =>
    rw [hpo] at hpp
    dsimp only at hpp
    obtain ⟨k, hk⟩ : ∃ k : Int, k = (h.kind : Int) := ⟨_, rfl⟩
    obtain ⟨tx, htx⟩ : ∃ tx, tx = S h.text := ⟨_, rfl⟩
    rw [← hk, ← htx] at hpp
    have HPP := Bx.mk hpp
    have HPO := Bx.mk hpo
    have HKK := Bx.mk hk
    have HTX := Bx.mk htx
    clear hpp hpo hk htx
    cases hport : portN p with
    | none =>
      have hno := fun W => port_no (S p) hps (by rw [S_list]; exact hport) W
      have hpt : ptP s.data.toList = none := by rw [HPT0.out, HPO.out]; show withPort h p = _; rw [withPort_portN, hport]; rfl
      have HPT := Bx.mk hpt
      have HNO := Bx.mk hno
      clear hno hpt hport
      go_wp2_with fail
      refine HPP.out.mono ?_
      rintro e w5 ⟨rfl, hb5⟩
      have R5 := (R1.out.below hb5).below ((Below.refl _ w5).alloc (Nat.le_refl _) (.cells #[.int .u8 k, .string tx] 23))
      clear hb5
      unfold hv
      have l5 := Lies.new w5 23 #[.int .u8 k, .string tx]
      have d0 := l5.cell 0
      simp at d0
      clear l5
      go_wp2_with fail
      refine (HNO.out _).mono ?_
      rintro e w6 ⟨rfl, rfl⟩
      have g0 := R5.r.frozen 0
      have g1 := R5.r.frozen 1
      have g2 := R5.r.frozen 2
      have r0 := R5.r.cell 0
      have r1 := R5.r.cell 1
      have r2 := R5.r.cell 2
      simp at r0 r1 r2
      obtain ⟨hno1, hno2⟩ := R5.put hrw 0 ⟨#[]⟩ 0
      have HN1 := Bx.mk hno1
      have HN2 := Bx.mk hno2
      clear hno1 hno2 R5
      go_wp2
      exact bodyPost_ret (v := .tuple #[tv 0 ⟨#[]⟩ 0, .int .i64 40]) (results_pt HN1.out _ rfl rfl) rfl ⟨by rw [HPT.out]; rfl, HN2.out⟩
    | some n =>
      have hyes := fun W => port_yes (S p) hps (n := n) (by rw [S_list]; exact hport) W
      have hpt : ptP s.data.toList = some ⟨h, (n : Int)⟩ := by rw [HPT0.out, HPO.out]; show withPort h p = _; rw [withPort_portN, hport]; rfl
      have HPT := Bx.mk hpt
      have HNO := Bx.mk hyes
      clear hyes hpt hport
      go_wp2_with fail
      refine HPP.out.mono ?_
      rintro e w5 ⟨rfl, hb5⟩
      have R5 := (R1.out.below hb5).below ((Below.refl _ w5).alloc (Nat.le_refl _) (.cells #[.int .u8 k, .string tx] 23))
      clear hb5
      unfold hv
      have l5 := Lies.new w5 23 #[.int .u8 k, .string tx]
      have d0 := l5.cell 0
      have d1 := l5.cell 1
      simp at d0 d1
      clear l5
      go_wp2_with fail
      refine (HNO.out _).mono ?_
      rintro e w6 ⟨rfl, rfl⟩
      have g0 := R5.r.frozen 0
      have g1 := R5.r.frozen 1
      have g2 := R5.r.frozen 2
      have r0 := R5.r.cell 0
      have r1 := R5.r.cell 1
      have r2 := R5.r.cell 2
      simp at r0 r1 r2
      obtain ⟨hno1, hno2⟩ := R5.put hrw k tx (n : Int)
      have HN1 := Bx.mk hno1
      have HN2 := Bx.mk hno2
      clear hno1 hno2 R5
      go_wp2
      exact bodyPost_ret (v := .tuple #[tv k tx (n : Int), .int .i64 0]) (results_pt HN1.out _ rfl rfl) rfl ⟨by rw [HPT.out, HKK.out, HTX.out]; rfl, HN2.out⟩

set_option maxRecDepth 100000 in
set_option maxHeartbeats 1600000 in
theorem pt_br (s : ByteArray) (hs : s.size ≤ 3000) (w : World) (he : Env w) (r : Str) (hl : s.data.toList = 91 :: r) : Calls Tryz.prog 88 #[.string s] w (Gives (PTv (ptP s.data.toList)) w) := by
  have hrl : r.length ≤ 3000 := by have := congrArg List.length hl; rw [list_len] at this; simp at this; omega
  obtain ⟨x1, y1, g1, hc1⟩ : ∃ x y g, Lib.cut s.data.toList [58] = (x, y, g) := ⟨_, _, _, rfl⟩
  obtain ⟨t, p, g2, hc2⟩ : ∃ x y g, Lib.cut r [93, 58] = (x, y, g) := ⟨_, _, _, rfl⟩
  have hsz : t.length ≤ 3000 ∧ p.length ≤ 3000 := by
    rcases cut_cases r [93, 58] with ⟨x, y, h1, h2, _⟩ | ⟨h1, _⟩
    · rw [hc2] at h1
      simp only [Prod.mk.injEq] at h1
      obtain ⟨rfl, rfl, _⟩ := h1
      rw [h2] at hrl
      simp at hrl
      omega
    · rw [hc2] at h1
      simp only [Prod.mk.injEq] at h1
      obtain ⟨rfl, rfl, _⟩ := h1
      exact ⟨hrl, by simp⟩
  have hpt : ptP s.data.toList = (parse t).bind fun h => if h.kind = 2 then withPort h p else none := by
    unfold ptP
    rw [hl, if_pos (show (91 :: r).head? = some 91 from rfl)]
    show (parse (Lib.cut r [93, 58]).1).bind (fun h => if h.kind = 2 then withPort h (Lib.cut r [93, 58]).2.1 else none) = _
    rw [hc2]
  have hcp := fun W => pre_yes s r hl W
  have hk2 := fun W hW => cutX (S r) ⟨#[93, 58]⟩ (by rw [S_size]; exact hrl) W hW t p g2 (by rw [S_list]; exact hc2)
  have hk1 := fun W hW => cutX s ⟨#[58]⟩ hs W hW x1 y1 g1 hc1
  obtain ⟨w0, hw0⟩ : ∃ w0, w0 = w.alloc (.cells #[.int .u8 0, .string ⟨#[]⟩, .int .i64 0] 25) := ⟨_, rfl⟩
  have hr0 : Res w w0 w.heap.size := by rw [hw0]; exact ⟨Lies.new _ _ _, (Below.refl _ w).alloc (Nat.le_refl _) _⟩
  obtain ⟨hr, hhr⟩ : ∃ hr, hr = w.heap.size := ⟨_, rfl⟩
  have hrw : w.heap.size ≤ hr := by omega
  have HK1 := Bx.mk hk1
  have HCP := Bx.mk hcp
  have HPT0 := Bx.mk hpt
  have HE := Bx.mk he
  have hts : (S t).size ≤ 3000 := by rw [S_size]; exact hsz.1
  have hps : (S p).size ≤ 3000 := by rw [S_size]; exact hsz.2
  rw [← hhr] at hr0
  have R0 := Bx.mk hr0
  have HK2 := Bx.mk hk2
  clear hk2 hc2 hrl hl
  clear hk1 hcp hpt hc1 hsz he hr0
  go_enter Tryz.func88, Tryz.ntmps88
  go_upto_region 1 with fail
  rw [← hw0, ← hhr]
  clear hw0 hhr
  go_wp2_with fail
  refine (HK1.out _ (HE.out.below R0.out.b)).mono ?_
  rintro e w1 ⟨rfl, hb1⟩
  have R1 := Bx.mk (R0.out.below hb1)
  clear hb1
  go_wp2_with fail
  refine (HCP.out _).mono ?_
  rintro e w2 ⟨rfl, rfl⟩
  go_wp2_with fail
  refine (HK2.out _ (HE.out.below R1.out.b)).mono ?_
  rintro e w3 ⟨rfl, hb3⟩
  have R3 := Bx.mk (R1.out.below hb3)
  clear hb3
  have hpp := parse_any (S t) hts _ (HE.out.below R3.out.b)
  rw [S_list] at hpp
  unfold HPv at hpp
  cases hpo : parse t with
  | none =>
    rw [hpo] at hpp
    dsimp only at hpp
    have hpt : ptP s.data.toList = none := by rw [HPT0.out, hpo]; rfl
    have HPT := Bx.mk hpt
    have HPP := Bx.mk hpp
    clear hpp hpt hpo
    go_wp2_with fail
    refine HPP.out.mono ?_
    rintro e w5 ⟨rfl, hb5⟩
    have R5 := (R3.out.below hb5).below ((Below.refl _ w5).alloc (Nat.le_refl _) (.cells #[.int .u8 0, .string ⟨#[]⟩] 23))
    clear hb5
    unfold hv
    have g0 := R5.r.frozen 0
    have g1 := R5.r.frozen 1
    have g2 := R5.r.frozen 2
    have r0 := R5.r.cell 0
    have r1 := R5.r.cell 1
    have r2 := R5.r.cell 2
    simp at r0 r1 r2
    obtain ⟨hno1, hno2⟩ := R5.put hrw 0 ⟨#[]⟩ 0
    have HN1 := Bx.mk hno1
    have HN2 := Bx.mk hno2
    clear hno1 hno2 R5
    go_wp2
    exact bodyPost_ret (v := .tuple #[tv 0 ⟨#[]⟩ 0, .int .i64 40]) (results_pt HN1.out _ rfl rfl) rfl ⟨by rw [HPT.out]; rfl, HN2.out⟩
  | some h =>
    rw [hpo] at hpp
    dsimp only at hpp
    obtain ⟨k, hk⟩ : ∃ k : Int, k = (h.kind : Int) := ⟨_, rfl⟩
    obtain ⟨tx, htx⟩ : ∃ tx, tx = S h.text := ⟨_, rfl⟩
    rw [← hk, ← htx] at hpp
    have HPP := Bx.mk hpp
    have HPO := Bx.mk hpo
    have HKK := Bx.mk hk
    have HTX := Bx.mk htx
    clear hpp hpo hk htx
    by_cases hk2 : h.kind = 2
    · have hkb : (k != 2) = false := by rw [HKK.out, hk2]; rfl
      have HK2b := Bx.mk hk2
      clear hk2
      cases hport : portN p with
      | none =>
        have hno := fun W => port_no (S p) hps (by rw [S_list]; exact hport) W
        have hpt : ptP s.data.toList = none := by rw [HPT0.out, HPO.out]; show (if h.kind = 2 then withPort h p else none) = _; rw [if_pos HK2b.out]; rw [withPort_portN, hport]; rfl
        have HPT := Bx.mk hpt
        have HNO := Bx.mk hno
        clear hno hpt hport
        go_wp2_with fail
        refine HPP.out.mono ?_
        rintro e w5 ⟨rfl, hb5⟩
        have R5 := (R3.out.below hb5).below ((Below.refl _ w5).alloc (Nat.le_refl _) (.cells #[.int .u8 k, .string tx] 23))
        clear hb5
        unfold hv
        have l5 := Lies.new w5 23 #[.int .u8 k, .string tx]
        have d0 := l5.cell 0
        simp at d0
        clear l5
        go_wp2_with fail
        refine (HNO.out _).mono ?_
        rintro e w6 ⟨rfl, rfl⟩
        have g0 := R5.r.frozen 0
        have g1 := R5.r.frozen 1
        have g2 := R5.r.frozen 2
        have r0 := R5.r.cell 0
        have r1 := R5.r.cell 1
        have r2 := R5.r.cell 2
        simp at r0 r1 r2
        obtain ⟨hno1, hno2⟩ := R5.put hrw 0 ⟨#[]⟩ 0
        have HN1 := Bx.mk hno1
        have HN2 := Bx.mk hno2
        clear hno1 hno2 R5
        go_wp2
        exact bodyPost_ret (v := .tuple #[tv 0 ⟨#[]⟩ 0, .int .i64 40]) (results_pt HN1.out _ rfl rfl) rfl ⟨by rw [HPT.out]; rfl, HN2.out⟩
      | some n =>
        have hyes := fun W => port_yes (S p) hps (n := n) (by rw [S_list]; exact hport) W
        have hpt : ptP s.data.toList = some ⟨h, (n : Int)⟩ := by rw [HPT0.out, HPO.out]; show (if h.kind = 2 then withPort h p else none) = _; rw [if_pos HK2b.out]; rw [withPort_portN, hport]; rfl
        have HPT := Bx.mk hpt
        have HNO := Bx.mk hyes
        clear hyes hpt hport
        go_wp2_with fail
        refine HPP.out.mono ?_
        rintro e w5 ⟨rfl, hb5⟩
        have R5 := (R3.out.below hb5).below ((Below.refl _ w5).alloc (Nat.le_refl _) (.cells #[.int .u8 k, .string tx] 23))
        clear hb5
        unfold hv
        have l5 := Lies.new w5 23 #[.int .u8 k, .string tx]
        have d0 := l5.cell 0
        have d1 := l5.cell 1
        simp at d0 d1
        clear l5
        go_wp2_with fail
        refine (HNO.out _).mono ?_
        rintro e w6 ⟨rfl, rfl⟩
        have g0 := R5.r.frozen 0
        have g1 := R5.r.frozen 1
        have g2 := R5.r.frozen 2
        have r0 := R5.r.cell 0
        have r1 := R5.r.cell 1
        have r2 := R5.r.cell 2
        simp at r0 r1 r2
        obtain ⟨hno1, hno2⟩ := R5.put hrw k tx (n : Int)
        have HN1 := Bx.mk hno1
        have HN2 := Bx.mk hno2
        clear hno1 hno2 R5
        go_wp2
        exact bodyPost_ret (v := .tuple #[tv k tx (n : Int), .int .i64 0]) (results_pt HN1.out _ rfl rfl) rfl ⟨by rw [HPT.out, HKK.out, HTX.out]; rfl, HN2.out⟩
    · have hkb : (k != 2) = true := by
        have : k ≠ 2 := by rw [HKK.out]; omega
        simpa using this
      have hpt : ptP s.data.toList = none := by rw [HPT0.out, HPO.out]; show (if h.kind = 2 then withPort h p else none) = _; rw [if_neg hk2]
      have HPT := Bx.mk hpt
      clear hk2 hpt
      go_wp2_with fail
      refine HPP.out.mono ?_
      rintro e w5 ⟨rfl, hb5⟩
      have R5 := (R3.out.below hb5).below ((Below.refl _ w5).alloc (Nat.le_refl _) (.cells #[.int .u8 k, .string tx] 23))
      clear hb5
      unfold hv
      have l5 := Lies.new w5 23 #[.int .u8 k, .string tx]
      have d0 := l5.cell 0
      simp at d0
      clear l5
      have g0 := R5.r.frozen 0
      have g1 := R5.r.frozen 1
      have g2 := R5.r.frozen 2
      have r0 := R5.r.cell 0
      have r1 := R5.r.cell 1
      have r2 := R5.r.cell 2
      simp at r0 r1 r2
      obtain ⟨hno1, hno2⟩ := R5.put hrw 0 ⟨#[]⟩ 0
      have HN1 := Bx.mk hno1
      have HN2 := Bx.mk hno2
      clear hno1 hno2 R5
      go_wp2
      exact bodyPost_ret (v := .tuple #[tv 0 ⟨#[]⟩ 0, .int .i64 40]) (results_pt HN1.out _ rfl rfl) rfl ⟨by rw [HPT.out]; rfl, HN2.out⟩

theorem parseTarget_any (s : ByteArray) (hs : s.size ≤ 3000) (w : World) (he : Env w) : Calls Tryz.prog 88 #[.string s] w (Gives (PTv (parseT s.data.toList)) w) := by
  rw [← ptP_eq]
  by_cases h : s.data.toList.head? = some 91
  · cases hl : s.data.toList with
    | nil => rw [hl] at h; simp at h
    | cons c r =>
      rw [hl] at h
      simp at h
      subst h
      rw [← hl]
      exact pt_br s hs w he r hl
  · exact pt_nb s hs w he h
end Go.Proofs.YtghdaengkgiekaaGreatDoor.hw
