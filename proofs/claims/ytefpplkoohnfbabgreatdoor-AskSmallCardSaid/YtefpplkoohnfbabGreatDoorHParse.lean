/-
  Given for the seat's laws: the contract of host.Parse. No condition but those of the theorems.
-/
import Derived.Test.YtefpplkoohnfbabGreatDoorHV6b
import Derived.Test.YtefpplkoohnfbabGreatDoorHKind
import Derived.Test.YtefpplkoohnfbabGreatDoorHMay
import Derived.Test.YtefpplkoohnfbabGreatDoorLower
namespace Go.Proofs.YtefpplkoohnfbabGreatDoor.hw
open Go.RowKit mem hostp
set_option linter.unusedVariables false

theorem dd_lc_all : ∀ c : Fin 256, dd (lc (UInt8.ofNat c.1)) = dd (UInt8.ofNat c.1) ∧ (dd (UInt8.ofNat c.1) = true → lc (UInt8.ofNat c.1) = UInt8.ofNat c.1) := by decide +kernel
theorem dd_lc (c : UInt8) : dd (lc c) = dd c ∧ (dd c = true → lc c = c) := by
  have h := dd_lc_all ⟨c.toNat, c.toNat_lt⟩
  simpa using h
theorem low_dd : ∀ l : Str, (low l).all dd = l.all dd
  | [] => rfl
  | c :: l => by
    show (dd (lc c) && (low l).all dd) = (dd c && l.all dd)
    rw [(dd_lc c).1, low_dd l]
theorem low_same : ∀ {l : Str}, l.all dd = true → low l = l
  | [], _ => rfl
  | c :: l, h => by
    rw [List.all_cons, Bool.and_eq_true] at h
    show lc c :: low l = _
    rw [(dd_lc c).2 h.1, low_same h.2]

/-- a host as Parse gives it -/
def HPv (o : Option H) : Value := match o with
  | some h => .tuple #[hv (h.kind : Int) (S h.text), .int .i64 0]
  | none => .tuple #[hv 0 ⟨#[]⟩, .int .i64 40]

theorem results_parse {W : World} {h : Nat} {k : Int} {t : ByteArray} (hl : Lies W h 23 #[.int .u8 k, .string t]) (tmps : Array Value) (h2 : tmps[2]?.getD undef = .pointer (some ⟨h, 0, none⟩)) {v3 : Value} (h3 : tmps[3]?.getD undef = v3) :
    (results Tryz.f23 tmps).run Tryz.prog W = .ok (.tuple #[hv k t, v3]) W := by
  have c0 := hl.cell 0
  have c1 := hl.cell 1
  simp at c0 c1
  unfold hv
  simp [results, Tryz.results23, go_sem, h2, h3, c0, c1]

/-- a text, or none -/
def okV (x : ByteArray) (o : Option ByteArray) : Value := match o with
  | some t => .tuple #[.string t, .bool true]
  | none => .tuple #[.string x, .bool false]
def hostV (k : Int) (o : Option ByteArray) : Value := match o with
  | some t => .tuple #[hv k t, .int .i64 0]
  | none => .tuple #[hv 0 ⟨#[]⟩, .int .i64 40]

/-- the result's cells, and the host's own -/
structure Two (W : World) (hr hb : Nat) (k : Int) (t : ByteArray) : Prop where
  r : Lies W hr 23 #[.int .u8 0, .string ⟨#[]⟩]
  b : Lies W hb 23 #[.int .u8 k, .string t]
  lt : hr < hb
theorem Two.below {W W' : World} {hr hb : Nat} {k : Int} {t : ByteArray} (h : Two W hr hb k t) (hw : Below W.heap.size W W') : Two W' hr hb k t := ⟨h.r.below hw h.r.lt, h.b.below hw h.b.lt, h.lt⟩
theorem Two.put {W : World} {hr hb : Nat} {k : Int} {t : ByteArray} (h : Two W hr hb k t) (u : ByteArray) : Two (W.setCell ⟨hb, 1, none⟩ (.string u)) hr hb k u :=
  ⟨h.r.far (p := ⟨hb, 1, none⟩) (by have := h.lt; show hr ≠ hb; omega) _, h.b.set 1 _, h.lt⟩
theorem Two.yes {W : World} {hr hb : Nat} {k : Int} {t : ByteArray} (h : Two W hr hb k t) : Lies ((W.setCell ⟨hr, 0, none⟩ (.int .u8 k)).setCell ⟨hr, 1, none⟩ (.string t)) hr 23 #[.int .u8 k, .string t] :=
  (h.r.set 0 (.int .u8 k)).set 1 (.string t)
theorem Two.no {W : World} {hr hb : Nat} {k : Int} {t : ByteArray} (h : Two W hr hb k t) : Lies ((W.setCell ⟨hr, 0, none⟩ (.int .u8 0)).setCell ⟨hr, 1, none⟩ (.string ⟨#[]⟩)) hr 23 #[.int .u8 0, .string ⟨#[]⟩] :=
  (h.r.set 0 (.int .u8 0)).set 1 (.string ⟨#[]⟩)

set_option maxRecDepth 100000 in
set_option maxHeartbeats 1600000 in
theorem parseK4 (s : ByteArray) (hs : s.size ≤ 3000) (w : World) (he : Env w) (hk : kindF s.data.toList = 1) (o : Option ByteArray) (x : ByteArray)
    (hv0 : ∀ W, Env W → Calls Tryz.prog 29 #[.string s] W (Gives (okV x o) W)) :
    Calls Tryz.prog 23 #[.string s] w (Gives (hostV 1 o) w) := by
  obtain ⟨w0, hw0⟩ : ∃ w0, w0 = w.alloc (.cells #[.int .u8 0, .string ⟨#[]⟩] 23) := ⟨_, rfl⟩
  have l0 : Lies w0 w.heap.size 23 #[.int .u8 0, .string ⟨#[]⟩] := by rw [hw0]; exact Lies.new _ _ _
  have hb0 : Below w.heap.size w w0 := by rw [hw0]; exact (Below.refl _ w).alloc (Nat.le_refl _) _
  have hkd := kindOf_any s hs w0 (he.below hb0)
  rw [hk] at hkd
  have HKD := Bx.mk hkd
  have HV := Bx.mk hv0
  have HE := Bx.mk he
  have L0 := Bx.mk l0
  have HB0 := Bx.mk hb0
  obtain ⟨hr, hhr⟩ : ∃ hr, hr = w.heap.size := ⟨_, rfl⟩
  have hrw : w.heap.size ≤ hr := by omega
  clear hkd hv0 he l0 hb0 hk
  go_enter Tryz.func23, Tryz.ntmps23
  go_upto_region 1 with fail
  rw [← hw0]
  clear hw0
  go_wp2_with fail
  refine HKD.out.mono ?_
  rintro e w1 ⟨rfl, hb1⟩
  have hl1 := L0.out.below hb1 L0.out.lt
  have hb1' := HB0.out.trans (hb1.mono HB0.out.size)
  have hlt : w.heap.size < w1.heap.size := hl1.lt
  obtain ⟨w2, hw2⟩ : ∃ w2, w2 = w1.alloc (.cells #[.int .u8 1, .string ⟨#[]⟩] 23) := ⟨_, rfl⟩
  have ht2 : Two w2 w.heap.size w1.heap.size 1 ⟨#[]⟩ := by rw [hw2]; exact ⟨hl1.alloc _, Lies.new _ _ _, hlt⟩
  have hb2 : Below w.heap.size w w2 := by rw [hw2]; exact hb1'.alloc hb1'.size _
  have c2 := ht2.b.cell 0
  simp at c2
  obtain ⟨hb, hhb⟩ : ∃ hb, hb = w1.heap.size := ⟨_, rfl⟩
  have hbw : w.heap.size ≤ hb := by omega
  rw [← hhr] at ht2
  rw [← hhb] at ht2 c2
  have HT2 := Bx.mk ht2
  have HB2 := Bx.mk hb2
  have HC := Bx.mk (HV.out w2 (HE.out.below hb2))
  clear hl1 hb1 hb1' ht2 hb2 hlt L0 HB0
  go_upto_region 3 with fail
  rw [← hw2, ← hhr, ← hhb]
  clear hw2 hhr hhb
  cases o with
  | none =>
    have hC := HC.out
    unfold okV at hC
    dsimp only at hC
    have HC2 := Bx.mk hC
    clear hC
    go_wp2_with fail
    refine HC2.out.mono ?_
    rintro e w3 ⟨rfl, hb3⟩
    have ht3 := HT2.out.below hb3
    have f1 := ht3.b.frozen 1
    have k1 := ht3.b.cell 1
    simp at k1
    have ht4 := ht3.put x
    have g0 := ht4.r.frozen 0
    have g1 := ht4.r.frozen 1
    have r0 := ht4.r.cell 0
    have r1 := ht4.r.cell 1
    simp at r0 r1
    have HN := Bx.mk ht4.no
    have HBN := Bx.mk ((((HB2.out.trans (hb3.mono HB2.out.size)).setCell (p := ⟨hb, 1, none⟩) hbw (.string x)).setCell (p := ⟨hr, 0, none⟩) hrw (.int .u8 0)).setCell (p := ⟨hr, 1, none⟩) hrw (.string ⟨#[]⟩))
    clear ht3 ht4 hb3
    go_wp2
    exact bodyPost_ret (v := .tuple #[hv 0 ⟨#[]⟩, .int .i64 40]) (results_parse HN.out _ rfl rfl) rfl ⟨rfl, HBN.out⟩
  | some t =>
    have hC := HC.out
    unfold okV at hC
    dsimp only at hC
    have HC2 := Bx.mk hC
    clear hC
    go_wp2_with fail
    refine HC2.out.mono ?_
    rintro e w3 ⟨rfl, hb3⟩
    have ht3 := HT2.out.below hb3
    have f1 := ht3.b.frozen 1
    have k1 := ht3.b.cell 1
    simp at k1
    have ht4 := ht3.put t
    have g0 := ht4.r.frozen 0
    have g1 := ht4.r.frozen 1
    have r0 := ht4.r.cell 0
    have r1 := ht4.r.cell 1
    have b0 := ht4.b.cell 0
    have b1 := ht4.b.cell 1
    simp at r0 r1 b0 b1
    have HN := Bx.mk ht4.yes
    have HBN := Bx.mk ((((HB2.out.trans (hb3.mono HB2.out.size)).setCell (p := ⟨hb, 1, none⟩) hbw (.string t)).setCell (p := ⟨hr, 0, none⟩) hrw (.int .u8 1)).setCell (p := ⟨hr, 1, none⟩) hrw (.string t))
    clear ht3 ht4 hb3
    go_wp2
    exact bodyPost_ret (v := .tuple #[hv 1 t, .int .i64 0]) (results_parse HN.out _ rfl rfl) rfl ⟨rfl, HBN.out⟩

set_option maxRecDepth 100000 in
set_option maxHeartbeats 1600000 in
theorem parseK6 (s : ByteArray) (hs : s.size ≤ 3000) (w : World) (he : Env w) (hk : kindF s.data.toList = 2) (o : Option ByteArray) (x : ByteArray)
    (hv0 : ∀ W, Env W → Calls Tryz.prog 30 #[.string s] W (Gives (okV x o) W)) :
    Calls Tryz.prog 23 #[.string s] w (Gives (hostV 2 o) w) := by
  obtain ⟨w0, hw0⟩ : ∃ w0, w0 = w.alloc (.cells #[.int .u8 0, .string ⟨#[]⟩] 23) := ⟨_, rfl⟩
  have l0 : Lies w0 w.heap.size 23 #[.int .u8 0, .string ⟨#[]⟩] := by rw [hw0]; exact Lies.new _ _ _
  have hb0 : Below w.heap.size w w0 := by rw [hw0]; exact (Below.refl _ w).alloc (Nat.le_refl _) _
  have hkd := kindOf_any s hs w0 (he.below hb0)
  rw [hk] at hkd
  have HKD := Bx.mk hkd
  have HV := Bx.mk hv0
  have HE := Bx.mk he
  have L0 := Bx.mk l0
  have HB0 := Bx.mk hb0
  obtain ⟨hr, hhr⟩ : ∃ hr, hr = w.heap.size := ⟨_, rfl⟩
  have hrw : w.heap.size ≤ hr := by omega
  clear hkd hv0 he l0 hb0 hk
  go_enter Tryz.func23, Tryz.ntmps23
  go_upto_region 1 with fail
  rw [← hw0]
  clear hw0
  go_wp2_with fail
  refine HKD.out.mono ?_
  rintro e w1 ⟨rfl, hb1⟩
  have hl1 := L0.out.below hb1 L0.out.lt
  have hb1' := HB0.out.trans (hb1.mono HB0.out.size)
  have hlt : w.heap.size < w1.heap.size := hl1.lt
  obtain ⟨w2, hw2⟩ : ∃ w2, w2 = w1.alloc (.cells #[.int .u8 2, .string ⟨#[]⟩] 23) := ⟨_, rfl⟩
  have ht2 : Two w2 w.heap.size w1.heap.size 2 ⟨#[]⟩ := by rw [hw2]; exact ⟨hl1.alloc _, Lies.new _ _ _, hlt⟩
  have hb2 : Below w.heap.size w w2 := by rw [hw2]; exact hb1'.alloc hb1'.size _
  have c2 := ht2.b.cell 0
  simp at c2
  obtain ⟨hb, hhb⟩ : ∃ hb, hb = w1.heap.size := ⟨_, rfl⟩
  have hbw : w.heap.size ≤ hb := by omega
  rw [← hhr] at ht2
  rw [← hhb] at ht2 c2
  have HT2 := Bx.mk ht2
  have HB2 := Bx.mk hb2
  have HC := Bx.mk (HV.out w2 (HE.out.below hb2))
  clear hl1 hb1 hb1' ht2 hb2 hlt L0 HB0
  go_upto_region 3 with fail
  rw [← hw2, ← hhr, ← hhb]
  clear hw2 hhr hhb
  cases o with
  | none =>
    have hC := HC.out
    unfold okV at hC
    dsimp only at hC
    have HC2 := Bx.mk hC
    clear hC
    go_wp2_with fail
    refine HC2.out.mono ?_
    rintro e w3 ⟨rfl, hb3⟩
    have ht3 := HT2.out.below hb3
    have f1 := ht3.b.frozen 1
    have k1 := ht3.b.cell 1
    simp at k1
    have ht4 := ht3.put x
    have g0 := ht4.r.frozen 0
    have g1 := ht4.r.frozen 1
    have r0 := ht4.r.cell 0
    have r1 := ht4.r.cell 1
    simp at r0 r1
    have HN := Bx.mk ht4.no
    have HBN := Bx.mk ((((HB2.out.trans (hb3.mono HB2.out.size)).setCell (p := ⟨hb, 1, none⟩) hbw (.string x)).setCell (p := ⟨hr, 0, none⟩) hrw (.int .u8 0)).setCell (p := ⟨hr, 1, none⟩) hrw (.string ⟨#[]⟩))
    clear ht3 ht4 hb3
    go_wp2
    exact bodyPost_ret (v := .tuple #[hv 0 ⟨#[]⟩, .int .i64 40]) (results_parse HN.out _ rfl rfl) rfl ⟨rfl, HBN.out⟩
  | some t =>
    have hC := HC.out
    unfold okV at hC
    dsimp only at hC
    have HC2 := Bx.mk hC
    clear hC
    go_wp2_with fail
    refine HC2.out.mono ?_
    rintro e w3 ⟨rfl, hb3⟩
    have ht3 := HT2.out.below hb3
    have f1 := ht3.b.frozen 1
    have k1 := ht3.b.cell 1
    simp at k1
    have ht4 := ht3.put t
    have g0 := ht4.r.frozen 0
    have g1 := ht4.r.frozen 1
    have r0 := ht4.r.cell 0
    have r1 := ht4.r.cell 1
    have b0 := ht4.b.cell 0
    have b1 := ht4.b.cell 1
    simp at r0 r1 b0 b1
    have HN := Bx.mk ht4.yes
    have HBN := Bx.mk ((((HB2.out.trans (hb3.mono HB2.out.size)).setCell (p := ⟨hb, 1, none⟩) hbw (.string t)).setCell (p := ⟨hr, 0, none⟩) hrw (.int .u8 2)).setCell (p := ⟨hr, 1, none⟩) hrw (.string t))
    clear ht3 ht4 hb3
    go_wp2
    exact bodyPost_ret (v := .tuple #[hv 2 t, .int .i64 0]) (results_parse HN.out _ rfl rfl) rfl ⟨rfl, HBN.out⟩
end Go.Proofs.YtefpplkoohnfbabGreatDoor.hw
