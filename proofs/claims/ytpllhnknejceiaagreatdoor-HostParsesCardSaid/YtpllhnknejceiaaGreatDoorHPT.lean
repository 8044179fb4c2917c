/-
  Given for the seat's laws: the contract of host.ParseTarget. No condition but those of the theorems.
-/
import Derived.Test.YtpllhnknejceiaaGreatDoorHPTPure
namespace Go.Proofs.YtpllhnknejceiaaGreatDoor.hw
open Go.RowKit mem hostp
set_option linter.unusedVariables false

/-- a target as ParseTarget gives it -/
def PTv (o : Option T) : Value := match o with
  | some t => .tuple #[tv (t.host.kind : Int) (S t.host.text) t.port, .int .i64 0]
  | none => .tuple #[tv 0 ⟨#[]⟩ 0, .int .i64 40]

theorem cutX (s sep : ByteArray) (hs : s.size ≤ 3000) (w : World) (he : Env w) (p r : Str) (gap : Bool) (hc : Lib.cut s.data.toList sep.data.toList = (p, r, gap)) :
    Calls Tryz.prog 30 #[.string s, .string sep] w fun e w' => e = .returned (.tuple #[.string (S p), .string (S r), .bool gap]) ∧ Below w.heap.size w w' := by
  obtain ⟨m, hm⟩ := he.maxlen
  refine (Tryz.strings_Cut s sep m w (by omega) hm).mono ?_
  rintro e w' ⟨rfl, n, rfl⟩
  rw [hc]
  exact ⟨rfl, (Still.drewN w n).below _⟩
theorem pre_yes (s : ByteArray) (r : Str) (hs : s.data.toList = 91 :: r) (w : World) : Calls Tryz.prog 31 #[.string s, .string ⟨#[91]⟩] w fun e w' => e = .returned (.tuple #[.string (S r), .bool true]) ∧ w' = w := by
  have h := Tryz.strings_CutPrefix s ⟨#[91]⟩ w
  rw [hs] at h
  have e1 : Lib.hasPrefix (91 :: r) (⟨#[91]⟩ : ByteArray).data.toList = true := by simp [Lib.hasPrefix, List.isPrefixOf]
  have e2 : Lib.trimPrefix (91 :: r) (⟨#[91]⟩ : ByteArray).data.toList = r := by unfold Lib.trimPrefix; rw [if_pos e1]; rfl
  rw [e1, e2] at h
  exact h
theorem pre_no (s : ByteArray) (hs : s.data.toList.head? ≠ some 91) (w : World) : Calls Tryz.prog 31 #[.string s, .string ⟨#[91]⟩] w fun e w' => e = .returned (.tuple #[.string s, .bool false]) ∧ w' = w := by
  have h := Tryz.strings_CutPrefix s ⟨#[91]⟩ w
  have e1 : Lib.hasPrefix s.data.toList (⟨#[91]⟩ : ByteArray).data.toList = false := by
    unfold Lib.hasPrefix
    cases hl : s.data.toList with
    | nil => rfl
    | cons c r =>
      rw [hl] at hs
      have hc : c ≠ 91 := fun e => hs (by rw [e]; rfl)
      have : ((91 : UInt8) == c) = false := beq_eq_false_iff_ne.2 (fun e => hc e.symm)
      simp [List.isPrefixOf, this]
  have e2 : Lib.trimPrefix s.data.toList (⟨#[91]⟩ : ByteArray).data.toList = s.data.toList := by unfold Lib.trimPrefix; rw [e1]; rfl
  rw [e1, e2] at h
  exact h

/-- the port of a text, as ascii.Parse reads it -/
def portN (p : Str) : Option Nat := match dec p 65535 with
  | some n => if 1 ≤ n then some n else none
  | none => none
theorem withPort_portN (h : H) (p : Str) : withPort h p = (portN p).map fun n => ⟨h, (n : Int)⟩ := by
  unfold withPort portN
  cases dec p 65535 with
  | none => rfl
  | some n => by_cases h1 : 1 ≤ n <;> simp [h1]
theorem port_yes (s : ByteArray) (hs : s.size ≤ 3000) {n : Nat} (h : portN s.data.toList = some n) (w : World) : Calls Tryz.prog 32 #[.string s, .int .i64 1, .int .i64 65535] w fun e w' => e = .returned (.tuple #[.int .i64 (n : Int), .int .i64 0]) ∧ w = w' := by
  have hp := parseF_dec (l := s.data.toList) (m := 65535) (by omega) 1
  unfold portN at h
  refine (parse.parse_in s 1 65535 hs (by omega) (by omega) (by omega) w).mono ?_
  rintro e w' ⟨rfl, rfl⟩
  rw [show ((65535 : Nat) : Int) = 65535 from rfl] at hp
  cases hd : dec s.data.toList 65535 with
  | none => rw [hd] at h; cases h
  | some k =>
    rw [hd] at h hp
    dsimp only at h hp
    by_cases h1 : 1 ≤ k
    · rw [if_pos h1] at h
      obtain rfl := Option.some.inj h
      rw [if_pos (by omega)] at hp
      rw [hp]
      exact ⟨rfl, rfl⟩
    · rw [if_neg h1] at h; cases h
theorem port_no (s : ByteArray) (hs : s.size ≤ 3000) (h : portN s.data.toList = none) (w : World) : Calls Tryz.prog 32 #[.string s, .int .i64 1, .int .i64 65535] w fun e w' => e = .returned (.tuple #[.int .i64 0, .int .i64 6]) ∧ w = w' := by
  have hp := parseF_dec (l := s.data.toList) (m := 65535) (by omega) 1
  unfold portN at h
  refine (parse.parse_in s 1 65535 hs (by omega) (by omega) (by omega) w).mono ?_
  rintro e w' ⟨rfl, rfl⟩
  rw [show ((65535 : Nat) : Int) = 65535 from rfl] at hp
  cases hd : dec s.data.toList 65535 with
  | none =>
    rw [hd] at hp
    rw [hp]
    exact ⟨rfl, rfl⟩
  | some k =>
    rw [hd] at h hp
    dsimp only at h hp
    by_cases h1 : 1 ≤ k
    · rw [if_pos h1] at h; cases h
    · rw [if_neg (by omega)] at hp
      rw [hp]
      exact ⟨rfl, rfl⟩

theorem results_pt {W : World} {h : Nat} {k : Int} {t : ByteArray} {p : Int} (hl : Lies W h 30 #[.int .u8 k, .string t, .int .i64 p]) (tmps : Array Value) (h2 : tmps[2]?.getD undef = .pointer (some ⟨h, 0, none⟩)) {v3 : Value} (h3 : tmps[3]?.getD undef = v3) :
    (results Tryz.f10 tmps).run Tryz.prog W = .ok (.tuple #[tv k t p, v3]) W := by
  have c0 := hl.cell 0
  have c1 := hl.cell 1
  have c2 := hl.cell 2
  simp at c0 c1 c2
  unfold tv
  simp [results, Tryz.results10, go_sem, h2, h3, c0, c1, c2]

/-- the result's cells, in a world whose old ones are as they were -/
structure Res (w W : World) (hr : Nat) : Prop where
  r : Lies W hr 30 #[.int .u8 0, .string ⟨#[]⟩, .int .i64 0]
  b : Below w.heap.size w W
theorem Res.below {w W W' : World} {hr : Nat} (h : Res w W hr) (hw : Below W.heap.size W W') : Res w W' hr := ⟨h.r.below hw h.r.lt, h.b.trans (hw.mono h.b.size)⟩
theorem Res.put {w W : World} {hr : Nat} (h : Res w W hr) (hh : w.heap.size ≤ hr) (k : Int) (t : ByteArray) (p : Int) :
    Lies (((W.setCell ⟨hr, 0, none⟩ (.int .u8 k)).setCell ⟨hr, 1, none⟩ (.string t)).setCell ⟨hr, 2, none⟩ (.int .i64 p)) hr 30 #[.int .u8 k, .string t, .int .i64 p] ∧ Below w.heap.size w (((W.setCell ⟨hr, 0, none⟩ (.int .u8 k)).setCell ⟨hr, 1, none⟩ (.string t)).setCell ⟨hr, 2, none⟩ (.int .i64 p)) :=
  ⟨((h.r.set 0 (.int .u8 k)).set 1 (.string t)).set 2 (.int .i64 p), ((h.b.setCell (p := ⟨hr, 0, none⟩) hh _).setCell (p := ⟨hr, 1, none⟩) hh _).setCell (p := ⟨hr, 2, none⟩) hh _⟩

set_option maxRecDepth 100000 in
set_option maxHeartbeats 1600000 in
theorem pt_nb (s : ByteArray) (hs : s.size ≤ 3000) (w : World) (he : Env w) (h91 : s.data.toList.head? ≠ some 91) : Calls Tryz.prog 10 #[.string s] w (Gives (PTv (ptP s.data.toList)) w) := by
  obtain ⟨t, p, g1, hc1⟩ : ∃ x y g, Lib.cut s.data.toList [58] = (x, y, g) := ⟨_, _, _, rfl⟩
  have hsz : t.length ≤ 3000 ∧ p.length ≤ 3000 := by
    have hrl : s.data.toList.length ≤ 3000 := by rw [list_len]; exact hs
    rcases cut_cases s.data.toList [58] with ⟨x, y, h1, h2, _⟩ | ⟨h1, _⟩
    · rw [hc1] at h1
      simp only [Prod.mk.injEq] at h1
      obtain ⟨rfl, rfl, _⟩ := h1
      rw [h2] at hrl
      simp at hrl
      omega
    · rw [hc1] at h1
      simp only [Prod.mk.injEq] at h1
      obtain ⟨rfl, rfl, _⟩ := h1
      exact ⟨hrl, by simp⟩
  have hpt : ptP s.data.toList = (parse t).bind fun h => withPort h p := by
    unfold ptP
    rw [if_neg h91, hc1]
  have hcp := fun W => pre_no s h91 W
  have hk1 := fun W hW => cutX s ⟨#[58]⟩ hs W hW t p g1 hc1
  obtain ⟨w0, hw0⟩ : ∃ w0, w0 = w.alloc (.cells #[.int .u8 0, .string ⟨#[]⟩, .int .i64 0] 30) := ⟨_, rfl⟩
  have hr0 : Res w w0 w.heap.size := by rw [hw0]; exact ⟨Lies.new _ _ _, (Below.refl _ w).alloc (Nat.le_refl _) _⟩
  obtain ⟨hr, hhr⟩ : ∃ hr, hr = w.heap.size := ⟨_, rfl⟩
  have hrw : w.heap.size ≤ hr := by omega
  have HK1 := Bx.mk hk1
  have HCP := Bx.mk hcp
  have HPT0 := Bx.mk hpt
  have HE := Bx.mk he
  have hts : (S t).size ≤ 3000 := by rw [S_size]; exact hsz.1
  have hps : (S p).size ≤ 3000 := by rw [S_size]; exact hsz.2
  rw [← hhr] at hr0
  have R0 := Bx.mk hr0
  clear h91
  clear hk1 hcp hpt hc1 hsz he hr0
  go_enter Tryz.func10, Tryz.ntmps10
  go_upto_region 1 with fail
  rw [← hw0, ← hhr]
  clear hw0 hhr
  go_wp2_with fail
  refine (HK1.out _ (HE.out.below R0.out.b)).mono ?_
  rintro e w1 ⟨rfl, hb1⟩
  have R1 := Bx.mk (R0.out.below hb1)
  clear hb1
  go_wp2_with fail
  refine (HCP.out _).mono ?_
  rintro e w2 ⟨rfl, rfl⟩
  have hpp := parse_any (S t) hts _ (HE.out.below R1.out.b)
  rw [S_list] at hpp
  unfold HPv at hpp
  cases hpo : parse t with
  | none =>
    rw [hpo] at hpp
    dsimp only at hpp
    have hpt : ptP s.data.toList = none := by rw [HPT0.out, hpo]; rfl
    have HPT := Bx.mk hpt
    have HPP := Bx.mk hpp
    clear hpp hpt hpo
    go_wp2_with fail
    refine HPP.out.mono ?_
    rintro e w5 ⟨rfl, hb5⟩
    have R5 := (R1.out.below hb5).below ((Below.refl _ w5).alloc (Nat.le_refl _) (.cells #[.int .u8 0, .string ⟨#[]⟩] 23))
    clear hb5
    unfold hv
    have g0 := R5.r.frozen 0
    have g1 := R5.r.frozen 1
    have g2 := R5.r.frozen 2
    have r0 := R5.r.cell 0
    have r1 := R5.r.cell 1
    have r2 := R5.r.cell 2
    simp at r0 r1 r2
    obtain ⟨hno1, hno2⟩ := R5.put hrw 0 ⟨#[]⟩ 0
    have HN1 := Bx.mk hno1
    have HN2 := Bx.mk hno2
    clear hno1 hno2 R5
    go_wp2
    exact bodyPost_ret (v := .tuple #[tv 0 ⟨#[]⟩ 0, .int .i64 40]) (results_pt HN1.out _ rfl rfl) rfl ⟨by rw [HPT.out]; rfl, HN2.out⟩
  | some h =>
    rw [hpo] at hpp
    dsimp only at hpp
    obtain ⟨k, hk⟩ : ∃ k : Int, k = (h.kind : Int) := ⟨_, rfl⟩
    obtain ⟨tx, htx⟩ : ∃ tx, tx = S h.text := ⟨_, rfl⟩
    rw [← hk, ← htx] at hpp
    have HPP := Bx.mk hpp
    have HPO := Bx.mk hpo
    have HKK := Bx.mk hk
    have HTX := Bx.mk htx
    clear hpp hpo hk htx
    cases hport : portN p with
    | none =>
      have hno := fun W => port_no (S p) hps (by rw [S_list]; exact hport) W
      have hpt : ptP s.data.toList = none := by rw [HPT0.out, HPO.out]; show withPort h p = _; rw [withPort_portN, hport]; rfl
      have HPT := Bx.mk hpt
      have HNO := Bx.mk hno
      clear hno hpt hport
      go_wp2_with fail
      refine HPP.out.mono ?_
      rintro e w5 ⟨rfl, hb5⟩
      have R5 := (R1.out.below hb5).below ((Below.refl _ w5).alloc (Nat.le_refl _) (.cells #[.int .u8 k, .string tx] 23))
      clear hb5
      unfold hv
      have l5 := Lies.new w5 23 #[.int .u8 k, .string tx]
      have d0 := l5.cell 0
      simp at d0
      clear l5
      go_wp2_with fail
      refine (HNO.out _).mono ?_
      rintro e w6 ⟨rfl, rfl⟩
      have g0 := R5.r.frozen 0
      have g1 := R5.r.frozen 1
      have g2 := R5.r.frozen 2
      have r0 := R5.r.cell 0
      have r1 := R5.r.cell 1
      have r2 := R5.r.cell 2
      simp at r0 r1 r2
      obtain ⟨hno1, hno2⟩ := R5.put hrw 0 ⟨#[]⟩ 0
      have HN1 := Bx.mk hno1
      have HN2 := Bx.mk hno2
      clear hno1 hno2 R5
      go_wp2
      exact bodyPost_ret (v := .tuple #[tv 0 ⟨#[]⟩ 0, .int .i64 40]) (results_pt HN1.out _ rfl rfl) rfl ⟨by rw [HPT.out]; rfl, HN2.out⟩
    | some n =>
      have hyes := fun W => port_yes (S p) hps (n := n) (by rw [S_list]; exact hport) W
      have hpt : ptP s.data.toList = some ⟨h, (n : Int)⟩ := by rw [HPT0.out, HPO.out]; show withPort h p = _; rw [withPort_portN, hport]; rfl
      have HPT := Bx.mk hpt
      have HNO := Bx.mk hyes
      clear hyes hpt hport
      go_wp2_with fail
      refine HPP.out.mono ?_
      rintro e w5 ⟨rfl, hb5⟩
      have R5 := (R1.out.below hb5).below ((Below.refl _ w5).alloc (Nat.le_refl _) (.cells #[.int .u8 k, .string tx] 23))
      clear hb5
      unfold hv
      have l5 := Lies.new w5 23 #[.int .u8 k, .string tx]
      have d0 := l5.cell 0
      have d1 := l5.cell 1
      simp at d0 d1
      clear l5
      go_wp2_with fail
      refine (HNO.out _).mono ?_
      rintro e w6 ⟨rfl, rfl⟩
      have g0 := R5.r.frozen 0
      have g1 := R5.r.frozen 1
      have g2 := R5.r.frozen 2
      have r0 := R5.r.cell 0
      have r1 := R5.r.cell 1
      have r2 := R5.r.cell 2
      simp at r0 r1 r2
      obtain ⟨hno1, hno2⟩ := R5.put hrw k tx (n : Int)
      have HN1 := Bx.mk hno1
      have HN2 := Bx.mk hno2
      clear hno1 hno2 R5
      go_wp2
      exact bodyPost_ret (v := .tuple #[tv k tx (n : Int), .int .i64 0]) (results_pt HN1.out _ rfl rfl) rfl ⟨by rw [HPT.out, HKK.out, HTX.out]; rfl, HN2.out⟩

set_option maxRecDepth 100000 in
set_option maxHeartbeats 1600000 in
theorem pt_br (s : ByteArray) (hs : s.size ≤ 3000) (w : World) (he : Env w) (r : Str) (hl : s.data.toList = 91 :: r) : Calls Tryz.prog 10 #[.string s] w (Gives (PTv (ptP s.data.toList)) w) := by
  have hrl : r.length ≤ 3000 := by have := congrArg List.length hl; rw [list_len] at this; simp at this; omega
  obtain ⟨x1, y1, g1, hc1⟩ : ∃ x y g, Lib.cut s.data.toList [58] = (x, y, g) := ⟨_, _, _, rfl⟩
  obtain ⟨t, p, g2, hc2⟩ : ∃ x y g, Lib.cut r [93, 58] = (x, y, g) := ⟨_, _, _, rfl⟩
  have hsz : t.length ≤ 3000 ∧ p.length ≤ 3000 := by
    rcases cut_cases r [93, 58] with ⟨x, y, h1, h2, _⟩ | ⟨h1, _⟩
    · rw [hc2] at h1
      simp only [Prod.mk.injEq] at h1
      obtain ⟨rfl, rfl, _⟩ := h1
      rw [h2] at hrl
      simp at hrl
      omega
    · rw [hc2] at h1
      simp only [Prod.mk.injEq] at h1
      obtain ⟨rfl, rfl, _⟩ := h1
      exact ⟨hrl, by simp⟩
  have hpt : ptP s.data.toList = (parse t).bind fun h => if h.kind = 2 then withPort h p else none := by
    unfold ptP
    rw [hl, if_pos (show (91 :: r).head? = some 91 from rfl)]
    show (parse (Lib.cut r [93, 58]).1).bind (fun h => if h.kind = 2 then withPort h (Lib.cut r [93, 58]).2.1 else none) = _
    rw [hc2]
  have hcp := fun W => pre_yes s r hl W
  have hk2 := fun W hW => cutX (S r) ⟨#[93, 58]⟩ (by rw [S_size]; exact hrl) W hW t p g2 (by rw [S_list]; exact hc2)
  have hk1 := fun W hW => cutX s ⟨#[58]⟩ hs W hW x1 y1 g1 hc1
  obtain ⟨w0, hw0⟩ : ∃ w0, w0 = w.alloc (.cells #[.int .u8 0, .string ⟨#[]⟩, .int .i64 0] 30) := ⟨_, rfl⟩
  have hr0 : Res w w0 w.heap.size := by rw [hw0]; exact ⟨Lies.new _ _ _, (Below.refl _ w).alloc (Nat.le_refl _) _⟩
  obtain ⟨hr, hhr⟩ : ∃ hr, hr = w.heap.size := ⟨_, rfl⟩
  have hrw : w.heap.size ≤ hr := by omega
  have HK1 := Bx.mk hk1
  have HCP := Bx.mk hcp
  have HPT0 := Bx.mk hpt
  have HE := Bx.mk he
  have hts : (S t).size ≤ 3000 := by rw [S_size]; exact hsz.1
  have hps : (S p).size ≤ 3000 := by rw [S_size]; exact hsz.2
  rw [← hhr] at hr0
  have R0 := Bx.mk hr0
  have HK2 := Bx.mk hk2
  clear hk2 hc2 hrl hl
  clear hk1 hcp hpt hc1 hsz he hr0
  go_enter Tryz.func10, Tryz.ntmps10
  go_upto_region 1 with fail
  rw [← hw0, ← hhr]
  clear hw0 hhr
  go_wp2_with fail
  refine (HK1.out _ (HE.out.below R0.out.b)).mono ?_
  rintro e w1 ⟨rfl, hb1⟩
  have R1 := Bx.mk (R0.out.below hb1)
  clear hb1
  go_wp2_with fail
  refine (HCP.out _).mono ?_
  rintro e w2 ⟨rfl, rfl⟩
  go_wp2_with fail
  refine (HK2.out _ (HE.out.below R1.out.b)).mono ?_
  rintro e w3 ⟨rfl, hb3⟩
  have R3 := Bx.mk (R1.out.below hb3)
  clear hb3
  have hpp := parse_any (S t) hts _ (HE.out.below R3.out.b)
  rw [S_list] at hpp
  unfold HPv at hpp
  cases hpo : parse t with
  | none =>
    rw [hpo] at hpp
    dsimp only at hpp
    have hpt : ptP s.data.toList = none := by rw [HPT0.out, hpo]; rfl
    have HPT := Bx.mk hpt
    have HPP := Bx.mk hpp
    clear hpp hpt hpo
    go_wp2_with fail
    refine HPP.out.mono ?_
    rintro e w5 ⟨rfl, hb5⟩
    have R5 := (R3.out.below hb5).below ((Below.refl _ w5).alloc (Nat.le_refl _) (.cells #[.int .u8 0, .string ⟨#[]⟩] 23))
    clear hb5
    unfold hv
    have g0 := R5.r.frozen 0
    have g1 := R5.r.frozen 1
    have g2 := R5.r.frozen 2
    have r0 := R5.r.cell 0
    have r1 := R5.r.cell 1
    have r2 := R5.r.cell 2
    simp at r0 r1 r2
    obtain ⟨hno1, hno2⟩ := R5.put hrw 0 ⟨#[]⟩ 0
    have HN1 := Bx.mk hno1
    have HN2 := Bx.mk hno2
    clear hno1 hno2 R5
    go_wp2
    exact bodyPost_ret (v := .tuple #[tv 0 ⟨#[]⟩ 0, .int .i64 40]) (results_pt HN1.out _ rfl rfl) rfl ⟨by rw [HPT.out]; rfl, HN2.out⟩
  | some h =>
    rw [hpo] at hpp
    dsimp only at hpp
    obtain ⟨k, hk⟩ : ∃ k : Int, k = (h.kind : Int) := ⟨_, rfl⟩
    obtain ⟨tx, htx⟩ : ∃ tx, tx = S h.text := ⟨_, rfl⟩
    rw [← hk, ← htx] at hpp
    have HPP := Bx.mk hpp
    have HPO := Bx.mk hpo
    have HKK := Bx.mk hk
    have HTX := Bx.mk htx
    clear hpp hpo hk htx
    by_cases hk2 : h.kind = 2
    · have hkb : (k != 2) = false := by rw [HKK.out, hk2]; rfl
      have HK2b := Bx.mk hk2
      clear hk2
      cases hport : portN p with
      | none =>
        have hno := fun W => port_no (S p) hps (by rw [S_list]; exact hport) W
        have hpt : ptP s.data.toList = none := by rw [HPT0.out, HPO.out]; show (if h.kind = 2 then withPort h p else none) = _; rw [if_pos HK2b.out]; rw [withPort_portN, hport]; rfl
        have HPT := Bx.mk hpt
        have HNO := Bx.mk hno
        clear hno hpt hport
        go_wp2_with fail
        refine HPP.out.mono ?_
        rintro e w5 ⟨rfl, hb5⟩
        have R5 := (R3.out.below hb5).below ((Below.refl _ w5).alloc (Nat.le_refl _) (.cells #[.int .u8 k, .string tx] 23))
        clear hb5
        unfold hv
        have l5 := Lies.new w5 23 #[.int .u8 k, .string tx]
        have d0 := l5.cell 0
        simp at d0
        clear l5
        go_wp2_with fail
        refine (HNO.out _).mono ?_
        rintro e w6 ⟨rfl, rfl⟩
        have g0 := R5.r.frozen 0
        have g1 := R5.r.frozen 1
        have g2 := R5.r.frozen 2
        have r0 := R5.r.cell 0
        have r1 := R5.r.cell 1
        have r2 := R5.r.cell 2
        simp at r0 r1 r2
        obtain ⟨hno1, hno2⟩ := R5.put hrw 0 ⟨#[]⟩ 0
        have HN1 := Bx.mk hno1
        have HN2 := Bx.mk hno2
        clear hno1 hno2 R5
        go_wp2
        exact bodyPost_ret (v := .tuple #[tv 0 ⟨#[]⟩ 0, .int .i64 40]) (results_pt HN1.out _ rfl rfl) rfl ⟨by rw [HPT.out]; rfl, HN2.out⟩
      | some n =>
        have hyes := fun W => port_yes (S p) hps (n := n) (by rw [S_list]; exact hport) W
        have hpt : ptP s.data.toList = some ⟨h, (n : Int)⟩ := by rw [HPT0.out, HPO.out]; show (if h.kind = 2 then withPort h p else none) = _; rw [if_pos HK2b.out]; rw [withPort_portN, hport]; rfl
        have HPT := Bx.mk hpt
        have HNO := Bx.mk hyes
        clear hyes hpt hport
        go_wp2_with fail
        refine HPP.out.mono ?_
        rintro e w5 ⟨rfl, hb5⟩
        have R5 := (R3.out.below hb5).below ((Below.refl _ w5).alloc (Nat.le_refl _) (.cells #[.int .u8 k, .string tx] 23))
        clear hb5
        unfold hv
        have l5 := Lies.new w5 23 #[.int .u8 k, .string tx]
        have d0 := l5.cell 0
        have d1 := l5.cell 1
        simp at d0 d1
        clear l5
        go_wp2_with fail
        refine (HNO.out _).mono ?_
        rintro e w6 ⟨rfl, rfl⟩
        have g0 := R5.r.frozen 0
        have g1 := R5.r.frozen 1
        have g2 := R5.r.frozen 2
        have r0 := R5.r.cell 0
        have r1 := R5.r.cell 1
        have r2 := R5.r.cell 2
        simp at r0 r1 r2
        obtain ⟨hno1, hno2⟩ := R5.put hrw k tx (n : Int)
        have HN1 := Bx.mk hno1
        have HN2 := Bx.mk hno2
        clear hno1 hno2 R5
        go_wp2
        exact bodyPost_ret (v := .tuple #[tv k tx (n : Int), .int .i64 0]) (results_pt HN1.out _ rfl rfl) rfl ⟨by rw [HPT.out, HKK.out, HTX.out]; rfl, HN2.out⟩
    · have hkb : (k != 2) = true := by
        have : k ≠ 2 := by rw [HKK.out]; omega
        simpa using this
      have hpt : ptP s.data.toList = none := by rw [HPT0.out, HPO.out]; show (if h.kind = 2 then withPort h p else none) = _; rw [if_neg hk2]
      have HPT := Bx.mk hpt
      clear hk2 hpt
      go_wp2_with fail
      refine HPP.out.mono ?_
      rintro e w5 ⟨rfl, hb5⟩
      have R5 := (R3.out.below hb5).below ((Below.refl _ w5).alloc (Nat.le_refl _) (.cells #[.int .u8 k, .string tx] 23))
      clear hb5
      unfold hv
      have l5 := Lies.new w5 23 #[.int .u8 k, .string tx]
      have d0 := l5.cell 0
      simp at d0
      clear l5
      have g0 := R5.r.frozen 0
      have g1 := R5.r.frozen 1
      have g2 := R5.r.frozen 2
      have r0 := R5.r.cell 0
      have r1 := R5.r.cell 1
      have r2 := R5.r.cell 2
      simp at r0 r1 r2
      obtain ⟨hno1, hno2⟩ := R5.put hrw 0 ⟨#[]⟩ 0
      have HN1 := Bx.mk hno1
      have HN2 := Bx.mk hno2
      clear hno1 hno2 R5
      go_wp2
      exact bodyPost_ret (v := .tuple #[tv 0 ⟨#[]⟩ 0, .int .i64 40]) (results_pt HN1.out _ rfl rfl) rfl ⟨by rw [HPT.out]; rfl, HN2.out⟩

theorem parseTarget_any (s : ByteArray) (hs : s.size ≤ 3000) (w : World) (he : Env w) : Calls Tryz.prog 10 #[.string s] w (Gives (PTv (parseT s.data.toList)) w) := by
  rw [← ptP_eq]
  by_cases h : s.data.toList.head? = some 91
  · cases hl : s.data.toList with
    | nil => rw [hl] at h; simp at h
    | cons c r =>
      rw [hl] at h
      simp at h
      subst h
      rw [← hl]
      exact pt_br s hs w he r hl
  · exact pt_nb s hs w he h
end Go.Proofs.YtpllhnknejceiaaGreatDoor.hw
