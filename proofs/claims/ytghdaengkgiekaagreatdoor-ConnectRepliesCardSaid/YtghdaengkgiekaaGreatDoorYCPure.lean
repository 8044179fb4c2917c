/-
  Given for the seat's laws: requests and responses of CONNECT as lists of bytes. Plain: nothing of the program. No condition.
-/
import Derived.Test.YtghdaengkgiekaaGreatDoorYKPure
import Derived.Test.YtghdaengkgiekaaGreatDoorYHParse
import Derived.Test.YtghdaengkgiekaaGreatDoorYSPure
import Derived.Test.YtghdaengkgiekaaGreatDoorYKPure4
import Derived.Test.YtghdaengkgiekaaGreatDoorYKConv
import Derived.Test.YtghdaengkgiekaaGreatDoorYKTake
import Derived.Test.YtghdaengkgiekaaGreatDoorYSMem
import Derived.Test.YtghdaengkgiekaaGreatDoorYKOn
import Derived.Laws.OwnMore
namespace Go.Proofs.YtghdaengkgiekaaGreatDoor.cn
open hd
set_option linter.unusedVariables false

/-- what is asked: the target, whether signed, user and password, whether there are tokens, these -/
structure A where
  k : Nat
  t : Str
  p : Int
  sg : Bool
  us : Str
  ps : Str
  hp : Bool
  tk : Str
  deriving DecidableEq
def zero : A := ⟨0, [], 0, false, [], [], false, []⟩

/-! ### base64 -/
def decS (s : Str) : Option Str := if s.length % 4 = 0 then (match sx.dgo 0 0 (sx.strip s) with
  | some (0, l) => some l
  | _ => none) else none
theorem decS_is (s : Str) : sx.Is s (decS s) := by
  unfold decS
  by_cases h : s.length % 4 = 0
  · rw [if_pos h]
    cases hd : sx.dgo 0 0 (sx.strip s) with
    | none => exact sx.is_none hd
    | some x =>
      obtain ⟨r, l⟩ := x
      cases r with
      | zero => exact sx.dgo_yes h hd
      | succ r => exact sx.is_left hd (by omega)
  · rw [if_neg h]
    exact sx.is_odd h
theorem decS_enc (b : Str) : decS (sx.enc b) = some b := (decS_is (sx.enc b)).uniq (sx.is_enc b)

/-! ### the parts of a request -/
def CONNECT : Str := [67, 79, 78, 78, 69, 67, 84]
def HTTP11 : Str := [72, 84, 84, 80, 47, 49, 46, 49]
def HTTP10 : Str := [72, 84, 84, 80, 47, 49, 46, 48]
def sHost : Str := [72, 111, 115, 116]
def sSign : Str := [80, 114, 111, 120, 121, 45, 65, 117, 116, 104, 111, 114, 105, 122, 97, 116, 105, 111, 110]
def sHops : Str := [72, 111, 112, 45, 84, 111, 107, 101, 110]
def sSize : Str := [67, 111, 110, 116, 101, 110, 116, 45, 76, 101, 110, 103, 116, 104]
def sCoded : Str := [84, 114, 97, 110, 115, 102, 101, 114, 45, 69, 110, 99, 111, 100, 105, 110, 103]
def basic : Str := [66, 97, 115, 105, 99]

/-- the target of a line, or the error's number -/
def tgt (l : Str) : Except Nat hostp.T := match hostp.cut 32 l with
  | [a, b, c] => if isN a = false ∨ b = [] ∨ c ≠ HTTP11 then .error 6 else if a ≠ CONNECT then .error 140 else match hostp.parseT b with
    | none => .error 6
    | some t => .ok t
  | _ => .error 6
/-- the credentials of a value -/
def cred (v : Str) : Str × Str × Bool :=
  if low (Lib.cut v [32]).1 ≠ low basic then ([], [], false)
  else match decS (Lib.cut v [32]).2.1 with
    | none => ([], [], false)
    | some b => if (Lib.cut b [58]).2.2 then ((Lib.cut b [58]).1, (Lib.cut b [58]).2.1, true) else ([], [], false)
def vs (fs : Flds) (n : Str) : List Str := vals fs (low n)
/-- what a head asks, or the error -/
def asked (l : Str) (fs : Flds) : A × Nat := match tgt l with
  | .error e => (zero, e)
  | .ok t =>
    if (vs fs sHost).length ≠ 1 ∨ 1 < (vs fs sSign).length ∨ 1 < (vs fs sHops).length ∨ 0 < (vs fs sSize).length + (vs fs sCoded).length then (zero, 6)
    else
      let c := match vs fs sSign with
        | [] => ([], [], false)
        | v :: _ => cred v
      let h := match vs fs sHops with
        | [] => (false, [])
        | v :: _ => (true, v)
      (⟨t.host.kind, t.host.text, t.port, c.2.2, c.1, c.2.1, h.1, h.2⟩, 0)
def ctake (b : Str) : A × Nat × Nat := match take b with
  | (l, fs, n, e) => if e ≠ 0 then (zero, 0, e) else match asked l fs with
    | (a, f) => if f ≠ 0 then (zero, 0, f) else (a, n, 0)

/-! ### responses -/
/-- the status of a line; 0: none -/
def dig (l : Str) : Nat := l.foldl (fun a c => a * 10 + (c.toNat - 48)) 0
def stat (l : Str) : Option Nat :=
  let f := (Lib.cut l [32]).1
  let d := (Lib.cut (Lib.cut l [32]).2.1 [32]).1
  if (f ≠ HTTP11 ∧ f ≠ HTTP10) ∨ d.length ≠ 3 then none
  else if d.all (fun c => decide (48 ≤ c.toNat) && decide (c.toNat ≤ 57)) = false then none
  else if dig d < 100 ∨ 599 < dig d then none else some (dig d)
def rtake (b : Str) : Nat × Nat × Nat := match take b with
  | (l, fs, n, e) => if e ≠ 0 then (0, 0, e) else match stat l with
    | none => (0, 0, 6)
    | some s => (s, n, 0)

/-! ### the chapter's examples -/
def str (s : String) : Str := s.toUTF8.data.toList
def eHead (x : Str) : Str := x
end Go.Proofs.YtghdaengkgiekaaGreatDoor.cn

/-
  Given for the seat's laws: strings.Split at one byte; strings.Cut at one byte. No condition but those of the theorems.
-/
namespace Go.Proofs.YtghdaengkgiekaaGreatDoor.cn
open Go.RowKit mem hd
set_option linter.unusedVariables false

theorem cut_count (a : UInt8) : ∀ l : Str, (hostp.cut a l).length = l.count a + 1
  | [] => by simp [hostp.cut]
  | c :: r => by
    have ih := cut_count a r
    obtain ⟨x, t, he⟩ : ∃ x t, hostp.cut a r = x :: t := by
      cases h : hostp.cut a r with
      | nil => exact absurd h (hostp.cut_ne a r)
      | cons x t => exact ⟨x, t, rfl⟩
    by_cases hc : c = a
    · subst hc
      rw [hostp.cut_at, List.length_cons, ih, List.count_cons_self]
    · rw [hostp.cut_other hc r he, List.length_cons, List.count_cons_of_ne (by simpa using fun e => hc e)]
      rw [he] at ih
      simpa using ih
theorem split_eq (a : UInt8) (l : Str) (k : Nat) (hk : k + 1 = (hostp.cut a l).length) : Lib.splitK [a] 0 k l = hostp.cut a l := by
  rw [hw.splitK_cut, if_neg (by omega)]
  have h1 : ((hostp.cut a l).drop k).length = 1 := by rw [List.length_drop]; omega
  obtain ⟨x, hx⟩ : ∃ x, (hostp.cut a l).drop k = [x] := by
    match h : (hostp.cut a l).drop k, h1 with
    | [x], _ => exact ⟨x, rfl⟩
  rw [hx]
  have h2 := List.take_append_drop k (hostp.cut a l)
  rw [hx] at h2
  exact h2
def SplitTo (l : List Str) (w : World) (e : Ending) (w' : World) : Prop :=
  e = .returned (.slice (some ⟨w.heap.size, 0, none⟩) l.length l.length) ∧ Below w.heap.size w w' ∧ ∀ j x, l[j]? = some x → w'.cell? ⟨w.heap.size, j, none⟩ = some (.string (S x))
theorem split_any (s : Str) (hs : s.length ≤ 3000) (w : World) (he : hw.Env w) : Calls Tryz.prog 87 #[.string (S s), .string ⟨#[32]⟩] w (SplitTo (hostp.cut 32 s) w) := by
  obtain ⟨m, hm⟩ := he.maxlen
  refine (Tryz.strings_Split (S s) ⟨#[32]⟩ m w (by rw [S_size]; omega) hm (by show 1 ≤ 1; omega)).mono ?_
  rintro e w' ⟨rfl, rfl⟩
  obtain ⟨k, hk⟩ : ∃ k, Lib.countB (S s) ⟨#[32]⟩ = k := ⟨_, rfl⟩
  have hd := Lib.splitB_data ⟨#[32]⟩ 0 k (S s)
  have hl := Lib.splitB_all ⟨#[32]⟩ (by show 1 ≤ 1; omega) 0 k (S s) hk
  have hc : k = s.count 32 := by
    rw [← hk]
    show Lib.count s [32] = _
    rw [Lib.count_one]
  rw [hk]
  have hcut := cut_count 32 s
  rw [show (⟨#[32]⟩ : ByteArray).data.toList = [32] from rfl, show (S s).data.toList = s from rfl, split_eq 32 s k (by omega)] at hd
  generalize Lib.splitB ⟨#[32]⟩ 0 k (S s) = B at *
  refine ⟨by rw [hcut, hc], (Below.refl _ w).alloc (Nat.le_refl _) _, fun j x hx => ?_⟩
  rw [← hd, List.getElem?_map] at hx
  obtain ⟨y, hy, rfl⟩ := Option.map_eq_some_iff.1 hx
  rw [(Lies.new w _ _).cell j, List.getElem?_toArray, List.getElem?_map, hy]
  rfl
theorem cut_any (s : Str) (hs : s.length ≤ 3000) (a : UInt8) (w : World) (he : hw.Env w) : Calls Tryz.prog 67 #[.string (S s), .string ⟨#[a]⟩] w fun e w' =>
    e = .returned (.tuple #[.string (S (Lib.cut s [a]).1), .string (S (Lib.cut s [a]).2.1), .bool (Lib.cut s [a]).2.2]) ∧ Below w.heap.size w w' := by
  obtain ⟨p, r, g, hc⟩ : ∃ p r g, Lib.cut s [a] = (p, r, g) := ⟨_, _, _, rfl⟩
  have h := hw.cutX (S s) ⟨#[a]⟩ (by rw [S_size]; exact hs) w he p r g hc
  rw [hc]
  exact h
theorem pt_any (s : Str) (hs : s.length ≤ 3000) (w : World) (he : hw.Env w) : Calls Tryz.prog 88 #[.string (S s)] w (Gives (hw.PTv (hostp.parseT s)) w) :=
  hw.parseTarget_any (S s) (by rw [S_size]; exact hs) w he
end Go.Proofs.YtghdaengkgiekaaGreatDoor.cn

/-
  Given for the seat's laws: the contract of connect.targetOf. No condition but those of the theorems.
-/
namespace Go.Proofs.YtghdaengkgiekaaGreatDoor.cn
open Go.RowKit mem hd
set_option linter.unusedVariables false

def TgV (x : Except Nat hostp.T) : Value := match x with
  | .error e => .tuple #[hw.tv 0 ⟨#[]⟩ 0, .int .i64 (e : Int)]
  | .ok t => .tuple #[hw.tv (t.host.kind : Int) (S t.host.text) t.port, .int .i64 0]
theorem results_tg {W : World} {h : Nat} {k : Int} {t : ByteArray} {p : Int} (hl : Lies W h 25 #[.int .u8 k, .string t, .int .i64 p]) (tmps : Array Value) (h2 : tmps[2]?.getD undef = .pointer (some ⟨h, 0, none⟩)) {v3 : Value} (h3 : tmps[3]?.getD undef = v3) :
    (results Tryz.f64 tmps).run Tryz.prog W = .ok (.tuple #[hw.tv k t p, v3]) W := by
  have c0 := hl.cell 0
  have c1 := hl.cell 1
  have c2 := hl.cell 2
  simp at c0 c1 c2
  unfold hw.tv
  simp [results, Tryz.results64, go_sem, h2, h3, c0, c1, c2]
theorem cut_mem (a : UInt8) : ∀ (l : Str) (x : Str), x ∈ hostp.cut a l → x.length ≤ l.length
  | [], x, h => by simp [hostp.cut] at h; simp [h]
  | c :: r, x, h => by
    obtain ⟨y, t, he⟩ : ∃ x t, hostp.cut a r = x :: t := by
      cases h : hostp.cut a r with
      | nil => exact absurd h (hostp.cut_ne a r)
      | cons x t => exact ⟨x, t, rfl⟩
    by_cases hc : c = a
    · subst hc
      rw [hostp.cut_at] at h
      rcases List.mem_cons.1 h with rfl | h
      · simp
      · have := cut_mem c r x h
        simp; omega
    · rw [hostp.cut_other hc r he] at h
      rcases List.mem_cons.1 h with rfl | h
      · have := cut_mem a r y (by rw [he]; simp)
        simp; omega
      · have := cut_mem a r x (by rw [he]; simp [h])
        simp; omega
theorem tg_put {w W : World} {hr : Nat} (h : hw.Res w W hr) (hh : w.heap.size ≤ hr) {l : Str} {e : Nat} (ht : tgt l = .error e) :
    Lies (((W.setCell ⟨hr, 0, none⟩ (.int .u8 0)).setCell ⟨hr, 1, none⟩ (.string ⟨#[]⟩)).setCell ⟨hr, 2, none⟩ (.int .i64 0)) hr 25 #[.int .u8 0, .string ⟨#[]⟩, .int .i64 0] ∧
      Gives (TgV (tgt l)) w (.returned (.tuple #[hw.tv 0 ⟨#[]⟩ 0, .int .i64 (e : Int)])) (((W.setCell ⟨hr, 0, none⟩ (.int .u8 0)).setCell ⟨hr, 1, none⟩ (.string ⟨#[]⟩)).setCell ⟨hr, 2, none⟩ (.int .i64 0)) := by
  obtain ⟨h1, h2⟩ := h.put hh 0 ⟨#[]⟩ 0
  exact ⟨h1, by rw [ht]; rfl, h2⟩
set_option maxRecDepth 100000 in
set_option maxHeartbeats 4000000 in
theorem targetOf_any {w : World} (he : hw.Env w) (l : Str) (hl : l.length ≤ 1000) : Calls Tryz.prog 64 #[.string (S l)] w (Gives (TgV (tgt l)) w) := by
  have hr0 : hw.Res w (w.alloc (.cells #[.int .u8 0, .string ⟨#[]⟩, .int .i64 0] 25)) w.heap.size := ⟨Lies.new _ _ _, (Below.refl _ w).alloc (Nat.le_refl _) _⟩
  obtain ⟨hr, hhr⟩ : ∃ hr, hr = w.heap.size := ⟨_, rfl⟩
  have hrw : w.heap.size ≤ hr := by omega
  obtain ⟨W0, hW0⟩ : ∃ W0, W0 = w.alloc (.cells #[.int .u8 0, .string ⟨#[]⟩, .int .i64 0] 25) := ⟨_, rfl⟩
  rw [← hhr, ← hW0] at hr0
  have R0 := Bx.mk hr0
  have HE := Bx.mk he
  have HSp := Bx.mk (split_any l (by omega) W0 (he.below hr0.b))
  obtain ⟨L, hL⟩ : ∃ L, hostp.cut 32 l = L := ⟨_, rfl⟩
  rw [hL] at HSp
  have HL := Bx.mk hL
  have HLl := Bx.mk hl
  have HRW := Bx.mk hrw
  clear he hr0 hL hl hrw
  go_enter Tryz.func64, Tryz.ntmps64
  go_upto_region 1 with fail
  rw [← hW0, ← hhr]
  clear hW0 hhr
  go_wp2_with fail
  refine HSp.out.mono ?_
  rintro e w1 ⟨rfl, hb1, hc1⟩
  have R1 := Bx.mk (R0.out.below hb1)
  have HE1 := Bx.mk (HE.out.below R1.out.b)
  have HC1 := Bx.mk hc1
  generalize W0.heap.size = g at *
  have c0 := R1.out.r.cell 0; have c1 := R1.out.r.cell 1; have c2 := R1.out.r.cell 2
  have f0 := R1.out.r.frozen 0; have f1 := R1.out.r.frozen 1; have f2 := R1.out.r.frozen 2
  simp at c0 c1 c2
  clear hb1 hc1 R0 HSp
  by_cases h3 : L.length = 3
  · obtain ⟨a, b, c, rfl⟩ : ∃ a b c, L = [a, b, c] := by
      match L, h3 with
      | [a, b, c], _ => exact ⟨a, b, c, rfl⟩
    have k0 := HC1.out 0 a rfl
    have k1 := HC1.out 1 b rfl
    have k2 := HC1.out 2 c rfl
    have hal := cut_mem 32 l a (by rw [HL.out]; simp)
    have hbl := cut_mem 32 l b (by rw [HL.out]; simp)
    have HNa := Bx.mk (Name_any a (by have := HLl.out; omega))
    have HPt := Bx.mk (pt_any b (by have := HLl.out; omega) w1 HE1.out)
    have ht : tgt l = (if isN a = false ∨ b = [] ∨ c ≠ HTTP11 then .error 6 else if a ≠ CONNECT then .error 140 else match hostp.parseT b with
      | none => .error 6
      | some t => .ok t) := by unfold tgt; rw [HL.out] <;> rfl
    simp only [List.length_cons, List.length_nil, Nat.zero_add, Nat.reduceAdd]
    clear h3 HC1 hal hbl
    cases hna : isN a with
    | false =>
      rw [hna] at HNa
      have HF := Bx.mk (tg_put R1.out HRW.out (l := l) (e := 6) (by rw [ht, if_pos (.inl hna)]))
      clear ht hna HL
      go_wp2_with fail
      refine (HNa.out _).mono ?_
      rintro e w2 ⟨rfl, hw2⟩
      replace hw2 := hw2.symm
      subst hw2
      go_wp2_with fail
      exact bodyPost_ret (results_tg HF.out.1 _ rfl rfl) rfl HF.out.2
    | true =>
    rw [hna] at HNa
    by_cases hb : b = []
    · have hem : (S b).toList.isEmpty = true := by rw [empty_iff, S_list]; exact decide_eq_true hb
      have HF := Bx.mk (tg_put R1.out HRW.out (l := l) (e := 6) (by rw [ht, if_pos (.inr (.inl hb))]))
      clear ht hna HL hb
      go_wp2_with fail
      refine (HNa.out _).mono ?_
      rintro e w2 ⟨rfl, hw2⟩
      replace hw2 := hw2.symm
      subst hw2
      go_wp2_with fail
      exact bodyPost_ret (results_tg HF.out.1 _ rfl rfl) rfl HF.out.2
    have hem : (S b).toList.isEmpty = false := by rw [empty_iff, S_list]; exact decide_eq_false hb
    by_cases hc : c = HTTP11
    · have hq2 : ((S c).toList == ([72, 84, 84, 80, 47, 49, 46, 49] : List UInt8)) = true := by rw [S_toList, hc]; rfl
      by_cases ha : a = CONNECT
      · have hq3 : ((S a).toList == ([67, 79, 78, 78, 69, 67, 84] : List UInt8)) = true := by rw [S_toList, ha]; rfl
        have ht2 : tgt l = (match hostp.parseT b with
          | none => .error 6
          | some t => .ok t) := by rw [ht, if_neg (by simp [hna, hb, hc]), if_neg (by simp [ha])]
        cases hp : hostp.parseT b with
        | none =>
          rw [hp] at HPt ht2
          dsimp only at ht2
          have hv : hw.PTv none = .tuple #[.agg #[.int .u8 0, .string ⟨#[]⟩, .int .i64 0], .int .i64 40] := rfl
          rw [hv] at HPt
          clear hv
          clear ht hna hb hp hc ha
          go_wp2_with fail
          refine (HNa.out _).mono ?_
          rintro e w2 ⟨rfl, hw2⟩
          replace hw2 := hw2.symm
          subst hw2
          go_wp2_with fail
          refine HPt.out.mono ?_
          rintro e w3 ⟨rfl, hb3⟩
          have R3 := Bx.mk (R1.out.below (hb3.alloc hb3.size (.cells #[.int .u8 0, .string ⟨#[]⟩, .int .i64 0] 25)))
          have HF := Bx.mk (tg_put R3.out HRW.out ht2)
          clear hb3 ht2 c0 c1 c2 f0 f1 f2 k0 k1 k2
          go_upto_region 7 with fail
          generalize w3.alloc (.cells #[.int .u8 0, .string ⟨#[]⟩, .int .i64 0] 25) = W3 at *
          have c0 := R3.out.r.cell 0; have c1 := R3.out.r.cell 1; have c2 := R3.out.r.cell 2
          have f0 := R3.out.r.frozen 0; have f1 := R3.out.r.frozen 1; have f2 := R3.out.r.frozen 2
          simp at c0 c1 c2
          go_wp2_with fail
          exact bodyPost_ret (v := .tuple #[hw.tv 0 ⟨#[]⟩ 0, .int .i64 6]) (results_tg HF.out.1 _ rfl rfl) rfl HF.out.2
        | some t =>
          rw [hp] at HPt ht2
          dsimp only at ht2
          obtain ⟨tk, hk⟩ : ∃ tk : Int, (t.host.kind : Int) = tk := ⟨_, rfl⟩
          obtain ⟨tt, htt⟩ : ∃ tt, S t.host.text = tt := ⟨_, rfl⟩
          obtain ⟨tp, hp2⟩ : ∃ tp, t.port = tp := ⟨_, rfl⟩
          have hv : hw.PTv (some t) = .tuple #[hw.tv tk tt tp, .int .i64 0] := by rw [← hk, ← htt, ← hp2]; rfl
          have hv2 : TgV (tgt l) = .tuple #[hw.tv tk tt tp, .int .i64 0] := by rw [ht2, ← hk, ← htt, ← hp2]; rfl
          rw [hv] at HPt
          unfold hw.tv at HPt
          clear ht ht2 hna hb hp hk htt hp2 hv hc ha
          go_wp2_with fail
          refine (HNa.out _).mono ?_
          rintro e w2 ⟨rfl, hw2⟩
          replace hw2 := hw2.symm
          subst hw2
          go_wp2_with fail
          refine HPt.out.mono ?_
          rintro e w3 ⟨rfl, hb3⟩
          have hal := Lies.new w3 25 #[.int .u8 tk, .string tt, .int .i64 tp]
          have R3 := Bx.mk (R1.out.below (hb3.alloc hb3.size (.cells #[.int .u8 tk, .string tt, .int .i64 tp] 25)))
          have HAL := Bx.mk hal
          have HPut := Bx.mk (R3.out.put HRW.out tk tt tp)
          have HF : Bx (Gives (TgV (tgt l)) w (.returned (.tuple #[hw.tv tk tt tp, .int .i64 0])) _) := ⟨⟨by rw [hv2], HPut.out.2⟩⟩
          clear hb3 hv2 c0 c1 c2 f0 f1 f2 k0 k1 k2 hal
          go_upto_region 7 with fail
          generalize w3.alloc (.cells #[.int .u8 tk, .string tt, .int .i64 tp] 25) = W3 at *
          generalize w3.heap.size = g3 at *
          have c0 := R3.out.r.cell 0; have c1 := R3.out.r.cell 1; have c2 := R3.out.r.cell 2
          have f0 := R3.out.r.frozen 0; have f1 := R3.out.r.frozen 1; have f2 := R3.out.r.frozen 2
          have d0 := HAL.out.cell 0; have d1 := HAL.out.cell 1; have d2 := HAL.out.cell 2
          simp at c0 c1 c2 d0 d1 d2
          go_wp2_with fail
          exact bodyPost_ret (results_tg HPut.out.1 _ rfl rfl) rfl HF.out
      · have hne : ((S a).toList == ([67, 79, 78, 78, 69, 67, 84] : List UInt8)) = false := by rw [S_toList]; exact beq_eq_false_iff_ne.2 ha
        have HF := Bx.mk (tg_put R1.out HRW.out (l := l) (e := 140) (by rw [ht, if_neg (by simp [hna, hb, hc]), if_pos ha]))
        clear ht hna HL hb ha hc
        go_wp2_with fail
        refine (HNa.out _).mono ?_
        rintro e w2 ⟨rfl, hw2⟩
        replace hw2 := hw2.symm
        subst hw2
        go_wp2_with fail
        exact bodyPost_ret (results_tg HF.out.1 _ rfl rfl) rfl HF.out.2
    · have hne : ((S c).toList == ([72, 84, 84, 80, 47, 49, 46, 49] : List UInt8)) = false := by rw [S_toList]; exact beq_eq_false_iff_ne.2 hc
      have HF := Bx.mk (tg_put R1.out HRW.out (l := l) (e := 6) (by rw [ht, if_pos (.inr (.inr hc))]))
      clear ht hna HL hb hc
      go_wp2_with fail
      refine (HNa.out _).mono ?_
      rintro e w2 ⟨rfl, hw2⟩
      replace hw2 := hw2.symm
      subst hw2
      go_wp2_with fail
      exact bodyPost_ret (results_tg HF.out.1 _ rfl rfl) rfl HF.out.2
  · have ht : tgt l = .error 6 := by
      unfold tgt
      rw [HL.out]
      match L, h3 with
      | [], _ => rfl
      | [_], _ => rfl
      | [_, _], _ => rfl
      | [_, _, _], h => exact absurd rfl h
      | _ :: _ :: _ :: _ :: _, _ => rfl
    obtain ⟨n, hn⟩ : ∃ n, L.length = n := ⟨_, rfl⟩
    rw [hn] at h3 ⊢
    have q : ((n : Int) != 3) = true := by simp; omega
    have HF := Bx.mk (tg_put R1.out HRW.out ht)
    clear ht h3 HL HC1 hn
    go_wp2_with fail
    exact bodyPost_ret (results_tg HF.out.1 _ rfl rfl) rfl HF.out.2
end Go.Proofs.YtghdaengkgiekaaGreatDoor.cn

/-
  Given for the seat's laws: the contract of connect.credentials. No condition but those of the theorems.
-/
namespace Go.Proofs.YtghdaengkgiekaaGreatDoor.cn
open Go.RowKit mem hd
set_option linter.unusedVariables false

def CrV (c : Str × Str × Bool) : Value := .tuple #[.string (S c.1), .string (S c.2.1), .bool c.2.2]
theorem cut_lens (s : Str) (a : UInt8) : (Lib.cut s [a]).1.length ≤ s.length ∧ (Lib.cut s [a]).2.1.length ≤ s.length := by
  rcases hw.cut_cases s [a] with ⟨x, y, h1, h2, _⟩ | ⟨h1, _⟩
  · rw [h1, h2]
    simp
    omega
  · rw [h1]
    simp
theorem enc_ge (b : Str) : b.length ≤ (sx.enc b).length := by
  rw [sx.enc_len]
  unfold sx.size
  omega
def DecV (o : Option Str) (w : World) (e : Ending) (w' : World) : Prop := match o with
  | some b => ∃ A c, e = .returned (.tuple #[.slice A b.length c, .int .i64 0]) ∧ (convert 29 9 (.slice A b.length c)).run Tryz.prog w' = .ok (.string (S b)) w' ∧ Below w.heap.size w w'
  | none => e = .returned (.tuple #[.slice none 0 0, .int .i64 6]) ∧ Below w.heap.size w w'
theorem dec_any (s : Str) (hs : s.length ≤ 3000) (w : World) : Calls Tryz.prog 89 #[.string (S s)] w (DecV (decS s) w) := by
  refine (sx.decode_any s (by omega) w).mono ?_
  rintro e w' (⟨b, A, c, hi, rfl, hm⟩ | ⟨hi, rfl, hb⟩)
  · rw [(decS_is s).uniq hi]
    exact ⟨A, c, rfl, sx.spell_str (sx.own_spell hm.own), hm.below⟩
  · rw [(decS_is s).uniq hi]
    exact ⟨rfl, hb⟩
set_option maxRecDepth 100000 in
set_option maxHeartbeats 4000000 in
theorem credentials_any {w : World} (he : hw.Env w) (v : Str) (hv : v.length ≤ 1000) : Calls Tryz.prog 66 #[.string (S v)] w (Gives (CrV (cred v)) w) := by
  obtain ⟨sc, tx, g, hc⟩ : ∃ p r g, Lib.cut v [32] = (p, r, g) := ⟨_, _, _, rfl⟩
  have hl := cut_lens v 32
  have hcr : cred v = (if low sc ≠ low basic then ([], [], false) else match decS tx with
    | none => ([], [], false)
    | some b => if (Lib.cut b [58]).2.2 then ((Lib.cut b [58]).1, (Lib.cut b [58]).2.1, true) else ([], [], false)) := by unfold cred; rw [hc] <;> rfl
  have h1 := cut_any v (by omega) 32 w he
  rw [hc] at hl h1
  dsimp only at hl h1
  have H1 := Bx.mk h1
  have HE := Bx.mk he
  have HLs := Bx.mk (Lower_any sc (by omega))
  have HLb : Bx (∀ w, Calls Tryz.prog 22 #[.string ⟨#[66, 97, 115, 105, 99]⟩] w (Gives (.string (S (low basic))) w)) := ⟨fun w => Lower_any basic (by decide) w⟩
  have HD := Bx.mk (dec_any tx (by omega))
  have HTl : Bx (tx.length ≤ 1000) := ⟨by omega⟩
  clear hc hl h1 he hv
  by_cases hb : low sc = low basic
  · rw [hb] at HLs
    have hbl : low basic = [98, 97, 115, 105, 99] := by decide
    cases hd : decS tx with
    | none =>
      rw [hd] at HD
      have HR : Bx (CrV (cred v) = .tuple #[.string ⟨#[]⟩, .string ⟨#[]⟩, .bool false]) := ⟨by rw [hcr, if_neg (by simp [hb]), hd]; rfl⟩
      clear hcr hb hd
      go_enter Tryz.func66, Tryz.ntmps66
      go_wp2_with fail
      refine H1.out.mono ?_
      rintro e w1 ⟨rfl, hb1⟩
      go_wp2_with fail
      refine (HLs.out _).mono ?_
      rintro e w2 ⟨rfl, hb2⟩
      go_wp2_with fail
      refine (HLb.out _).mono ?_
      rintro e w3 ⟨rfl, hb3⟩
      go_wp2_with fail
      refine (HD.out _).mono ?_
      rintro e w4 ⟨rfl, hb4⟩
      have HB := Bx.mk (((hb1.trans (hb2.mono hb1.size)).trans (hb3.mono (Nat.le_trans hb1.size hb2.size))).trans (hb4.mono (Nat.le_trans hb1.size (Nat.le_trans hb2.size hb3.size))))
      clear hb1 hb2 hb3 hb4
      go_wp2_with fail
      exact bodyPost_ret (v := .tuple #[.string ⟨#[]⟩, .string ⟨#[]⟩, .bool false]) (by simp [results, Tryz.results66, go_sem]) rfl ⟨by rw [HR.out], HB.out⟩
    | some b =>
      rw [hd] at HD
      have hbl2 : b.length ≤ 1000 := by
        have h := decS_is tx
        rw [hd] at h
        have h2 : sx.enc b = tx := h
        have := enc_ge b
        rw [h2] at this
        have := HTl.out
        omega
      obtain ⟨us, ps, ok, hcb⟩ : ∃ p r g, Lib.cut b [58] = (p, r, g) := ⟨_, _, _, rfl⟩
      have HC2 : Bx (∀ w, hw.Env w → Calls Tryz.prog 67 #[.string (S b), .string ⟨#[58]⟩] w fun e w' => e = .returned (.tuple #[.string (S us), .string (S ps), .bool ok]) ∧ Below w.heap.size w w') := ⟨fun w he => by
        have h := cut_any b (by omega) 58 w he
        rw [hcb] at h
        exact h⟩
      have hcr2 : cred v = if ok then (us, ps, true) else ([], [], false) := by rw [hcr, if_neg (by simp [hb]), hd]; dsimp only; rw [hcb]
      clear hcr hb hd hcb
      cases ok with
      | true =>
        have HR : Bx (CrV (cred v) = .tuple #[.string (S us), .string (S ps), .bool true]) := ⟨by rw [hcr2]; rfl⟩
        clear hcr2
        go_enter Tryz.func66, Tryz.ntmps66
        go_wp2_with fail
        refine H1.out.mono ?_
        rintro e w1 ⟨rfl, hb1⟩
        go_wp2_with fail
        refine (HLs.out _).mono ?_
        rintro e w2 ⟨rfl, hb2⟩
        go_wp2_with fail
        refine (HLb.out _).mono ?_
        rintro e w3 ⟨rfl, hb3⟩
        go_wp2_with fail
        refine (HD.out _).mono ?_
        rintro e w4 ⟨A4, c4, rfl, hcv, hb4⟩
        have HB := Bx.mk (((hb1.trans (hb2.mono hb1.size)).trans (hb3.mono (Nat.le_trans hb1.size hb2.size))).trans (hb4.mono (Nat.le_trans hb1.size (Nat.le_trans hb2.size hb3.size))))
        have HC3 := Bx.mk (HC2.out w4 (HE.out.below HB.out))
        clear hb1 hb2 hb3 hb4
        go_wp2_with fail
        refine HC3.out.mono ?_
        rintro e w5 ⟨rfl, hb5⟩
        have HB5 := Bx.mk (HB.out.trans (hb5.mono HB.out.size))
        clear hb5 hcv
        go_wp2_with fail
        exact bodyPost_ret (v := .tuple #[.string (S us), .string (S ps), .bool true]) (by simp [results, Tryz.results66, go_sem]) rfl ⟨by rw [HR.out], HB5.out⟩
      | false =>
        have HR : Bx (CrV (cred v) = .tuple #[.string ⟨#[]⟩, .string ⟨#[]⟩, .bool false]) := ⟨by rw [hcr2]; rfl⟩
        clear hcr2
        go_enter Tryz.func66, Tryz.ntmps66
        go_wp2_with fail
        refine H1.out.mono ?_
        rintro e w1 ⟨rfl, hb1⟩
        go_wp2_with fail
        refine (HLs.out _).mono ?_
        rintro e w2 ⟨rfl, hb2⟩
        go_wp2_with fail
        refine (HLb.out _).mono ?_
        rintro e w3 ⟨rfl, hb3⟩
        go_wp2_with fail
        refine (HD.out _).mono ?_
        rintro e w4 ⟨A4, c4, rfl, hcv, hb4⟩
        have HB := Bx.mk (((hb1.trans (hb2.mono hb1.size)).trans (hb3.mono (Nat.le_trans hb1.size hb2.size))).trans (hb4.mono (Nat.le_trans hb1.size (Nat.le_trans hb2.size hb3.size))))
        have HC3 := Bx.mk (HC2.out w4 (HE.out.below HB.out))
        clear hb1 hb2 hb3 hb4
        go_wp2_with fail
        refine HC3.out.mono ?_
        rintro e w5 ⟨rfl, hb5⟩
        have HB5 := Bx.mk (HB.out.trans (hb5.mono HB.out.size))
        clear hb5 hcv
        go_wp2_with fail
        exact bodyPost_ret (v := .tuple #[.string ⟨#[]⟩, .string ⟨#[]⟩, .bool false]) (by simp [results, Tryz.results66, go_sem]) rfl ⟨by rw [HR.out], HB5.out⟩
  · have hne := (str_ne hb).1
    have HR : Bx (CrV (cred v) = .tuple #[.string ⟨#[]⟩, .string ⟨#[]⟩, .bool false]) := ⟨by rw [hcr, if_pos hb]; rfl⟩
    clear hcr hb
    go_enter Tryz.func66, Tryz.ntmps66
    go_wp2_with fail
    refine H1.out.mono ?_
    rintro e w1 ⟨rfl, hb1⟩
    go_wp2_with fail
    refine (HLs.out _).mono ?_
    rintro e w2 ⟨rfl, hb2⟩
    go_wp2_with fail
    refine (HLb.out _).mono ?_
    rintro e w3 ⟨rfl, hb3⟩
    have HB := Bx.mk ((hb1.trans (hb2.mono hb1.size)).trans (hb3.mono (Nat.le_trans hb1.size hb2.size)))
    clear hb1 hb2 hb3
    go_wp2_with fail
    exact bodyPost_ret (v := .tuple #[.string ⟨#[]⟩, .string ⟨#[]⟩, .bool false]) (by simp [results, Tryz.results66, go_sem]) rfl ⟨by rw [HR.out], HB.out⟩
end Go.Proofs.YtghdaengkgiekaaGreatDoor.cn

/-
  Given for the seat's laws: the contract of connect.valuesOf. No condition but those of the theorems.
-/
namespace Go.Proofs.YtghdaengkgiekaaGreatDoor.cn
open Go.RowKit mem hd
set_option linter.unusedVariables false

/-- a row of texts onto a row of texts -/
theorem appRow {W : World} {B B2 : Nat} {A A' : Option Addr} {n c k c' : Nat} {l m : List Str} (h : RowS W B (.slice A n c) l) (hn : l.length = n) (hB : B ≤ W.heap.size) (h2 : RowS W B2 (.slice A' k c') m) (hk : m.length = k) (hl : n + k ≤ 100000) :
    ∃ A3 c3 W3, (Builtin.append_ #[50, 50] 50 #[.slice A n c, .slice A' k c']).run Tryz.prog W = .ok (.slice A3 (n + k : Nat) c3) W3 ∧ RowS W3 B (.slice A3 (n + k : Nat) c3) (l ++ m) ∧ Kp (fun j => (Value.slice A n c).ownBlock = some j) W W3 := by
  subst hn
  subst hk
  obtain ⟨i0, hinf, hz0, hz1, hz2⟩ := info_parts strInfo
  have el : (l ++ m).length = l.length + m.length := List.length_append
  have ev : strv (l ++ m) = strv l ++ strv m := by simp [strv]
  rcases h2.2 with ⟨hv, hx⟩ | ⟨g, cap, cur, hv, hb, hh, hnc, hm, hs, ht⟩
  · simp only [Value.slice.injEq] at hv
    obtain ⟨rfl, h0, rfl⟩ := hv
    have hm0 : m = [] := List.eq_nil_of_length_eq_zero h0
    subst hm0
    have hr := run_append_owned_none (P := Tryz.prog) W B 50 50 9 i0 1 Tryz.underlying50 hinf _ l.length (strv l) h
    exact ⟨A, c, W, hr, by simpa using h, ⟨rfl, rfl, rfl, Nat.le_refl _, fun _ _ _ => rfl⟩⟩
  · simp only [Value.slice.injEq, true_and] at hv
    obtain ⟨rfl, rfl⟩ := hv
    have hc := World.ownsRow.cells h2 (g := g) rfl
    obtain ⟨v', W', hr, ho, hg, _⟩ := run_append_own (P := Tryz.prog) W B 50 50 9 i0 _ 1 16 Tryz.underlying50 hinf hz0 hz1 hz2 rfl (by decide) _ _ _ h ⟨g, 0, none⟩ m.length c' (strv m) (by rw [strv_len]; omega) hc (by
      intro u hu
      obtain ⟨s, _, rfl⟩ := List.mem_map.1 hu
      rfl) (by unfold maxLen; omega) (by omega) hB
    obtain ⟨A3, c3, rfl⟩ := rown_form ho
    exact ⟨A3, c3, W', hr, by unfold RowS; rw [el, ev]; exact ho, ⟨hg.os, hg.tape, hg.output, hg.size, fun j hj hs => hg.block j hj (fun e => hs e.symm)⟩⟩
structure VO (w wr : World) (l : Str) (A : Option Addr) (n c : Nat) (A2 : Option Addr) (m d : Nat) (acc : List Str) : Prop where
  box : Lies wr w.heap.size 47 #[.string (S l), .slice A n c]
  row : RowS wr w.heap.size (.slice A2 m d) acc
  len : acc.length = m
  be : Below w.heap.size w wr
theorem VO.app {w wr W : World} {l : Str} {A : Option Addr} {n c : Nat} {A2 : Option Addr} {m d : Nat} {acc : List Str} (H : VO w wr l A n c A2 m d acc) (hb : Below wr.heap.size wr W) {B2 : Nat} {A' : Option Addr} {k c' : Nat} {v : List Str} (hr : RowS W B2 (.slice A' k c') v) (hk : v.length = k) (hl : m + k ≤ 100000) :
    ∃ A3 c3 W3, (Builtin.append_ #[50, 50] 50 #[.slice A2 m d, .slice A' k c']).run Tryz.prog W = .ok (.slice A3 (m + k : Nat) c3) W3 ∧ VO w W3 l A n c A3 (m + k) c3 (acc ++ v) := by
  have h1 : RowS W w.heap.size (.slice A2 m d) acc := rown_same H.row fun g hg => hb.block g (rown_lt H.row hg).2
  have hB : w.heap.size ≤ W.heap.size := Nat.le_trans H.be.size hb.size
  have hbox := H.box.below hb H.box.lt
  obtain ⟨A3, c3, W3, hrun, ho, hkp⟩ := appRow h1 H.len hB hr hk hl
  exact ⟨A3, c3, W3, hrun, hbox.of_same (hkp.block _ hbox.lt (rown_ne h1 hbox (by decide))), ho, by rw [List.length_append, H.len, hk], (H.be.trans (hb.mono H.be.size)).trans (RowS.kp_below h1 hB hkp)⟩
/-- texts that lie in a row -/
def NamesAt (w : World) (g off : Nat) (names : List Str) : Prop := ∀ j x, names[j]? = some x → w.cell? ⟨g, off + j, none⟩ = some (.string (S x))
theorem fl_take {names : List Str} {i : Nat} {x : Str} (h : names[i]? = some x) (f : Str → List Str) : (names.take (i + 1)).flatMap f = (names.take i).flatMap f ++ f x := by
  rw [List.take_add_one, h, List.flatMap_append]
  simp
set_option maxRecDepth 100000 in
set_option maxHeartbeats 4000000 in
theorem valuesOf_any {w : World} {ok : Nat → Prop} {A : Option Addr} {n c : Nat} {l : Str} {fs : Flds} (hf : FAt w ok A n c fs) (hok : ∀ g, ok g → g < w.heap.size) (hn : n ≤ 100) {g off : Nat} {names : List Str} {k ck : Nat} (hg : g < w.heap.size) (hna : NamesAt w g off names) (hk : names.length = k) (hk2 : k ≤ 10) (hnl : ∀ x ∈ names, x.length ≤ 100) :
    Calls Tryz.prog 65 #[.agg #[.string (S l), .slice A n c], .slice (some ⟨g, off, none⟩) k ck] w (ValsTo (names.flatMap fun x => vs fs x) w) := by
  have HN := Bx.mk hf.len
  have HF := Bx.mk hf
  have HO := Bx.mk hok
  have HNA := Bx.mk hna
  have HK := Bx.mk hk
  have HNL := Bx.mk hnl
  have hbox := Lies.new w 47 #[.string (S l), .slice A n c]
  have hbb : Below w.heap.size w (w.alloc (.cells #[.string (S l), .slice A n c] 47)) := (Below.refl _ _).alloc (Nat.le_refl _) _
  have HP0 : Bx (VO w (w.alloc (.cells #[.string (S l), .slice A n c] 47)) l A n c none 0 0 []) := ⟨⟨hbox, World.ownsRow_nil _ _ _ _, rfl, hbb⟩⟩
  clear hf hok hna hk hnl hbox hbb
  go_enter Tryz.func65, Tryz.ntmps65
  go_upto_region 1 with fail
  generalize w.alloc (.cells #[.string (S l), .slice A n c] 47) = W0 at *
  go_wp2_with fail
  go_loopw [5, 10] (fun s5 s10 wr => ∃ (i m d : Nat) (A2 : Option Addr), i ≤ k ∧ s10 = .int .i64 (i : Int) ∧ s5 = .slice A2 m d ∧ m ≤ i * 100 ∧ Bx (VO w wr l A n c A2 m d ((names.take i).flatMap fun x => vs fs x))) (fun _ s10 _ => k - (intOf s10).toNat)
  case atStart => exact ⟨0, 0, 0, none, by omega, rfl, rfl, by omega, HP0⟩
  case round =>
    clear HP0
    obtain ⟨i, m, d, A2, hi, rfl, rfl, hm, H⟩ := hrel
    by_cases hlt : i < k
    · obtain ⟨x, hx⟩ : ∃ x, names[i]? = some x := ⟨_, List.getElem?_eq_getElem (by rw [HK.out]; exact hlt)⟩
      have y0 : wr.cell? ⟨g, off + i, none⟩ = some (.string (S x)) := (H.out.be.cell hg).trans (HNA.out i x hx)
      have i0 : (0 : Int) ≤ (i : Int) := by omega
      have i1 : (i : Int) < (k : Int) := by omega
      have HX := Bx.mk hx
      have HLw := Bx.mk (Lower_any x (by have := HNL.out x (List.mem_of_getElem? hx); omega))
      have x0 := H.out.box.cell 0; have x1 := H.out.box.cell 1
      simp at x0 x1
      have HC : Bx (∀ W', Below wr.heap.size wr W' → W'.cell? ⟨w.heap.size, 0, none⟩ = some (.string (S l)) ∧ W'.cell? ⟨w.heap.size, 1, none⟩ = some (.slice A n c)) := ⟨fun W' hb => ⟨hd.cell_kept x0 hb, hd.cell_kept x1 hb⟩⟩
      have b0 : Below wr.heap.size wr wr.drew := (Below.refl _ _).drew
      clear hx x0 x1
      go_upto_region 5 with fail
      clear y0
      go_region_held3 (fun W' => W'.cell? ⟨w.heap.size, 0, none⟩ = some (.string (S l)) ∧ W'.cell? ⟨w.heap.size, 1, none⟩ = some (.slice A n c))
        (first | exact HC.out _ b0 | exact hS6)
        (first
          | (go_at_call 22; refine (HLw.out _).mono ?_; rintro e w3 ⟨rfl, hb3⟩; replace b0 := b0.trans (hb3.mono b0.size); have HV := Bx.mk (Values_any (l := l) (HF.out.below (H.out.be.trans (b0.mono H.out.be.size)) HO.out) (fun g hg => Nat.lt_of_lt_of_le (HO.out g hg) (Nat.le_trans H.out.be.size b0.size)) (by omega) (low x)); clear hb3)
          | (go_at_call 20; refine HV.out.mono ?_; rintro e w4 ⟨A5, c5, rfl, hr5, hb5⟩; replace b0 := b0.trans (hb5.mono b0.size); obtain ⟨k5, hk5⟩ : ∃ k5, (vals fs (low x)).length = k5 := ⟨_, rfl⟩; rw [hk5] at hr5 ⊢; have hk6 : k5 ≤ 100 := (by have := vals_len fs (low x); rw [hk5, HN.out] at this; omega); obtain ⟨A6, c6, W6, hrun, hvo⟩ := H.out.app b0 hr5 hk5 (by omega); have x0 := hvo.box.cell 0; have x1 := hvo.box.cell 1; simp at x0 x1; have hS6 : W6.cell? ⟨w.heap.size, 0, none⟩ = some (.string (S l)) ∧ W6.cell? ⟨w.heap.size, 1, none⟩ = some (.slice A n c) := ⟨x0, x1⟩; have HVO := Bx.mk hvo; clear hb5 hr5 hvo HV x0 x1)
          | (refine step_append_eq rfl _ _ 50 50 rfl rfl (by simp [Act.eval]) (by simp [Act.eval]) hrun ?_))
      have HNX : Bx (VO w W6 l A n c A6 (m + k5) c6 ((names.take (i + 1)).flatMap fun x => vs fs x)) := ⟨by rw [fl_take HX.out]; exact HVO.out⟩
      clear hrun HVO HC H HLw b0 hk5
      go_wp2_with fail
      go_roundw
      case rel => exact ⟨i + 1, m + k5, c6, A6, by omega, by go_num, rfl, by omega, HNX⟩
      case measure => simp [intOf]; omega
    · obtain rfl : k = i := by omega
      have e : names.take k = names := List.take_of_length_le (by rw [HK.out]; exact Nat.le_refl _)
      rw [e] at H
      have HE : Bx (ValsTo (names.flatMap fun x => vs fs x) w (.returned (.slice A2 m d)) wr) := ⟨A2, d, by rw [H.out.len], by rw [H.out.len]; exact H.out.row, H.out.be⟩
      clear e H
      go_wp2_with fail
      exact bodyPost_ret (v := .slice A2 m d) (by simp [results, Tryz.results65, go_sem]) rfl HE.out
end Go.Proofs.YtghdaengkgiekaaGreatDoor.cn
