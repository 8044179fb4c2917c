/-
  Given for the seat's laws: GreetTakes at any bytes. No condition.
-/
import Derived.Test.YtdjfpkobnggohaaGFns
namespace Go.Proofs.Ytdjfpkobnggohaa.gr
open Go.RowKit mem
set_option linter.unusedVariables false

def TakeAs (l : Str) (k p q : Nat) (w : World) (e : Ending) (w' : World) : Prop := ∃ A c, e = .returned (.tuple #[.slice A k c, .int .i64 (p : Int), .int .i64 (q : Int)]) ∧ Made w w' (.slice A k c) l
theorem take_as {w : World} {ok : Nat → Prop} {A : Option Addr} {n c : Nat} {b l : Str} {k p q : Nat} (hs : Spell w ok A n c b) (hok : ∀ g, ok g → g < w.heap.size) (h : tk b = (l, p, q)) (hk : l.length = k) : Calls Try.prog 8 #[.slice A n c] w (TakeAs l k p q w) := by
  have h1 := take_any hs hok
  rw [h] at h1
  subst hk
  exact h1
theorem rtake_as {w : World} {ok : Nat → Prop} {A : Option Addr} {n c : Nat} {b l : Str} {k p q : Nat} (hs : Spell w ok A n c b) (hok : ∀ g, ok g → g < w.heap.size) (hl : n ≤ 10000) (h : tk b = (l, p, q)) (hk : l.length = k) : Calls Try.prog 9 #[.slice A n c] w (TakeAs l k p q w) := by
  have h1 := rtake_any hs hok hl
  rw [h] at h1
  subst hk
  exact h1
theorem ans_as {w : World} {ok : Nat → Prop} {A : Option Addr} {n c : Nat} {b : Str} {m p q : Nat} (hs : Spell w ok A n c b) (h : ch b = (m, p, q)) : Calls Try.prog 10 #[.slice A n c] w fun e w' => e = .returned (.tuple #[.int .u8 (m : Int), .int .i64 (p : Int), .int .i64 (q : Int)]) ∧ w' = w := by
  have h1 := ans_any hs
  rw [h] at h1
  exact h1
theorem rans_as {w : World} {ok : Nat → Prop} {A : Option Addr} {n c : Nat} {b : Str} {m p q : Nat} (hs : Spell w ok A n c b) (h : ch b = (m, p, q)) : Calls Try.prog 11 #[.slice A n c] w fun e w' => e = .returned (.tuple #[.int .u8 (m : Int), .int .i64 (p : Int), .int .i64 (q : Int)]) ∧ w' = w := by
  have h1 := rans_any hs
  rw [h] at h1
  exact h1

/-- bytes of the call's own, each with a number, whichever -/
structure Inc (w1 wr : World) (A : Option Addr) (n : Nat) : Prop where
  below : Below w1.heap.size w1 wr
  cells : 0 < n → ∃ g cur, A = some ⟨g, 0, none⟩ ∧ w1.heap.size ≤ g ∧ Lies wr g 5 cur ∧ ∀ j, j < n → ∃ z, cur[j]? = some (.int .u8 z)
theorem Made.inc {w1 w2 : World} {A : Option Addr} {n c : Nat} {l : Str} (h : Made w1 w2 (.slice A n c) l) (hn : l.length = n) : Inc w1 w2 A n := by
  refine ⟨h.below, fun hp => ?_⟩
  rcases h.own.2 with ⟨hv, _⟩ | ⟨g, cap, cur, hv, hb, hh, hnc, hm, hs, ht⟩
  · simp only [Value.slice.injEq] at hv
    omega
  · simp only [Value.slice.injEq] at hv
    obtain ⟨rfl, _, _⟩ := hv
    refine ⟨g, cur, rfl, hb, hh, fun j hj => ?_⟩
    have hz : (B8 (ints l))[j]? = some (.int .u8 ((l[j]'(by omega)).toNat : Int)) := by simp [B8, ints, hj, hn]
    rw [← ht, Nat.mul_one, List.getElem?_take] at hz
    split at hz
    · exact ⟨_, by simpa using hz⟩
    · cases hz
theorem Inc.fresh {w1 wr wz : World} {A : Option Addr} {n : Nat} (h : Inc w1 wr A n) (hb : Below wr.heap.size wr wz) : Inc w1 wz A n := by
  refine ⟨h.below.trans (hb.mono h.below.size), fun hp => ?_⟩
  obtain ⟨g, cur, e, hg, hl, hc⟩ := h.cells hp
  exact ⟨g, cur, e, hg, hl.below hb hl.lt, hc⟩
theorem Inc.at {w1 wr : World} {A : Option Addr} {n : Nat} (h : Inc w1 wr A n) {i : Nat} (hi : i < n) : ∃ g z, A = some ⟨g, 0, none⟩ ∧ w1.heap.size ≤ g ∧ wr.cell? ⟨g, i, none⟩ = some (.int .u8 z) ∧ wr.frozen? ⟨g, i, none⟩ = false ∧ ∀ y, Inc w1 (wr.setCell ⟨g, i, none⟩ (.int .u8 y)) A n := by
  obtain ⟨g, cur, rfl, hg, hl, hc⟩ := h.cells (by omega)
  obtain ⟨z, hz⟩ := hc i hi
  refine ⟨g, z, rfl, hg, by rw [hl.cell]; exact hz, hl.frozen i, fun y => ⟨h.below.setCell hg _, fun _ => ⟨g, _, rfl, hg, hl.set i _, fun j hj => ?_⟩⟩⟩
  obtain ⟨u, hu⟩ := hc j hj
  have hsz := (Array.getElem?_eq_some_iff.1 hu).1
  by_cases e : i = j
  · subst e; exact ⟨y, by simp [hsz]⟩
  · exact ⟨u, by simp [e, hu]⟩

set_option maxHeartbeats 4000000 in
set_option maxRecDepth 100000 in
theorem takes_walk {w : World} {A : Option Addr} {n c : Nat} {bs : List Int} (hs0 : Src w (fun g => g < w.heap.size) A n c bs) : Calls Try.prog 3 #[.slice A n c] w (True_ w) := by
  obtain ⟨b, rfl⟩ := ints_of hs0.rng
  have hs : Spell w (fun g => g < w.heap.size) A n c b := hs0
  have hbl := spell_len hs
  by_cases h3 : 1000 < n
  · clear hs hs0 hbl
    go_enter Try.func3, Try.ntmps3
    go_wp2_with fail
    go_ret
    exact ⟨rfl, Below.refl _ _⟩
  · obtain ⟨A2, c2, w2, happ, hmd⟩ := mine hs (fun g hg => hg) (by omega)
    obtain ⟨l, p, q, htk⟩ : ∃ l p q, tk b = (l, p, q) := ⟨_, _, _, rfl⟩
    obtain ⟨k, hk⟩ : ∃ k, l.length = k := ⟨_, rfl⟩
    obtain ⟨m, r, s, hch⟩ : ∃ m r s, ch b = (m, r, s) := ⟨_, _, _, rfl⟩
    have hkb : k ≤ 1000 := by
      have : l.length ≤ b.length := by
        have h1 : l = (tk b).1 := by rw [htk]
        rw [h1]
        rcases way b with h | ⟨v, r, h, hv⟩ | h | ⟨r, h⟩ | ⟨k, ms, h, hk, hl⟩ | ⟨k, ms, h, hk, hl⟩ <;> subst h
        · simp [tk_nil]
        · simp [tk_other hv]
        · simp [tk_one]
        · simp [tk_zero]
        · simp [tk_short hk hl]
        · simp [tk_whole hk hl]; omega
      omega
    have HSM := Lib.hid (made_spell hmd hbl)
    have HT := Lib.hid (take_as (made_spell hmd hbl) (fun g hg => hg) htk hk)
    have HTK := Lib.hid htk
    have HCH := Lib.hid hch
    have HK := Lib.hid hk
    have HAp := Lib.hid happ
    have HMd := Lib.hid hmd
    have HS := Lib.hid hs
    have HBL := Lib.hid hbl
    have hsl := str_eq l
    have hsl1 := hsl.1
    have hsl2 := hsl.2
    have hsb := (str_eq b).1
    clear hs hs0 happ hmd hbl htk hk hch hsl
    go_enter Try.func3, Try.ntmps3
    go_wp2_with (at_builtin; refine wpList_append_eq rfl _ _ rfl rfl rfl rfl HAp.out ?_)
    go_wp2_with fail
    refine HT.out.mono ?_
    rintro e w3 ⟨A3, c3, rfl, hm3⟩
    have hb3 := (HMd.out.fresh hm3.below).below
    have HR := Lib.hid (rtake_as (HS.out.below hb3 (fun g hg => hg)) (fun g hg => Nat.lt_of_lt_of_le hg hb3.size) (by omega) HTK.out HK.out)
    have HM3 := Lib.hid hm3
    clear hm3 hb3
    go_wp2_with fail
    refine HR.out.mono ?_
    rintro e w4 ⟨A4, c4, rfl, hm4⟩
    have hm3' := HM3.out.fresh hm4.below
    have hcm := spell_str (made_spell hm3' HK.out)
    have hcl := spell_str (made_spell hm4 HK.out)
    have HI4 := Lib.hid (hm3'.inc HK.out)
    clear hm4 hm3'
    go_wp2_with fail
    clear hcm hcl
    go_loopw [10] (fun s10 wr => ∃ i : Nat, i ≤ k ∧ s10 = .int .i64 (i : Int) ∧ Hid (Inc w2 wr A3 k)) (fun s10 _ => k - (intOf s10).toNat)
    case atStart => exact ⟨0, Nat.zero_le _, rfl, HI4⟩
    case round =>
      clear HI4
      obtain ⟨i, hi, rfl, HI⟩ := hrel
      by_cases hlt : i < k
      · obtain ⟨g, z, rfl, hg, hc, hf, hset⟩ := HI.out.at hlt
        have HSet := Lib.hid hset
        clear hset
        go_wp2_with fail
        go_roundw
        case rel => exact ⟨i + 1, by omega, by go_num, Lib.hid (HSet.out _)⟩
        case measure => simp [intOf]; omega
      · have hbr := HI.out.below
        have hsm : Spell wr (fun g => g < w2.heap.size) A2 n c2 b := HSM.out.below hbr (fun g hg => hg)
        have hbw : Below w.heap.size w wr := HMd.out.below.trans (hbr.mono HMd.out.below.size)
        have hsw : Spell wr (fun g => g < w.heap.size) A n c b := HS.out.below hbw (fun g hg => hg)
        have hc1 := spell_str hsm
        have hc2 := spell_str hsw
        have HA1 := Lib.hid (ans_as hsm HCH.out)
        have HA2 := Lib.hid (rans_as hsw HCH.out)
        have HBW := Lib.hid hbw
        clear hbr hsm hbw hsw
        go_wp2_with fail
        refine HA1.out.mono ?_
        rintro e w5 ⟨rfl, rfl⟩
        go_wp2_with fail
        refine HA2.out.mono ?_
        rintro e w6 ⟨rfl, rfl⟩
        go_wp2_with fail
        go_ret
        exact ⟨rfl, HBW.out⟩
end Go.Proofs.Ytdjfpkobnggohaa.gr
