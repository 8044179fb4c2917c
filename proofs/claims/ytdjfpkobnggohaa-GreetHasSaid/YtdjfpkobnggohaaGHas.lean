/-
  Given for the seat's laws: GreetHas at any methods and both answers. No condition.
-/
import Derived.Test.YtdjfpkobnggohaaGAwake
import Derived.Deep.RegionWith
namespace Go.Proofs.Ytdjfpkobnggohaa.gr
open Go.RowKit mem
set_option linter.unusedVariables false

/-- a proposition, shut -/
structure Bx (p : Prop) : Prop where
  out : p
def MadeN (l : Str) (n : Nat) (w : World) (e : Ending) (w' : World) : Prop := ∃ A c, e = .returned (.slice A n c) ∧ Made w w' (.slice A n c) l
theorem answer_n (ok : Bool) {l : Str} (h : ans ok = l) (w : World) : Calls Try.prog 12 #[.bool ok] w (MadeN l 2 w) := by
  subst h
  have h := answer_any ok w
  unfold MadeOf at h
  rw [show (ans ok).length = 2 by cases ok <;> rfl] at h
  exact h
theorem ranswer_n (ok : Bool) {l : Str} (h : ans ok = l) (w : World) : Calls Try.prog 14 #[.bool ok] w (MadeN l 2 w) := by
  subst h
  have h := ranswer_any ok w
  unfold MadeOf at h
  rw [show (ans ok).length = 2 by cases ok <;> rfl] at h
  exact h
theorem greeting_n (w : World) : Calls Try.prog 13 #[] w (MadeN [5, 1, 2] 3 w) := greeting_any w
/-- the text of bytes of the call's own, wherever it goes on from there -/
theorem Made.text {w w1 : World} {A : Option Addr} {n c : Nat} {l : Str} (h : Made w w1 (.slice A n c) l) (hn : l.length = n) {W : World} (hb : Below w1.heap.size w1 W) : (convert 22 9 (.slice A n c)).run Try.prog W = .ok (.string (S l)) W :=
  spell_str (made_spell (h.fresh hb) hn)
abbrev lit3 : Array Value := #[.int .u8 5, .int .u8 1, .int .u8 2]
theorem lit_text (W : World) : (convert 22 9 (.slice (some ⟨W.heap.size, 0, none⟩) 3 3)).run Try.prog (W.alloc (.cells #[.int .u8 5, .int .u8 1, .int .u8 2] 5)) = .ok (.string (S [5, 1, 2])) (W.alloc (.cells #[.int .u8 5, .int .u8 1, .int .u8 2] 5)) :=
  spell_str (lit_spell W [5, 1, 2] 3 (0, 0) rfl (by omega))
theorem lit_after {W wg : World} {v : Value} {l : Str} (h : Made (W.alloc (.cells #[.int .u8 5, .int .u8 1, .int .u8 2] 5)) wg v l) : (convert 22 9 (.slice (some ⟨W.heap.size, 0, none⟩) 3 3)).run Try.prog wg = .ok (.string (S [5, 1, 2])) wg :=
  spell_str ((lit_spell W [5, 1, 2] 3 (0, 0) rfl (by omega)).below h.below (fun g hg => hg))

/-- both rows, each with its numbers, apart -/
structure TwoI (w wr : World) (A B : Option Addr) : Prop where
  a : Inc w wr A 2
  b : Inc w wr B 3
  ap : ∀ g, A = some ⟨g, 0, none⟩ → B = some ⟨g, 0, none⟩ → False
theorem Inc.far {w1 wr : World} {A : Option Addr} {n : Nat} (h : Inc w1 wr A n) {g i : Nat} (hg : w1.heap.size ≤ g) (hne : A ≠ some ⟨g, 0, none⟩) (v : Value) : Inc w1 (wr.setCell ⟨g, i, none⟩ v) A n := by
  refine ⟨h.below.setCell hg _, fun hp => ?_⟩
  obtain ⟨g', cur, rfl, hg', hl, hc⟩ := h.cells hp
  exact ⟨g', cur, rfl, hg', hl.far (fun e => hne (by rw [e])) v, hc⟩
theorem TwoI.fresh {w wr wz : World} {A B : Option Addr} (h : TwoI w wr A B) (hb : Below wr.heap.size wr wz) : TwoI w wz A B := ⟨h.a.fresh hb, h.b.fresh hb, h.ap⟩
theorem TwoI.atA {w wr : World} {A B : Option Addr} (h : TwoI w wr A B) {i : Nat} (hi : i < 2) : ∃ g z, A = some ⟨g, 0, none⟩ ∧ wr.cell? ⟨g, i, none⟩ = some (.int .u8 z) ∧ wr.frozen? ⟨g, i, none⟩ = false ∧ ∀ y, TwoI w (wr.setCell ⟨g, i, none⟩ (.int .u8 y)) A B := by
  obtain ⟨g, z, e, hg, hc, hf, hs⟩ := h.a.at hi
  exact ⟨g, z, e, hc, hf, fun y => ⟨hs y, h.b.far hg (fun e' => h.ap g e e') _, h.ap⟩⟩
theorem TwoI.atB {w wr : World} {A B : Option Addr} (h : TwoI w wr A B) {i : Nat} (hi : i < 3) : ∃ g z, B = some ⟨g, 0, none⟩ ∧ wr.cell? ⟨g, i, none⟩ = some (.int .u8 z) ∧ wr.frozen? ⟨g, i, none⟩ = false ∧ ∀ y, TwoI w (wr.setCell ⟨g, i, none⟩ (.int .u8 y)) A B := by
  obtain ⟨g, z, e, hg, hc, hf, hs⟩ := h.b.at hi
  exact ⟨g, z, e, hc, hf, fun y => ⟨h.a.far hg (fun e' => h.ap g e' e) _, hs y, h.ap⟩⟩
theorem two_of {w w1 w2 : World} {A B : Option Addr} {c d : Nat} {l : Str} (ha : Made w w1 (.slice A 2 c) l) (hl : l.length = 2) (hb : Made w1 w2 (.slice B 3 d) [5, 1, 2]) : TwoI w w2 A B := by
  refine ⟨(ha.fresh hb.below).inc hl, (hb.since ha.below).inc rfl, fun g ea eb => ?_⟩
  have h1 := own_lt ha.own (g := g) (by rw [ea]; rfl)
  have h2 := own_lt hb.own (g := g) (by rw [eb]; rfl)
  omega
theorem bool_ne (t : Bool) : (t != t) = false := by cases t <;> rfl

set_option maxHeartbeats 8000000 in
set_option maxRecDepth 100000 in
theorem has_walk {w : World} {A : Option Addr} {n c : Nat} {bs : List Int} (hs0 : Src w (fun g => g < w.heap.size) A n c bs) (ok : Bool) : Calls Try.prog 4 #[.slice A n c, .bool ok] w (True_ w) := by
  obtain ⟨b, rfl⟩ := ints_of hs0.rng
  have hs : Spell w (fun g => g < w.heap.size) A n c b := hs0
  by_cases h3 : 1000 < n
  · clear hs hs0
    go_enter Try.func4, Try.ntmps4
    go_wp2_with fail
    go_ret
    exact ⟨rfl, Below.refl _ _⟩
  · obtain ⟨l, hl⟩ : ∃ l, ans ok = l := ⟨_, rfl⟩
    have hll : l.length = 2 := by rw [← hl]; cases ok <;> rfl
    obtain ⟨t, ht⟩ : ∃ t, has b = t := ⟨_, rfl⟩
    have h1 : ∀ W, Below w.heap.size w W → Calls Try.prog 15 #[.slice A n c] W fun e w' => e = .returned (.bool t) ∧ w' = W := fun W hb => by
      rw [← ht]; exact has_any (hs.below hb (fun g hg => hg))
    have h2 : ∀ W, Below w.heap.size w W → Calls Try.prog 16 #[.slice A n c] W fun e w' => e = .returned (.bool t) ∧ w' = W := fun W hb => by
      rw [← ht]; exact rhas_any (hs.below hb (fun g hg => hg)) (by omega)
    have HH1 : Bx _ := ⟨h1⟩
    have HH2 : Bx _ := ⟨h2⟩
    have HA : Bx _ := ⟨answer_n ok hl⟩
    have HR : Bx _ := ⟨ranswer_n ok hl⟩
    have HLL : Bx _ := ⟨hll⟩
    have hsl := str_eq l
    have hs1 := hsl.1
    have hs2 := hsl.2
    have hsg := str_eq [5, 1, 2]
    have hg1 := hsg.1
    have hg2 := hsg.2
    have hbn := bool_ne t
    have hlit := lit_text
    clear hs hs0 hl hll ht h1 h2 hsl hsg
    go_enter Try.func4, Try.ntmps4
    go_wp2_with fail
    refine (HA.out _).mono ?_
    rintro e w1 ⟨A5, c5, rfl, hm1⟩
    have HM1 : Bx _ := ⟨hm1⟩
    clear hm1
    go_wp2_with fail
    refine (greeting_n _).mono ?_
    rintro e w2 ⟨A6, c6, rfl, hm2⟩
    have HM2 : Bx _ := ⟨hm2⟩
    have HTW : Bx _ := ⟨two_of HM1.out HLL.out hm2⟩
    have HM12 : Bx _ := ⟨HM1.out.fresh hm2.below⟩
    clear hm2 HM1
    go_upto_region 4 with fail
    go_cut [34] (fun s34 wx => s34 = .bool false ∧ Bx (TwoI w wx A5 A6))
    case first =>
      have k5 := HM12.out.text HLL.out (Below.refl _ w2).drew
      have k6 := HM2.out.text rfl (Below.refl _ w2).drew
      have bb : Below w2.heap.size w2 w2.drew := (Below.refl _ w2).drew
      go_region_with (first
        | (go_at_call 14; refine (HR.out _).mono ?_; rintro e w3 ⟨A18, c18, rfl, hm3⟩; replace bb := bb.trans (hm3.below.mono bb.size); have k5b := HM12.out.text HLL.out bb; have k6b := HM2.out.text rfl bb; have k6c := fun o => HM2.out.text rfl (bb.alloc bb.size o); have k18 := hm3.text HLL.out (Below.refl _ _); have B3 : Bx (∀ o, Below w.heap.size w (w3.alloc o)) := ⟨fun o => HM12.out.below.trans ((bb.alloc bb.size o).mono HM12.out.below.size)⟩; clear hm3)
        | (go_at_call 15; refine (HH1.out _ ?_).mono ?_; exact B3.out _; rintro e w4 ⟨rfl, rfl⟩)
        | (go_at_call 16; refine (HH2.out _ ?_).mono ?_; exact B3.out _; rintro e w4 ⟨rfl, rfl⟩))
      all_goals
        go_wp2_with fail
        go_meet
        exact ⟨rfl, ⟨HTW.out.fresh (bb.alloc bb.size _)⟩⟩
    case rest =>
      obtain ⟨rfl, HT⟩ := hcut
      clear HTW HM2 HM12
      go_wp2_with fail
      go_loopw [7] (fun s7 wr => ∃ i : Nat, i ≤ 2 ∧ s7 = .int .i64 (i : Int) ∧ Bx (TwoI w wr A5 A6)) (fun s7 _ => 2 - (intOf s7).toNat)
      case atStart => exact ⟨0, Nat.zero_le _, rfl, HT⟩
      case round =>
        clear HT
        obtain ⟨i, hi, rfl, HI⟩ := hrel
        by_cases hlt : i < 2
        · obtain ⟨g, z, rfl, hc, hf, hset⟩ := HI.out.atA hlt
          have HSet : Bx _ := ⟨hset⟩
          clear hset
          go_wp2_with fail
          go_roundw
          case rel => exact ⟨i + 1, by omega, by go_num, ⟨HSet.out _⟩⟩
          case measure => simp [intOf]; omega
        · obtain rfl : i = 2 := by omega
          go_wp2_with fail
          go_loopw [8] (fun s8 wr => ∃ j : Nat, j ≤ 3 ∧ s8 = .int .i64 (j : Int) ∧ Bx (TwoI w wr A5 A6)) (fun s8 _ => 3 - (intOf s8).toNat)
          case atStart => exact ⟨0, Nat.zero_le _, rfl, HI⟩
          case round =>
            clear HI
            obtain ⟨j, hj, rfl, HI⟩ := hrel
            by_cases hlt : j < 3
            · obtain ⟨g, z, rfl, hc, hf, hset⟩ := HI.out.atB hlt
              have HSet : Bx _ := ⟨hset⟩
              clear hset
              go_wp2_with fail
              go_roundw
              case rel => exact ⟨j + 1, by omega, by go_num, ⟨HSet.out _⟩⟩
              case measure => simp [intOf]; omega
            · obtain rfl : j = 3 := by omega
              go_upto_region 14 with fail
              have bb : Below w.heap.size w wr.drew := HI.out.a.below.drew
              clear HI
              go_region_with (first
                | (go_at_call 12; refine (HA.out _).mono ?_; rintro e w3 ⟨Aa, ca, rfl, ha⟩; replace bb := bb.trans (ha.below.mono bb.size); have ka := ha.text HLL.out (Below.refl _ _); (try (have kb2 := hb.text HLL.out ha.below)))
                | (go_at_call 14; refine (HR.out _).mono ?_; rintro e w3 ⟨Ab, cb, rfl, hb⟩; replace bb := bb.trans (hb.below.mono bb.size); have kb := hb.text HLL.out (Below.refl _ _); (try (have ka2 := ha.text HLL.out hb.below)))
                | (go_at_call 13; refine (greeting_n _).mono ?_; rintro e w4 ⟨Ag, cg, rfl, hg⟩; (first | (replace bb := bb.trans (hg.below.mono bb.size)) | (replace bb := (bb.alloc bb.size _).trans (hg.below.mono (bb.alloc bb.size _).size); have kl := lit_after hg)); have kg := hg.text rfl (Below.refl _ _); have kg2 := fun o => hg.text rfl ((Below.refl w4.heap.size w4).alloc (Nat.le_refl _) o)))
              all_goals
                go_wp2_with fail
                go_ret
                first | exact ⟨rfl, bb⟩ | exact ⟨rfl, bb.alloc bb.size _⟩
end Go.Proofs.Ytdjfpkobnggohaa.gr
