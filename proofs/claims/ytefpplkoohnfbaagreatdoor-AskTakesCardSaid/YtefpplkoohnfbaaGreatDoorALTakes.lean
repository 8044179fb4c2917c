/-
  Given for the seat's laws: AskTakes at any bytes. No condition but those of the theorem.
-/
import Derived.Test.YtefpplkoohnfbaaGreatDoorARefR
namespace Go.Proofs.YtefpplkoohnfbaaGreatDoor.ak
open Go.RowKit mem hostp hw own
set_option linter.unusedVariables false

theorem rtake_as {w : World} {A : Option Addr} {n c : Nat} {b : Str} (hs : Spell w (fun g => g < w.heap.size) A n c b) (hn : n ≤ 1000) {x : TK} (h : tk b = x) : Calls Tryz.prog 9 #[.slice A n c] w (TakeV (.tuple #[.agg #[.int .u8 (x.kind : Int), .string (S x.text), .int .i64 (x.port : Int)], .int .i64 (x.n : Int), .int .i64 (x.e : Int)]) w) := by
  have h1 := rtake_any hs hn
  rw [h] at h1
  exact h1
theorem rrep_as {w : World} {ok : Nat → Prop} {A : Option Addr} {n c : Nat} {b : Str} (hs : Spell w ok A n c b) (hn : n ≤ 1000) {x : CH} (h : ch b = x) : Calls Tryz.prog 11 #[.slice A n c] w (TakeV (.tuple #[.int .u8 (x.num : Int), .int .i64 (x.n : Int), .int .i64 (x.e : Int)]) w) := by
  have h1 := rrep_any hs hn
  rw [h] at h1
  exact h1
set_option maxHeartbeats 4000000 in
set_option maxRecDepth 100000 in
theorem takes_walk {w : World} {A : Option Addr} {n c : Nat} {bs : List Int} (hs0 : Src w (fun g => g < w.heap.size) A n c bs) (he : Env w) : Calls Tryz.prog 3 #[.slice A n c] w (True_ w) := by
  obtain ⟨b, rfl⟩ := ints_of hs0.rng
  have hs : Spell w (fun g => g < w.heap.size) A n c b := hs0
  have hbl := spell_len hs
  by_cases h3 : 1000 < n
  · clear hs hs0 hbl he
    go_enter Tryz.func3, Tryz.ntmps3
    go_wp2_with fail
    go_ret
    exact ⟨rfl, Below.refl _ _⟩
  · obtain ⟨A2, c2, w2, happ, hmd⟩ := mine hs (fun g hg => hg) (by omega)
    obtain ⟨x, htk⟩ : ∃ x, tk b = x := ⟨_, rfl⟩
    obtain ⟨y, hch⟩ : ∃ y, ch b = y := ⟨_, rfl⟩
    have HAp := Bx.mk happ
    have HMd := Bx.mk hmd
    have HS := Bx.mk hs
    have HBL := Bx.mk hbl
    have HTK := Bx.mk htk
    have HCH := Bx.mk hch
    have HE := Bx.mk he
    have hs1 := (str_eq x.text).1
    have hsb := (str_eq b).1
    have hn3 : ¬ (1000 : Int) < (n : Int) := by omega
    clear hs hs0 happ hmd hbl htk hch he
    go_enter Tryz.func3, Tryz.ntmps3
    go_wp2_with (at_builtin; refine wpList_append_eq rfl _ _ rfl rfl rfl rfl HAp.out ?_)
    have HT1 : Bx (Calls Tryz.prog 8 #[.slice A2 n c2] w2 _) := ⟨take_as (x := x) (made_spell HMd.out HBL.out) (fun g hg => hg) (by omega) (HE.out.below HMd.out.below) HTK.out⟩
    refine HT1.out.mono ?_
    rintro e w3 ⟨rfl, hb3⟩
    have hb3a := hb3.alloc hb3.size (.cells #[.int .u8 (x.kind : Int), .string (S x.text), .int .i64 (x.port : Int)] 26)
    have HM3 := Bx.mk (Made.fresh HMd.out hb3a)
    have HL3 := Bx.mk (Lies.new w3 26 #[.int .u8 (x.kind : Int), .string (S x.text), .int .i64 (x.port : Int)])
    clear hb3 hb3a HMd HT1
    go_upto_region 5 with fail
    generalize w3.alloc (.cells #[.int .u8 (x.kind : Int), .string (S x.text), .int .i64 (x.port : Int)] 26) = W3 at *
    generalize w3.heap.size = g3 at *
    have hsW := (HS.out.below HM3.out.below (fun g hg => hg)).weak (fun g hg => Nat.lt_of_lt_of_le hg HM3.out.below.size)
    have HT2 : Bx (Calls Tryz.prog 9 #[.slice A n c] W3 _) := ⟨rtake_as (x := x) hsW (by omega) HTK.out⟩
    clear hsW
    go_wp2_with fail
    refine HT2.out.mono ?_
    rintro e w4 ⟨rfl, hb4⟩
    have hb4a := hb4.alloc hb4.size (.cells #[.int .u8 (x.kind : Int), .string (S x.text), .int .i64 (x.port : Int)] 26)
    have HM4 := Bx.mk (Made.fresh HM3.out hb4a)
    have HL3b := Bx.mk (HL3.out.below hb4a HL3.out.lt)
    have HL4 := Bx.mk (Lies.new w4 26 #[.int .u8 (x.kind : Int), .string (S x.text), .int .i64 (x.port : Int)])
    clear hb4 hb4a HM3 HL3 HT2
    go_upto_region 6 with fail
    generalize w4.alloc (.cells #[.int .u8 (x.kind : Int), .string (S x.text), .int .i64 (x.port : Int)] 26) = W4 at *
    generalize w4.heap.size = g4 at *
    have HT3 : Bx (Calls Tryz.prog 10 #[.slice A2 n c2] W4 _) := ⟨rep_as (x := y) (made_spell HM4.out HBL.out) (fun g hg => hg) (by omega) HCH.out⟩
    go_wp2_with fail
    refine HT3.out.mono ?_
    rintro e w5 ⟨rfl, hb5⟩
    have HM5 := Bx.mk (Made.fresh HM4.out hb5)
    have HL5 := Bx.mk (HL3b.out.below hb5 HL3b.out.lt)
    have HL6 := Bx.mk (HL4.out.below hb5 HL4.out.lt)
    clear hb5 HM4 HL3b HL4 HT3
    have hsW := HS.out.below HM5.out.below (fun g hg => hg)
    have HT4 : Bx (Calls Tryz.prog 11 #[.slice A n c] w5 _) := ⟨rrep_as (x := y) hsW (by omega) HCH.out⟩
    clear hsW
    go_wp2_with fail
    refine HT4.out.mono ?_
    rintro e w6 ⟨rfl, hb6⟩
    have HM6 := Bx.mk (Made.fresh HM5.out hb6)
    have l1 := HL5.out.below hb6 HL5.out.lt
    have l2 := HL6.out.below hb6 HL6.out.lt
    have q1 := spell_str (made_spell HM6.out HBL.out)
    have q2 := spell_str (HS.out.below HM6.out.below (fun g hg => hg))
    have c0 := l1.cell 0; have c1 := l1.cell 1; have c2' := l1.cell 2
    have d0 := l2.cell 0; have d1 := l2.cell 1; have d2 := l2.cell 2
    simp at c0 c1 c2' d0 d1 d2
    clear hb6 HM5 HL5 HL6 l1 l2 HT4
    go_wp2_with fail
    go_ret
    exact ⟨rfl, HM6.out.below⟩
end Go.Proofs.YtefpplkoohnfbaaGreatDoor.ak
