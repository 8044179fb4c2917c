/-
  Given for the seat's laws: SextetEncodes at any bytes and any number. No condition.
-/
import Derived.Test.YtiloeffnmkcaoaaSEnc
import Derived.Test.YtiloeffnmkcaoaaSDecodes
namespace Go.Proofs.Ytiloeffnmkcaoaa.sx
open Go.RowKit mem
set_option linter.unusedVariables false

/-- the empty literal is the call's own -/
theorem own_empty (w : World) : (w.alloc (.cells #[] 5)).ownsRow w.heap.size 5 1 (.slice (some ⟨w.heap.size, 0, none⟩) 0 0) 0 (B8 (ints [])) :=
  ⟨rfl, .inr ⟨w.heap.size, 0, #[], rfl, Nat.le_refl _, heap_alloc_new w _, Nat.le_refl _, by unfold maxLen; omega, rfl, rfl⟩⟩
theorem made_empty (w : World) : Made w (w.alloc (.cells #[] 5)) (.slice (some ⟨w.heap.size, 0, none⟩) (0 : Nat) 0) [] := ⟨own_empty w, (Below.refl _ _).alloc (Nat.le_refl _) _⟩
theorem mine {w : World} {ok : Nat → Prop} {A : Option Addr} {n c : Nat} {b : Str} (hs : Spell w ok A n c b) (hok : ∀ g, ok g → g < w.heap.size) (hl : n ≤ 10000) :
    ∃ A2 c2 w2, (Builtin.append_ #[22, 22] 22 #[.slice (some ⟨w.heap.size, 0, none⟩) 0 0, .slice A n c]).run Try.prog (w.alloc (.cells #[] 5)) = .ok (.slice A2 n c2) w2 ∧ Made w w2 (.slice A2 n c2) b := by
  have h1 := hs.below ((Below.refl w.heap.size w).alloc (Nat.le_refl _) (.cells #[] 5)) hok
  obtain ⟨A2, c2, w2, happ, hmd⟩ := (made_empty w).app (Below.refl _ _) h1 (by simp; omega)
  simp only [List.length_nil, Nat.zero_add, List.nil_append] at happ hmd
  exact ⟨A2, c2, w2, happ, hmd⟩
theorem made_spell {w wr : World} {A : Option Addr} {n c : Nat} {b : Str} (h : Made w wr (.slice A n c) b) (hn : b.length = n) : Spell wr (fun g => g < wr.heap.size) A n c b := by
  subst hn
  exact (own_spell h.own).weak fun g hg => hg.2.1

set_option maxHeartbeats 4000000 in
set_option maxRecDepth 100000 in
theorem encodes_walk {w : World} {A : Option Addr} {n c : Nat} {bs : List Int} (hs0 : Src w (fun g => g < w.heap.size) A n c bs) (m : Int) : Calls Try.prog 3 #[.slice A n c, .int .i64 m] w (True_ w) := by
  obtain ⟨b, rfl⟩ := ints_of hs0.rng
  have hs : Spell w (fun g => g < w.heap.size) A n c b := hs0
  have hbl := spell_len hs
  by_cases h3 : 3000 < n
  · clear hs hs0 hbl
    go_enter Try.func3, Try.ntmps3
    go_wp2_with fail
    go_ret
    exact ⟨rfl, Below.refl _ _⟩
  · by_cases hm : 10000 < m
    · clear hs hs0 hbl
      go_enter Try.func3, Try.ntmps3
      go_wp2_with fail
      go_ret
      exact ⟨rfl, Below.refl _ _⟩
    · obtain ⟨z, hz1, hz2⟩ : ∃ z : Nat, (∀ W, Calls Try.prog 10 #[.int .i64 m] W fun e w' => e = .returned (.int .i64 (z : Int)) ∧ w' = W) ∧ (∀ W, Calls Try.prog 11 #[.int .i64 m] W fun e w' => e = .returned (.int .i64 (z : Int)) ∧ w' = W) := by
        by_cases h0 : m < 0
        · exact ⟨0, fun W => size_low m h0 W, fun W => rsize_low m h0 W⟩
        · obtain ⟨k, rfl⟩ : ∃ k : Nat, m = (k : Int) := ⟨m.toNat, by omega⟩
          exact ⟨size k, fun W => size_any k (by omega) W, fun W => rsize_any k (by omega) W⟩
      obtain ⟨A2, c2, w2, happ, hmd⟩ := mine hs (fun g hg => hg) (by omega)
      have HE := Lib.hid (encode_any (made_spell hmd hbl) (by omega))
      have HZ1 := Lib.hid hz1
      have HZ2 := Lib.hid hz2
      have HAp := Lib.hid happ
      have HMd := Lib.hid hmd
      have HS := Lib.hid hs
      have HBL := Lib.hid hbl
      have hse := (str_eq (enc b)).1
      have hsb := (str_eq b).1
      clear hs hs0 hz1 hz2 happ hmd hbl
      go_enter Try.func3, Try.ntmps3
      go_wp2_with (at_builtin; refine wpList_append_eq rfl _ _ rfl rfl rfl rfl HAp.out ?_)
      go_wp2_with fail
      refine HE.out.mono ?_
      rintro e w3 ⟨rfl, hb3⟩
      have hmd3 := HMd.out.fresh hb3
      have HM3 := Lib.hid hmd3
      have hs3 : Spell w3 (fun g => g < w.heap.size) A n c b := HS.out.below hmd3.below (fun g hg => hg)
      have HR := Lib.hid (rencode_any hs3 (fun g hg => Nat.lt_of_lt_of_le hg hmd3.below.size) (by omega))
      clear hb3 hmd3 hs3
      go_wp2_with fail
      refine HR.out.mono ?_
      rintro e w4 ⟨rfl, hb4⟩
      have hmd4 := HM3.out.fresh hb4
      have hc1 := spell_str (made_spell hmd4 HBL.out)
      have hc2 := spell_str (HS.out.below hmd4.below (fun g hg => hg))
      have HB4 := Lib.hid hmd4.below
      clear hb4 hmd4
      go_wp2_with fail
      refine (HZ1.out _).mono ?_
      rintro e w5 ⟨rfl, rfl⟩
      go_wp2_with fail
      refine (HZ2.out _).mono ?_
      rintro e w6 ⟨rfl, rfl⟩
      go_wp2_with fail
      go_ret
      exact ⟨rfl, HB4.out⟩
end Go.Proofs.Ytiloeffnmkcaoaa.sx
