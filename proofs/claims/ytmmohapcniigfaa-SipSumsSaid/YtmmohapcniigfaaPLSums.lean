/-
  Given for the seat's laws: SipSums at any key and any bytes. No condition.
-/
import Derived.Test.YtmmohapcniigfaaPSums
namespace Go.Proofs.Ytmmohapcniigfaa.sp
open Go.RowKit mem
set_option linter.unusedVariables false

set_option maxHeartbeats 4000000 in
set_option maxRecDepth 100000 in
theorem sums_walk {w : World} (k0 k1 : W64) {A : Option Addr} {n c : Nat} {bs : List Int} (hs0 : Src w (fun g => g < w.heap.size) A n c bs) : Calls Try.prog 3 #[.int .u64 (num k0), .int .u64 (num k1), .slice A n c] w (True_ w) := by
  obtain ⟨b, rfl⟩ := ints_of hs0.rng
  have hs : Spell w (fun g => g < w.heap.size) A n c b := hs0
  have hbl := spell_len hs
  by_cases h3 : 2000 < n
  · clear hs hs0 hbl
    go_enter Try.func3, Try.ntmps3
    go_wp2_with fail
    go_ret
    exact ⟨rfl, Below.refl _ _⟩
  · obtain ⟨A2, c2, w2, happ, hmd⟩ := mine hs (fun g hg => hg) (by omega)
    have HE := Lib.hid (sum_any k0 k1 (made_spell hmd hbl) (fun g h => h))
    have HAp := Lib.hid happ
    have HMd := Lib.hid hmd
    have HS := Lib.hid hs
    have HBL := Lib.hid hbl
    have hsb := (str_eq b).1
    clear hs hs0 happ hmd hbl
    go_enter Try.func3, Try.ntmps3
    go_wp2_with (at_builtin; refine wpList_append_eq rfl _ _ rfl rfl rfl rfl HAp.out ?_)
    refine HE.out.mono ?_
    rintro e w3 ⟨rfl, hb3⟩
    have hmd3 := HMd.out.fresh hb3
    have hs3 := HS.out.below hmd3.below (fun g hg => hg)
    have HM3 := Lib.hid hmd3
    have HR := Lib.hid (rsum_any k0 k1 hs3 (fun g hg => Nat.lt_of_lt_of_le hg hmd3.below.size) (by omega))
    clear hb3 hmd3 hs3
    go_wp2_with fail
    refine HR.out.mono ?_
    rintro e w4 ⟨rfl, hb4⟩
    have hmd4 := HM3.out.fresh hb4
    have hc1 := spell_str (made_spell hmd4 HBL.out)
    have hc2 := spell_str (HS.out.below hmd4.below (fun g hg => hg))
    have HB4 := Lib.hid hmd4.below
    clear hb4 hmd4
    go_wp2_with fail
    go_ret
    exact ⟨rfl, HB4.out⟩
theorem sums_at {w : World} {a0 a1 : Int} (h0 : 0 ≤ a0 ∧ a0 < 18446744073709551616) (h1 : 0 ≤ a1 ∧ a1 < 18446744073709551616) {A : Option Addr} {n c : Nat} {bs : List Int} (hs0 : Src w (fun g => g < w.heap.size) A n c bs) : Calls Try.prog 3 #[.int .u64 a0, .int .u64 a1, .slice A n c] w (True_ w) := by
  obtain ⟨k0, rfl⟩ := num_of h0.1 h0.2
  obtain ⟨k1, rfl⟩ := num_of h1.1 h1.2
  exact sums_walk k0 k1 hs0
end Go.Proofs.Ytmmohapcniigfaa.sp
