/-
  Given for the seat's laws: SextetJoined at any two rows of bytes. No condition.
-/
import Derived.Test.YtiloeffnmkcaoaaSAwake
namespace Go.Proofs.Ytiloeffnmkcaoaa.sx
open Go.RowKit mem
set_option linter.unusedVariables false

theorem cut_h (W : World) (A : Option Addr) (n c j : Nat) (h : j ≤ c) :
    (Instr.slice 22 (.slice A n c) none (some (.int .i64 (j : Int))) none).run Try.prog W = .ok (.slice A j c) W := by
  obtain ⟨i0, hi, hz0, hz1, hz2⟩ := info_parts (show (Try.prog.info? 5).map (fun i => (i.zero, i.size, i.bytes)) = some (some (.int .u8 0), 1, 1) by kernel_rfl)
  rw [run_slice_h W 22 _ n c (by kernel_rfl) .i64 _ (by omega) (by omega)]
  have he : Try.prog.elem 22 = 5 := by kernel_rfl
  rw [he]
  have hs : (sizeOf 5).run Try.prog W = .ok 1 W := by simp [sizeOf, typeInfo, hi, hz1]
  rw [hs]
  simp only [Result.andThen, sliced, Int.toNat_natCast, Nat.mul_one, Nat.sub_zero]
  congr 2
  split
  · rfl
  · cases A <;> simp [Addr.add]
theorem add_str (W : World) (a b : Str) (ha : a.length ≤ 100000) (hb : b.length ≤ 100000) : (Op.stringOp .add (S a) (S b)).run Try.prog W = .ok (.string (S (a ++ b))) W := by
  rw [run_string_add W _ _ (by rw [S_size]; omega) (by rw [S_size]; omega), S_append]

set_option maxHeartbeats 4000000 in
set_option maxRecDepth 100000 in
theorem joined_walk {w : World} {A : Option Addr} {n c : Nat} {xs : List Int} (ha0 : Src w (fun g => g < w.heap.size) A n c xs) {A' : Option Addr} {n' c' : Nat} {bs : List Int} (hb0 : Src w (fun g => g < w.heap.size) A' n' c' bs) :
    Calls Try.prog 6 #[.slice A n c, .slice A' n' c'] w (True_ w) := by
  obtain ⟨a, rfl⟩ := ints_of ha0.rng
  obtain ⟨b, rfl⟩ := ints_of hb0.rng
  have ha : Spell w (fun g => g < w.heap.size) A n c a := ha0
  have hb : Spell w (fun g => g < w.heap.size) A' n' c' b := hb0
  have hal := spell_len ha
  have hbl := spell_len hb
  have hcap := ha.cap
  have HAW := Lib.hid (awake_any w)
  by_cases h3 : 3000 < n
  · clear ha ha0 hb hb0 hal hbl hcap
    go_enter Try.func6, Try.ntmps6
    go_wp2_with fail
    refine HAW.out.mono ?_
    rintro e w1 ⟨rfl, hb1⟩
    have HB1 := Lib.hid hb1
    clear hb1
    go_wp2_with fail
    go_ret
    exact ⟨rfl, HB1.out⟩
  · by_cases hm : 3000 < n'
    · clear ha ha0 hb hb0 hal hbl hcap
      go_enter Try.func6, Try.ntmps6
      go_wp2_with fail
      refine HAW.out.mono ?_
      rintro e w1 ⟨rfl, hb1⟩
      have HB1 := Lib.hid hb1
      clear hb1
      go_wp2_with fail
      go_ret
      exact ⟨rfl, HB1.out⟩
    · obtain ⟨m, hm3⟩ : ∃ m : Nat, m = n - n % 3 := ⟨_, rfl⟩
      have em : (n : Int) - (n : Int) % 3 = (m : Int) := by omega
      have hq := fun W => cut_h W A n c m (by omega)
      have ham : Spell w (fun g => g < w.heap.size) A m c (a.take m) := by
        have := ha.takeN m (by omega)
        rw [ints_take] at this
        exact this
      have htl : (a.take m).length = m := spell_len ham
      have hj : enc (a.take m ++ b) = enc (a.take m) ++ enc b := enc_append _ _ (by rw [htl]; omega)
      have hml : m ≤ 3000 := by omega
      have e1 : (enc (a.take m)).length ≤ 100000 := by rw [enc_len, htl]; unfold size; omega
      have e2 : (enc b).length ≤ 100000 := by rw [enc_len, hbl]; unfold size; omega
      have hadd := fun W => add_str W (enc (a.take m)) (enc b) e1 e2
      rw [← hj] at hadd
      have hself := (str_eq (enc (a.take m ++ b))).1
      generalize a.take m = a2 at *
      have HJ := Lib.hid hj
      have HA := Lib.hid ham
      have HB := Lib.hid hb
      have HTL := Lib.hid htl
      have HBL := Lib.hid hbl
      clear ha ha0 hb hb0 hal hbl hcap ham htl hj e1 e2 hm3
      go_enter Try.func6, Try.ntmps6
      go_wp2_with fail
      refine HAW.out.mono ?_
      rintro e w1 ⟨rfl, hb1⟩
      have ha1 := HA.out.below hb1 (fun g hg => hg)
      obtain ⟨A2, c2, w2, happ, hmd⟩ := mine ha1 (fun g hg => Nat.lt_of_lt_of_le hg hb1.size) (by omega)
      have hb2 := HB.out.below (hb1.trans (hmd.below.mono hb1.size)) (fun g hg => hg)
      have hmd' : Made w1 w2 (.slice A2 a2.length c2) a2 := by rw [HTL.out]; exact hmd
      obtain ⟨A3, c3, w3, happ3, hmd3⟩ := hmd'.app (Below.refl _ _) hb2 (by rw [HTL.out]; omega)
      rw [HTL.out] at happ3 hmd3
      have hl3 : (a2 ++ b).length = m + n' := by rw [List.length_append, HTL.out, HBL.out]
      have HE := Lib.hid (encode_any (made_spell hmd3 hl3) (by omega))
      have HAp := Lib.hid happ
      have HAp3 := Lib.hid happ3
      have HB3 := Lib.hid (hb1.trans (hmd3.below.mono hb1.size))
      clear hb1 ha1 happ hmd hb2 hmd' happ3 hmd3 hl3
      go_wp2_with (first | (at_builtin; refine wpList_append_eq rfl _ _ rfl rfl rfl rfl HAp.out ?_) | (at_builtin; refine wpList_append_eq rfl _ _ rfl rfl rfl rfl HAp3.out ?_))
      refine HE.out.mono ?_
      rintro e w4 ⟨rfl, hb4⟩
      have hb4' := HB3.out.trans (hb4.mono HB3.out.size)
      have HEA := Lib.hid (encode_any ((HA.out.below hb4' (fun g hg => hg)).weak (fun g hg => Nat.lt_of_lt_of_le hg hb4'.size)) (by omega))
      have HB4 := Lib.hid hb4'
      clear hb4 hb4'
      go_wp2_with fail
      refine HEA.out.mono ?_
      rintro e w5 ⟨rfl, hb5⟩
      have hb5' := HB4.out.trans (hb5.mono HB4.out.size)
      have HEB := Lib.hid (encode_any ((HB.out.below hb5' (fun g hg => hg)).weak (fun g hg => Nat.lt_of_lt_of_le hg hb5'.size)) (by omega))
      have HB5 := Lib.hid hb5'
      clear hb5 hb5'
      go_wp2_with fail
      refine HEB.out.mono ?_
      rintro e w6 ⟨rfl, hb6⟩
      have HB6 := Lib.hid (HB5.out.trans (hb6.mono HB5.out.size))
      clear hb6
      go_wp2_with fail
      go_ret
      exact ⟨rfl, HB6.out⟩
end Go.Proofs.Ytiloeffnmkcaoaa.sx
