/-
  Given for the seat's laws: SextetDecodes at any text. No condition.
-/
import Derived.Test.YtiloeffnmkcaoaaSRDec
namespace Go.Proofs.Ytiloeffnmkcaoaa.sx
open Go.RowKit mem
set_option linter.unusedVariables false

def True_ (w : World) (e : Ending) (w' : World) : Prop := e = .returned (.bool true) ∧ Below w.heap.size w w'

set_option maxHeartbeats 4000000 in
set_option maxRecDepth 100000 in
theorem decodes_walk (s : Str) (w : World) : Calls Try.prog 4 #[.string (S s)] w (True_ w) := by
  have hsz : (S s).size = s.length := S_size s
  obtain ⟨n, hn⟩ : ∃ n, s.length = n := ⟨_, rfl⟩
  rw [hn] at hsz
  have HN := Lib.hid hn
  by_cases h3 : 3000 < n
  · clear hn
    go_enter Try.func4, Try.ntmps4
    go_wp2_with fail
    go_ret
    exact ⟨rfl, Below.refl _ _⟩
  · have HD := Lib.hid (decode_any s (by omega) w)
    have HR := Lib.hid (fun W => rdecode_any s (by omega) W)
    clear hn
    go_enter Try.func4, Try.ntmps4
    go_wp2_with fail
    refine HD.out.mono ?_
    rintro e w1 (⟨b, A1, c1, hb, rfl, hm1⟩ | ⟨hb, rfl, hb1⟩)
    · have HM1 := Lib.hid hm1
      have HB := Lib.hid hb
      clear hm1 hb
      go_wp2_with fail
      refine (HR.out _).mono ?_
      rintro e w2 (⟨b', A2, c2, hb', rfl, hm2⟩ | ⟨hb', rfl, hb2⟩)
      · obtain rfl : b = b' := Option.some.inj (HB.out.uniq hb')
        have hm1 := HM1.out.fresh hm2.below
        have hc1 := spell_str (own_spell hm1.own)
        have hc2 := spell_str (own_spell hm2.own)
        have hself := (str_eq b).1
        have HB2 := Lib.hid hm1.below
        clear hm1 hm2 hb'
        go_wp2_with fail
        go_ret
        exact ⟨rfl, HB2.out⟩
      · exact absurd (HB.out.uniq hb') (by simp)
    · have HB1 := Lib.hid hb1
      have HB := Lib.hid hb
      clear hb1 hb
      go_wp2_with fail
      refine (HR.out _).mono ?_
      rintro e w2 (⟨b', A2, c2, hb', rfl, hm2⟩ | ⟨hb', rfl, hb2⟩)
      · exact absurd (HB.out.uniq hb') (by simp)
      · have hc := fun W => run_convert_bytes_nil (P := Try.prog) W 22 5 Try.underlying22 Try.underlying5 0 0 9 Try.underlying9
        have hself : (ByteArray.empty.toList == ByteArray.empty.toList) = true := by simp
        have HB2 := Lib.hid (HB1.out.trans (hb2.mono HB1.out.size))
        clear hb2 hb'
        go_wp2_with fail
        go_ret
        exact ⟨rfl, HB2.out⟩
theorem decodes_walk_at (s : ByteArray) (w : World) : Calls Try.prog 4 #[.string s] w (True_ w) := by
  have h := decodes_walk s.data.toList w
  rwa [S_data] at h
end Go.Proofs.Ytiloeffnmkcaoaa.sx
