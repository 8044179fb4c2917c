/-
  Given for the seat's laws: SextetBack at any bytes and any text. No condition.
-/
import Derived.Test.YtiloeffnmkcaoaaSAwake
namespace Go.Proofs.Ytiloeffnmkcaoaa.sx
open Go.RowKit mem
set_option linter.unusedVariables false

set_option maxHeartbeats 4000000 in
set_option maxRecDepth 100000 in
theorem back_walk_at {w : World} {A : Option Addr} {n c : Nat} {bs : List Int} (hs0 : Src w (fun g => g < w.heap.size) A n c bs) (s : Str) : Calls Try.prog 5 #[.slice A n c, .string (S s)] w (True_ w) := by
  obtain ⟨b, rfl⟩ := ints_of hs0.rng
  have hs : Spell w (fun g => g < w.heap.size) A n c b := hs0
  have hbl := spell_len hs
  have hsz : (S s).size = s.length := S_size s
  obtain ⟨k, hk⟩ : ∃ k, s.length = k := ⟨_, rfl⟩
  rw [hk] at hsz
  have HAW := Lib.hid (awake_any w)
  by_cases h3 : 3000 < n
  · clear hs hs0 hbl hk
    go_enter Try.func5, Try.ntmps5
    go_wp2_with fail
    refine HAW.out.mono ?_
    rintro e w1 ⟨rfl, hb1⟩
    have HB1 := Lib.hid hb1
    clear hb1
    go_wp2_with fail
    go_ret
    exact ⟨rfl, HB1.out⟩
  · by_cases hm : 3000 < k
    · clear hs hs0 hbl hk
      go_enter Try.func5, Try.ntmps5
      go_wp2_with fail
      refine HAW.out.mono ?_
      rintro e w1 ⟨rfl, hb1⟩
      have HB1 := Lib.hid hb1
      clear hb1
      go_wp2_with fail
      go_ret
      exact ⟨rfl, HB1.out⟩
    · have hel : (enc b).length = size n := by rw [enc_len, hbl]
      have hszb : size n ≤ 4004 := by unfold size; omega
      have hte : (S (enc b)).size = size n := by rw [S_size, hel]
      have hdb := fun W => decode_any (enc b) (by omega) W
      have hds := fun W => decode_any s (by omega) W
      have hzn := fun W => size_any n (by omega) W
      have hself := (str_eq b)
      have hs1 := hself.1
      have hs2 := hself.2
      have hss := (str_eq s).1
      have HS := Lib.hid hs
      have HDB := Lib.hid hdb
      have HDS := Lib.hid hds
      have HZN := Lib.hid hzn
      have HBL := Lib.hid hbl
      clear hs hs0 hbl hel hdb hds hzn hself hk
      go_enter Try.func5, Try.ntmps5
      go_wp2_with fail
      refine HAW.out.mono ?_
      rintro e w1 ⟨rfl, hb1⟩
      have HE := Lib.hid (encode_any ((HS.out.below hb1 (fun g hg => hg)).weak (fun g hg => Nat.lt_of_lt_of_le hg hb1.size)) (by omega))
      have HB1 := Lib.hid hb1
      clear hb1
      go_wp2_with fail
      refine HE.out.mono ?_
      rintro e w2 ⟨rfl, hb2⟩
      have HB2 := Lib.hid (HB1.out.trans (hb2.mono HB1.out.size))
      clear hb2
      go_wp2_with fail
      refine (HDB.out _).mono ?_
      rintro e w3 (⟨b', A3, c3, hb', rfl, hm3⟩ | ⟨hb', _⟩)
      · obtain rfl : b = b' := Option.some.inj ((is_enc b).uniq hb')
        have hb3 := HB2.out.trans (hm3.below.mono HB2.out.size)
        have hc1 := spell_str (own_spell hm3.own)
        have hc2 := spell_str (HS.out.below hb3 (fun g hg => hg))
        have HB3 := Lib.hid hb3
        clear hm3 hb3 hb'
        go_wp2_with fail
        refine (HZN.out _).mono ?_
        rintro e w4 ⟨rfl, rfl⟩
        clear hc1 hc2
        go_wp2_with fail
        refine (HDS.out _).mono ?_
        rintro e w5 (⟨d, A5, c5, hd, rfl, hm5⟩ | ⟨hd, rfl, hb5⟩)
        · have hd1 : enc d = s := hd
          have hdl := is_len hd1
          have hE5 := encode_any (made_spell hm5 rfl) (by have := (S_size s); omega)
          unfold EncTo at hE5
          rw [hd1] at hE5
          have HE5 := Lib.hid hE5
          have HB5 := Lib.hid (HB3.out.trans (hm5.below.mono HB3.out.size))
          clear hd1 hdl hE5 hm5 hd
          go_wp2_with fail
          refine HE5.out.mono ?_
          rintro e w6 ⟨rfl, hb6⟩
          have HB6 := Lib.hid (HB5.out.trans (hb6.mono HB5.out.size))
          clear hb6
          go_wp2_with fail
          go_ret
          exact ⟨rfl, HB6.out⟩
        · have HB5 := Lib.hid (HB3.out.trans (hb5.mono HB3.out.size))
          clear hb5 hd
          go_wp2_with fail
          go_ret
          exact ⟨rfl, HB5.out⟩
      · exact absurd ((is_enc b).uniq hb') (by simp)
theorem back_walk {w : World} {A : Option Addr} {n c : Nat} {bs : List Int} (hs0 : Src w (fun g => g < w.heap.size) A n c bs) (s : ByteArray) : Calls Try.prog 5 #[.slice A n c, .string s] w (True_ w) := by
  have h := back_walk_at hs0 s.data.toList
  rwa [S_data] at h
end Go.Proofs.Ytiloeffnmkcaoaa.sx
