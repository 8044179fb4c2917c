/-
  Given for 'Rows.RingCutSaid': the walk of RingCut: it returns true at every input, and turns nothing that was there. No condition.
-/
import Derived.Test.YthagggclhahikaaTwo
namespace Go.Proofs.Ythagggclhahikaa.cut
open Go.RowKit mem ring plain put peek same api awake two
set_option linter.unusedVariables false

set_option maxHeartbeats 1000000 in
theorem cut_out (size ahead cut : Int) (A : Option Addr) (l c : Nat) (w : World) (h : size < 1 ∨ 300 < size ∨ size < (l : Int)) :
    Calls Try.prog 7 #[.int .i64 size, .int .u16 ahead, .slice A l c, .int .i64 cut] w fun e w' => e = .returned (.bool true) ∧ Below w.heap.size w w' := by
  have HA := Lib.hid (awake_any w)
  go_enter Try.func7, Try.ntmps7
  go_wp2_with fail
  refine HA.out.mono ?_
  rintro e w1 ⟨rfl, hb⟩
  have HB := Lib.hid hb
  clear hb
  rcases h with h | h | h
  · go_wp2_with fail
    go_ret
    exact ⟨rfl, HB.out⟩
  · go_wp2_with fail
    all_goals go_ret
    all_goals exact ⟨rfl, HB.out⟩
  · by_cases h1 : size < 1
    · go_wp2_with fail
      go_ret
      exact ⟨rfl, HB.out⟩
    · by_cases h2 : 300 < size
      · go_wp2_with fail
        go_ret
        exact ⟨rfl, HB.out⟩
      · go_wp2_with fail
        go_ret
        exact ⟨rfl, HB.out⟩

theorem cut_nat (cut : Int) (l : Nat) (hl : l ≤ 300) : ∃ k : Nat, wrap64 ((IntKind.u64.wrap cut).tmod ((l : Int) + 1)) = (k : Int) ∧ k ≤ l := by
  have hu : 0 ≤ IntKind.u64.wrap cut := by simp [IntKind.wrap, IntKind.signed, IntKind.bits]; omega
  generalize IntKind.u64.wrap cut = u at hu
  have h1 : u.tmod ((l : Int) + 1) = u % ((l : Int) + 1) := Int.tmod_eq_emod_of_nonneg hu
  have h2 : 0 ≤ u % ((l : Int) + 1) := Int.emod_nonneg _ (by omega)
  have h3 : u % ((l : Int) + 1) < (l : Int) + 1 := Int.emod_lt_of_pos _ (by omega)
  rw [h1]
  generalize u % ((l : Int) + 1) = r at h2 h3
  refine ⟨r.toNat, ?_, by omega⟩
  unfold wrap64
  omega

theorem make_run (W : World) (n : Nat) (hn : n ≤ 1000000) : ∃ W', (Instr.makeSlice 31 (.int .i64 (n : Int)) (.int .i64 (n : Int))).run Try.prog W = .ok (.slice (some ⟨W.heap.size, 0, none⟩) n n) W' ∧
    Src W' (fun g => W.heap.size ≤ g ∧ g < W'.heap.size) (some ⟨W.heap.size, 0, none⟩) n n (List.replicate n 0) ∧ Below W.heap.size W W' := by
  obtain ⟨i0, hi, hz0, hz1, hz2⟩ := info_parts info5
  obtain ⟨W', hrun, hown, hg⟩ := run_make_full (P := Try.prog) W W.heap.size 31 5 i0 (.int .u8 0) 1 Try.underlying31 hi hz0 hz1 .i64 .i64 n (by rw [hz2]; omega) (by unfold maxLen; omega) (Nat.le_refl _)
  have e : (madeCells (Value.int .u8 0).cells (n * 1)).toList = B8 (List.replicate n 0) := by
    rw [Nat.mul_one, ← replicate_B8]
    exact toList_madeCells_one _ _
  rw [e] at hown
  exact ⟨W', hrun, Src.of_own hown, (Below.refl _ W).grown hg (Nat.le_refl _) (fun k e => by cases e)⟩

set_option maxRecDepth 100000 in
set_option maxHeartbeats 2000000 in
theorem cut_in (N : Nat) (ahead cut : Int) (A : Option Addr) (l c : Nat) (bs : List Int) (w : World) (hN : 1 ≤ N) (hN3 : N ≤ 300) (hl : l ≤ N) (ha : 0 ≤ ahead) (ha2 : ahead ≤ 65535) (hc1 : -9223372036854775808 ≤ cut) (hc2 : cut ≤ 9223372036854775807)
    (hs : Src w (fun g => g < w.heap.size) A l c bs) :
    Calls Try.prog 7 #[.int .i64 (N : Int), .int .u16 ahead, .slice A l c, .int .i64 cut] w fun e w' => e = .returned (.bool true) ∧ Below w.heap.size w w' := by
  have HA := Lib.hid (awake_any w)
  have HS := Lib.hid hs
  clear hs
  have hb1 : ¬ (N : Int) < 1 := by omega
  have hb2 : ¬ (300 : Int) < (N : Int) := by omega
  have hb3 : ¬ (N : Int) < (l : Int) := by omega
  go_enter Try.func7, Try.ntmps7
  go_wp2_with fail
  refine HA.out.mono ?_
  rintro e w1 ⟨rfl, hb⟩
  have HB := Lib.hid hb
  clear hb
  go_wp2_with fail
  obtain ⟨k, hk, hkl⟩ := cut_nat cut l (by omega)
  rw [hk]
  clear hk
  generalize (IntKind.u64.wrap cut).tmod ((l : Int) + 1) = u1
  generalize IntKind.u64.wrap cut = u2
  have hn1 : Calls Try.prog 9 #[.int .i64 (N : Int)] w1 (News N w1) := new_has N w1 hN (by omega)
  refine hn1.mono ?_
  rintro e w2 ⟨b, s, rfl, hh2, hb2, hs2, hbel2⟩
  have HN2 := Lib.hid (new_has N w2 hN (by omega))
  have HH2 := Lib.hid hh2
  have HB2 := Lib.hid hbel2
  clear hn1 hh2 hbel2
  go_wp2_with fail
  refine HN2.out.mono ?_
  rintro e w3 ⟨b', s', rfl, hh3, hb3, hs3, hbel3⟩
  have ht := two_of HB.out HH2.out hb2 hs2 HB2.out hh3 hb3 hs3 hbel3
  clear HB HH2 HB2 HN2 hh3 hbel3 hb2 hs2 hb3 hs3 HA
  have hne : ((N : Int) == 0) = false := by simp; omega
  obtain ⟨n, hn⟩ : ∃ n : Nat, ahead % (N : Int) = (n : Int) := ⟨(ahead % (N : Int)).toNat, by have := Int.emod_nonneg ahead (show (N : Int) ≠ 0 by omega); omega⟩
  have hnN : n < N := by have := Int.emod_lt_of_pos ahead (show (0 : Int) < (N : Int) by omega); omega
  have HT := Lib.hid ht
  clear ht
  have HNN := Lib.hid hn
  clear hn
  obtain ⟨w4, hm4, hz4, b4⟩ := make_run w3 n (by omega)
  rw [← HNN.out] at hm4
  go_wp2_with fail
  rw [HNN.out]
  have t4 := HT.out.later b4
  have l4 := HT.out.one.lt
  have m4 := HT.out.two.lt
  have e4 : min n (N - ([] : List Int).length) = n := by simp; omega
  have hp4 := put_has w4 t4.one (hz4.weak (ok' := fun g => g < w4.heap.size ∧ g ≠ s) (fun g hg => ⟨hg.2, by omega⟩))
  rw [e4] at hp4
  have HP4 := Lib.hid hp4
  have T4 := Lib.hid t4
  clear hz4 b4 t4 e4 hp4 hm4 HT l4 m4
  refine HP4.out.mono ?_
  rintro e w5 ⟨rfl, hh5, hk5⟩
  have T5 := Lib.hid (T4.out.step hh5 hk5)
  clear hh5 hk5 T4 HP4
  obtain ⟨w6, hm6, hz6, b6⟩ := make_run w5 n (by omega)
  go_wp2_with fail
  have t6 := T5.out.later b6
  have l6 := T5.out.one.lt
  have m6 := T5.out.two.lt
  have e6 : min n (N - ([] : List Int).length) = n := by simp; omega
  have hp6 := put_has w6 t6.two (hz6.weak (ok' := fun g => g < w6.heap.size ∧ g ≠ s') (fun g hg => ⟨hg.2, by omega⟩))
  rw [e6] at hp6
  have HP6 := Lib.hid hp6
  have T6 := Lib.hid t6
  clear hz6 b6 t6 e6 hp6 hm6 T5 l6 m6
  refine HP6.out.mono ?_
  rintro e w7 ⟨rfl, hh7, hk7⟩
  have t7 := (T6.out.swap.step hh7 hk7).swap
  have e7 : ([] : List Int) ++ (List.replicate n 0).take n = List.replicate n 0 := by simp
  rw [e7] at t7
  have hsk := skip_yes w7 t7.one n (by simp)
  have HSK := Lib.hid hsk
  have T7 := Lib.hid t7
  clear hh7 hk7 T6 HP6 t7 hsk e7
  go_wp2_with fail
  refine HSK.out.mono ?_
  rintro e w8 ⟨rfl, hh8, hk8⟩
  have t8 := T7.out.step1 hh8 hk8
  have e8 : (List.replicate n (0 : Int)).drop n = [] := by simp
  rw [e8] at t8
  have HSK8 := Lib.hid (skip_yes w8 t8.two n (by simp))
  have T8 := Lib.hid t8
  clear hh8 hk8 T7 HSK t8 e8
  go_wp2_with fail
  refine HSK8.out.mono ?_
  rintro e w9 ⟨rfl, hh9, hk9⟩
  have t9 := (T8.out.swap.step1 hh9 hk9).swap
  have e9 : (List.replicate n (0 : Int)).drop n = [] := by simp
  rw [e9] at t9
  have e9' : min l (N - ([] : List Int).length) = l := by simp; omega
  have hp9 := put_has w9 t9.one (t9.srcFor HS.out)
  rw [e9'] at hp9
  have HP9 := Lib.hid hp9
  have T9 := Lib.hid t9
  clear hh9 hk9 T8 HSK8 t9 e9 e9' hp9
  go_wp2_with fail
  refine HP9.out.mono ?_
  rintro e w10 ⟨rfl, hh10, hk10⟩
  have t10 := T9.out.step hh10 hk10
  have e10 : ([] : List Int) ++ bs.take l = bs := by rw [List.nil_append, ← HS.out.len, List.take_length]
  rw [e10] at t10
  have hcc := HS.out.cap
  have q1 := slice_to A l c k (by omega)
  obtain ⟨A', q2, q3⟩ := slice_from A l c k hkl hcc
  have e10' : min k (N - ([] : List Int).length) = k := by simp; omega
  have hp10 := put_has w10 t10.two (t10.swap.srcFor (src_to HS.out hkl))
  rw [e10'] at hp10
  have HP10 := Lib.hid hp10
  have T10 := Lib.hid t10
  have Q3 := Lib.hid q3
  clear hh10 hk10 T9 HP9 t10 e10 e10' hp10 q3
  go_wp2_with fail
  refine HP10.out.mono ?_
  rintro e w11 ⟨rfl, hh11, hk11⟩
  have t11 := (T10.out.swap.step hh11 hk11).swap
  have e11 : ([] : List Int) ++ (bs.take k).take k = bs.take k := by rw [List.nil_append, List.take_take, Nat.min_self]
  rw [e11] at t11
  have hbl := HS.out.len
  have e11' : min (l - k) (N - (bs.take k).length) = l - k := by rw [List.length_take]; omega
  have hp11 := put_has w11 t11.two (t11.swap.srcFor (Q3.out _ _ _ HS.out))
  rw [e11'] at hp11
  have ev : ((l - k : Nat) : Int) = (l : Int) - (k : Int) := by omega
  have hp11' : Calls Try.prog 12 #[.pointer (some ⟨b', 0, none⟩), .slice A' (l - k) (c - k)] w11 (fun e w' => e = .returned (.int .i64 ((l : Int) - (k : Int))) ∧ Has w' b' s' N bs ∧ Keep w11.heap.size (fun g => g = b' ∨ g = s') w11 w') := by
    refine hp11.mono ?_
    rintro e w' ⟨rfl, h1, h2⟩
    rw [ev]
    have e2 : bs.take k ++ (bs.drop k).take (l - k) = bs := by
      have e3 : (bs.drop k).take (l - k) = bs.drop k := List.take_of_length_le (by rw [List.length_drop]; omega)
      rw [e3, List.take_append_drop]
    rw [e2] at h1
    exact ⟨rfl, h1, h2⟩
  have HP11 := Lib.hid hp11'
  have T11 := Lib.hid t11
  clear hh11 hk11 T10 HP10 t11 e11 e11' hp11 hp11' ev hbl
  go_wp2_with fail
  refine HP11.out.mono ?_
  rintro e w12 ⟨rfl, hh12, hk12⟩
  have t12 := (T11.out.swap.step hh12 hk12).swap
  have k12 : kOf bs.length (l : Int) = l := by rw [kOf_nat, HS.out.len]; omega
  have ht12 := take_has w12 t12.one (l : Int)
  rw [k12] at ht12
  have HT12 := Lib.hid ht12
  have T12 := Lib.hid t12
  clear hh12 hk12 T11 HP11 t12 k12 ht12 q1 q2 Q3
  go_wp2_with fail
  refine HT12.out.mono ?_
  rintro e w13 ⟨A1, c1, rfl, ho13, hh13, hk13⟩
  have hbl := HS.out.len
  have e13 : bs.take l = bs := by rw [← hbl, List.take_length]
  have e13' : bs.drop l = [] := by rw [← hbl, List.drop_length]
  rw [e13] at ho13
  rw [e13'] at hh13
  have t13 := T12.out.step1 hh13 hk13
  have s13 : Src w13 (fun g => w12.heap.size ≤ g ∧ g < w13.heap.size) A1 l c1 bs := Src.of_own ho13
  have k13 : kOf bs.length (k : Int) = k := by rw [kOf_nat, hbl]; omega
  have ht13 := take_has w13 t13.two (k : Int)
  rw [k13] at ht13
  have z13 := Lib.hid hk13.size
  have l12 := Lib.hid T12.out.one.lt
  have m12 := Lib.hid T12.out.two.lt
  have HT13 := Lib.hid ht13
  have T13 := Lib.hid t13
  have S13 := Lib.hid s13
  clear hbl e13 e13' ho13 hh13 hk13 t13 s13 k13 ht13 HT12
  go_wp2_with fail
  refine HT13.out.mono ?_
  rintro e w14 ⟨A2, c2, rfl, ho14, hh14, hk14⟩
  have hbl := HS.out.len
  have t14 := (T13.out.swap.step1 hh14 hk14).swap
  have z14 := hk14.size
  have zz := z13.out
  have lb := l12.out
  have mb := m12.out
  have s14 := src_later S13.out hk14 (by omega) (fun g h1 h2 e => by omega)
  have k14 : kOf (bs.drop k).length (l : Int) = l - k := by rw [kOf_nat, List.length_drop, hbl]; omega
  have ht14 := take_has w14 t14.two (l : Int)
  rw [k14] at ht14
  have HT14 := Lib.hid ht14
  have T14 := Lib.hid t14
  have S14 := Lib.hid s14
  have O14 := Lib.hid ho14
  have Z14 := Lib.hid z14
  clear hbl ho14 hh14 hk14 t14 s14 k14 ht14 HT13 z14 zz lb mb
  go_wp2_with fail
  refine HT14.out.mono ?_
  rintro e w15 ⟨A3, c3, rfl, ho15, hh15, hk15⟩
  have hbl := HS.out.len
  have t15 := (T14.out.swap.step1 hh15 hk15).swap
  have z15 := hk15.size
  have z14 := Z14.out
  have zz := z13.out
  have lb := l12.out
  have mb := m12.out
  have s15 := src_later S14.out hk15 (by omega) (fun g h1 h2 e => by omega)
  have o15 := own_keep O14.out hk15 (fun g h1 h2 e => by omega)
  have e15 : (bs.drop k).take (l - k) = bs.drop k := List.take_of_length_le (by rw [List.length_drop]; omega)
  rw [e15] at ho15
  obtain ⟨A4, c4, w16, happ, ho16, hg16⟩ := append_run o15 (Src.of_own ho15) (by omega) (by omega)
  have e16 : k + (l - k) = l := by omega
  rw [e16, List.take_append_drop] at ho16
  rw [e16] at happ
  have k16 := keep_grown hg16
  have hrow : ∀ g, some g = (Value.slice A2 k c2).ownBlock → w13.heap.size ≤ g := fun g e => own_ge O14.out e.symm
  have t16 := t15.keep k16 ⟨fun e => by have := hrow _ e; omega, fun e => by have := hrow _ e; omega, fun e => by have := hrow _ e; omega, fun e => by have := hrow _ e; omega⟩
    (fun g hg e => by have := hrow _ e; have := T13.out.below.size; omega)
  have s16 := src_later s15 k16 (by omega) (fun g h1 h2 e => by have := hrow _ e; omega)
  have s16' : Src w16 _ A4 l c4 bs := Src.of_own ho16
  have b16 := t16.src HS.out
  have hsm := same_has w16 s16 b16
  rw [sameB_refl] at hsm
  have HSM := Lib.hid hsm
  have T16 := Lib.hid t16
  have S16 := Lib.hid s16'
  have B16 := Lib.hid b16
  have HAPP := Lib.hid happ
  clear hbl t15 z15 z14 zz lb mb s15 o15 e15 ho15 e16 ho16 hg16 k16 hrow t16 s16 s16' b16 hsm HT14 hh15 hk15 happ
  go_wp2_with (at_builtin; refine wpList_append_eq rfl _ _ rfl rfl rfl rfl HAPP.out ?_)
  refine HSM.out.mono ?_
  rintro e w17 ⟨rfl, hst17⟩
  have t17 := T16.out.later (hst17.below _)
  have hsm17 := same_has w17 (S16.out.keep (fun g _ => by rw [hst17.heap])) (B16.out.keep (fun g _ => by rw [hst17.heap]))
  rw [sameB_refl] at hsm17
  have HSM17 := Lib.hid hsm17
  have T17 := Lib.hid t17
  clear hsm17 t17 hst17 HAPP
  go_wp2_with fail
  refine HSM17.out.mono ?_
  rintro e w18 ⟨rfl, hst18⟩
  have t18 := T17.out.later (hst18.below _)
  have el : (bs.drop k).drop (l - k) = [] := List.drop_eq_nil_of_le (by rw [List.length_drop]; have := HS.out.len; omega)
  rw [el] at t18
  have HL1 : Hid (Calls Try.prog 21 #[.pointer (some ⟨b, 0, none⟩)] w18 fun e w' => e = .returned (.int .i64 0) ∧ w18 = w') := len_has w18 t18.one
  have HL2 : Hid (Calls Try.prog 21 #[.pointer (some ⟨b', 0, none⟩)] w18 fun e w' => e = .returned (.int .i64 0) ∧ w18 = w') := len_has w18 t18.two
  have HB18 := Lib.hid t18.below
  clear t18 hst18 el
  go_wp2_with fail
  refine HL1.out.mono ?_
  rintro e w' ⟨rfl, rfl⟩
  go_wp2_with fail
  refine HL2.out.mono ?_
  rintro e w' ⟨rfl, rfl⟩
  go_wp2_with fail
  go_ret
  exact ⟨rfl, HB18.out⟩

end Go.Proofs.Ythagggclhahikaa.cut
