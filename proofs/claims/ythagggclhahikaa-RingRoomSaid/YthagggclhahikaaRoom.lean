/-
  Given for 'Rows.RingRoomSaid': the walk of RingRoom: it returns true at every input, and turns nothing that was there. No condition.
-/
import Derived.Test.YthagggclhahikaaOrder
import Derived.Deep.RegionWith
namespace Go.Proofs.Ythagggclhahikaa.room
open Go.RowKit mem ring plain put peek same api awake two acts order
set_option linter.unusedVariables false

section
variable {w W : World} {b s b2 s2 N : Nat} {xs ys : List Int}

theorem take_two (h : Two w W b s b2 s2 N xs ys) (n : Int) (m : Nat) (hm : kOf xs.length n = m) : Calls Try.prog 15 #[.pointer (some ⟨b, 0, none⟩), .int .i64 n] W fun e W' => ∃ A c, e = .returned (.slice A m c) ∧
    Two w W' b s b2 s2 N (xs.drop m) ys ∧ Src W' (fun g => W.heap.size ≤ g ∧ g < W'.heap.size) A m c (xs.take m) ∧ Keep W.heap.size (fun g => g = b) W W' := by
  refine (take_has W h.one n).mono ?_
  rintro e w' ⟨A, c, rfl, ho, hh, hk⟩
  rw [hm] at *
  exact ⟨A, c, rfl, h.step1 hh hk, Src.of_own ho, hk⟩

theorem skip_two (h : Two w W b s b2 s2 N xs ys) (m : Nat) (hm : m ≤ xs.length) : Calls Try.prog 17 #[.pointer (some ⟨b, 0, none⟩), .int .i64 (m : Int)] W fun e W' => e = .returned (.int .i64 0) ∧
    Two w W' b s b2 s2 N (xs.drop m) ys ∧ Keep W.heap.size (fun g => g = b) W W' := by
  refine (skip_yes W h.one m hm).mono ?_
  rintro e w' ⟨rfl, hh, hk⟩
  exact ⟨rfl, h.step1 hh hk, hk⟩

theorem put_two_ (h : Two w W b s b2 s2 N xs ys) {A : Option Addr} {m c : Nat} {bs : List Int} (hs : Src w (fun g => g < w.heap.size) A m c bs) (n : Nat) (hn : n = min m (N - xs.length)) :
    Calls Try.prog 12 #[.pointer (some ⟨b, 0, none⟩), .slice A m c] W fun e W' => e = .returned (.int .i64 (n : Int)) ∧
      Two w W' b s b2 s2 N (xs ++ bs.take n) ys ∧ Keep W.heap.size (fun g => g = b ∨ g = s) W W' := by
  refine (put_has W h.one (h.srcFor hs)).mono ?_
  rintro e w' ⟨rfl, hh, hk⟩
  rw [← hn] at *
  exact ⟨rfl, h.step hh hk, hk⟩
end

theorem Still.keepAll {w w' : World} (h : Still w w') (B : Nat) : Keep B (fun _ => False) w w' := Keep.of_below (h.below B) _

theorem room_of {b s N ρ : Nat} {xs : List Int} (w : World) (h : Has w b s N xs) (hρ : xs.length + ρ = N) : Calls Try.prog 22 #[.pointer (some ⟨b, 0, none⟩)] w fun e w' => e = .returned (.int .i64 (ρ : Int)) ∧ w = w' := by
  have := room_has w h
  have e : N - xs.length = ρ := by omega
  rwa [e] at this

theorem len_again {w : World} {b s N L : Nat} {xs : List Int} (h : Has w b s N xs) (hL : xs.length = L) : Calls Try.prog 21 #[.pointer (some ⟨b, 0, none⟩)] w fun e w' => e = .returned (.int .i64 (L : Int)) ∧ w = w' := by
  have := len_has w h
  rwa [hL] at this

theorem same_two {W W' : World} {okB : Nat → Prop} {S : Nat → Prop} {B m c c' : Nat} {A A' : Option Addr} {xs : List Int} (h : Src W (fun g => B ≤ g ∧ g < W.heap.size) A m c xs) (hk : Keep W.heap.size S W W') (h' : Src W' okB A' m c' xs) (hS : ∀ g, (B ≤ g ∧ g < W.heap.size) → ¬ S g) :
    Calls Try.prog 14 #[.slice A m c, .slice A' m c'] W' fun e w' => e = .returned (.bool true) ∧ Still W' w' := by
  have := same_has W' (h.keep (fun g hg => hk.block g hg.2 (hS g hg))) h'
  rwa [sameB_refl] at this

theorem take_second {w w3 : World} {b s b2 s2 N m c3 B : Nat} {xs : List Int} {A3 : Option Addr} {n : Int} (t : Two w w3 b s b2 s2 N (xs.drop m) xs) (h3 : Src w3 (fun g => B ≤ g ∧ g < w3.heap.size) A3 m c3 (xs.take m)) (hB : b2 < B) (hm : kOf xs.length n = m) :
    Calls Try.prog 15 #[.pointer (some ⟨b2, 0, none⟩), .int .i64 n] w3 fun e w4 => ∃ A c, e = .returned (.slice A m c) ∧ Two w w4 b s b2 s2 N (xs.drop m) (xs.drop m) ∧
      Calls Try.prog 14 #[.slice A3 m c3, .slice A m c] w4 fun e w5 => e = .returned (.bool true) ∧ Still w4 w5 := by
  refine (take_two t.swap n m hm).mono ?_
  rintro e w4 ⟨A, c, rfl, t4, s4, k4⟩
  exact ⟨A, c, rfl, t4.swap, same_two h3 k4 s4 (fun g hg e => by omega)⟩

theorem skip_second {w w3 : World} {b s b2 s2 N m : Nat} {xs : List Int} (t : Two w w3 b s b2 s2 N (xs.drop m) xs) (hm : m ≤ xs.length) :
    Calls Try.prog 17 #[.pointer (some ⟨b2, 0, none⟩), .int .i64 (m : Int)] w3 fun e w4 => e = .returned (.int .i64 0) ∧ Two w w4 b s b2 s2 N (xs.drop m) (xs.drop m) := by
  refine (skip_two t.swap m hm).mono ?_
  rintro e w4 ⟨rfl, t4, k4⟩
  exact ⟨rfl, t4.swap⟩

set_option maxRecDepth 100000 in
set_option maxHeartbeats 8000000 in
theorem room_in (N : Nat) (A : Option Addr) (c : Nat) (acts : List ActD) (YA : Option Addr) (yl yc : Nat) (bys : List Int) (w : World) (hN : 1 ≤ N) (hN3 : N ≤ 300) (hyl : yl ≤ 300) (hg : greatB acts = false) (hm : acts.length ≤ maxLen) (hat : ActsAt w A acts) (hok : ActsOk w acts)
    (hy : Src w (fun g => g < w.heap.size) YA yl yc bys) :
    Calls Try.prog 6 #[.int .i64 (N : Int), .slice A acts.length c, .slice YA yl yc] w fun e w' => e = .returned (.bool true) ∧ Below w.heap.size w w' := by
  have hlen := greatB_len hg
  have HG := Lib.hid hg
  have HA := Lib.hid (awake_any w)
  have HM := Lib.hid hm
  have HOK := Lib.hid hok
  have HAT := Lib.hid hat
  have HY := Lib.hid hy
  have hb1 : ¬ (N : Int) < 1 := by omega
  have hb2 : ¬ (300 : Int) < (N : Int) := by omega
  have hb3 : ¬ (300 : Int) < (yl : Int) := by omega
  clear hg hm hok hat hy
  go_enter Try.func6, Try.ntmps6
  go_wp2_with fail
  refine HA.out.mono ?_
  rintro e w1 ⟨rfl, hb⟩
  have hat1 := ActsAt.below HAT.out (actsAt_lt HAT.out) hb
  have HGR := Lib.hid (great_any A c acts w1 HM.out hat1)
  have HB := Lib.hid hb
  clear hb hat1
  go_wp2_with fail
  refine HGR.out.mono ?_
  rintro e w' ⟨rfl, rfl⟩
  rw [HG.out]
  have HN := Lib.hid (new_has N w1 hN (by omega))
  go_wp2_with fail
  refine HN.out.mono ?_
  rintro e w2 ⟨b, s, rfl, hh2, hb2', hs2, hbel2⟩
  have HN2 := Lib.hid (new_has N w2 hN (by omega))
  have HH2 := Lib.hid hh2
  have HBB := Lib.hid hb2'
  have HSS := Lib.hid hs2
  have HB2 := Lib.hid hbel2
  clear hh2 hb2' hs2 hbel2 HN HGR HA
  go_wp2_with fail
  refine HN2.out.mono ?_
  rintro e w3 ⟨b', s', rfl, hh3, hb3', hs3, hbel3⟩
  have ht := two_of HB.out HH2.out HBB.out HSS.out HB2.out hh3 hb3' hs3 hbel3
  have HT := Lib.hid ht
  clear ht hh3 hb3' hs3 hbel3 HH2 HBB HSS HB2 HN2
  generalize hlv : acts.length = len at *
  have HLV := Lib.hid hlv
  clear hlv
  go_wp2_with fail
  go_loopw [11] (fun i wr => ∃ (k : Nat) (xs : List Int), k ≤ len ∧ i = .int .i64 k ∧ Hid (Two w wr b s b' s' N xs xs)) (fun i _ => len - (intOf i).toNat)
  case atStart => exact ⟨0, [], Nat.zero_le _, rfl, HT.out⟩
  case round =>
    clear HT
    obtain ⟨k, xs, hk, rfl, hinv⟩ := hrel
    by_cases hlt : k < len
    · obtain ⟨x, hx⟩ : ∃ x, acts[k]? = some x := ⟨_, List.getElem?_eq_getElem (by rw [HLV.out]; exact hlt)⟩
      have hatr := ActsAt.below HAT.out (actsAt_lt HAT.out) hinv.out.below
      obtain ⟨ba, off, rfl, hcs⟩ := hatr (by rw [HLV.out]; omega)
      obtain ⟨d0, d1, d2⟩ := hcs k x hx
      obtain ⟨⟨bs, hsrc⟩, hk0, hk1, hn0, hn1⟩ := HOK.out k x hx
      have hxl := greatB_each HG.out hx
      have HSRC := Lib.hid hsrc
      clear hx hatr hcs hsrc
      obtain ⟨kd, xn, XA, xl, xc⟩ := x
      dsimp only at d0 d1 d2 hk0 hk1 hn0 hn1 hxl HSRC
      have hI1 := hinv.out.later ((Below.refl _ wr).alloc (Nat.le_refl _) (.cells #[.int .u8 kd, .int .i64 xn, .slice XA xl xc] 33))
      have hbx := Lies.new wr 33 #[.int .u8 kd, .int .i64 xn, .slice XA xl xc]
      have hsz : (wr.alloc (.cells #[.int .u8 kd, .int .i64 xn, .slice XA xl xc] 33)).heap.size = wr.heap.size + 1 := by simp
      have hbl := hinv.out.one.lt
      have hbl2 := hinv.out.two.lt
      have hlo := hinv.out.lo
      have hws := hinv.out.below.size
      have hfit := hinv.out.one.fits
      have HI1 := Lib.hid hI1
      have HBX := Lib.hid hbx
      have HSZ := Lib.hid hsz
      clear hI1 hbx hsz hinv
      have hcase : kd % 4 = 0 ∨ kd % 4 = 1 ∨ kd % 4 = 2 ∨ kd % 4 = 3 := by omega
      rcases hcase with hq | hq | hq | hq
      · -- Put
        obtain ⟨ρ, hρ⟩ : ∃ ρ, xs.length + ρ = N := ⟨N - xs.length, by omega⟩
        have HRM := Lib.hid (room_of _ HI1.out.two hρ)
        have HRHO := Lib.hid hρ
        clear hρ
        by_cases hcmp : xl < ρ
        · have hp := put_two_ HI1.out HSRC.out xl (by have := HRHO.out; omega)
          have HP := Lib.hid hp
          have q1 := slice_to XA xl xc xl HSRC.out.cap
          clear hp
          go_wp2_with (go_at_call 22; refine HRM.out.mono ?_; rintro e w' ⟨rfl, rfl⟩)
          refine HP.out.mono ?_
          rintro e w4 ⟨rfl, t4, hk4⟩
          have hbx4 : Lies w4 wr.heap.size 33 #[.int .u8 kd, .int .i64 xn, .slice XA xl xc] := HBX.out.keep hk4 (by rw [HSZ.out]; omega) (fun e => by omega)
          have f2 : w4.cell? ⟨wr.heap.size, 2, none⟩ = some (.slice XA xl xc) := hbx4.cell 2
          have HP4 := Lib.hid (put_two_ t4.swap (src_to HSRC.out (Nat.le_refl xl)) xl (by have := HRHO.out; omega))
          clear hbx4 t4 hk4 HP
          go_wp2_with fail
          refine HP4.out.mono ?_
          rintro e w5 ⟨rfl, t5, hk5⟩
          have e5 : (bs.take xl).take xl = bs.take xl := by rw [List.take_take, Nat.min_self]
          rw [e5] at t5
          have HI5 := Lib.hid t5.swap
          clear t5 hk5 e5 HP4 HRHO HRM HBX HI1
          obtain ⟨ρ5, hρ5⟩ : ∃ q0 : Nat, (xs ++ bs.take xl).length + q0 = N := ⟨N - (xs ++ bs.take xl).length, by have := HI5.out.one.fits; omega⟩
          have rA5 := Lib.hid (len_has _ HI5.out.one)
          have rB5 := Lib.hid (room_of _ HI5.out.one hρ5)
          have rC5 := Lib.hid (len_has _ HI5.out.two)
          have hpk5 := peek_has _ HI5.out.one (N : Int)
          have e5k : kOf (xs ++ bs.take xl).length (N : Int) = (xs ++ bs.take xl).length := by rw [kOf_nat]; omega
          rw [e5k] at hpk5
          have rD5 := Lib.hid hpk5
          have EK5 := Lib.hid e5k
          have hs15 : ((xs ++ bs.take xl).length : Int) + (ρ5 : Int) ≤ (N : Int) := by omega
          have hs25 : (N : Int) ≤ ((xs ++ bs.take xl).length : Int) + (ρ5 : Int) := by omega
          clear hpk5 e5k hρ5
          generalize hLL5 : (xs ++ bs.take xl).length = L5 at *
          have HLL5 := Lib.hid hLL5
          clear hLL5
          go_wp2_with (first
            | (go_at_call 21; refine rA5.out.mono ?_; rintro e w' ⟨rfl, rfl⟩; clear rA5)
            | (go_at_call 22; refine rB5.out.mono ?_; rintro e w' ⟨rfl, rfl⟩; clear rB5))
          refine (len_again HI5.out.one HLL5.out).mono ?_
          rintro e w' ⟨rfl, rfl⟩
          go_wp2_with fail
          refine rC5.out.mono ?_
          rintro e w' ⟨rfl, rfl⟩
          go_wp2_with fail
          refine rD5.out.mono ?_
          rintro e wa5 ⟨Aa5, ca5, rfl, hoa5, hba5⟩
          have ta5 := HI5.out.later hba5
          have hpb5 := peek_has _ ta5.two (N : Int)
          rw [HLL5.out, EK5.out] at hpb5
          have RB5 := Lib.hid hpb5
          have TA5 := Lib.hid ta5
          have SA5 := Lib.hid (Src.of_own hoa5)
          clear ta5 hpb5 hoa5 hba5 rD5 rC5
          go_wp2_with fail
          refine RB5.out.mono ?_
          rintro e wb5 ⟨Ab5, cb5, rfl, hob5, hbb5⟩
          have hsm5 := same_has wb5 (SA5.out.keep (fun g hg => hbb5.block g hg.2)) (Src.of_own hob5)
          rw [sameB_refl] at hsm5
          have HSM5 := Lib.hid hsm5
          have TB5 := Lib.hid (TA5.out.later hbb5)
          clear hsm5 hob5 hbb5 RB5
          go_wp2_with fail
          refine HSM5.out.mono ?_
          rintro e wc5 ⟨rfl, hst5⟩
          have TC5 := Lib.hid (TB5.out.later (hst5.below _))
          clear hst5 TB5 HSM5
          go_wp2_with fail
          go_roundw
          case rel => exact ⟨k + 1, xs ++ bs.take xl, by omega, by go_num, TC5.out⟩
          case measure => simp [intOf]; omega
        · have hp := put_two_ HI1.out HSRC.out ρ (by have := HRHO.out; omega)
          have HP := Lib.hid hp
          have q1 := slice_to XA xl xc ρ (by have := HSRC.out.cap; omega)
          clear hp
          go_wp2_with (go_at_call 22; refine HRM.out.mono ?_; rintro e w' ⟨rfl, rfl⟩)
          refine HP.out.mono ?_
          rintro e w4 ⟨rfl, t4, hk4⟩
          have hbx4 : Lies w4 wr.heap.size 33 #[.int .u8 kd, .int .i64 xn, .slice XA xl xc] := HBX.out.keep hk4 (by rw [HSZ.out]; omega) (fun e => by omega)
          have f2 : w4.cell? ⟨wr.heap.size, 2, none⟩ = some (.slice XA xl xc) := hbx4.cell 2
          have HP4 := Lib.hid (put_two_ t4.swap (src_to HSRC.out (show ρ ≤ xl by omega)) ρ (by have := HRHO.out; omega))
          clear hbx4 t4 hk4 HP
          go_wp2_with fail
          refine HP4.out.mono ?_
          rintro e w5 ⟨rfl, t5, hk5⟩
          have e5 : (bs.take ρ).take ρ = bs.take ρ := by rw [List.take_take, Nat.min_self]
          rw [e5] at t5
          have HI5 := Lib.hid t5.swap
          clear t5 hk5 e5 HP4 HRHO HRM HBX HI1
          obtain ⟨ρ6, hρ6⟩ : ∃ q0 : Nat, (xs ++ bs.take ρ).length + q0 = N := ⟨N - (xs ++ bs.take ρ).length, by have := HI5.out.one.fits; omega⟩
          have rA6 := Lib.hid (len_has _ HI5.out.one)
          have rB6 := Lib.hid (room_of _ HI5.out.one hρ6)
          have rC6 := Lib.hid (len_has _ HI5.out.two)
          have hpk6 := peek_has _ HI5.out.one (N : Int)
          have e6k : kOf (xs ++ bs.take ρ).length (N : Int) = (xs ++ bs.take ρ).length := by rw [kOf_nat]; omega
          rw [e6k] at hpk6
          have rD6 := Lib.hid hpk6
          have EK6 := Lib.hid e6k
          have hs16 : ((xs ++ bs.take ρ).length : Int) + (ρ6 : Int) ≤ (N : Int) := by omega
          have hs26 : (N : Int) ≤ ((xs ++ bs.take ρ).length : Int) + (ρ6 : Int) := by omega
          clear hpk6 e6k hρ6
          generalize hLL6 : (xs ++ bs.take ρ).length = L6 at *
          have HLL6 := Lib.hid hLL6
          clear hLL6
          go_wp2_with (first
            | (go_at_call 21; refine rA6.out.mono ?_; rintro e w' ⟨rfl, rfl⟩; clear rA6)
            | (go_at_call 22; refine rB6.out.mono ?_; rintro e w' ⟨rfl, rfl⟩; clear rB6))
          refine (len_again HI5.out.one HLL6.out).mono ?_
          rintro e w' ⟨rfl, rfl⟩
          go_wp2_with fail
          refine rC6.out.mono ?_
          rintro e w' ⟨rfl, rfl⟩
          go_wp2_with fail
          refine rD6.out.mono ?_
          rintro e wa6 ⟨Aa6, ca6, rfl, hoa6, hba6⟩
          have ta6 := HI5.out.later hba6
          have hpb6 := peek_has _ ta6.two (N : Int)
          rw [HLL6.out, EK6.out] at hpb6
          have RB6 := Lib.hid hpb6
          have TA6 := Lib.hid ta6
          have SA6 := Lib.hid (Src.of_own hoa6)
          clear ta6 hpb6 hoa6 hba6 rD6 rC6
          go_wp2_with fail
          refine RB6.out.mono ?_
          rintro e wb6 ⟨Ab6, cb6, rfl, hob6, hbb6⟩
          have hsm6 := same_has wb6 (SA6.out.keep (fun g hg => hbb6.block g hg.2)) (Src.of_own hob6)
          rw [sameB_refl] at hsm6
          have HSM6 := Lib.hid hsm6
          have TB6 := Lib.hid (TA6.out.later hbb6)
          clear hsm6 hob6 hbb6 RB6
          go_wp2_with fail
          refine HSM6.out.mono ?_
          rintro e wc6 ⟨rfl, hst6⟩
          have TC6 := Lib.hid (TB6.out.later (hst6.below _))
          clear hst6 TB6 HSM6
          go_wp2_with fail
          go_roundw
          case rel => exact ⟨k + 1, xs ++ bs.take ρ, by omega, by go_num, TC6.out⟩
          case measure => simp [intOf]; omega
      · -- Put
        obtain ⟨ρ, hρ⟩ : ∃ ρ, xs.length + ρ = N := ⟨N - xs.length, by omega⟩
        have HRM := Lib.hid (room_of _ HI1.out.two hρ)
        have HRHO := Lib.hid hρ
        clear hρ
        by_cases hcmp : xl < ρ
        · have hp := put_two_ HI1.out HSRC.out xl (by have := HRHO.out; omega)
          have HP := Lib.hid hp
          have q1 := slice_to XA xl xc xl HSRC.out.cap
          clear hp
          go_wp2_with (go_at_call 22; refine HRM.out.mono ?_; rintro e w' ⟨rfl, rfl⟩)
          refine HP.out.mono ?_
          rintro e w4 ⟨rfl, t4, hk4⟩
          have hbx4 : Lies w4 wr.heap.size 33 #[.int .u8 kd, .int .i64 xn, .slice XA xl xc] := HBX.out.keep hk4 (by rw [HSZ.out]; omega) (fun e => by omega)
          have f2 : w4.cell? ⟨wr.heap.size, 2, none⟩ = some (.slice XA xl xc) := hbx4.cell 2
          have HP4 := Lib.hid (put_two_ t4.swap (src_to HSRC.out (Nat.le_refl xl)) xl (by have := HRHO.out; omega))
          clear hbx4 t4 hk4 HP
          go_wp2_with fail
          refine HP4.out.mono ?_
          rintro e w5 ⟨rfl, t5, hk5⟩
          have e5 : (bs.take xl).take xl = bs.take xl := by rw [List.take_take, Nat.min_self]
          rw [e5] at t5
          have HI5 := Lib.hid t5.swap
          clear t5 hk5 e5 HP4 HRHO HRM HBX HI1
          obtain ⟨ρ5, hρ5⟩ : ∃ q0 : Nat, (xs ++ bs.take xl).length + q0 = N := ⟨N - (xs ++ bs.take xl).length, by have := HI5.out.one.fits; omega⟩
          have rA5 := Lib.hid (len_has _ HI5.out.one)
          have rB5 := Lib.hid (room_of _ HI5.out.one hρ5)
          have rC5 := Lib.hid (len_has _ HI5.out.two)
          have hpk5 := peek_has _ HI5.out.one (N : Int)
          have e5k : kOf (xs ++ bs.take xl).length (N : Int) = (xs ++ bs.take xl).length := by rw [kOf_nat]; omega
          rw [e5k] at hpk5
          have rD5 := Lib.hid hpk5
          have EK5 := Lib.hid e5k
          have hs15 : ((xs ++ bs.take xl).length : Int) + (ρ5 : Int) ≤ (N : Int) := by omega
          have hs25 : (N : Int) ≤ ((xs ++ bs.take xl).length : Int) + (ρ5 : Int) := by omega
          clear hpk5 e5k hρ5
          generalize hLL5 : (xs ++ bs.take xl).length = L5 at *
          have HLL5 := Lib.hid hLL5
          clear hLL5
          go_wp2_with (first
            | (go_at_call 21; refine rA5.out.mono ?_; rintro e w' ⟨rfl, rfl⟩; clear rA5)
            | (go_at_call 22; refine rB5.out.mono ?_; rintro e w' ⟨rfl, rfl⟩; clear rB5))
          refine (len_again HI5.out.one HLL5.out).mono ?_
          rintro e w' ⟨rfl, rfl⟩
          go_wp2_with fail
          refine rC5.out.mono ?_
          rintro e w' ⟨rfl, rfl⟩
          go_wp2_with fail
          refine rD5.out.mono ?_
          rintro e wa5 ⟨Aa5, ca5, rfl, hoa5, hba5⟩
          have ta5 := HI5.out.later hba5
          have hpb5 := peek_has _ ta5.two (N : Int)
          rw [HLL5.out, EK5.out] at hpb5
          have RB5 := Lib.hid hpb5
          have TA5 := Lib.hid ta5
          have SA5 := Lib.hid (Src.of_own hoa5)
          clear ta5 hpb5 hoa5 hba5 rD5 rC5
          go_wp2_with fail
          refine RB5.out.mono ?_
          rintro e wb5 ⟨Ab5, cb5, rfl, hob5, hbb5⟩
          have hsm5 := same_has wb5 (SA5.out.keep (fun g hg => hbb5.block g hg.2)) (Src.of_own hob5)
          rw [sameB_refl] at hsm5
          have HSM5 := Lib.hid hsm5
          have TB5 := Lib.hid (TA5.out.later hbb5)
          clear hsm5 hob5 hbb5 RB5
          go_wp2_with fail
          refine HSM5.out.mono ?_
          rintro e wc5 ⟨rfl, hst5⟩
          have TC5 := Lib.hid (TB5.out.later (hst5.below _))
          clear hst5 TB5 HSM5
          go_wp2_with fail
          go_roundw
          case rel => exact ⟨k + 1, xs ++ bs.take xl, by omega, by go_num, TC5.out⟩
          case measure => simp [intOf]; omega
        · have hp := put_two_ HI1.out HSRC.out ρ (by have := HRHO.out; omega)
          have HP := Lib.hid hp
          have q1 := slice_to XA xl xc ρ (by have := HSRC.out.cap; omega)
          clear hp
          go_wp2_with (go_at_call 22; refine HRM.out.mono ?_; rintro e w' ⟨rfl, rfl⟩)
          refine HP.out.mono ?_
          rintro e w4 ⟨rfl, t4, hk4⟩
          have hbx4 : Lies w4 wr.heap.size 33 #[.int .u8 kd, .int .i64 xn, .slice XA xl xc] := HBX.out.keep hk4 (by rw [HSZ.out]; omega) (fun e => by omega)
          have f2 : w4.cell? ⟨wr.heap.size, 2, none⟩ = some (.slice XA xl xc) := hbx4.cell 2
          have HP4 := Lib.hid (put_two_ t4.swap (src_to HSRC.out (show ρ ≤ xl by omega)) ρ (by have := HRHO.out; omega))
          clear hbx4 t4 hk4 HP
          go_wp2_with fail
          refine HP4.out.mono ?_
          rintro e w5 ⟨rfl, t5, hk5⟩
          have e5 : (bs.take ρ).take ρ = bs.take ρ := by rw [List.take_take, Nat.min_self]
          rw [e5] at t5
          have HI5 := Lib.hid t5.swap
          clear t5 hk5 e5 HP4 HRHO HRM HBX HI1
          obtain ⟨ρ6, hρ6⟩ : ∃ q0 : Nat, (xs ++ bs.take ρ).length + q0 = N := ⟨N - (xs ++ bs.take ρ).length, by have := HI5.out.one.fits; omega⟩
          have rA6 := Lib.hid (len_has _ HI5.out.one)
          have rB6 := Lib.hid (room_of _ HI5.out.one hρ6)
          have rC6 := Lib.hid (len_has _ HI5.out.two)
          have hpk6 := peek_has _ HI5.out.one (N : Int)
          have e6k : kOf (xs ++ bs.take ρ).length (N : Int) = (xs ++ bs.take ρ).length := by rw [kOf_nat]; omega
          rw [e6k] at hpk6
          have rD6 := Lib.hid hpk6
          have EK6 := Lib.hid e6k
          have hs16 : ((xs ++ bs.take ρ).length : Int) + (ρ6 : Int) ≤ (N : Int) := by omega
          have hs26 : (N : Int) ≤ ((xs ++ bs.take ρ).length : Int) + (ρ6 : Int) := by omega
          clear hpk6 e6k hρ6
          generalize hLL6 : (xs ++ bs.take ρ).length = L6 at *
          have HLL6 := Lib.hid hLL6
          clear hLL6
          go_wp2_with (first
            | (go_at_call 21; refine rA6.out.mono ?_; rintro e w' ⟨rfl, rfl⟩; clear rA6)
            | (go_at_call 22; refine rB6.out.mono ?_; rintro e w' ⟨rfl, rfl⟩; clear rB6))
          refine (len_again HI5.out.one HLL6.out).mono ?_
          rintro e w' ⟨rfl, rfl⟩
          go_wp2_with fail
          refine rC6.out.mono ?_
          rintro e w' ⟨rfl, rfl⟩
          go_wp2_with fail
          refine rD6.out.mono ?_
          rintro e wa6 ⟨Aa6, ca6, rfl, hoa6, hba6⟩
          have ta6 := HI5.out.later hba6
          have hpb6 := peek_has _ ta6.two (N : Int)
          rw [HLL6.out, EK6.out] at hpb6
          have RB6 := Lib.hid hpb6
          have TA6 := Lib.hid ta6
          have SA6 := Lib.hid (Src.of_own hoa6)
          clear ta6 hpb6 hoa6 hba6 rD6 rC6
          go_wp2_with fail
          refine RB6.out.mono ?_
          rintro e wb6 ⟨Ab6, cb6, rfl, hob6, hbb6⟩
          have hsm6 := same_has wb6 (SA6.out.keep (fun g hg => hbb6.block g hg.2)) (Src.of_own hob6)
          rw [sameB_refl] at hsm6
          have HSM6 := Lib.hid hsm6
          have TB6 := Lib.hid (TA6.out.later hbb6)
          clear hsm6 hob6 hbb6 RB6
          go_wp2_with fail
          refine HSM6.out.mono ?_
          rintro e wc6 ⟨rfl, hst6⟩
          have TC6 := Lib.hid (TB6.out.later (hst6.below _))
          clear hst6 TB6 HSM6
          go_wp2_with fail
          go_roundw
          case rel => exact ⟨k + 1, xs ++ bs.take ρ, by omega, by go_num, TC6.out⟩
          case measure => simp [intOf]; omega
      · -- Take
        obtain ⟨m, hm⟩ : ∃ m, kOf xs.length xn = m := ⟨_, rfl⟩
        have HM1 := Lib.hid hm
        clear hm
        have hI1d := HI1.out.later ((Below.refl _ _).drew : Below _ _ (wr.alloc (.cells #[.int .u8 kd, .int .i64 xn, .slice XA xl xc] 33)).drew)
        have HLT : Hid (b' < (wr.alloc (.cells #[.int .u8 kd, .int .i64 xn, .slice XA xl xc] 33)).drew.heap.size) := hI1d.two.lt.1
        have HW3 : Hid (∀ w3, Keep (wr.alloc (.cells #[.int .u8 kd, .int .i64 xn, .slice XA xl xc] 33)).drew.heap.size (fun g => g = b) (wr.alloc (.cells #[.int .u8 kd, .int .i64 xn, .slice XA xl xc] 33)).drew w3 → w3.cell? ⟨wr.heap.size, 1, none⟩ = some (.int .i64 xn)) :=
          fun w3 hk3 => (HBX.out.drew.keep hk3 (by show wr.heap.size < (wr.alloc _).heap.size; rw [HSZ.out]; omega) (fun e => by omega)).cell 1
        have HT1 := Lib.hid (take_two hI1d xn m HM1.out)
        clear hI1d
        go_wp2_with fail
        go_region_with (first
          | (go_at_call 15; refine HT1.out.mono ?_; rintro e w3 ⟨A3, c3, rfl, t3, s3, k3⟩; have f1 := HW3.out w3 k3; have HT2 := Lib.hid (take_second t3 s3 HLT.out HM1.out); clear HT1 t3 s3 k3)
          | (go_at_call 15; refine HT2.out.mono ?_; rintro e w4 ⟨A4, c4, rfl, t4, s4⟩; have HSM := Lib.hid s4; have HI4 := Lib.hid t4; clear HT2 t4 s4)
          | (go_at_call 14; refine HSM.out.mono ?_; rintro e w5 ⟨rfl, hst⟩; have HI5 := Lib.hid (HI4.out.later (hst.below _)); clear HSM hst HI4))
        all_goals clear HW3 HLT HM1 HBX HI1
        all_goals
          obtain ⟨ρ7, hρ7⟩ : ∃ q0 : Nat, (xs.drop m).length + q0 = N := ⟨N - (xs.drop m).length, by have := HI5.out.one.fits; omega⟩
          have rA7 := Lib.hid (len_has _ HI5.out.one)
          have rB7 := Lib.hid (room_of _ HI5.out.one hρ7)
          have rC7 := Lib.hid (len_has _ HI5.out.two)
          have hpk7 := peek_has _ HI5.out.one (N : Int)
          have e7k : kOf (xs.drop m).length (N : Int) = (xs.drop m).length := by rw [kOf_nat]; omega
          rw [e7k] at hpk7
          have rD7 := Lib.hid hpk7
          have EK7 := Lib.hid e7k
          have hs17 : ((xs.drop m).length : Int) + (ρ7 : Int) ≤ (N : Int) := by omega
          have hs27 : (N : Int) ≤ ((xs.drop m).length : Int) + (ρ7 : Int) := by omega
          clear hpk7 e7k hρ7
          generalize hLL7 : (xs.drop m).length = L7 at *
          have HLL7 := Lib.hid hLL7
          clear hLL7
          go_wp2_with (first
            | (go_at_call 21; refine rA7.out.mono ?_; rintro e w' ⟨rfl, rfl⟩; clear rA7)
            | (go_at_call 22; refine rB7.out.mono ?_; rintro e w' ⟨rfl, rfl⟩; clear rB7))
          refine (len_again HI5.out.one HLL7.out).mono ?_
          rintro e w' ⟨rfl, rfl⟩
          go_wp2_with fail
          refine rC7.out.mono ?_
          rintro e w' ⟨rfl, rfl⟩
          go_wp2_with fail
          refine rD7.out.mono ?_
          rintro e wa7 ⟨Aa7, ca7, rfl, hoa7, hba7⟩
          have ta7 := HI5.out.later hba7
          have hpb7 := peek_has _ ta7.two (N : Int)
          rw [HLL7.out, EK7.out] at hpb7
          have RB7 := Lib.hid hpb7
          have TA7 := Lib.hid ta7
          have SA7 := Lib.hid (Src.of_own hoa7)
          clear ta7 hpb7 hoa7 hba7 rD7 rC7
          go_wp2_with fail
          refine RB7.out.mono ?_
          rintro e wb7 ⟨Ab7, cb7, rfl, hob7, hbb7⟩
          have hsm7 := same_has wb7 (SA7.out.keep (fun g hg => hbb7.block g hg.2)) (Src.of_own hob7)
          rw [sameB_refl] at hsm7
          have HSM7 := Lib.hid hsm7
          have TB7 := Lib.hid (TA7.out.later hbb7)
          clear hsm7 hob7 hbb7 RB7
          go_wp2_with fail
          refine HSM7.out.mono ?_
          rintro e wc7 ⟨rfl, hst7⟩
          have TC7 := Lib.hid (TB7.out.later (hst7.below _))
          clear hst7 TB7 HSM7
          go_wp2_with fail
          go_roundw
          case rel => exact ⟨k + 1, xs.drop m, by omega, by go_num, TC7.out⟩
          case measure => simp [intOf]; omega
      · -- Skip
        have hI1d := HI1.out.later ((Below.refl _ _).drew : Below _ _ (wr.alloc (.cells #[.int .u8 kd, .int .i64 xn, .slice XA xl xc] 33)).drew)
        by_cases hsk : xn < 0 ∨ (xs.length : Int) < xn
        · have HS1 := Lib.hid (skip_no _ hI1d.one xn hsk)
          have HS2 := Lib.hid (skip_no _ hI1d.two xn hsk)
          have HI5 := Lib.hid hI1d
          clear hI1d hsk
          go_wp2_with fail
          go_region_with (first
            | (go_at_call 17; refine HS1.out.mono ?_; rintro e w' ⟨rfl, rfl⟩; clear HS1)
            | (go_at_call 17; refine HS2.out.mono ?_; rintro e w' ⟨rfl, rfl⟩; clear HS2))
          all_goals clear HBX HI1
          all_goals
            obtain ⟨ρ8, hρ8⟩ : ∃ q0 : Nat, (xs).length + q0 = N := ⟨N - (xs).length, by have := HI5.out.one.fits; omega⟩
            have rA8 := Lib.hid (len_has _ HI5.out.one)
            have rB8 := Lib.hid (room_of _ HI5.out.one hρ8)
            have rC8 := Lib.hid (len_has _ HI5.out.two)
            have hpk8 := peek_has _ HI5.out.one (N : Int)
            have e8k : kOf (xs).length (N : Int) = (xs).length := by rw [kOf_nat]; omega
            rw [e8k] at hpk8
            have rD8 := Lib.hid hpk8
            have EK8 := Lib.hid e8k
            have hs18 : ((xs).length : Int) + (ρ8 : Int) ≤ (N : Int) := by omega
            have hs28 : (N : Int) ≤ ((xs).length : Int) + (ρ8 : Int) := by omega
            clear hpk8 e8k hρ8
            generalize hLL8 : (xs).length = L8 at *
            have HLL8 := Lib.hid hLL8
            clear hLL8
            go_wp2_with (first
              | (go_at_call 21; refine rA8.out.mono ?_; rintro e w' ⟨rfl, rfl⟩; clear rA8)
              | (go_at_call 22; refine rB8.out.mono ?_; rintro e w' ⟨rfl, rfl⟩; clear rB8))
            refine (len_again HI5.out.one HLL8.out).mono ?_
            rintro e w' ⟨rfl, rfl⟩
            go_wp2_with fail
            refine rC8.out.mono ?_
            rintro e w' ⟨rfl, rfl⟩
            go_wp2_with fail
            refine rD8.out.mono ?_
            rintro e wa8 ⟨Aa8, ca8, rfl, hoa8, hba8⟩
            have ta8 := HI5.out.later hba8
            have hpb8 := peek_has _ ta8.two (N : Int)
            rw [HLL8.out, EK8.out] at hpb8
            have RB8 := Lib.hid hpb8
            have TA8 := Lib.hid ta8
            have SA8 := Lib.hid (Src.of_own hoa8)
            clear ta8 hpb8 hoa8 hba8 rD8 rC8
            go_wp2_with fail
            refine RB8.out.mono ?_
            rintro e wb8 ⟨Ab8, cb8, rfl, hob8, hbb8⟩
            have hsm8 := same_has wb8 (SA8.out.keep (fun g hg => hbb8.block g hg.2)) (Src.of_own hob8)
            rw [sameB_refl] at hsm8
            have HSM8 := Lib.hid hsm8
            have TB8 := Lib.hid (TA8.out.later hbb8)
            clear hsm8 hob8 hbb8 RB8
            go_wp2_with fail
            refine HSM8.out.mono ?_
            rintro e wc8 ⟨rfl, hst8⟩
            have TC8 := Lib.hid (TB8.out.later (hst8.below _))
            clear hst8 TB8 HSM8
            go_wp2_with fail
            go_roundw
            case rel => exact ⟨k + 1, xs, by omega, by go_num, TC8.out⟩
            case measure => simp [intOf]; omega
        · obtain ⟨m, rfl⟩ : ∃ m : Nat, xn = (m : Int) := ⟨xn.toNat, by omega⟩
          have hm : m ≤ xs.length := by omega
          have HW3 : Hid (∀ w3, Keep (wr.alloc (.cells #[.int .u8 kd, .int .i64 (m : Int), .slice XA xl xc] 33)).drew.heap.size (fun g => g = b) (wr.alloc (.cells #[.int .u8 kd, .int .i64 (m : Int), .slice XA xl xc] 33)).drew w3 → w3.cell? ⟨wr.heap.size, 1, none⟩ = some (.int .i64 (m : Int))) :=
            fun w3 hk3 => (HBX.out.drew.keep hk3 (by show wr.heap.size < (wr.alloc _).heap.size; rw [HSZ.out]; omega) (fun e => by omega)).cell 1
          have HS1 := Lib.hid (skip_two hI1d m hm)
          clear hI1d hsk
          go_wp2_with fail
          go_region_with (first
            | (go_at_call 17; refine HS1.out.mono ?_; rintro e w3 ⟨rfl, t3, k3⟩; have f1 := HW3.out w3 k3; have HS2 := Lib.hid (skip_second t3 hm); clear HS1 t3 k3)
            | (go_at_call 17; refine HS2.out.mono ?_; rintro e w4 ⟨rfl, t4⟩; have HI5 := Lib.hid t4; clear HS2 t4))
          all_goals clear HW3 HBX HI1
          all_goals
            obtain ⟨ρ9, hρ9⟩ : ∃ q0 : Nat, (xs.drop m).length + q0 = N := ⟨N - (xs.drop m).length, by have := HI5.out.one.fits; omega⟩
            have rA9 := Lib.hid (len_has _ HI5.out.one)
            have rB9 := Lib.hid (room_of _ HI5.out.one hρ9)
            have rC9 := Lib.hid (len_has _ HI5.out.two)
            have hpk9 := peek_has _ HI5.out.one (N : Int)
            have e9k : kOf (xs.drop m).length (N : Int) = (xs.drop m).length := by rw [kOf_nat]; omega
            rw [e9k] at hpk9
            have rD9 := Lib.hid hpk9
            have EK9 := Lib.hid e9k
            have hs19 : ((xs.drop m).length : Int) + (ρ9 : Int) ≤ (N : Int) := by omega
            have hs29 : (N : Int) ≤ ((xs.drop m).length : Int) + (ρ9 : Int) := by omega
            clear hpk9 e9k hρ9
            generalize hLL9 : (xs.drop m).length = L9 at *
            have HLL9 := Lib.hid hLL9
            clear hLL9
            go_wp2_with (first
              | (go_at_call 21; refine rA9.out.mono ?_; rintro e w' ⟨rfl, rfl⟩; clear rA9)
              | (go_at_call 22; refine rB9.out.mono ?_; rintro e w' ⟨rfl, rfl⟩; clear rB9))
            refine (len_again HI5.out.one HLL9.out).mono ?_
            rintro e w' ⟨rfl, rfl⟩
            go_wp2_with fail
            refine rC9.out.mono ?_
            rintro e w' ⟨rfl, rfl⟩
            go_wp2_with fail
            refine rD9.out.mono ?_
            rintro e wa9 ⟨Aa9, ca9, rfl, hoa9, hba9⟩
            have ta9 := HI5.out.later hba9
            have hpb9 := peek_has _ ta9.two (N : Int)
            rw [HLL9.out, EK9.out] at hpb9
            have RB9 := Lib.hid hpb9
            have TA9 := Lib.hid ta9
            have SA9 := Lib.hid (Src.of_own hoa9)
            clear ta9 hpb9 hoa9 hba9 rD9 rC9
            go_wp2_with fail
            refine RB9.out.mono ?_
            rintro e wb9 ⟨Ab9, cb9, rfl, hob9, hbb9⟩
            have hsm9 := same_has wb9 (SA9.out.keep (fun g hg => hbb9.block g hg.2)) (Src.of_own hob9)
            rw [sameB_refl] at hsm9
            have HSM9 := Lib.hid hsm9
            have TB9 := Lib.hid (TA9.out.later hbb9)
            clear hsm9 hob9 hbb9 RB9
            go_wp2_with fail
            refine HSM9.out.mono ?_
            rintro e wc9 ⟨rfl, hst9⟩
            have TC9 := Lib.hid (TB9.out.later (hst9.below _))
            clear hst9 TB9 HSM9
            go_wp2_with fail
            go_roundw
            case rel => exact ⟨k + 1, xs.drop m, by omega, by go_num, TC9.out⟩
            case measure => simp [intOf]; omega
    · obtain rfl : k = len := by omega
      obtain ⟨ρ, hρ⟩ : ∃ q0 : Nat, xs.length + q0 = N := ⟨N - xs.length, by have := hinv.out.one.fits; omega⟩
      have HRM := Lib.hid (room_of _ hinv.out.one hρ)
      have HRHO := Lib.hid hρ
      clear hρ
      by_cases hA : yl < ρ
      · have HP := Lib.hid (put_two_ hinv.out HY.out yl (by have := HRHO.out; omega))
        have hN2 : (xs ++ bys.take yl).length + (ρ - yl) = N := by rw [List.length_append, List.length_take, HY.out.len]; have := HRHO.out; omega
        have HN2 := Lib.hid hN2
        clear hN2
        have hd : 0 < ρ - yl := by omega
        go_wp2_with (go_at_call 22; refine HRM.out.mono ?_; rintro e w' ⟨rfl, rfl⟩)
        refine HP.out.mono ?_
        rintro e w4 ⟨rfl, t4, k4⟩
        have HR4 := Lib.hid (room_of _ t4.one HN2.out)
        have HB4 := Lib.hid t4.below
        clear t4 k4 HP HRM
        go_wp2_with fail
        refine HR4.out.mono ?_
        rintro e w' ⟨rfl, rfl⟩
        go_wp2_with fail
        all_goals go_ret
        all_goals exact ⟨rfl, HB4.out⟩
      · by_cases hB : ρ < yl
        · have HP := Lib.hid (put_two_ hinv.out HY.out ρ (by have := HRHO.out; omega))
          have hN2 : (xs ++ bys.take ρ).length + 0 = N := by rw [List.length_append, List.length_take, HY.out.len]; have := HRHO.out; omega
          have HN2 := Lib.hid hN2
          clear hN2
          go_wp2_with (go_at_call 22; refine HRM.out.mono ?_; rintro e w' ⟨rfl, rfl⟩)
          refine HP.out.mono ?_
          rintro e w4 ⟨rfl, t4, k4⟩
          have HR4 := Lib.hid (room_of _ t4.one HN2.out)
          have HB4 := Lib.hid t4.below
          clear t4 k4 HP HRM
          go_wp2_with fail
          refine HR4.out.mono ?_
          rintro e w' ⟨rfl, rfl⟩
          go_wp2_with fail
          all_goals go_ret
          all_goals exact ⟨rfl, HB4.out⟩
        · have hC : ρ = yl := by omega
          subst hC
          have HP := Lib.hid (put_two_ hinv.out HY.out ρ (by have := HRHO.out; omega))
          have hN2 : (xs ++ bys.take ρ).length + 0 = N := by rw [List.length_append, List.length_take, HY.out.len]; have := HRHO.out; omega
          have HN2 := Lib.hid hN2
          clear hN2
          go_wp2_with (go_at_call 22; refine HRM.out.mono ?_; rintro e w' ⟨rfl, rfl⟩)
          refine HP.out.mono ?_
          rintro e w4 ⟨rfl, t4, k4⟩
          have HR4 := Lib.hid (room_of _ t4.one HN2.out)
          have HB4 := Lib.hid t4.below
          clear t4 k4 HP HRM
          go_wp2_with fail
          refine HR4.out.mono ?_
          rintro e w' ⟨rfl, rfl⟩
          go_wp2_with fail
          all_goals go_ret
          all_goals exact ⟨rfl, HB4.out⟩

set_option maxRecDepth 100000 in
set_option maxHeartbeats 1000000 in
theorem room_out (size : Int) (A : Option Addr) (c : Nat) (acts : List ActD) (YA : Option Addr) (yl yc : Nat) (w : World) (hm : acts.length ≤ maxLen) (hat : ActsAt w A acts) (h : size < 1 ∨ 300 < size ∨ greatB acts = true ∨ 300 < yl) :
    Calls Try.prog 6 #[.int .i64 size, .slice A acts.length c, .slice YA yl yc] w fun e w' => e = .returned (.bool true) ∧ Below w.heap.size w w' := by
  have HA := Lib.hid (awake_any w)
  have HM := Lib.hid hm
  have HAT := Lib.hid hat
  clear hm hat
  go_enter Try.func6, Try.ntmps6
  go_wp2_with fail
  refine HA.out.mono ?_
  rintro e w1 ⟨rfl, hb⟩
  have hat1 := ActsAt.below HAT.out (actsAt_lt HAT.out) hb
  have HGR := Lib.hid (great_any A c acts w1 HM.out hat1)
  have HB := Lib.hid hb
  clear hb hat1
  by_cases h1 : size < 1
  · go_wp2_with fail
    go_ret
    exact ⟨rfl, HB.out⟩
  · by_cases h2 : 300 < size
    · go_wp2_with fail
      go_ret
      exact ⟨rfl, HB.out⟩
    · rcases hgr : greatB acts with _ | _
      · have h3 : 300 < (yl : Int) := by rw [hgr] at h; rcases h with h | h | h | h; omega; omega; cases h; omega
        have HG := Lib.hid hgr
        clear h hgr
        go_wp2_with fail
        refine HGR.out.mono ?_
        rintro e w' ⟨rfl, rfl⟩
        rw [HG.out]
        go_wp2_with fail
        go_ret
        exact ⟨rfl, HB.out⟩
      · have HG := Lib.hid hgr
        clear h hgr
        go_wp2_with fail
        refine HGR.out.mono ?_
        rintro e w' ⟨rfl, rfl⟩
        rw [HG.out]
        go_wp2_with fail
        go_ret
        exact ⟨rfl, HB.out⟩

end Go.Proofs.Ythagggclhahikaa.room
