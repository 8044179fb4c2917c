/-
  Given for the seat's laws: GreetOnce at any bytes and any bytes behind. No condition.
-/
import Derived.Test.YtdjfpkobnggohaaGBack
namespace Go.Proofs.Ytdjfpkobnggohaa.gr
open Go.RowKit mem
set_option linter.unusedVariables false

theorem tk_begin (k : UInt8) (ms : Str) (i : Nat) (hk : k ≠ 0) (hi : i < 2 + k.toNat) (hl : k.toNat ≤ ms.length) : tk ((5 :: k :: ms).take i) = ([], 0, 5) := by
  match i with
  | 0 => rfl
  | 1 => rfl
  | i + 2 =>
    show tk (5 :: k :: ms.take i) = _
    exact tk_short hk (by simp; omega)

/-- on the way to a greeting: what is there of it -/
structure WI (w0 wr : World) (k : UInt8) (A : Option Addr) (n c : Nat) : Prop where
  ex : ∃ xs : Str, n = 2 + xs.length ∧ xs.length ≤ k.toNat ∧ Made w0 wr (.slice A n c) (5 :: k :: xs)
theorem WI.cell {w0 wr : World} {k : UInt8} {A : Option Addr} {n c : Nat} (h : WI w0 wr k A n c) : ∃ g off, A = some ⟨g, off, none⟩ ∧ wr.cell? ⟨g, off + 1, none⟩ = some (.int .u8 (k.toNat : Int)) := by
  obtain ⟨xs, hn, _, hm⟩ := h.ex
  obtain ⟨g, off, e, _, _, hd⟩ := two_cells (made_spell hm (by simp; omega))
  exact ⟨g, off, e, hd⟩
theorem WI.le {w0 wr : World} {k : UInt8} {A : Option Addr} {n c : Nat} (h : WI w0 wr k A n c) : 2 ≤ n ∧ n ≤ 2 + k.toNat := by
  obtain ⟨xs, hn, hl, _⟩ := h.ex
  omega
theorem WI.push {w0 wr : World} {k : UInt8} {A : Option Addr} {n c : Nat} (h : WI w0 wr k A n c) (hlt : n < 2 + k.toNat) :
    ∃ A2 c2 w2, (Builtin.append_ #[22, 22] 22 #[.slice A n c, .slice (some ⟨wr.heap.size, 0, none⟩) 1 1]).run Try.prog (wr.alloc (.cells #[.int .u8 7] 5)) = .ok (.slice A2 (n + 1) c2) w2 ∧ WI w0 w2 k A2 (n + 1) c2 := by
  obtain ⟨xs, hn, hl, hm⟩ := h.ex
  have hk := k.toNat_lt
  have hlen : (5 :: k :: xs).length = n := by simp; omega
  obtain ⟨A2, c2, w2, happ, hm2⟩ := hm.push (by rw [hlen]; omega) 7
  rw [hlen] at happ hm2
  exact ⟨A2, c2, w2, happ, ⟨xs ++ [7], by simp; omega, by simp; omega, by rw [List.cons_append, List.cons_append] at hm2; exact hm2⟩⟩
theorem WI.take {w0 wr : World} {k : UInt8} {A : Option Addr} {n c : Nat} (h : WI w0 wr k A n c) (hk : k ≠ 0) (hlt : ¬ n < 2 + k.toNat) : ∃ l p, Calls Try.prog 8 #[.slice A n c] wr (TakeAs l k.toNat p 0 wr) := by
  obtain ⟨xs, hn, hl, hm⟩ := h.ex
  have hx : xs.length = k.toNat := by omega
  refine ⟨xs, 2 + k.toNat, take_as (made_spell hm (by simp; omega)) (fun g hg => hg) ?_ hx⟩
  rw [tk_whole hk (by omega), ← hx, List.take_length]
theorem WI.below {w0 wr : World} {k : UInt8} {A : Option Addr} {n c : Nat} (h : WI w0 wr k A n c) : Below w0.heap.size w0 wr := by
  obtain ⟨_, _, _, hm⟩ := h.ex
  exact hm.below

def lenOf : Value → Nat
  | .slice _ n _ => n
  | _ => 0
/-- both copies -/
theorem both {w : World} {A B : Option Addr} {n c m d : Nat} {b ds : Str} (hs : Spell w (fun g => g < w.heap.size) A n c b) (hd : Spell w (fun g => g < w.heap.size) B m d ds) (hn : n ≤ 400) (hm : m ≤ 400) :
    ∃ A2 c2 w2 A3 c3 w3, (Builtin.append_ #[22, 22] 22 #[.slice (some ⟨w.heap.size, 0, none⟩) 0 0, .slice A n c]).run Try.prog (w.alloc (.cells #[] 5)) = .ok (.slice A2 n c2) w2 ∧
      (Builtin.append_ #[22, 22] 22 #[.slice A2 n c2, .slice B m d]).run Try.prog w2 = .ok (.slice A3 (n + m) c3) w3 ∧ Made w w3 (.slice A3 (n + m) c3) (b ++ ds) := by
  obtain ⟨A2, c2, w2, happ, hm2⟩ := mine hs (fun g hg => hg) (by omega)
  obtain ⟨A3, c3, w3, happ3, hm3⟩ := app_made hm2 (spell_len hs) (hd.below hm2.below (fun g hg => hg)) (by omega)
  exact ⟨A2, c2, w2, A3, c3, w3, happ, happ3, hm3⟩

set_option maxHeartbeats 4000000 in
set_option maxRecDepth 100000 in
theorem once_big {w : World} {A B : Option Addr} {n c m d : Nat} (hq : 400 < n ∨ 400 < m) : Calls Try.prog 5 #[.slice A n c, .slice B m d] w (True_ w) := by
  have HAW := Lib.hid (awake_any w)
  rcases (show 400 < n ∨ (¬ 400 < n ∧ 400 < m) by omega) with h0 | ⟨h0, h1⟩
  all_goals
    clear hq
    go_enter Try.func5, Try.ntmps5
    go_wp2_with fail
    refine HAW.out.mono ?_
    rintro e w1 ⟨rfl, hb1⟩
    have HB1 := Lib.hid hb1
    clear hb1
    go_wp2_with fail
    go_ret
    exact ⟨rfl, HB1.out⟩

set_option maxHeartbeats 4000000 in
set_option maxRecDepth 100000 in
theorem once_no {w : World} {A B : Option Addr} {n c m d : Nat} {b ds : Str} (hs : Spell w (fun g => g < w.heap.size) A n c b) (hd : Spell w (fun g => g < w.heap.size) B m d ds) (hn : n ≤ 400) (hm : m ≤ 400) (htk : tk b = ([], 0, 6)) (htk2 : tk (b ++ ds) = ([], 0, 6)) :
    Calls Try.prog 5 #[.slice A n c, .slice B m d] w (True_ w) := by
  have HAW := Lib.hid (awake_any w)
  have HS := Lib.hid hs
  have HD := Lib.hid hd
  have h0' : ¬ 400 < n := by omega
  have h1' : ¬ 400 < m := by omega
  clear hs hd
  go_enter Try.func5, Try.ntmps5
  go_wp2_with fail
  refine HAW.out.mono ?_
  rintro e w1 ⟨rfl, hb1⟩
  have hs1 : Spell w1 (fun g => g < w1.heap.size) A n c b := (HS.out.below hb1 (fun g hg => hg)).weak (fun g hg => Nat.lt_of_lt_of_le hg hb1.size)
  have hd1 : Spell w1 (fun g => g < w1.heap.size) B m d ds := (HD.out.below hb1 (fun g hg => hg)).weak (fun g hg => Nat.lt_of_lt_of_le hg hb1.size)
  obtain ⟨A2, c2, w2, A3, c3, w3, happ2, happ3, hm3⟩ := both hs1 hd1 (by omega) (by omega)
  have HAp2 := Lib.hid happ2
  have HAp3 := Lib.hid happ3
  have hm3' := hm3.since hb1
  have HM3 := Lib.hid hm3'
  have HT1 := Lib.hid (take_as (HS.out.below hm3'.below (fun g hg => hg)) (fun g hg => Nat.lt_of_lt_of_le hg hm3'.below.size) htk rfl)
  clear hb1 hs1 hd1 happ2 happ3 hm3 hm3'
  go_wp2_with (at_builtin; first
    | (refine wpList_append_eq rfl _ _ rfl rfl rfl rfl HAp2.out ?_; clear HAp2)
    | (refine wpList_append_eq rfl _ _ rfl rfl rfl rfl HAp3.out ?_; clear HAp3))
  go_wp2_with fail
  refine HT1.out.mono ?_
  rintro e w4 ⟨A4, c4, rfl, hm4⟩
  have hm34 := HM3.out.fresh hm4.below
  have HT2 := Lib.hid (take_as (made_spell hm34 (by rw [List.length_append, spell_len HS.out, spell_len HD.out])) (fun g hg => hg) htk2 rfl)
  have HM4 := Lib.hid (hm4.since HM3.out.below)
  clear hm4 hm34
  simp only [List.length_nil]
  go_wp2_with fail
  refine HT2.out.mono ?_
  rintro e w5 ⟨A5, c5, rfl, hm5⟩
  have hm45 := HM4.out.fresh hm5.below
  have hc1 := spell_str (made_spell hm45 rfl)
  have hc2 := spell_str (made_spell hm5 rfl)
  have HB5 := Lib.hid hm45.below
  have hse := (str_eq [])
  have hse1 := hse.1
  have hse2 := hse.2
  clear hm45 hm5 hse
  simp only [List.length_nil] at hc1 hc2
  simp only [List.length_nil]
  go_wp2_with fail
  clear hc1 hc2
  go_loop [12] (fun s12 => s12 = .int .i64 0) (fun _ => 0)
  case atStart => rfl
  case round =>
    obtain rfl := hrel
    go_wp2_with fail
    go_ret
    exact ⟨rfl, HB5.out⟩

set_option maxHeartbeats 8000000 in
set_option maxRecDepth 100000 in
theorem once_yes {w : World} {A B : Option Addr} {n c m d : Nat} {k : UInt8} {ms b ds : Str} (hs : Spell w (fun g => g < w.heap.size) A n c b) (hd : Spell w (fun g => g < w.heap.size) B m d ds) (hn : n ≤ 400) (hm : m ≤ 400) (hb : b = 5 :: k :: ms) (hk : k ≠ 0) (hl : k.toNat ≤ ms.length) :
    Calls Try.prog 5 #[.slice A n c, .slice B m d] w (True_ w) := by
  have hbl := spell_len hs
  have htk : tk b = (ms.take k.toNat, 2 + k.toNat, 0) := by rw [hb]; exact tk_whole hk hl
  have htk2 : tk (b ++ ds) = (ms.take k.toNat, 2 + k.toNat, 0) := by
    rw [hb]
    show tk (5 :: k :: (ms ++ ds)) = _
    rw [tk_whole hk (by simp; omega), List.take_append_of_le_length hl]
  have htb : ∀ i, i < 2 + k.toNat → tk (b.take i) = ([], 0, 5) := fun i hi => by rw [hb]; exact tk_begin k ms i hk hi hl
  have hkl : (ms.take k.toNat).length = k.toNat := by simp; omega
  obtain ⟨hk1, hk2⟩ := toNat_pos hk
  have hkn : 2 + k.toNat ≤ n := by rw [← hbl, hb]; simp; omega
  have HKL := Lib.hid hkl
  have HTB := Lib.hid htb
  clear hbl hb hkl htb
  generalize ms.take k.toNat = t at *
  generalize k.toNat = j at *
  clear hl hk
  have HAW := Lib.hid (awake_any w)
  have HS := Lib.hid hs
  have HD := Lib.hid hd
  have h0' : ¬ 400 < n := by omega
  have h1' : ¬ 400 < m := by omega
  clear hs hd
  go_enter Try.func5, Try.ntmps5
  go_wp2_with fail
  refine HAW.out.mono ?_
  rintro e w1 ⟨rfl, hb1⟩
  have hs1 : Spell w1 (fun g => g < w1.heap.size) A n c b := (HS.out.below hb1 (fun g hg => hg)).weak (fun g hg => Nat.lt_of_lt_of_le hg hb1.size)
  have hd1 : Spell w1 (fun g => g < w1.heap.size) B m d ds := (HD.out.below hb1 (fun g hg => hg)).weak (fun g hg => Nat.lt_of_lt_of_le hg hb1.size)
  obtain ⟨A2, c2, w2, A3, c3, w3, happ2, happ3, hm3⟩ := both hs1 hd1 (by omega) (by omega)
  have HAp2 := Lib.hid happ2
  have HAp3 := Lib.hid happ3
  have hm3' := hm3.since hb1
  have HM3 := Lib.hid hm3'
  have HT1 := Lib.hid (take_as (HS.out.below hm3'.below (fun g hg => hg)) (fun g hg => Nat.lt_of_lt_of_le hg hm3'.below.size) htk HKL.out)
  clear hb1 hs1 hd1 happ2 happ3 hm3 hm3'
  go_wp2_with (at_builtin; first
    | (refine wpList_append_eq rfl _ _ rfl rfl rfl rfl HAp2.out ?_; clear HAp2)
    | (refine wpList_append_eq rfl _ _ rfl rfl rfl rfl HAp3.out ?_; clear HAp3))
  go_wp2_with fail
  refine HT1.out.mono ?_
  rintro e w4 ⟨A4, c4, rfl, hm4⟩
  have hm34 := HM3.out.fresh hm4.below
  have HT2 := Lib.hid (take_as (made_spell hm34 (by rw [List.length_append, spell_len HS.out, spell_len HD.out])) (fun g hg => hg) htk2 HKL.out)
  have HM4 := Lib.hid (hm4.since HM3.out.below)
  clear hm4 hm34 htk htk2
  go_wp2_with fail
  refine HT2.out.mono ?_
  rintro e w5 ⟨A5, c5, rfl, hm5⟩
  have hm45 := HM4.out.fresh hm5.below
  have hc1 := spell_str (made_spell hm45 HKL.out)
  have hc2 := spell_str (made_spell hm5 HKL.out)
  have HB5 := Lib.hid hm45.below
  have hse := (str_eq t)
  have hse1 := hse.1
  have hse2 := hse.2
  clear hm45 hm5 hse
  go_wp2_with fail
  clear hc1 hc2
  go_loopw [12] (fun s12 wr => ∃ i : Nat, i ≤ 2 + j ∧ s12 = .int .i64 (i : Int) ∧ Hid (Below w.heap.size w wr)) (fun s12 _ => 2 + j - (intOf s12).toNat)
  case atStart => exact ⟨0, by omega, rfl, HB5⟩
  case round =>
    clear HB5
    obtain ⟨i, hi, rfl, HB⟩ := hrel
    by_cases hlt : i < 2 + j
    · have hin : i < n := by omega
      have hs6 : Spell wr (fun g => g < w.heap.size) A i c (b.take i) := by
        have h := (HS.out.below HB.out (fun g hg => hg)).takeN i (by omega)
        rwa [ints_take] at h
      have HT6 := Lib.hid (take_as hs6 (fun g hg => Nat.lt_of_lt_of_le hg HB.out.size) (HTB.out i hlt) rfl)
      have hic : i ≤ c := by have := HS.out.cap; omega
      clear hs6
      go_wp2_with fail
      refine HT6.out.mono ?_
      rintro e w6 ⟨A6, c6, rfl, hm6⟩
      have HB6 := Lib.hid (HB.out.trans (hm6.below.mono HB.out.size))
      clear hm6
      simp only [List.length_nil]
      go_wp2_with fail
      go_roundw
      case rel => exact ⟨i + 1, by omega, by go_num, HB6⟩
      case measure => simp [intOf]; omega
    · obtain rfl : i = 2 + j := by omega
      go_wp2_with fail
      go_ret
      exact ⟨rfl, HB.out⟩

set_option maxHeartbeats 8000000 in
set_option maxRecDepth 100000 in
theorem once_more0 {w : World} {A B : Option Addr} {n c m d : Nat} {b ds : Str} (hb : b = []) (hs : Spell w (fun g => g < w.heap.size) A n c b) (hd : Spell w (fun g => g < w.heap.size) B m d ds) (hn : n ≤ 400) (hm : m ≤ 400) :
    Calls Try.prog 5 #[.slice A n c, .slice B m d] w (True_ w) := by
  have hbl := spell_len hs
  subst hb
  obtain rfl : n = 0 := hbl.symm
  clear hbl
  have htk : tk [] = ([], 0, 5) := rfl
  obtain ⟨k, hkd⟩ : ∃ k : UInt8, k = 1 := ⟨1, rfl⟩
  have HK : Hid (k ≠ 0) := Lib.hid (by rw [hkd]; decide)
  have HKD := Lib.hid hkd
  clear hkd
  have HAW := Lib.hid (awake_any w)
  have HS := Lib.hid hs
  have HD := Lib.hid hd
  have h1' : ¬ 400 < m := by omega
  clear hs hd hn
  go_enter Try.func5, Try.ntmps5
  go_wp2_with fail
  refine HAW.out.mono ?_
  rintro e w1 ⟨rfl, hb1⟩
  have hs1 : Spell w1 (fun g => g < w1.heap.size) A 0 c [] := (HS.out.below hb1 (fun g hg => hg)).weak (fun g hg => Nat.lt_of_lt_of_le hg hb1.size)
  have hd1 : Spell w1 (fun g => g < w1.heap.size) B m d ds := (HD.out.below hb1 (fun g hg => hg)).weak (fun g hg => Nat.lt_of_lt_of_le hg hb1.size)
  obtain ⟨A2, c2, w2, A3, c3, w3, happ2, happ3, hm3⟩ := both hs1 hd1 (by omega) (by omega)
  simp only [Nat.zero_add] at happ3 hm3
  have HAp2 := Lib.hid happ2
  have HAp3 := Lib.hid happ3
  have hm3' := hm3.since hb1
  have HM3 := Lib.hid hm3'
  have HT1 := Lib.hid (take_as (HS.out.below hm3'.below (fun g hg => hg)) (fun g hg => Nat.lt_of_lt_of_le hg hm3'.below.size) htk rfl)
  clear hb1 hs1 hd1 happ2 happ3 hm3 hm3'
  go_wp2_with (at_builtin; first
    | (refine wpList_append_eq rfl _ _ rfl rfl rfl rfl HAp2.out ?_; clear HAp2)
    | (refine wpList_append_eq rfl _ _ rfl rfl rfl rfl HAp3.out ?_; clear HAp3))
  go_wp2_with fail
  refine HT1.out.mono ?_
  rintro e w4 ⟨A4, c4, rfl, hm4⟩
  have hm34 := HM3.out.fresh hm4.below
  obtain ⟨l2, p2, q2, htk2⟩ : ∃ l p q, tk ([] ++ ds) = (l, p, q) := ⟨_, _, _, rfl⟩
  have HT2 := Lib.hid (take_as (made_spell hm34 (by rw [List.length_append, spell_len HS.out, spell_len HD.out, Nat.zero_add])) (fun g hg => hg) htk2 rfl)
  have HM4 := Lib.hid (hm4.since HM3.out.below)
  clear hm4 hm34 htk2 htk
  simp only [List.length_nil]
  generalize l2.length = k2 at *
  go_wp2_with fail
  refine HT2.out.mono ?_
  rintro e w5 ⟨A5, c5, rfl, hm5⟩
  have hb5 := (HM4.out.fresh hm5.below).below
  have HB5 := Lib.hid hb5
  obtain ⟨A6, c6, w6, happ6, hm6⟩ := mine (HS.out.below hb5 (fun g hg => hg)) (fun g hg => Nat.lt_of_lt_of_le hg hb5.size) (by omega)
  have HAp6 := Lib.hid happ6
  have hm6' := hm6.since hb5
  clear hm5 hb5 happ6 hm6
  obtain ⟨A7, c7, w7, happ7, hm7⟩ := hm6'.push (by simp) 5
  obtain ⟨A8, c8, w8, happ8, hm8⟩ := hm7.push (by simp) 1
  have HAp7 : Hid ((Builtin.append_ #[22, 22] 22 #[.slice A6 0 c6, .slice (some ⟨w6.heap.size, 0, none⟩) 1 1]).run Try.prog (w6.alloc (.cells #[.int .u8 5] 5)) = .ok (.slice A7 1 c7) w7) := Lib.hid happ7
  have HAp8 : Hid ((Builtin.append_ #[22, 22] 22 #[.slice A7 1 c7, .slice (some ⟨w7.heap.size, 0, none⟩) 1 1]).run Try.prog (w7.alloc (.cells #[.int .u8 1] 5)) = .ok (.slice A8 2 c8) w8) := Lib.hid happ8
  have HW : Hid (WI w w8 k A8 2 c8) := Lib.hid ⟨[], rfl, by simp, by rw [HKD.out]; exact hm8⟩
  clear happ7 happ8 hm6' hm7 hm8
  go_wp2_with (at_builtin; first
    | (refine wpList_append_eq rfl _ _ rfl rfl rfl rfl HAp6.out ?_; clear HAp6)
    | (refine wpList_append_eq rfl _ _ rfl rfl rfl rfl HAp7.out ?_; clear HAp7)
    | (refine wpList_append_eq rfl _ _ rfl rfl rfl rfl HAp8.out ?_; clear HAp8))
  go_loopw [16] (fun s16 wr => ∃ (A' : Option Addr) (n' c' : Nat), s16 = .slice A' n' c' ∧ Hid (WI w wr k A' n' c')) (fun s16 _ => 300 - lenOf s16)
  case atStart => exact ⟨_, _, _, rfl, HW⟩
  case round =>
    clear HW
    obtain ⟨A', n', c', rfl, HW⟩ := hrel
    have hcl := HW.out.cell
    obtain ⟨hlo, hhi⟩ := HW.out.le
    by_cases hlt : n' < 2 + k.toNat
    · obtain ⟨A7, c7, w7, happ7, hw7⟩ := HW.out.push hlt
      have HAp7 := Lib.hid happ7
      have HW7 := Lib.hid hw7
      obtain ⟨g', off', rfl, hcell⟩ := hcl
      have hkb := k.toNat_lt
      have h1n : 1 < n' := by omega
      clear happ7 hw7
      generalize k.toNat = j at *
      have hj0 : (0 : Int) ≤ (j : Int) := by omega
      have hj1 : (j : Int) < 256 := by omega
      go_wp2_with (at_builtin; refine wpList_append_eq rfl _ _ rfl rfl rfl rfl HAp7.out ?_; clear HAp7)
      go_roundw
      case rel => exact ⟨A7, n' + 1, c7, rfl, HW7⟩
      case measure => simp [lenOf]; omega
    · obtain ⟨l8, p8, hT8⟩ := HW.out.take HK.out hlt
      have HT8 := Lib.hid hT8
      have HBW := Lib.hid HW.out.below
      obtain ⟨g', off', rfl, hcell⟩ := hcl
      have hkb := k.toNat_lt
      have h1n : 1 < n' := by omega
      clear hT8
      generalize k.toNat = j at *
      have hj0 : (0 : Int) ≤ (j : Int) := by omega
      have hj1 : (j : Int) < 256 := by omega
      go_wp2_with fail
      refine HT8.out.mono ?_
      rintro e w8 ⟨A8, c8, rfl, hm8⟩
      have HB8 := Lib.hid (HBW.out.trans (hm8.below.mono HBW.out.size))
      clear hm8
      go_wp2_with fail
      go_ret
      exact ⟨rfl, HB8.out⟩

set_option maxHeartbeats 8000000 in
set_option maxRecDepth 100000 in
theorem once_more1 {w : World} {A B : Option Addr} {n c m d : Nat} {b ds : Str} (hb : b = [5]) (hs : Spell w (fun g => g < w.heap.size) A n c b) (hd : Spell w (fun g => g < w.heap.size) B m d ds) (hn : n ≤ 400) (hm : m ≤ 400) :
    Calls Try.prog 5 #[.slice A n c, .slice B m d] w (True_ w) := by
  have hbl := spell_len hs
  subst hb
  obtain rfl : n = 1 := hbl.symm
  clear hbl
  have htk : tk [5] = ([], 0, 5) := rfl
  obtain ⟨k, hkd⟩ : ∃ k : UInt8, k = 1 := ⟨1, rfl⟩
  have HK : Hid (k ≠ 0) := Lib.hid (by rw [hkd]; decide)
  have HKD := Lib.hid hkd
  clear hkd
  have HAW := Lib.hid (awake_any w)
  have HS := Lib.hid hs
  have HD := Lib.hid hd
  have h1' : ¬ 400 < m := by omega
  clear hs hd hn
  go_enter Try.func5, Try.ntmps5
  go_wp2_with fail
  refine HAW.out.mono ?_
  rintro e w1 ⟨rfl, hb1⟩
  have hs1 : Spell w1 (fun g => g < w1.heap.size) A 1 c [5] := (HS.out.below hb1 (fun g hg => hg)).weak (fun g hg => Nat.lt_of_lt_of_le hg hb1.size)
  have hd1 : Spell w1 (fun g => g < w1.heap.size) B m d ds := (HD.out.below hb1 (fun g hg => hg)).weak (fun g hg => Nat.lt_of_lt_of_le hg hb1.size)
  obtain ⟨A2, c2, w2, A3, c3, w3, happ2, happ3, hm3⟩ := both hs1 hd1 (by omega) (by omega)
  have HAp2 := Lib.hid happ2
  have HAp3 := Lib.hid happ3
  have hm3' := hm3.since hb1
  have HM3 := Lib.hid hm3'
  have HT1 := Lib.hid (take_as (HS.out.below hm3'.below (fun g hg => hg)) (fun g hg => Nat.lt_of_lt_of_le hg hm3'.below.size) htk rfl)
  clear hb1 hs1 hd1 happ2 happ3 hm3 hm3'
  go_wp2_with (at_builtin; first
    | (refine wpList_append_eq rfl _ _ rfl rfl rfl rfl HAp2.out ?_; clear HAp2)
    | (refine wpList_append_eq rfl _ _ rfl rfl rfl rfl HAp3.out ?_; clear HAp3))
  go_wp2_with fail
  refine HT1.out.mono ?_
  rintro e w4 ⟨A4, c4, rfl, hm4⟩
  have hm34 := HM3.out.fresh hm4.below
  obtain ⟨l2, p2, q2, htk2⟩ : ∃ l p q, tk ([5] ++ ds) = (l, p, q) := ⟨_, _, _, rfl⟩
  have HT2 := Lib.hid (take_as (made_spell hm34 (by rw [List.length_append, spell_len HS.out, spell_len HD.out])) (fun g hg => hg) htk2 rfl)
  have HM4 := Lib.hid (hm4.since HM3.out.below)
  clear hm4 hm34 htk2 htk
  simp only [List.length_nil]
  generalize l2.length = k2 at *
  go_wp2_with fail
  refine HT2.out.mono ?_
  rintro e w5 ⟨A5, c5, rfl, hm5⟩
  have hb5 := (HM4.out.fresh hm5.below).below
  have HB5 := Lib.hid hb5
  obtain ⟨A6, c6, w6, happ6, hm6⟩ := mine (HS.out.below hb5 (fun g hg => hg)) (fun g hg => Nat.lt_of_lt_of_le hg hb5.size) (by omega)
  have HAp6 := Lib.hid happ6
  have hm6' := hm6.since hb5
  clear hm5 hb5 happ6 hm6
  obtain ⟨A8, c8, w8, happ8, hm8⟩ := hm6'.push (by simp) 1
  have HAp8 : Hid ((Builtin.append_ #[22, 22] 22 #[.slice A6 1 c6, .slice (some ⟨w6.heap.size, 0, none⟩) 1 1]).run Try.prog (w6.alloc (.cells #[.int .u8 1] 5)) = .ok (.slice A8 2 c8) w8) := Lib.hid happ8
  have HW : Hid (WI w w8 k A8 2 c8) := Lib.hid ⟨[], rfl, by simp, by rw [HKD.out]; exact hm8⟩
  clear happ8 hm6' hm8
  go_wp2_with (at_builtin; first
    | (refine wpList_append_eq rfl _ _ rfl rfl rfl rfl HAp6.out ?_; clear HAp6)
    | (refine wpList_append_eq rfl _ _ rfl rfl rfl rfl HAp8.out ?_; clear HAp8))
  go_loopw [16] (fun s16 wr => ∃ (A' : Option Addr) (n' c' : Nat), s16 = .slice A' n' c' ∧ Hid (WI w wr k A' n' c')) (fun s16 _ => 300 - lenOf s16)
  case atStart => exact ⟨_, _, _, rfl, HW⟩
  case round =>
    clear HW
    obtain ⟨A', n', c', rfl, HW⟩ := hrel
    have hcl := HW.out.cell
    obtain ⟨hlo, hhi⟩ := HW.out.le
    by_cases hlt : n' < 2 + k.toNat
    · obtain ⟨A7, c7, w7, happ7, hw7⟩ := HW.out.push hlt
      have HAp7 := Lib.hid happ7
      have HW7 := Lib.hid hw7
      obtain ⟨g', off', rfl, hcell⟩ := hcl
      have hkb := k.toNat_lt
      have h1n : 1 < n' := by omega
      clear happ7 hw7
      generalize k.toNat = j at *
      have hj0 : (0 : Int) ≤ (j : Int) := by omega
      have hj1 : (j : Int) < 256 := by omega
      go_wp2_with (at_builtin; refine wpList_append_eq rfl _ _ rfl rfl rfl rfl HAp7.out ?_; clear HAp7)
      go_roundw
      case rel => exact ⟨A7, n' + 1, c7, rfl, HW7⟩
      case measure => simp [lenOf]; omega
    · obtain ⟨l8, p8, hT8⟩ := HW.out.take HK.out hlt
      have HT8 := Lib.hid hT8
      have HBW := Lib.hid HW.out.below
      obtain ⟨g', off', rfl, hcell⟩ := hcl
      have hkb := k.toNat_lt
      have h1n : 1 < n' := by omega
      clear hT8
      generalize k.toNat = j at *
      have hj0 : (0 : Int) ≤ (j : Int) := by omega
      have hj1 : (j : Int) < 256 := by omega
      go_wp2_with fail
      refine HT8.out.mono ?_
      rintro e w8 ⟨A8, c8, rfl, hm8⟩
      have HB8 := Lib.hid (HBW.out.trans (hm8.below.mono HBW.out.size))
      clear hm8
      go_wp2_with fail
      go_ret
      exact ⟨rfl, HB8.out⟩

set_option maxHeartbeats 8000000 in
set_option maxRecDepth 100000 in
theorem once_more2 {w : World} {A B : Option Addr} {n c m d : Nat} {b ds : Str} {k : UInt8} {ms : Str} (hb : b = 5 :: k :: ms) (hk : k ≠ 0) (hl : ms.length < k.toNat) (hs : Spell w (fun g => g < w.heap.size) A n c b) (hd : Spell w (fun g => g < w.heap.size) B m d ds) (hn : n ≤ 400) (hm : m ≤ 400) :
    Calls Try.prog 5 #[.slice A n c, .slice B m d] w (True_ w) := by
  have hbl := spell_len hs
  have htk : tk b = ([], 0, 5) := by rw [hb]; exact tk_short hk hl
  have hn2 : n = 2 + ms.length := by rw [← hbl, hb]; simp; omega
  have h0n : ((n : Int) == 0) = false := by simp; omega
  have h1n' : ((n : Int) == 1) = false := by simp; omega
  have HK := Lib.hid hk
  have HL := Lib.hid hl
  have HBB := Lib.hid hb
  have HN2 := Lib.hid hn2
  clear hbl hk hl hb hn2
  have HAW := Lib.hid (awake_any w)
  have HS := Lib.hid hs
  have HD := Lib.hid hd
  have h0' : ¬ 400 < n := by omega
  have h1' : ¬ 400 < m := by omega
  clear hs hd
  go_enter Try.func5, Try.ntmps5
  go_wp2_with fail
  refine HAW.out.mono ?_
  rintro e w1 ⟨rfl, hb1⟩
  have hs1 : Spell w1 (fun g => g < w1.heap.size) A n c b := (HS.out.below hb1 (fun g hg => hg)).weak (fun g hg => Nat.lt_of_lt_of_le hg hb1.size)
  have hd1 : Spell w1 (fun g => g < w1.heap.size) B m d ds := (HD.out.below hb1 (fun g hg => hg)).weak (fun g hg => Nat.lt_of_lt_of_le hg hb1.size)
  obtain ⟨A2, c2, w2, A3, c3, w3, happ2, happ3, hm3⟩ := both hs1 hd1 (by omega) (by omega)
  have HAp2 := Lib.hid happ2
  have HAp3 := Lib.hid happ3
  have hm3' := hm3.since hb1
  have HM3 := Lib.hid hm3'
  have HT1 := Lib.hid (take_as (HS.out.below hm3'.below (fun g hg => hg)) (fun g hg => Nat.lt_of_lt_of_le hg hm3'.below.size) htk rfl)
  clear hb1 hs1 hd1 happ2 happ3 hm3 hm3'
  go_wp2_with (at_builtin; first
    | (refine wpList_append_eq rfl _ _ rfl rfl rfl rfl HAp2.out ?_; clear HAp2)
    | (refine wpList_append_eq rfl _ _ rfl rfl rfl rfl HAp3.out ?_; clear HAp3))
  go_wp2_with fail
  refine HT1.out.mono ?_
  rintro e w4 ⟨A4, c4, rfl, hm4⟩
  have hm34 := HM3.out.fresh hm4.below
  obtain ⟨l2, p2, q2, htk2⟩ : ∃ l p q, tk (b ++ ds) = (l, p, q) := ⟨_, _, _, rfl⟩
  have HT2 := Lib.hid (take_as (made_spell hm34 (by rw [List.length_append, spell_len HS.out, spell_len HD.out])) (fun g hg => hg) htk2 rfl)
  have HM4 := Lib.hid (hm4.since HM3.out.below)
  clear hm4 hm34 htk2 htk
  simp only [List.length_nil]
  generalize l2.length = k2 at *
  go_wp2_with fail
  refine HT2.out.mono ?_
  rintro e w5 ⟨A5, c5, rfl, hm5⟩
  have hb5 := (HM4.out.fresh hm5.below).below
  have HB5 := Lib.hid hb5
  obtain ⟨A6, c6, w6, happ6, hm6⟩ := mine (HS.out.below hb5 (fun g hg => hg)) (fun g hg => Nat.lt_of_lt_of_le hg hb5.size) (by omega)
  have HAp6 := Lib.hid happ6
  have hm6' := hm6.since hb5
  clear hm5 hb5 happ6 hm6
  have HW : Hid (WI w w6 k A6 n c6) := Lib.hid ⟨ms, HN2.out, by have := HL.out; omega, by rw [← HBB.out]; exact hm6'⟩
  clear hm6'
  go_wp2_with (at_builtin; (refine wpList_append_eq rfl _ _ rfl rfl rfl rfl HAp6.out ?_; clear HAp6))
  go_loopw [16] (fun s16 wr => ∃ (A' : Option Addr) (n' c' : Nat), s16 = .slice A' n' c' ∧ Hid (WI w wr k A' n' c')) (fun s16 _ => 300 - lenOf s16)
  case atStart => exact ⟨_, _, _, rfl, HW⟩
  case round =>
    clear HW
    obtain ⟨A', n', c', rfl, HW⟩ := hrel
    have hcl := HW.out.cell
    obtain ⟨hlo, hhi⟩ := HW.out.le
    by_cases hlt : n' < 2 + k.toNat
    · obtain ⟨A7, c7, w7, happ7, hw7⟩ := HW.out.push hlt
      have HAp7 := Lib.hid happ7
      have HW7 := Lib.hid hw7
      obtain ⟨g', off', rfl, hcell⟩ := hcl
      have hkb := k.toNat_lt
      have h1n : 1 < n' := by omega
      clear happ7 hw7
      generalize k.toNat = j at *
      have hj0 : (0 : Int) ≤ (j : Int) := by omega
      have hj1 : (j : Int) < 256 := by omega
      go_wp2_with (at_builtin; refine wpList_append_eq rfl _ _ rfl rfl rfl rfl HAp7.out ?_; clear HAp7)
      go_roundw
      case rel => exact ⟨A7, n' + 1, c7, rfl, HW7⟩
      case measure => simp [lenOf]; omega
    · obtain ⟨l8, p8, hT8⟩ := HW.out.take HK.out hlt
      have HT8 := Lib.hid hT8
      have HBW := Lib.hid HW.out.below
      obtain ⟨g', off', rfl, hcell⟩ := hcl
      have hkb := k.toNat_lt
      have h1n : 1 < n' := by omega
      clear hT8
      generalize k.toNat = j at *
      have hj0 : (0 : Int) ≤ (j : Int) := by omega
      have hj1 : (j : Int) < 256 := by omega
      go_wp2_with fail
      refine HT8.out.mono ?_
      rintro e w8 ⟨A8, c8, rfl, hm8⟩
      have HB8 := Lib.hid (HBW.out.trans (hm8.below.mono HBW.out.size))
      clear hm8
      go_wp2_with fail
      go_ret
      exact ⟨rfl, HB8.out⟩

theorem once_walk {w : World} {A B : Option Addr} {n c m d : Nat} {bs xs : List Int} (hs0 : Src w (fun g => g < w.heap.size) A n c bs) (hd0 : Src w (fun g => g < w.heap.size) B m d xs) : Calls Try.prog 5 #[.slice A n c, .slice B m d] w (True_ w) := by
  obtain ⟨b, rfl⟩ := ints_of hs0.rng
  obtain ⟨ds, rfl⟩ := ints_of hd0.rng
  by_cases hq : 400 < n ∨ 400 < m
  · exact once_big hq
  · have hn : n ≤ 400 := by omega
    have hm : m ≤ 400 := by omega
    rcases way b with h | ⟨v, r, h, hv⟩ | h | ⟨r, h⟩ | ⟨k, ms, h, hk, hl⟩ | ⟨k, ms, h, hk, hl⟩
    · exact once_more0 h hs0 hd0 hn hm
    · exact once_no hs0 hd0 hn hm (by rw [h]; exact tk_other hv) (by rw [h]; exact tk_other hv)
    · exact once_more1 h hs0 hd0 hn hm
    · exact once_no hs0 hd0 hn hm (by rw [h]; exact tk_zero r) (by rw [h]; exact tk_zero (r ++ ds))
    · exact once_more2 h hk hl hs0 hd0 hn hm
    · exact once_yes hs0 hd0 hn hm h hk hl
end Go.Proofs.Ytdjfpkobnggohaa.gr
