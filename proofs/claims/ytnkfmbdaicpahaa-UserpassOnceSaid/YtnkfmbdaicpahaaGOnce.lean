/-
  Given for the seat's laws: UserpassOnce at any bytes and any bytes behind. No condition.
-/
import Derived.Test.YtnkfmbdaicpahaaGTakes
namespace Go.Proofs.Ytnkfmbdaicpahaa.gr
open Go.RowKit mem
set_option linter.unusedVariables false

/-! ### ones behind bytes -/
def ones (b : Str) (i : Nat) : Str := b ++ List.replicate i 1
theorem ones_next (b : Str) (i : Nat) : ones b i ++ [1] = ones b (i + 1) := by
  unfold ones
  rw [List.append_assoc, List.replicate_succ']
theorem ones_len (b : Str) (i : Nat) : (ones b i).length = b.length + i := by simp [ones]
theorem nx_ones {b : Str} (h : nx b = .more) {m : Nat} (hm : 256 ≤ m) : ∃ t j, nx (b ++ List.replicate m 1) = .got t (List.replicate j 1) ∧ m ≤ j + 256 := by
  rcases way b with ⟨hb, e⟩ | ⟨r, hb, e⟩ | ⟨k, ms, hb, hk, hl, e⟩ | ⟨k, ms, hb, hk, hl, e⟩
  · subst hb
    obtain ⟨m', rfl⟩ : ∃ m', m = m' + 1 := ⟨m - 1, by omega⟩
    have h1 : ¬ m' < 1 := by omega
    have h2 : (1 : UInt8) ≠ 0 := by decide
    refine ⟨(List.replicate m' 1).take 1, m' - 1, ?_, by omega⟩
    rw [List.nil_append, List.replicate_succ]
    simp [nx, h1, List.drop_replicate]
  · rw [e] at h; cases h
  · subst hb
    have hp := toNat_pos hk
    refine ⟨(ms ++ List.replicate m 1).take k.toNat, m - (k.toNat - ms.length), ?_, by omega⟩
    have h1 : ¬ (ms ++ List.replicate m 1).length < k.toNat := by simp; omega
    show nx (k :: (ms ++ List.replicate m 1)) = _
    have h3 : (ms ++ List.replicate m 1).drop k.toNat = List.replicate (m - (k.toNat - ms.length)) 1 := by
      rw [List.drop_append, List.drop_eq_nil_of_le (by omega), List.nil_append, List.drop_replicate]
    rw [← h3]
    show (if k = 0 then Nx.form else if (ms ++ List.replicate m 1).length < k.toNat then Nx.more else Nx.got _ _) = _
    rw [if_neg hk, if_neg h1]
  · rw [e] at h; cases h
theorem ones_end {b : Str} (hb : b ≠ []) (h : tk b = ([], [], 0, 5)) : ∃ u p k, tk (ones b 520) = (u, p, k, 0) := by
  match b with
  | [] => exact absurd rfl hb
  | v :: r =>
    by_cases hv : v = 1
    · subst hv
      have h : tk.tk1 (nx r) = ([], [], 0, 5) := h
      show ∃ u p k, tk.tk1 (nx (r ++ List.replicate 520 1)) = _
      generalize hx : nx r = x at h
      cases x with
      | form => simp [tk.tk1] at h
      | more =>
        obtain ⟨t, j, e, hj⟩ := nx_ones hx (m := 520) (by omega)
        rw [e]
        show ∃ u p k, tk.tk2 t (nx (List.replicate j 1)) = _
        obtain ⟨t2, j2, e2, _⟩ := nx_ones (b := []) rfl (m := j) (by omega)
        rw [List.nil_append] at e2
        rw [e2]
        exact ⟨_, _, _, rfl⟩
      | got t q =>
        have h : tk.tk2 t (nx q) = ([], [], 0, 5) := h
        rw [nx_more _ hx]
        show ∃ u p k, tk.tk2 t (nx (q ++ List.replicate 520 1)) = _
        generalize hy : nx q = y at h
        cases y with
        | form => simp [tk.tk2] at h
        | more =>
          obtain ⟨t2, j2, e2, _⟩ := nx_ones hy (m := 520) (by omega)
          rw [e2]
          exact ⟨_, _, _, rfl⟩
        | got s z =>
          simp only [tk.tk2, Prod.mk.injEq] at h
          omega
    · simp [tk, hv] at h
theorem ones_kinds {b : Str} (hb : b ≠ []) (h : tk b = ([], [], 0, 5)) {i : Nat} (hi : i ≤ 520) : (∃ u p k, tk (ones b i) = (u, p, k, 0)) ∨ (tk (ones b i) = ([], [], 0, 5) ∧ i < 520) := by
  obtain ⟨u, p, k, he⟩ := ones_end hb h
  rcases tk_kinds (ones b i) with h1 | h1 | h1
  · exact .inl h1
  · refine .inr ⟨h1, ?_⟩
    rcases Nat.lt_or_ge i 520 with h2 | h2
    · exact h2
    · have : i = 520 := by omega
      subst this
      rw [he] at h1
      simp at h1
  · exfalso
    have h2 := tk_app (b := ones b i) (List.replicate (520 - i) 1) (by rw [h1]; simp)
    have e : ones b i ++ List.replicate (520 - i) 1 = ones b 520 := by
      unfold ones
      rw [List.append_assoc, List.replicate_append_replicate, show i + (520 - i) = 520 by omega]
    rw [e, h1, he] at h2
    simp at h2
/-- bytes, and ones behind them -/
structure WO (w0 wr : World) (b : Str) (i : Nat) (A : Option Addr) (n c : Nat) : Prop where
  made : Made w0 wr (.slice A n c) (ones b i)
  len : n = b.length + i
theorem WO.push {w0 wr : World} {b : Str} {i : Nat} {A : Option Addr} {n c : Nat} (h : WO w0 wr b i A n c) (hb : b.length ≤ 1000) (hi : i ≤ 600) :
    ∃ A2 c2 w2, (Builtin.append_ #[22, 22] 22 #[.slice A n c, .slice (some ⟨wr.heap.size, 0, none⟩) 1 1]).run Try.prog (wr.alloc (.cells #[.int .u8 1] 5)) = .ok (.slice A2 (n + 1) c2) w2 ∧ WO w0 w2 b (i + 1) A2 (n + 1) c2 := by
  have hlen : (ones b i).length = n := by rw [ones_len, h.len]
  obtain ⟨A2, c2, w2, happ, hm2⟩ := h.made.push (by rw [hlen, h.len]; omega) 1
  rw [hlen] at happ hm2
  rw [ones_next] at hm2
  exact ⟨A2, c2, w2, happ, hm2, by rw [h.len]; omega⟩
/-- both copies -/
theorem both {w : World} {A B : Option Addr} {n c m d : Nat} {b ds : Str} (hs : Spell w (fun g => g < w.heap.size) A n c b) (hd : Spell w (fun g => g < w.heap.size) B m d ds) (hn : n ≤ 600) (hm : m ≤ 600) :
    ∃ A2 c2 w2 A3 c3 w3, (Builtin.append_ #[22, 22] 22 #[.slice (some ⟨w.heap.size, 0, none⟩) 0 0, .slice A n c]).run Try.prog (w.alloc (.cells #[] 5)) = .ok (.slice A2 n c2) w2 ∧
      (Builtin.append_ #[22, 22] 22 #[.slice A2 n c2, .slice B m d]).run Try.prog w2 = .ok (.slice A3 (n + m) c3) w3 ∧ Made w w3 (.slice A3 (n + m) c3) (b ++ ds) := by
  have hbl := spell_len hs
  obtain ⟨A2, c2, w2, happ, hm2⟩ := mine hs (fun g hg => hg) (by omega)
  subst hbl
  obtain ⟨A3, c3, w3, happ3, hm3⟩ := hm2.app (Below.refl _ _) (hd.below hm2.below (fun g hg => hg)) (by omega)
  exact ⟨A2, c2, w2, A3, c3, w3, happ, happ3, hm3⟩

set_option maxHeartbeats 4000000 in
set_option maxRecDepth 100000 in
theorem once_big {w : World} {A B : Option Addr} {n c m d : Nat} (hq : 600 < n ∨ 100 < m) : Calls Try.prog 6 #[.slice A n c, .slice B m d] w (True_ w) := by
  have HAW := Bx.mk (awake_any w)
  rcases (show 600 < n ∨ (¬ 600 < n ∧ 100 < m) by omega) with h0 | ⟨h0, h1⟩
  all_goals
    clear hq
    go_enter Try.func6, Try.ntmps6
    go_wp2_with fail
    refine HAW.out.mono ?_
    rintro e w1 ⟨rfl, hb1⟩
    have HB1 := Bx.mk hb1
    clear hb1
    go_wp2_with fail
    go_ret
    exact ⟨rfl, HB1.out⟩

set_option maxHeartbeats 8000000 in
set_option maxRecDepth 100000 in
theorem once_done0 {w : World} {A B : Option Addr} {n c m d : Nat} {b ds : Str} (hs : Spell w (fun g => g < w.heap.size) A n c b) (hd : Spell w (fun g => g < w.heap.size) B m d ds) (hn : n ≤ 600) (hm : m ≤ 100) {u p : Str} {k : Nat} (htk : tk b = (u, p, k, 0)) (hkn : k ≤ n) (htb : ∀ i, i < k → tk (b.take i) = ([], [], 0, 5)) :
    Calls Try.prog 6 #[.slice A n c, .slice B m d] w (True_ w) := by
  have ht2 : tk (b ++ ds) = (u, p, k, 0) := by rw [tk_app ds (by rw [htk]; simp), htk]
  have HT2 := Bx.mk ht2
  have HTB := Bx.mk htb
  have hu := (str_eq u).2
  have hp := (str_eq p).2
  clear ht2 htb
  have HAW := Bx.mk (awake_any w)
  have HS := Bx.mk hs
  have HD := Bx.mk hd
  have h0' : ¬ 600 < n := by omega
  have h1' : ¬ 100 < m := by omega
  have HTK := Bx.mk htk
  clear hs hd htk
  go_enter Try.func6, Try.ntmps6
  go_wp2_with fail
  refine HAW.out.mono ?_
  rintro e w1 ⟨rfl, hb1⟩
  have HB1 := Bx.mk hb1
  clear hb1 HAW
  go_wp2_with fail
  refine (take_as (HS.out.below HB1.out (fun g hg => hg)) (fun g hg => Nat.lt_of_lt_of_le hg HB1.out.size) (by omega) HTK.out).mono ?_
  rintro e w4 ⟨rfl, hb4⟩
  have hb14 := HB1.out.trans (hb4.mono HB1.out.size)
  have hs1 : Spell w4 (fun g => g < w4.heap.size) A n c b := (HS.out.below hb14 (fun g hg => hg)).weak (fun g hg => Nat.lt_of_lt_of_le hg hb14.size)
  have hd1 : Spell w4 (fun g => g < w4.heap.size) B m d ds := (HD.out.below hb14 (fun g hg => hg)).weak (fun g hg => Nat.lt_of_lt_of_le hg hb14.size)
  obtain ⟨A2, c2, w2, A3, c3, w3, happ2, happ3, hm3⟩ := both hs1 hd1 (by omega) (by omega)
  have HAp2 := Bx.mk happ2
  have HAp3 := Bx.mk happ3
  have HM3 := Bx.mk (hm3.since hb14)
  clear hb4 hb14 hs1 hd1 happ2 happ3 hm3 HB1
  go_wp2_with (at_builtin; first
    | (refine wpList_append_eq rfl _ _ rfl rfl rfl rfl HAp2.out ?_; clear HAp2)
    | (refine wpList_append_eq rfl _ _ rfl rfl rfl rfl HAp3.out ?_; clear HAp3))
  refine (take_as (made_spell HM3.out (by rw [List.length_append, spell_len HS.out, spell_len HD.out])) (fun g hg => hg) (by omega) HT2.out).mono ?_
  rintro e w5 ⟨rfl, hb5⟩
  have HB5 := Bx.mk (HM3.out.below.trans (hb5.mono HM3.out.below.size))
  clear hb5 HM3 HT2
  go_wp2_with fail
  go_loopw [13, 14, 15, 16, 17] (fun s13 s14 s15 s16 s17 wr => ∃ i : Nat, i ≤ k ∧ s13 = .int .i64 (i : Int) ∧ Bx (Below w.heap.size w wr)) (fun s13 _ _ _ _ _ => k - (intOf s13).toNat)
  case atStart => exact ⟨0, by omega, rfl, HB5⟩
  case round =>
    clear HB5
    obtain ⟨i, hi, rfl, HB⟩ := hrel
    by_cases hlt : i < k
    · have hin : i < n := by omega
      have hs6 : Spell wr (fun g => g < w.heap.size) A i c (b.take i) := by
        have h := (HS.out.below HB.out (fun g hg => hg)).takeN i (by omega)
        rwa [ints_take] at h
      have HT6 := Bx.mk (take_as hs6 (fun g hg => Nat.lt_of_lt_of_le hg HB.out.size) (by omega) (HTB.out i hlt))
      have hic : i ≤ c := by have := HS.out.cap; omega
      have hlt' : (i : Int) < (k : Int) := by omega
      have hin' : (i : Int) < (n : Int) := by omega
      clear hs6
      go_wp2_with fail
      refine HT6.out.mono ?_
      rintro e w6 ⟨rfl, hb6⟩
      have HB6 := Bx.mk (HB.out.trans (hb6.mono HB.out.size))
      clear hb6
      go_wp2_with fail
      go_roundw
      case rel => exact ⟨i + 1, by omega, by go_num, HB6⟩
      case measure => simp [intOf]; omega
    · obtain rfl : i = k := by omega
      clear hlt HTB HS HD HTK hu hp
      go_wp2_with fail
      go_ret
      exact ⟨rfl, HB.out⟩

set_option maxHeartbeats 8000000 in
set_option maxRecDepth 100000 in
theorem once_done6 {w : World} {A B : Option Addr} {n c m d : Nat} {b ds : Str} (hs : Spell w (fun g => g < w.heap.size) A n c b) (hd : Spell w (fun g => g < w.heap.size) B m d ds) (hn : n ≤ 600) (hm : m ≤ 100) {u p : Str} {k : Nat} (htk : tk b = (u, p, k, 6)) (hkn : k ≤ n) (htb : ∀ i, i < k → tk (b.take i) = ([], [], 0, 5)) :
    Calls Try.prog 6 #[.slice A n c, .slice B m d] w (True_ w) := by
  have ht2 : tk (b ++ ds) = (u, p, k, 6) := by rw [tk_app ds (by rw [htk]; simp), htk]
  have HT2 := Bx.mk ht2
  have HTB := Bx.mk htb
  have hu := (str_eq u).2
  have hp := (str_eq p).2
  clear ht2 htb
  have HAW := Bx.mk (awake_any w)
  have HS := Bx.mk hs
  have HD := Bx.mk hd
  have h0' : ¬ 600 < n := by omega
  have h1' : ¬ 100 < m := by omega
  have HTK := Bx.mk htk
  clear hs hd htk
  go_enter Try.func6, Try.ntmps6
  go_wp2_with fail
  refine HAW.out.mono ?_
  rintro e w1 ⟨rfl, hb1⟩
  have HB1 := Bx.mk hb1
  clear hb1 HAW
  go_wp2_with fail
  refine (take_as (HS.out.below HB1.out (fun g hg => hg)) (fun g hg => Nat.lt_of_lt_of_le hg HB1.out.size) (by omega) HTK.out).mono ?_
  rintro e w4 ⟨rfl, hb4⟩
  have hb14 := HB1.out.trans (hb4.mono HB1.out.size)
  have hs1 : Spell w4 (fun g => g < w4.heap.size) A n c b := (HS.out.below hb14 (fun g hg => hg)).weak (fun g hg => Nat.lt_of_lt_of_le hg hb14.size)
  have hd1 : Spell w4 (fun g => g < w4.heap.size) B m d ds := (HD.out.below hb14 (fun g hg => hg)).weak (fun g hg => Nat.lt_of_lt_of_le hg hb14.size)
  obtain ⟨A2, c2, w2, A3, c3, w3, happ2, happ3, hm3⟩ := both hs1 hd1 (by omega) (by omega)
  have HAp2 := Bx.mk happ2
  have HAp3 := Bx.mk happ3
  have HM3 := Bx.mk (hm3.since hb14)
  clear hb4 hb14 hs1 hd1 happ2 happ3 hm3 HB1
  go_wp2_with (at_builtin; first
    | (refine wpList_append_eq rfl _ _ rfl rfl rfl rfl HAp2.out ?_; clear HAp2)
    | (refine wpList_append_eq rfl _ _ rfl rfl rfl rfl HAp3.out ?_; clear HAp3))
  refine (take_as (made_spell HM3.out (by rw [List.length_append, spell_len HS.out, spell_len HD.out])) (fun g hg => hg) (by omega) HT2.out).mono ?_
  rintro e w5 ⟨rfl, hb5⟩
  have HB5 := Bx.mk (HM3.out.below.trans (hb5.mono HM3.out.below.size))
  clear hb5 HM3 HT2
  go_wp2_with fail
  go_loopw [13, 14, 15, 16, 17] (fun s13 s14 s15 s16 s17 wr => ∃ i : Nat, i ≤ k ∧ s13 = .int .i64 (i : Int) ∧ Bx (Below w.heap.size w wr)) (fun s13 _ _ _ _ _ => k - (intOf s13).toNat)
  case atStart => exact ⟨0, by omega, rfl, HB5⟩
  case round =>
    clear HB5
    obtain ⟨i, hi, rfl, HB⟩ := hrel
    by_cases hlt : i < k
    · have hin : i < n := by omega
      have hs6 : Spell wr (fun g => g < w.heap.size) A i c (b.take i) := by
        have h := (HS.out.below HB.out (fun g hg => hg)).takeN i (by omega)
        rwa [ints_take] at h
      have HT6 := Bx.mk (take_as hs6 (fun g hg => Nat.lt_of_lt_of_le hg HB.out.size) (by omega) (HTB.out i hlt))
      have hic : i ≤ c := by have := HS.out.cap; omega
      have hlt' : (i : Int) < (k : Int) := by omega
      have hin' : (i : Int) < (n : Int) := by omega
      clear hs6
      go_wp2_with fail
      refine HT6.out.mono ?_
      rintro e w6 ⟨rfl, hb6⟩
      have HB6 := Bx.mk (HB.out.trans (hb6.mono HB.out.size))
      clear hb6
      go_wp2_with fail
      go_roundw
      case rel => exact ⟨i + 1, by omega, by go_num, HB6⟩
      case measure => simp [intOf]; omega
    · obtain rfl : i = k := by omega
      clear hlt HTB HS HD HTK hu hp
      go_wp2_with fail
      go_ret
      exact ⟨rfl, HB.out⟩

set_option maxHeartbeats 8000000 in
set_option maxRecDepth 100000 in
theorem once_more0 {w : World} {A B : Option Addr} {n c m d : Nat} {b ds : Str} (hs : Spell w (fun g => g < w.heap.size) A n c b) (hd : Spell w (fun g => g < w.heap.size) B m d ds) (hn : n ≤ 600) (hm : m ≤ 100) (hb : b = []) (htk : tk b = ([], [], 0, 5)) :
    Calls Try.prog 6 #[.slice A n c, .slice B m d] w (True_ w) := by
  obtain ⟨u2, p2, k2, q2, ht2⟩ : ∃ u p k q, tk (b ++ ds) = (u, p, k, q) := ⟨_, _, _, _, rfl⟩
  have HT2 := Bx.mk ht2
  have hbl := spell_len hs
  clear ht2
  have hn0 : ((n : Int) == 0) = true := by
    have : n = 0 := by rw [← hbl, hb]; rfl
    simp [this]
  obtain ⟨x, hx⟩ : ∃ x : Str, x = [1] := ⟨_, rfl⟩
  have HX1 : Bx (x ≠ []) := ⟨by rw [hx]; simp⟩
  have HX2 : Bx (tk x = ([], [], 0, 5)) := ⟨by rw [hx]; rfl⟩
  have HX := Bx.mk hx
  have HXL : Bx (x.length ≤ 1000) := ⟨by rw [hx]; simp⟩
  have HBN := Bx.mk hb
  clear hb hx hbl
  have HAW := Bx.mk (awake_any w)
  have HS := Bx.mk hs
  have HD := Bx.mk hd
  have h0' : ¬ 600 < n := by omega
  have h1' : ¬ 100 < m := by omega
  have HTK := Bx.mk htk
  clear hs hd htk
  go_enter Try.func6, Try.ntmps6
  go_wp2_with fail
  refine HAW.out.mono ?_
  rintro e w1 ⟨rfl, hb1⟩
  have HB1 := Bx.mk hb1
  clear hb1 HAW
  go_wp2_with fail
  refine (take_as (HS.out.below HB1.out (fun g hg => hg)) (fun g hg => Nat.lt_of_lt_of_le hg HB1.out.size) (by omega) HTK.out).mono ?_
  rintro e w4 ⟨rfl, hb4⟩
  have hb14 := HB1.out.trans (hb4.mono HB1.out.size)
  have hs1 : Spell w4 (fun g => g < w4.heap.size) A n c b := (HS.out.below hb14 (fun g hg => hg)).weak (fun g hg => Nat.lt_of_lt_of_le hg hb14.size)
  have hd1 : Spell w4 (fun g => g < w4.heap.size) B m d ds := (HD.out.below hb14 (fun g hg => hg)).weak (fun g hg => Nat.lt_of_lt_of_le hg hb14.size)
  obtain ⟨A2, c2, w2, A3, c3, w3, happ2, happ3, hm3⟩ := both hs1 hd1 (by omega) (by omega)
  have HAp2 := Bx.mk happ2
  have HAp3 := Bx.mk happ3
  have HM3 := Bx.mk (hm3.since hb14)
  clear hb4 hb14 hs1 hd1 happ2 happ3 hm3 HB1
  go_wp2_with (at_builtin; first
    | (refine wpList_append_eq rfl _ _ rfl rfl rfl rfl HAp2.out ?_; clear HAp2)
    | (refine wpList_append_eq rfl _ _ rfl rfl rfl rfl HAp3.out ?_; clear HAp3))
  refine (take_as (made_spell HM3.out (by rw [List.length_append, spell_len HS.out, spell_len HD.out])) (fun g hg => hg) (by omega) HT2.out).mono ?_
  rintro e w5 ⟨rfl, hb5⟩
  have HB5 := Bx.mk (HM3.out.below.trans (hb5.mono HM3.out.below.size))
  clear hb5 HM3 HT2
  obtain ⟨A6, c6, w6, happ6, hm6⟩ := mine (HS.out.below HB5.out (fun g hg => hg)) (fun g hg => Nat.lt_of_lt_of_le hg HB5.out.size) (by omega)
  have HAp6 := Bx.mk happ6
  have hm6' := hm6.since HB5.out
  have hb0 := HBN.out
  rw [hb0] at hm6'
  obtain ⟨A7, c7, w7, happ7, hm7⟩ := hm6'.push (by simp) 1
  have HAp7 : Bx ((Builtin.append_ #[22, 22] 22 #[.slice A6 n c6, .slice (some ⟨w6.heap.size, 0, none⟩) 1 1]).run Try.prog (w6.alloc (.cells #[.int .u8 1] 5)) = .ok (.slice A7 1 c7) w7) := ⟨happ7⟩
  have HW : Bx (WO w w7 x 0 A7 1 c7) := ⟨⟨by rw [HX.out]; exact hm7, by rw [HX.out]; rfl⟩⟩
  clear happ6 happ7 hm6 hm6' hm7 HX hb0 HBN HB5 HTK HS HD
  go_wp2_with (at_builtin; first
    | (refine wpList_append_eq rfl _ _ rfl rfl rfl rfl HAp6.out ?_; clear HAp6)
    | (refine wpList_append_eq rfl _ _ rfl rfl rfl rfl HAp7.out ?_; clear HAp7))
  go_loopw [18, 19, 20, 21, 22, 23] (fun s18 s19 s20 s21 s22 s23 wr => ∃ (i : Nat) (A' : Option Addr) (n' c' : Nat), i ≤ 520 ∧ s18 = .slice A' n' c' ∧ s19 = .int .i64 (i : Int) ∧ Bx (WO w wr x i A' n' c')) (fun _ s19 _ _ _ _ _ => 600 - (intOf s19).toNat)
  case atStart => exact ⟨0, _, _, _, by omega, rfl, rfl, HW⟩
  case round =>
    clear HW
    obtain ⟨i, A', n', c', hi, rfl, rfl, HW⟩ := hrel
    have hlen : (ones x i).length = n' := by rw [ones_len, HW.out.len]
    have hn1 : n' ≤ 100000 := by have := HXL.out; have := HW.out.len; omega
    have hi6 : (i : Int) < 600 := by omega
    rcases ones_kinds HX1.out HX2.out hi with ⟨u, p, k, he⟩ | ⟨he, hi5⟩
    · have HT := Bx.mk (take_as (made_spell HW.out.made hlen) (fun g hg => hg) hn1 he)
      have HB := Bx.mk HW.out.made.below
      clear he hlen HW
      go_wp2_with fail
      refine HT.out.mono ?_
      rintro e w8 ⟨rfl, hb8⟩
      have HB8 := Bx.mk (HB.out.trans (hb8.mono HB.out.size))
      clear hb8
      go_wp2_with fail
      go_ret
      exact ⟨rfl, HB8.out⟩
    · have HT := Bx.mk (take_as (made_spell HW.out.made hlen) (fun g hg => hg) hn1 he)
      clear he hlen
      go_wp2_with fail
      refine HT.out.mono ?_
      rintro e w8 ⟨rfl, hb8⟩
      have hw8 : WO w w8 x i A' n' c' := ⟨by have h1 := HW.out.made; exact h1.fresh hb8, HW.out.len⟩
      obtain ⟨A9, c9, w9, happ9, hw9⟩ := hw8.push HXL.out (by omega)
      have HAp9 := Bx.mk happ9
      have HW9 := Bx.mk hw9
      clear hb8 hw8 happ9 hw9 HW HT
      go_wp2_with (at_builtin; (refine wpList_append_eq rfl _ _ rfl rfl rfl rfl HAp9.out ?_; clear HAp9))
      go_roundw
      case rel => exact ⟨i + 1, A9, n' + 1, c9, by omega, rfl, by go_num, HW9⟩
      case measure => simp [intOf]; omega

set_option maxHeartbeats 8000000 in
set_option maxRecDepth 100000 in
theorem once_more1 {w : World} {A B : Option Addr} {n c m d : Nat} {b ds : Str} (hs : Spell w (fun g => g < w.heap.size) A n c b) (hd : Spell w (fun g => g < w.heap.size) B m d ds) (hn : n ≤ 600) (hm : m ≤ 100) (hb : b ≠ []) (htk : tk b = ([], [], 0, 5)) :
    Calls Try.prog 6 #[.slice A n c, .slice B m d] w (True_ w) := by
  obtain ⟨u2, p2, k2, q2, ht2⟩ : ∃ u p k q, tk (b ++ ds) = (u, p, k, q) := ⟨_, _, _, _, rfl⟩
  have HT2 := Bx.mk ht2
  have hbl := spell_len hs
  clear ht2
  have hn0 : ((n : Int) == 0) = false := by
    have : 0 < b.length := List.length_pos_iff.2 hb
    simp; omega
  obtain ⟨x, hx⟩ : ∃ x : Str, x = b := ⟨_, rfl⟩
  have HX1 : Bx (x ≠ []) := ⟨by rw [hx]; exact hb⟩
  have HX2 : Bx (tk x = ([], [], 0, 5)) := ⟨by rw [hx]; exact htk⟩
  have HX := Bx.mk hx
  have HXL : Bx (x.length ≤ 1000) := ⟨by rw [hx]; omega⟩
  have HBN := Bx.mk hbl
  clear hb hx hbl
  have HAW := Bx.mk (awake_any w)
  have HS := Bx.mk hs
  have HD := Bx.mk hd
  have h0' : ¬ 600 < n := by omega
  have h1' : ¬ 100 < m := by omega
  have HTK := Bx.mk htk
  clear hs hd htk
  go_enter Try.func6, Try.ntmps6
  go_wp2_with fail
  refine HAW.out.mono ?_
  rintro e w1 ⟨rfl, hb1⟩
  have HB1 := Bx.mk hb1
  clear hb1 HAW
  go_wp2_with fail
  refine (take_as (HS.out.below HB1.out (fun g hg => hg)) (fun g hg => Nat.lt_of_lt_of_le hg HB1.out.size) (by omega) HTK.out).mono ?_
  rintro e w4 ⟨rfl, hb4⟩
  have hb14 := HB1.out.trans (hb4.mono HB1.out.size)
  have hs1 : Spell w4 (fun g => g < w4.heap.size) A n c b := (HS.out.below hb14 (fun g hg => hg)).weak (fun g hg => Nat.lt_of_lt_of_le hg hb14.size)
  have hd1 : Spell w4 (fun g => g < w4.heap.size) B m d ds := (HD.out.below hb14 (fun g hg => hg)).weak (fun g hg => Nat.lt_of_lt_of_le hg hb14.size)
  obtain ⟨A2, c2, w2, A3, c3, w3, happ2, happ3, hm3⟩ := both hs1 hd1 (by omega) (by omega)
  have HAp2 := Bx.mk happ2
  have HAp3 := Bx.mk happ3
  have HM3 := Bx.mk (hm3.since hb14)
  clear hb4 hb14 hs1 hd1 happ2 happ3 hm3 HB1
  go_wp2_with (at_builtin; first
    | (refine wpList_append_eq rfl _ _ rfl rfl rfl rfl HAp2.out ?_; clear HAp2)
    | (refine wpList_append_eq rfl _ _ rfl rfl rfl rfl HAp3.out ?_; clear HAp3))
  refine (take_as (made_spell HM3.out (by rw [List.length_append, spell_len HS.out, spell_len HD.out])) (fun g hg => hg) (by omega) HT2.out).mono ?_
  rintro e w5 ⟨rfl, hb5⟩
  have HB5 := Bx.mk (HM3.out.below.trans (hb5.mono HM3.out.below.size))
  clear hb5 HM3 HT2
  obtain ⟨A6, c6, w6, happ6, hm6⟩ := mine (HS.out.below HB5.out (fun g hg => hg)) (fun g hg => Nat.lt_of_lt_of_le hg HB5.out.size) (by omega)
  have HAp6 := Bx.mk happ6
  have hm6' := hm6.since HB5.out
  have HW : Bx (WO w w6 x 0 A6 n c6) := ⟨⟨by rw [HX.out]; unfold ones; rw [List.replicate_zero, List.append_nil]; exact hm6', by rw [HX.out, HBN.out]; rfl⟩⟩
  clear happ6 hm6 hm6' HX HBN HB5 HTK HS HD
  go_wp2_with (at_builtin; (refine wpList_append_eq rfl _ _ rfl rfl rfl rfl HAp6.out ?_; clear HAp6))
  go_loopw [18, 19, 20, 21, 22, 23] (fun s18 s19 s20 s21 s22 s23 wr => ∃ (i : Nat) (A' : Option Addr) (n' c' : Nat), i ≤ 520 ∧ s18 = .slice A' n' c' ∧ s19 = .int .i64 (i : Int) ∧ Bx (WO w wr x i A' n' c')) (fun _ s19 _ _ _ _ _ => 600 - (intOf s19).toNat)
  case atStart => exact ⟨0, _, _, _, by omega, rfl, rfl, HW⟩
  case round =>
    clear HW
    obtain ⟨i, A', n', c', hi, rfl, rfl, HW⟩ := hrel
    have hlen : (ones x i).length = n' := by rw [ones_len, HW.out.len]
    have hn1 : n' ≤ 100000 := by have := HXL.out; have := HW.out.len; omega
    have hi6 : (i : Int) < 600 := by omega
    rcases ones_kinds HX1.out HX2.out hi with ⟨u, p, k, he⟩ | ⟨he, hi5⟩
    · have HT := Bx.mk (take_as (made_spell HW.out.made hlen) (fun g hg => hg) hn1 he)
      have HB := Bx.mk HW.out.made.below
      clear he hlen HW
      go_wp2_with fail
      refine HT.out.mono ?_
      rintro e w8 ⟨rfl, hb8⟩
      have HB8 := Bx.mk (HB.out.trans (hb8.mono HB.out.size))
      clear hb8
      go_wp2_with fail
      go_ret
      exact ⟨rfl, HB8.out⟩
    · have HT := Bx.mk (take_as (made_spell HW.out.made hlen) (fun g hg => hg) hn1 he)
      clear he hlen
      go_wp2_with fail
      refine HT.out.mono ?_
      rintro e w8 ⟨rfl, hb8⟩
      have hw8 : WO w w8 x i A' n' c' := ⟨by have h1 := HW.out.made; exact h1.fresh hb8, HW.out.len⟩
      obtain ⟨A9, c9, w9, happ9, hw9⟩ := hw8.push HXL.out (by omega)
      have HAp9 := Bx.mk happ9
      have HW9 := Bx.mk hw9
      clear hb8 hw8 happ9 hw9 HW HT
      go_wp2_with (at_builtin; (refine wpList_append_eq rfl _ _ rfl rfl rfl rfl HAp9.out ?_; clear HAp9))
      go_roundw
      case rel => exact ⟨i + 1, A9, n' + 1, c9, by omega, rfl, by go_num, HW9⟩
      case measure => simp [intOf]; omega

theorem once_walk {w : World} {A B : Option Addr} {n c m d : Nat} {bs xs : List Int} (hs0 : Src w (fun g => g < w.heap.size) A n c bs) (hd0 : Src w (fun g => g < w.heap.size) B m d xs) : Calls Try.prog 6 #[.slice A n c, .slice B m d] w (True_ w) := by
  obtain ⟨b, rfl⟩ := ints_of hs0.rng
  obtain ⟨ds, rfl⟩ := ints_of hd0.rng
  by_cases hq : 600 < n ∨ 100 < m
  · exact once_big hq
  · have hn : n ≤ 600 := by omega
    have hm : m ≤ 100 := by omega
    rcases tk_kinds b with ⟨u, p, k, h⟩ | h | h
    · refine once_done0 hs0 hd0 hn hm h ?_ (fun i hi => tk_part h hi)
      obtain ⟨_, _, hk, r, hb⟩ := tk_inv h
      have h1 := spell_len (l := b) hs0
      rw [hb] at h1
      simp [pr_len] at h1
      omega
    · by_cases hb : b = []
      · exact once_more0 hs0 hd0 hn hm hb h
      · exact once_more1 hs0 hd0 hn hm hb h
    · exact once_done6 hs0 hd0 hn hm h (Nat.zero_le _) (fun i hi => by omega)
end Go.Proofs.Ytnkfmbdaicpahaa.gr
