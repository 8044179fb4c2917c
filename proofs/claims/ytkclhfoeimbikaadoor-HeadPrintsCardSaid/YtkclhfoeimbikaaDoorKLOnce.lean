/-
  Given for the seat's laws: HeadOnce at any bytes and any bytes behind. No condition but those of the theorem.
-/
import Derived.Test.YtkclhfoeimbikaaDoorKAwk
namespace Go.Proofs.YtkclhfoeimbikaaDoor.hd
open Go.RowKit mem
set_option linter.unusedVariables false

/-- what Take gives, its fields lying below -/
theorem take_r {s : Str} {l : Str} {fs : Flds} {n e : Nat} (h : take s = (l, fs, n, e)) {w w' : World} {en : Ending} (ht : TakeTo (take s) w en w') : ∃ A c, en = .returned (.tuple #[.agg #[.string (S l), .slice A fs.length c], .int .i64 (n : Int), .int .i64 (e : Int)]) ∧ FAt w' (fun g => g < w'.heap.size) A fs.length c fs ∧ Below w.heap.size w w' := by
  rw [h] at ht
  obtain ⟨v, rfl, hr, hb⟩ := ht
  obtain ⟨A, c, rfl⟩ := rowF_form hr
  exact ⟨A, c, rfl, rowF_at hr rfl, hb⟩
theorem take_most {s : Str} {l : Str} {fs : Flds} {n e : Nat} (h : take s = (l, fs, n, e)) : fs.length ≤ 16 := by
  rcases go_kinds start 0 s with ⟨a, _⟩ | ⟨a, _⟩ | a | a
  · rw [show go start 0 s = _ from h] at a
    simp at a
    subst a
    exact (take_inv h).1.most
  all_goals
    rw [show go start 0 s = _ from h] at a
    simp at a
    rw [a.2.1]
    simp
/-- both copies -/
theorem both {w : World} {A B : Option Addr} {n c m d : Nat} {b ds : Str} (hs : Spell w (fun g => g < w.heap.size) A n c b) (hd : Spell w (fun g => g < w.heap.size) B m d ds) (hn : n ≤ 3000) (hm : m ≤ 3000) :
    ∃ A2 c2 w2 A3 c3 w3, (Builtin.append_ #[22, 22] 22 #[.slice (some ⟨w.heap.size, 0, none⟩) 0 0, .slice A n c]).run Tryd.prog (w.alloc (.cells #[] 5)) = .ok (.slice A2 n c2) w2 ∧
      (Builtin.append_ #[22, 22] 22 #[.slice A2 n c2, .slice B m d]).run Tryd.prog w2 = .ok (.slice A3 (n + m) c3) w3 ∧ Made w w3 (.slice A3 (n + m) c3) (b ++ ds) := by
  have hbl := spell_len hs
  obtain ⟨A2, c2, w2, happ, hm2⟩ := mine hs (fun g hg => hg) (by omega)
  subst hbl
  obtain ⟨A3, c3, w3, happ3, hm3⟩ := Made.app hm2 (Below.refl _ _) (hd.below hm2.below (fun g hg => hg)) (by omega)
  exact ⟨A2, c2, w2, A3, c3, w3, happ, happ3, hm3⟩
theorem take_spell {w : World} {ok : Nat → Prop} {A : Option Addr} {n c : Nat} {b : Str} (hs : Spell w ok A n c b) {i : Nat} (hi : i ≤ n) : Spell w ok A i c (b.take i) := by
  have h := Src.takeN hs i hi
  rwa [ints_take] at h
/-- how the walk stands -/
structure Std (w wr : World) (A : Option Addr) (n c : Nat) (b : Str) : Prop where
  be : Below w.heap.size w wr
  sp : Spell wr (fun g => g < w.heap.size) A n c b
theorem Std.next {w wr W : World} {A : Option Addr} {n c : Nat} {b : Str} (h : Std w wr A n c b) (hb : Below wr.heap.size wr W) : Std w W A n c b :=
  ⟨h.be.trans (hb.mono h.be.size), h.sp.below (hb.mono h.be.size) (fun g hg => hg)⟩
theorem Std.take {w wr : World} {A : Option Addr} {n c : Nat} {b : Str} (h : Std w wr A n c b) {i : Nat} (hi : i ≤ n) (hn : n ≤ 5000) : Calls Tryd.prog 9 #[.slice A i c] wr (TakeTo (hd.take (b.take i)) wr) :=
  take_any (take_spell h.sp hi) (fun g hg => Nat.lt_of_lt_of_le hg h.be.size) (by omega)
theorem Std.take_all {w wr : World} {A : Option Addr} {n c : Nat} {b : Str} (h : Std w wr A n c b) (hn : n ≤ 5000) : Calls Tryd.prog 9 #[.slice A n c] wr (TakeTo (hd.take b) wr) :=
  take_any h.sp (fun g hg => Nat.lt_of_lt_of_le hg h.be.size) (by omega)
set_option maxHeartbeats 4000000 in
set_option maxRecDepth 100000 in
theorem once_big {w : World} {A B : Option Addr} {n c m d : Nat} (hq : 600 < n ∨ 300 < m) : Calls Tryd.prog 6 #[.slice A n c, .slice B m d] w (True_ w) := by
  have HAW := Bx.mk (awake_any w)
  rcases (show 600 < n ∨ (¬ 600 < n ∧ 300 < m) by omega) with h0 | ⟨h0, h1⟩
  all_goals
    clear hq
    go_enter Tryd.func6, Tryd.ntmps6
    go_wp2_with fail
    refine HAW.out.mono ?_
    rintro e w1 ⟨rfl, hb1⟩
    have HB1 := Bx.mk hb1
    clear hb1
    go_wp2_with fail
    go_ret
    exact ⟨rfl, HB1.out⟩
set_option maxHeartbeats 8000000 in
set_option maxRecDepth 100000 in
theorem once_main {w : World} {A B : Option Addr} {n c m d : Nat} {b ds : Str} (hs : Spell w (fun g => g < w.heap.size) A n c b) (hd : Spell w (fun g => g < w.heap.size) B m d ds) (hn : n ≤ 600) (hm : m ≤ 300) : Calls Tryd.prog 6 #[.slice A n c, .slice B m d] w (True_ w) := by
  have HAW := Bx.mk (awake_any w)
  have hbl := spell_len hs
  have hdl := spell_len hd
  obtain ⟨l1, fs1, n1, e1, hx⟩ : ∃ l fs n e, take b = (l, fs, n, e) := ⟨_, _, _, _, rfl⟩
  obtain ⟨l2, fs2, n2, e2, hy⟩ : ∃ l fs n e, take (b ++ ds) = (l, fs, n, e) := ⟨_, _, _, _, rfl⟩
  have HXY : Bx (e1 ≠ 5 → l2 = l1 ∧ fs2 = fs1 ∧ n2 = n1 ∧ e2 = e1) := ⟨fun h => by
    have := take_app ds (b := b) (by rw [hx]; exact h)
    rw [hx, hy] at this
    simpa using this⟩
  have HX := Bx.mk hx
  have HY := Bx.mk hy
  have HBL := Bx.mk hbl
  have HDL := Bx.mk hdl
  have HS := Bx.mk hs
  have HD := Bx.mk hd
  have h0' : ¬ 600 < n := by omega
  have h1' : ¬ 300 < m := by omega
  have HK : Bx (n1 ≤ n ∧ (e1 = 5 → n1 = 0 ∧ n < 512) ∧ (e1 ≠ 0 → n1 = 0)) := ⟨by
    rcases go_kinds start 0 b with ⟨a, _, a2, _⟩ | ⟨a, a2⟩ | a | a
    · rw [show go start 0 b = _ from hx] at a a2
      simp at a a2
      subst a
      exact ⟨by omega, by omega, by omega⟩
    · rw [show go start 0 b = _ from hx] at a
      simp at a
      have := a2 (by omega)
      exact ⟨by omega, by omega, by omega⟩
    all_goals
      rw [show go start 0 b = _ from hx] at a
      simp at a
      exact ⟨by omega, by omega, by omega⟩⟩
  have HI : Bx (∀ i : Nat, i < n1 → take (b.take i) = ([], [], 0, 5)) := ⟨fun i hi => take_part (by
    rw [hx]
    show e1 = 0
    rcases Nat.eq_zero_or_pos e1 with h | h
    · exact h
    · have := HK.out.2.2 (by omega); omega) (by rw [hx]; exact hi)⟩
  clear hs hd hx hy hbl hdl
  go_enter Tryd.func6, Tryd.ntmps6
  go_wp2_with fail
  refine HAW.out.mono ?_
  rintro e w1 ⟨rfl, hb1⟩
  have HST : Bx (Std w w1 A n c b) := ⟨⟨hb1, HS.out.below hb1 (fun g hg => hg)⟩⟩
  have HDT : Bx (Std w w1 B m d ds) := ⟨⟨hb1, HD.out.below hb1 (fun g hg => hg)⟩⟩
  clear hb1 HAW HS HD
  go_wp2_with fail
  refine (HST.out.take_all (by omega)).mono ?_
  intro en w2 ht
  obtain ⟨A1, c1, rfl, hf1, hb2⟩ := take_r HX.out ht
  have L1 := Lies.new w2 25 #[.string (S l1), .slice A1 fs1.length c1]
  have hb2a := hb2.alloc hb2.size (.cells #[.string (S l1), .slice A1 fs1.length c1] 25)
  have HST2 := Bx.mk (HST.out.next hb2a)
  have HDT2 := Bx.mk (HDT.out.next hb2a)
  have HF1 := Bx.mk (hf1.below ((Below.refl _ _).alloc (Nat.le_refl _) (.cells #[.string (S l1), .slice A1 fs1.length c1] 25)) (fun g hg => hg) |>.weak (ok' := fun g => g < (w2.alloc (.cells #[.string (S l1), .slice A1 fs1.length c1] 25)).heap.size) (fun g hg => by simp; omega))
  have HL1 := Bx.mk L1
  clear ht hf1 hb2 hb2a L1 HST HDT
  go_upto_region 6 with fail
  generalize w2.alloc (.cells #[.string (S l1), .slice A1 fs1.length c1] 25) = W2 at *
  generalize w2.heap.size = g1 at *
  obtain ⟨A2, c2, w3, A3, c3, w4, ha2, ha3, hm3⟩ := both (HST2.out.sp.weak (fun g hg => Nat.lt_of_lt_of_le hg HST2.out.be.size)) (HDT2.out.sp.weak (fun g hg => Nat.lt_of_lt_of_le hg HDT2.out.be.size)) (by omega) (by omega)
  have HA2 := Bx.mk ha2
  have HA3 := Bx.mk ha3
  have HL3 : Bx ((b ++ ds).length = n + m) := ⟨by rw [List.length_append, HBL.out, HDL.out]⟩
  have HT2 := Bx.mk (take_any (made_spell hm3 HL3.out) (fun g hg => hg) (by omega))
  have HST4 := Bx.mk (HST2.out.next hm3.below)
  have HL1b := Bx.mk (HL1.out.below hm3.below HL1.out.lt)
  have HF1b := Bx.mk (HF1.out.below hm3.below (fun g hg => hg) |>.weak (ok' := fun g => g < w4.heap.size) (fun g hg => Nat.lt_of_lt_of_le hg hm3.below.size))
  clear ha2 ha3 hm3 HST2 HDT2 HL1 HF1 HL3
  go_wp2_with (at_builtin; first | (refine wpList_append_eq rfl _ _ rfl rfl rfl rfl HA2.out ?_; clear HA2) | (refine wpList_append_eq rfl _ _ rfl rfl rfl rfl HA3.out ?_; clear HA3))
  refine HT2.out.mono ?_
  intro en w5 ht
  obtain ⟨A5, c5, rfl, hf2, hb5⟩ := take_r HY.out ht
  have L2 := Lies.new w5 25 #[.string (S l2), .slice A5 fs2.length c5]
  have hal := (Below.refl w5.heap.size w5).alloc (Nat.le_refl _) (.cells #[.string (S l2), .slice A5 fs2.length c5] 25)
  have hb5a := hb5.alloc hb5.size (.cells #[.string (S l2), .slice A5 fs2.length c5] 25)
  have HST5 := Bx.mk (HST4.out.next hb5a)
  have HL1c := Bx.mk (HL1b.out.below hb5a HL1b.out.lt)
  have HF1c := Bx.mk (HF1b.out.below hb5a (fun g hg => hg) |>.weak (ok' := fun g => g < (w5.alloc (.cells #[.string (S l2), .slice A5 fs2.length c5] 25)).heap.size) (fun g hg => Nat.lt_of_lt_of_le hg hb5a.size))
  have HF2 := Bx.mk (hf2.below hal (fun g hg => hg) |>.weak (ok' := fun g => g < (w5.alloc (.cells #[.string (S l2), .slice A5 fs2.length c5] 25)).heap.size) (fun g hg => Nat.lt_of_lt_of_le hg hal.size))
  have HL2 := Bx.mk L2
  clear ht hf2 hb5 hb5a L2 hal HST4 HL1b HF1b HT2
  go_upto_region 7 with fail
  generalize w5.alloc (.cells #[.string (S l2), .slice A5 fs2.length c5] 25) = W5 at *
  generalize w5.heap.size = g2 at *
  have z0 := HL1c.out.cell 0; have z1 := HL1c.out.cell 1
  have y0 := HL2.out.cell 0; have y1 := HL2.out.cell 1
  simp at z0 z1 y0 y1
  have hnn : (n1 : Int) ≤ (n : Int) := by have := HK.out.1; omega
  by_cases h5 : e1 = 5
  · have h1 := HK.out.2.1 h5
    obtain ⟨rfl, hn512⟩ := h1
    have q5 : ((e1 : Int) != 5) = false := by rw [h5]; rfl
    have q512 : (n : Int) < 512 := by omega
    clear h5 HXY HI HK
    go_wp2_with fail
    go_loopw [11] (fun s11 wr => ∃ i : Nat, s11 = .int .i64 (i : Int) ∧ Bx (Std w wr A n c b)) (fun s11 _ => 0)
    case atStart => exact ⟨0, rfl, HST5⟩
    case round =>
      clear HST5
      obtain ⟨i, rfl, HR⟩ := hrel
      have hlt : ¬ (i : Int) < 0 := by omega
      go_wp2_with fail
      exact bodyPost_ret (v := .bool true) (by simp [results, Tryd.results6, go_sem]) rfl ⟨rfl, HR.out.be⟩
  · obtain ⟨rfl, rfl, rfl, rfl⟩ := HXY.out h5
    have q5 : ((e2 : Int) != 5) = true := by simp; omega
    have qn : ((n2 : Int) != (n2 : Int)) = false := by simp
    have qe : ((e2 : Int) != (e2 : Int)) = false := by simp
    have hS := Same_any (w := W5) (va := .agg #[.string (S l2), .slice A1 fs2.length c1]) (vb := .agg #[.string (S l2), .slice A5 fs2.length c5]) ⟨A1, _, c1, rfl, HF1c.out⟩ (fun g hg => hg) ⟨A5, _, c5, rfl, HF2.out⟩ (fun g hg => hg) (by have := take_most HX.out; omega)
    rw [decide_eq_true (⟨rfl, rfl⟩ : l2 = l2 ∧ fs2 = fs2)] at hS
    have HSm := Bx.mk hS
    clear hS h5 HXY HK
    go_wp2_with fail
    refine HSm.out.mono ?_
    rintro e w6 ⟨rfl, hb6⟩
    have HST6 := Bx.mk (HST5.out.next hb6)
    clear hb6 HST5 HSm z0 z1 y0 y1
    go_wp2_with fail
    go_loopw [11] (fun s11 wr => ∃ i : Nat, i ≤ n2 ∧ s11 = .int .i64 (i : Int) ∧ Bx (Std w wr A n c b)) (fun s11 _ => n2 - (intOf s11).toNat)
    case atStart => exact ⟨0, by omega, rfl, HST6⟩
    case round =>
      clear HST6
      obtain ⟨i, hi, rfl, HR⟩ := hrel
      by_cases hlt : i < n2
      · have hlt' : (i : Int) < (n2 : Int) := by omega
        have hltn : (i : Int) < (n : Int) := by omega
        have hin : i ≤ n := by omega
        have hcap := HR.out.sp.cap
        have hic : (i : Int) ≤ (c : Int) := by omega
        have HT := Bx.mk (HR.out.take hin (by omega))
        clear hcap
        go_wp2_with fail
        refine HT.out.mono ?_
        intro en w8 ht
        obtain ⟨A8, c8, rfl, hb8⟩ := take_e (HI.out i hlt) ht
        have HR8 := Bx.mk (HR.out.next (hb8.alloc hb8.size (.cells #[.string ⟨#[]⟩, .slice A8 (0 : Nat) c8] 25)))
        clear ht hb8 HT HR
        go_wp2_with fail
        go_roundw
        case rel => exact ⟨i + 1, by omega, by go_num, HR8⟩
        case measure => simp [intOf]; omega
      · obtain rfl : i = n2 := by omega
        go_wp2_with fail
        exact bodyPost_ret (v := .bool true) (by simp [results, Tryd.results6, go_sem]) rfl ⟨rfl, HR.out.be⟩
theorem once_walk {w : World} {A B : Option Addr} {n c m d : Nat} {bs ds : List Int} (hs : Src w (fun g => g < w.heap.size) A n c bs) (hd : Src w (fun g => g < w.heap.size) B m d ds) : Calls Tryd.prog 6 #[.slice A n c, .slice B m d] w (True_ w) := by
  obtain ⟨b, rfl⟩ := ints_of hs.rng
  obtain ⟨k, rfl⟩ := ints_of hd.rng
  by_cases h : n ≤ 600 ∧ m ≤ 300
  · exact once_main hs hd h.1 h.2
  · exact once_big (by omega)
end Go.Proofs.YtkclhfoeimbikaaDoor.hd
