/-
  Given for the seat's laws: AskOnce at any bytes and any bytes behind. No condition but those of the theorem.
-/
import Derived.Test.YtefpplkoohnfbaaGreatDoorAAwk
namespace Go.Proofs.YtefpplkoohnfbaaGreatDoor.ak
open Go.RowKit mem hostp hw own
set_option linter.unusedVariables false

theorem tk_n (b : Str) : (tk b).n ≤ b.length := by
  rcases Nat.eq_zero_or_pos (tk b).e with h | h
  · exact tk_len h
  · rw [(tk_err (b := b) (by omega)).1]
    exact Nat.zero_le _
theorem ch_n (b : Str) : (ch b).n ≤ b.length := by
  rcases ch_kinds b with ⟨_, h⟩ | h | h
  · exact h
  · rw [h]; exact Nat.zero_le _
  · rw [h]; exact Nat.zero_le _
/-- both copies -/
theorem both {w : World} {A B : Option Addr} {n c m d : Nat} {b ds : Str} (hs : Spell w (fun g => g < w.heap.size) A n c b) (hd : Spell w (fun g => g < w.heap.size) B m d ds) (hn : n ≤ 600) (hm : m ≤ 600) :
    ∃ A2 c2 w2 A3 c3 w3, (Builtin.append_ #[22, 22] 22 #[.slice (some ⟨w.heap.size, 0, none⟩) 0 0, .slice A n c]).run Tryz.prog (w.alloc (.cells #[] 5)) = .ok (.slice A2 n c2) w2 ∧
      (Builtin.append_ #[22, 22] 22 #[.slice A2 n c2, .slice B m d]).run Tryz.prog w2 = .ok (.slice A3 (n + m) c3) w3 ∧ Made w w3 (.slice A3 (n + m) c3) (b ++ ds) := by
  have hbl := spell_len hs
  obtain ⟨A2, c2, w2, happ, hm2⟩ := mine hs (fun g hg => hg) (by omega)
  subst hbl
  obtain ⟨A3, c3, w3, happ3, hm3⟩ := Made.app hm2 (Below.refl _ _) (hd.below hm2.below (fun g hg => hg)) (by omega)
  exact ⟨A2, c2, w2, A3, c3, w3, happ, happ3, hm3⟩
theorem take_spell {w : World} {ok : Nat → Prop} {A : Option Addr} {n c : Nat} {b : Str} (hs : Spell w ok A n c b) {i : Nat} (hi : i ≤ n) : Spell w ok A i c (b.take i) := by
  have h := Src.takeN hs i hi
  rwa [ints_take] at h

set_option maxHeartbeats 4000000 in
set_option maxRecDepth 100000 in
theorem once_big {w : World} {A B : Option Addr} {n c m d : Nat} (hq : 300 < n ∨ 300 < m) (he : Env w) (hN : Nums w) : Calls Tryz.prog 5 #[.slice A n c, .slice B m d] w (True_ w) := by
  have HAW := Bx.mk (awake_any w he hN)
  clear he hN
  rcases (show 300 < n ∨ (¬ 300 < n ∧ 300 < m) by omega) with h0 | ⟨h0, h1⟩
  all_goals
    clear hq
    go_enter Tryz.func5, Tryz.ntmps5
    go_wp2_with fail
    refine HAW.out.mono ?_
    rintro e w1 ⟨rfl, hb1⟩
    have HB1 := Bx.mk hb1
    clear hb1
    go_wp2_with fail
    go_ret
    exact ⟨rfl, HB1.out⟩
/-- how the walk stands -/
structure Std (w wr : World) (A : Option Addr) (n c : Nat) (b : Str) : Prop where
  be : Below w.heap.size w wr
  sp : Spell wr (fun g => g < w.heap.size) A n c b
theorem Std.next {w wr W : World} {A : Option Addr} {n c : Nat} {b : Str} (h : Std w wr A n c b) (hb : Below wr.heap.size wr W) : Std w W A n c b :=
  ⟨h.be.trans (hb.mono h.be.size), h.sp.below (hb.mono h.be.size) (fun g hg => hg)⟩
theorem Std.take {w wr : World} {A : Option Addr} {n c : Nat} {b : Str} (h : Std w wr A n c b) {i : Nat} (hi : i ≤ n) (hn : n ≤ 1000) (he : Env w) {x : TK} (hx : tk (b.take i) = x) : Calls Tryz.prog 8 #[.slice A i c] wr (TakeV (.tuple #[.agg #[.int .u8 (x.kind : Int), .string (S x.text), .int .i64 (x.port : Int)], .int .i64 (x.n : Int), .int .i64 (x.e : Int)]) wr) :=
  take_as (take_spell h.sp hi) (fun g hg => Nat.lt_of_lt_of_le hg h.be.size) (by omega) (he.below h.be) hx
theorem Std.rep {w wr : World} {A : Option Addr} {n c : Nat} {b : Str} (h : Std w wr A n c b) {i : Nat} (hi : i ≤ n) (hn : n ≤ 1000) {x : CH} (hx : ch (b.take i) = x) : Calls Tryz.prog 10 #[.slice A i c] wr (TakeV (.tuple #[.int .u8 (x.num : Int), .int .i64 (x.n : Int), .int .i64 (x.e : Int)]) wr) :=
  rep_as (take_spell h.sp hi) (fun g hg => Nat.lt_of_lt_of_le hg h.be.size) (by omega) hx
set_option maxHeartbeats 8000000 in
set_option maxRecDepth 100000 in
theorem once_main {w : World} {A B : Option Addr} {n c m d : Nat} {b ds : Str} (hs : Spell w (fun g => g < w.heap.size) A n c b) (hd : Spell w (fun g => g < w.heap.size) B m d ds) (hn : n ≤ 300) (hm : m ≤ 300) (he : Env w) (hN : Nums w) : Calls Tryz.prog 5 #[.slice A n c, .slice B m d] w (True_ w) := by
  have HAW := Bx.mk (awake_any w he hN)
  have hbl := spell_len hs
  have hdl := spell_len hd
  obtain ⟨x, hx⟩ : ∃ x, tk b = x := ⟨_, rfl⟩
  obtain ⟨y, hy⟩ : ∃ y, tk (b ++ ds) = y := ⟨_, rfl⟩
  obtain ⟨p, hp⟩ : ∃ p, ch b = p := ⟨_, rfl⟩
  obtain ⟨q, hq⟩ : ∃ q, ch (b ++ ds) = q := ⟨_, rfl⟩
  have hxn : x.n ≤ n := by rw [← hx, ← hbl]; exact tk_n b
  have hpn : p.n ≤ n := by rw [← hp, ← hbl]; exact ch_n b
  have HXY : Bx (x.e ≠ 5 → y = x) := ⟨fun h => by rw [← hx, ← hy]; exact tk_app ds (by rw [hx]; exact h)⟩
  have HPQ : Bx (p.e ≠ 5 → q = p) := ⟨fun h => by rw [← hp, ← hq]; exact ch_app ds (by rw [hp]; exact h)⟩
  have HX := Bx.mk hx
  have HY := Bx.mk hy
  have HP := Bx.mk hp
  have HQ := Bx.mk hq
  have HBL := Bx.mk hbl
  have HDL := Bx.mk hdl
  have HS := Bx.mk hs
  have HD := Bx.mk hd
  have HE := Bx.mk he
  have hfull : b.take n = b := by rw [← hbl]; exact List.take_length
  have HF := Bx.mk hfull
  have h0' : ¬ 300 < n := by omega
  have h1' : ¬ 300 < m := by omega
  clear hs hd he hN hx hy hp hq hbl hdl hfull
  go_enter Tryz.func5, Tryz.ntmps5
  go_wp2_with fail
  refine HAW.out.mono ?_
  rintro e w1 ⟨rfl, hb1⟩
  have HB1 := Bx.mk hb1
  obtain ⟨A2, c2, w2, A3, c3, w3, ha2, ha3, hm3⟩ := both (HS.out.below hb1 (fun g hg => hg) |>.weak (fun g hg => Nat.lt_of_lt_of_le hg hb1.size)) (HD.out.below hb1 (fun g hg => hg) |>.weak (fun g hg => Nat.lt_of_lt_of_le hg hb1.size)) (by omega) (by omega)
  have HA2 := Bx.mk ha2
  have HA3 := Bx.mk ha3
  have HM3 := Bx.mk hm3
  have HST : Bx (Std w w3 A n c b) := ⟨⟨hb1.trans (hm3.below.mono hb1.size), HS.out.below (hb1.trans (hm3.below.mono hb1.size)) (fun g hg => hg)⟩⟩
  have HL3 : Bx ((b ++ ds).length = n + m) := ⟨by rw [List.length_append, HBL.out, HDL.out]⟩
  clear hb1 HAW ha2 ha3 hm3 HS HD HB1
  go_wp2_with (at_builtin; first | (refine wpList_append_eq rfl _ _ rfl rfl rfl rfl HA2.out ?_; clear HA2) | (refine wpList_append_eq rfl _ _ rfl rfl rfl rfl HA3.out ?_; clear HA3))
  have HT1 : Bx (Calls Tryz.prog 8 #[.slice A n c] w3 _) := ⟨HST.out.take (x := x) (Nat.le_refl n) (by omega) HE.out (by rw [HF.out]; exact HX.out)⟩
  refine HT1.out.mono ?_
  rintro e w4 ⟨rfl, hb4⟩
  have L1 := Lies.new w4 26 #[.int .u8 (x.kind : Int), .string (S x.text), .int .i64 (x.port : Int)]
  have hb4a := hb4.alloc hb4.size (.cells #[.int .u8 (x.kind : Int), .string (S x.text), .int .i64 (x.port : Int)] 26)
  have HST4 := Bx.mk (HST.out.next hb4a)
  have HM4 := Bx.mk (Made.fresh HM3.out hb4a)
  have HL1 := Bx.mk L1
  clear hb4 hb4a L1 HT1 HST HM3
  go_upto_region 7 with fail
  generalize w4.alloc (.cells #[.int .u8 (x.kind : Int), .string (S x.text), .int .i64 (x.port : Int)] 26) = W4 at *
  generalize w4.heap.size = g1 at *
  have HT2 : Bx (Calls Tryz.prog 8 #[.slice A3 (n + m : Nat) c3] W4 _) := ⟨take_as (made_spell HM4.out HL3.out) (fun g hg => hg) (by omega) (HE.out.below HST4.out.be) HY.out⟩
  go_wp2_with fail
  refine HT2.out.mono ?_
  rintro e w5 ⟨rfl, hb5⟩
  have L2 := Lies.new w5 26 #[.int .u8 (y.kind : Int), .string (S y.text), .int .i64 (y.port : Int)]
  have hb5a := hb5.alloc hb5.size (.cells #[.int .u8 (y.kind : Int), .string (S y.text), .int .i64 (y.port : Int)] 26)
  have HST5 := Bx.mk (HST4.out.next hb5a)
  have HM5 := Bx.mk (Made.fresh HM4.out hb5a)
  have HL1b := Bx.mk (HL1.out.below hb5a HL1.out.lt)
  have HL2 := Bx.mk L2
  clear hb5 hb5a L2 HT2 HST4 HM4 HL1
  go_upto_region 8 with fail
  generalize w5.alloc (.cells #[.int .u8 (y.kind : Int), .string (S y.text), .int .i64 (y.port : Int)] 26) = W5 at *
  generalize w5.heap.size = g2 at *
  have HT3 : Bx (Calls Tryz.prog 10 #[.slice A n c] W5 _) := ⟨HST5.out.rep (x := p) (Nat.le_refl n) (by omega) (by rw [HF.out]; exact HP.out)⟩
  go_wp2_with fail
  refine HT3.out.mono ?_
  rintro e w6 ⟨rfl, hb6⟩
  have HST6 := Bx.mk (HST5.out.next hb6)
  have HM6 := Bx.mk (Made.fresh HM5.out hb6)
  have HL1c := Bx.mk (HL1b.out.below hb6 HL1b.out.lt)
  have HL2b := Bx.mk (HL2.out.below hb6 HL2.out.lt)
  clear hb6 HT3 HST5 HM5 HL1b HL2
  have HT4 : Bx (Calls Tryz.prog 10 #[.slice A3 (n + m : Nat) c3] w6 _) := ⟨rep_as (made_spell HM6.out HL3.out) (fun g hg => hg) (by omega) HQ.out⟩
  go_wp2_with fail
  refine HT4.out.mono ?_
  rintro e w7 ⟨rfl, hb7⟩
  have HST7 := Bx.mk (HST6.out.next hb7)
  have l1 := HL1c.out.below hb7 HL1c.out.lt
  have l2 := HL2b.out.below hb7 HL2b.out.lt
  have c0 := l1.cell 0; have c1 := l1.cell 1; have c2' := l1.cell 2
  have d0 := l2.cell 0; have d1 := l2.cell 1; have d2 := l2.cell 2
  simp at c0 c1 c2' d0 d1 d2
  clear hb7 HT4 HST6 HM6 HL1c HL2b l1 l2
  go_upto_region 10 with fail
  go_cut [100] (fun s100 wx => s100 = .bool false ∧ wx = w7)
  case first =>
    have seq := (str_eq x.text)
    by_cases e1 : x.e = 5
    · have E1 : (((x.e : Nat) : Int) != 5) = false := by simp; omega
      by_cases e2 : p.e = 5
      · have E2 : (((p.e : Nat) : Int) != 5) = false := by simp; omega
        clear e1 e2
        go_wp2_with fail
        go_meet
        exact ⟨rfl, rfl⟩
      · obtain rfl := HPQ.out e2
        have E2 : (((q.e : Nat) : Int) != 5) = true := by simp; omega
        clear e1 e2
        go_wp2_with fail
        go_meet
        exact ⟨rfl, rfl⟩
    · obtain rfl := HXY.out e1
      have E1 : (((y.e : Nat) : Int) != 5) = true := by simp; omega
      by_cases e2 : p.e = 5
      · have E2 : (((p.e : Nat) : Int) != 5) = false := by simp; omega
        clear e1 e2
        go_wp2_with fail
        go_meet
        exact ⟨rfl, rfl⟩
      · obtain rfl := HPQ.out e2
        have E2 : (((q.e : Nat) : Int) != 5) = true := by simp; omega
        clear e1 e2
        go_wp2_with fail
        go_meet
        exact ⟨rfl, rfl⟩
  case rest =>
    obtain ⟨rfl, rfl⟩ := hcut
    have HI : Bx (∀ i : Nat, i < x.n → tk (b.take i) = none_ 5) := ⟨fun i hi => tk_part (by rw [HX.out]; exact hi)⟩
    have HJ : Bx (∀ i : Nat, i < p.n → ch (b.take i) = noneC 5) := ⟨fun i hi => ch_part (by rw [HP.out]; exact hi)⟩
    clear c0 c1 c2' d0 d1 d2 HXY HPQ HX HY HP HQ HF HL3
    generalize x.n = o at *
    generalize p.n = r at *
    go_wp2_with fail
    go_loopw [18] (fun s18 wr => ∃ i : Nat, i ≤ o ∧ s18 = .int .i64 (i : Int) ∧ Bx (Std w wr A n c b)) (fun s18 _ => o - (intOf s18).toNat)
    case atStart => exact ⟨0, Nat.zero_le _, rfl, HST7⟩
    case round =>
      clear HST7
      obtain ⟨i, hi, rfl, HR⟩ := hrel
      by_cases hlt : i < o
      · have hlt' : (i : Int) < (o : Int) := by omega
        have hltn : (i : Int) < (n : Int) := by omega
        have hin : i ≤ n := by omega
        have hcap := HR.out.sp.cap
        have hic : (i : Int) ≤ (c : Int) := by omega
        have HT : Bx (Calls Tryz.prog 8 #[.slice A i c] wr (TakeV (.tuple #[.agg #[.int .u8 0, .string ⟨#[]⟩, .int .i64 0], .int .i64 0, .int .i64 5]) wr)) := ⟨HR.out.take (x := none_ 5) hin (by omega) HE.out (HI.out i hlt)⟩
        clear hcap
        go_wp2_with fail
        refine HT.out.mono ?_
        rintro e w8 ⟨rfl, hb8⟩
        have HR8 := Bx.mk (HR.out.next (hb8.alloc hb8.size (.cells #[.int .u8 0, .string ⟨#[]⟩, .int .i64 0] 26)))
        clear hb8 HT HR
        go_wp2_with fail
        go_roundw
        case rel => exact ⟨i + 1, by omega, by go_num, HR8⟩
        case measure => simp [intOf]; omega
      · obtain rfl : i = o := by omega
        go_wp2_with fail
        go_loopw [22] (fun s22 wq => ∃ j : Nat, j ≤ r ∧ s22 = .int .i64 (j : Int) ∧ Bx (Std w wq A n c b)) (fun s22 _ => r - (intOf s22).toNat)
        case atStart => exact ⟨0, Nat.zero_le _, rfl, HR⟩
        case round =>
          clear HR
          obtain ⟨j, hj, rfl, HR⟩ := hrel
          by_cases hlt2 : j < r
          · have hlt' : (j : Int) < (r : Int) := by omega
            have hltn : (j : Int) < (n : Int) := by omega
            have hin : j ≤ n := by omega
            have hcap := HR.out.sp.cap
            have hic : (j : Int) ≤ (c : Int) := by omega
            have HT : Bx (Calls Tryz.prog 10 #[.slice A j c] wr (TakeV (.tuple #[.int .u8 0, .int .i64 0, .int .i64 5]) wr)) := ⟨HR.out.rep (x := noneC 5) hin (by omega) (HJ.out j hlt2)⟩
            clear hcap
            go_wp2_with fail
            refine HT.out.mono ?_
            rintro e w8 ⟨rfl, hb8⟩
            have HR8 := Bx.mk (HR.out.next hb8)
            clear hb8 HT HR
            go_wp2_with fail
            go_roundw
            case rel => exact ⟨j + 1, by omega, by go_num, HR8⟩
            case measure => simp [intOf]; omega
          · obtain rfl : j = r := by omega
            have q1 : (i : Int) ≤ (n : Int) := by omega
            have q2 : (j : Int) ≤ (n : Int) := by omega
            go_wp2_with fail
            go_ret
            exact ⟨rfl, HR.out.be⟩
theorem once_walk {w : World} {A B : Option Addr} {n c m d : Nat} {bs cs : List Int} (hs0 : Src w (fun g => g < w.heap.size) A n c bs) (hs1 : Src w (fun g => g < w.heap.size) B m d cs) (he : Env w) (hN : Nums w) : Calls Tryz.prog 5 #[.slice A n c, .slice B m d] w (True_ w) := by
  obtain ⟨b, rfl⟩ := ints_of hs0.rng
  obtain ⟨ds, rfl⟩ := ints_of hs1.rng
  by_cases hq : 300 < n ∨ 300 < m
  · exact once_big hq he hN
  · exact once_main hs0 hs1 (by omega) (by omega) he hN
end Go.Proofs.YtefpplkoohnfbaaGreatDoor.ak
