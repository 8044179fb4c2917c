/-
  Given for the seat's laws: AskMore at any bytes and any bytes behind. No condition but those of the theorem.
-/
import Derived.Test.YtefpplkoohnfbaaGreatDoorALOnce
namespace Go.Proofs.YtefpplkoohnfbaaGreatDoor.ak
open Go.RowKit mem hostp hw own
set_option linter.unusedVariables false

/-- bytes that grow, and a row beside them -/
structure Grow (w0 wr : World) (gl : Nat) (A : Option Addr) (n c : Nat) (v : Str) : Prop where
  made : Made w0 wr (.slice A n c) v
  like : Lies wr gl 5 #[.int .u8 5, .int .u8 1, .int .u8 0, .int .u8 3, .int .u8 1]
  ne : (Value.slice A n c).ownBlock ≠ some gl
  len : v.length = n
theorem Grow.fresh {w0 wr W : World} {gl : Nat} {A : Option Addr} {n c : Nat} {v : Str} (h : Grow w0 wr gl A n c v) (hb : Below wr.heap.size wr W) : Grow w0 W gl A n c v :=
  ⟨Made.fresh h.made hb, h.like.below hb h.like.lt, h.ne, h.len⟩
theorem Grow.push {w0 w1 : World} {gl : Nat} {A : Option Addr} {n c : Nat} {v : Str} (h : Grow w0 w1 gl A n c v) (hl : n ≤ 100000) (x : UInt8) :
    ∃ A2 c2 w2, (Builtin.append_ #[22, 22] 22 #[.slice A n c, .slice (some ⟨w1.heap.size, 0, none⟩) 1 1]).run Tryz.prog (w1.alloc (.cells #[.int .u8 (x.toNat : Int)] 5)) = .ok (.slice A2 (n + 1) c2) w2 ∧
      Grow w0 w2 gl A2 (n + 1) c2 (v ++ [x]) := by
  obtain ⟨hm, hk, hne, hlen⟩ := h
  subst hlen
  have h3 := own_same (w' := w1.alloc (.cells #[.int .u8 (x.toNat : Int)] 5)) hm.own (fun g hg => Below.heap_alloc _ _ _ (own_lt hm.own hg).2)
  obtain ⟨A2, c2, w2, happ, ho, hg, hat⟩ := append_at h3 (src_lit w1 [(x.toNat : Int)] (0, 0) (by have := x.toNat_lt; simp; omega) (by simp)) (by simp; omega) (by simp; have := hm.below.size; omega)
  have hlv : (v ++ [x]).length = v.length + 1 := by simp
  refine ⟨A2, c2, w2, happ, ⟨⟨?_, ((hm.below.alloc hm.below.size _).grown hg (hm.below.alloc hm.below.size _).size (own_ge h3))⟩, (hk.alloc _).grown hg (fun e => hne e.symm), fun e => ?_, hlv⟩⟩
  · rw [ints_app, hlv]
    exact ho
  · rcases hat gl e with h | h
    · exact hne h
    · have := hk.lt
      simp at h
      omega
theorem like_cell {wr : World} {gl : Nat} (h : Lies wr gl 5 #[.int .u8 5, .int .u8 1, .int .u8 0, .int .u8 3, .int .u8 1]) {n : Nat} (hn : n < 5) : wr.cell? ⟨gl, n, none⟩ = some (.int .u8 ((like n).toNat : Int)) := by
  rw [h.cell]
  have : n = 0 ∨ n = 1 ∨ n = 2 ∨ n = 3 ∨ n = 4 := by omega
  rcases this with rfl | rfl | rfl | rfl | rfl <;> rfl
/-- where the loop stands -/
def Jv (v : Str) (i : Nat) : Prop := ((tk v).e = 0 ∧ i ≤ 79) ∨ (tk v = none_ 5 ∧ i + nd v ≤ 60)
theorem jv_next {v : Str} {i : Nat} (h : tk v = none_ 5) (hi : i + nd v ≤ 60) : Jv (v ++ [ext v]) (i + 1) := by
  obtain ⟨h48, h1 | ⟨h1, h2⟩⟩ := ext_step h
  · exact .inl ⟨h1, by omega⟩
  · exact .inr ⟨h1, by omega⟩
set_option maxHeartbeats 4000000 in
set_option maxRecDepth 100000 in
theorem more_big {w : World} {A B : Option Addr} {n c m d : Nat} (hq : 300 < n ∨ 300 < m) (he : Env w) (hN : Nums w) : Calls Tryz.prog 6 #[.slice A n c, .slice B m d] w (True_ w) := by
  have HAW := Bx.mk (awake_any w he hN)
  clear he hN
  rcases (show 300 < n ∨ (¬ 300 < n ∧ 300 < m) by omega) with h0 | ⟨h0, h1⟩
  all_goals
    clear hq
    go_enter Tryz.func6, Tryz.ntmps6
    go_wp2_with fail
    refine HAW.out.mono ?_
    rintro e w1 ⟨rfl, hb1⟩
    have HB1 := Bx.mk hb1
    clear hb1
    go_wp2_with fail
    go_ret
    exact ⟨rfl, HB1.out⟩
set_option maxHeartbeats 8000000 in
set_option maxRecDepth 100000 in
theorem more_main {w : World} {A B : Option Addr} {n c m d : Nat} {b ds : Str} (hs : Spell w (fun g => g < w.heap.size) A n c b) (hd : Spell w (fun g => g < w.heap.size) B m d ds) (hn : n ≤ 300) (hm : m ≤ 300) (he : Env w) (hN : Nums w) : Calls Tryz.prog 6 #[.slice A n c, .slice B m d] w (True_ w) := by
  have HAW := Bx.mk (awake_any w he hN)
  have hbl := spell_len hs
  have hdl := spell_len hd
  obtain ⟨x, hx⟩ : ∃ x, tk b = x := ⟨_, rfl⟩
  have HX := Bx.mk hx
  have HBL := Bx.mk hbl
  have HDL := Bx.mk hdl
  have HS := Bx.mk hs
  have HD := Bx.mk hd
  have HE := Bx.mk he
  have hfull : b.take n = b := by rw [← hbl]; exact List.take_length
  have HF := Bx.mk hfull
  have h0' : ¬ 300 < n := by omega
  have h1' : ¬ 300 < m := by omega
  clear hs hd he hN hx hbl hdl hfull
  go_enter Tryz.func6, Tryz.ntmps6
  go_wp2_with fail
  refine HAW.out.mono ?_
  rintro e w1 ⟨rfl, hb1⟩
  have HST : Bx (Std w w1 A n c b) := ⟨⟨hb1, HS.out.below hb1 (fun g hg => hg)⟩⟩
  have HSD : Bx (Std w w1 B m d ds) := ⟨⟨hb1, HD.out.below hb1 (fun g hg => hg)⟩⟩
  clear hb1 HAW HS HD
  have HT1 : Bx (Calls Tryz.prog 8 #[.slice A n c] w1 _) := ⟨HST.out.take (x := x) (Nat.le_refl n) (by omega) HE.out (by rw [HF.out]; exact HX.out)⟩
  go_wp2_with fail
  refine HT1.out.mono ?_
  rintro e w4 ⟨rfl, hb4⟩
  have hb4a := hb4.alloc hb4.size (.cells #[.int .u8 (x.kind : Int), .string (S x.text), .int .i64 (x.port : Int)] 26)
  have HST4 := Bx.mk (HST.out.next hb4a)
  have HSD4 := Bx.mk (HSD.out.next hb4a)
  clear hb4 hb4a HT1 HST HSD
  go_upto_region 6 with fail
  generalize w4.alloc (.cells #[.int .u8 (x.kind : Int), .string (S x.text), .int .i64 (x.port : Int)] 26) = W4 at *
  generalize w4.heap.size = g1 at *
  by_cases e0 : x.e = 0
  · have E0 : (((x.e : Nat) : Int) == 0) = true := by simp; omega
    clear e0 HX
    go_wp2_with fail
    go_ret
    exact ⟨rfl, HST4.out.be⟩
  · have E0 : (((x.e : Nat) : Int) == 0) = false := by simp; omega
    by_cases e5 : x.e = 5
    · have E5 : (((x.e : Nat) : Int) != 5) = false := by simp; omega
      have hj : Jv b 0 := by
        have h5 : tk b = none_ 5 := by
          have := (tk_err (b := b) (by rw [HX.out]; exact e0)).1
          rw [this, HX.out, e5]
        exact .inr ⟨h5, by have := (ext_step h5).1; omega⟩
      have hsW : Spell W4 (fun g => g < W4.heap.size) A n c b := HST4.out.sp.weak (fun g hg => Nat.lt_of_lt_of_le hg HST4.out.be.size)
      obtain ⟨A2, c2, w5, ha5, hm5⟩ := mine hsW (fun g hg => hg) (by omega)
      have HA5 := Bx.mk ha5
      have HG : Bx (Grow W4 (w5.alloc (.cells #[.int .u8 5, .int .u8 1, .int .u8 0, .int .u8 3, .int .u8 1] 5)) w5.heap.size A2 n c2 b) := ⟨⟨Made.fresh hm5 ((Below.refl _ _).alloc (Nat.le_refl _) _), Lies.new _ _ _, fun e => by have := (own_lt hm5.own e).2; omega, HBL.out⟩⟩
      have HJ := Bx.mk hj
      have HBe : Bx (Below w.heap.size w W4) := ⟨HST4.out.be⟩
      clear e0 e5 hj hsW ha5 hm5 HX HST4 HSD4
      go_wp2_with (at_builtin; refine wpList_append_eq rfl _ _ rfl rfl rfl rfl HA5.out ?_; clear HA5)
      go_upto_region 13 with fail
      generalize w5.alloc (.cells #[.int .u8 5, .int .u8 1, .int .u8 0, .int .u8 3, .int .u8 1] 5) = W5 at *
      generalize w5.heap.size = gl at *
      go_wp2_with fail
      go_loopw [11, 13] (fun s11 s13 wr => ∃ (i : Nat) (v : Str) (A2 : Option Addr) (k c2 : Nat), s11 = .slice A2 k c2 ∧ s13 = .int .i64 (i : Int) ∧ i ≤ 80 ∧ k ≤ 300 + i ∧ Bx (Grow W4 wr gl A2 k c2 v) ∧ Bx (Jv v i)) (fun _ s13 _ => 80 - (intOf s13).toNat)
      case atStart => exact ⟨0, b, A2, n, c2, rfl, rfl, by omega, by omega, HG, HJ⟩
      case round =>
        clear HG HJ
        obtain ⟨i, v, A3, k, c3, rfl, rfl, hi, hk, HG, HJ⟩ := hrel
        have hkv := HG.out.len
        rcases HJ.out with ⟨e0, hi79⟩ | ⟨h5, hnd⟩
        · have hlt' : (i : Int) < 80 := by omega
          have HT : Bx (Calls Tryz.prog 8 #[.slice A3 k c3] wr _) := ⟨take_as (x := tk v) (made_spell HG.out.made hkv) (fun g hg => hg) (by omega) (HE.out.below (HBe.out.trans (HG.out.made.below.mono HBe.out.size))) rfl⟩
          have HB := Bx.mk (HBe.out.trans (HG.out.made.below.mono HBe.out.size))
          rw [e0] at HT
          generalize (tk v).kind = f1 at *
          generalize (tk v).text = f2 at *
          generalize (tk v).port = f3 at *
          generalize (tk v).n = f4 at *
          clear hkv HJ e0 HG
          go_wp2_with fail
          refine HT.out.mono ?_
          rintro e w8 ⟨rfl, hb8⟩
          have HB8 := Bx.mk (HB.out.trans ((hb8.alloc hb8.size (.cells #[.int .u8 (f1 : Int), .string (S f2), .int .i64 (f3 : Int)] 26)).mono HB.out.size))
          clear hb8 HT HB
          go_wp2_with fail
          go_ret
          exact ⟨rfl, HB8.out⟩
        · have hlt' : (i : Int) < 80 := by omega
          have HT : Bx (Calls Tryz.prog 8 #[.slice A3 k c3] wr (TakeV (.tuple #[.agg #[.int .u8 0, .string ⟨#[]⟩, .int .i64 0], .int .i64 0, .int .i64 5]) wr)) := ⟨take_as (x := none_ 5) (made_spell HG.out.made hkv) (fun g hg => hg) (by omega) (HE.out.below (HBe.out.trans (HG.out.made.below.mono HBe.out.size))) h5⟩
          have HJ2 := Bx.mk (jv_next h5 hnd)
          clear HJ h5 hnd
          go_wp2_with fail
          refine HT.out.mono ?_
          rintro e w8 ⟨rfl, hb8⟩
          have hg8 := HG.out.fresh (hb8.alloc hb8.size (.cells #[.int .u8 0, .string ⟨#[]⟩, .int .i64 0] 26))
          have HG8 := Bx.mk hg8
          clear hb8 HT HG hg8
          go_upto_region 17 with fail
          generalize w8.alloc (.cells #[.int .u8 0, .string ⟨#[]⟩, .int .i64 0] 26) = W8 at *
          generalize w8.heap.size = g8 at *
          obtain ⟨A4, c4, w9, ha9, hg9⟩ := HG8.out.push (by omega) (ext v)
          have HA9 := Bx.mk ha9
          have HG9 := Bx.mk hg9
          clear ha9 hg9
          have hext : ext v = if k < 5 ∧ (k < 4 ∨ v[3]? = some 3) then like k else 97 := by unfold ext; rw [hkv]
          by_cases h5k : k < 5
          · by_cases h4k : k < 4
            · have hx : ext v = like k := by rw [hext, if_pos ⟨h5k, .inl h4k⟩]
              have hc := like_cell HG8.out.like h5k
              rw [hx] at HA9
              have q5 : (k : Int) < 5 := by omega
              have q4 : (k : Int) < 4 := by omega
              have q0 : (0 : Int) ≤ (k : Int) := by omega
              clear hext hx HG8 hkv
              generalize ((like k).toNat : Int) = z at *
              go_wp2_with (at_builtin; refine wpList_append_eq rfl _ _ rfl rfl rfl rfl HA9.out ?_; clear HA9)
              go_roundw
              case rel => exact ⟨i + 1, v ++ [ext v], A4, k + 1, c4, rfl, by go_num, by omega, by omega, HG9, HJ2⟩
              case measure => simp [intOf]; omega
            · obtain rfl : k = 4 := by omega
              obtain ⟨y, hy⟩ : ∃ y, v[3]? = some y := ⟨v[3]'(by omega), List.getElem?_eq_getElem (by omega)⟩
              obtain ⟨ga, oa, rfl, _, hcy⟩ := spell_cell (made_spell HG8.out.made hkv) hy
              by_cases hy3 : y = 3
              · subst hy3
                have hx : ext v = 1 := by rw [hext, if_pos ⟨h5k, .inr hy⟩]; rfl
                have hc := like_cell HG8.out.like h5k
                have hc : W8.cell? ⟨gl, 4, none⟩ = some (.int .u8 1) := hc
                have hcy : W8.cell? ⟨ga, oa + 3, none⟩ = some (.int .u8 3) := hcy
                rw [hx] at HA9
                have HA9 : Bx ((Builtin.append_ #[22, 22] 22 #[.slice (some ⟨ga, oa, none⟩) 4 c3, .slice (some ⟨W8.heap.size, 0, none⟩) 1 1]).run Tryz.prog (W8.alloc (.cells #[.int .u8 1] 5)) = .ok (.slice A4 5 c4) w9) := HA9
                clear hext hx HG8 hkv hy
                go_wp2_with (at_builtin; refine wpList_append_eq rfl _ _ rfl rfl rfl rfl HA9.out ?_; clear HA9)
                go_roundw
                case rel => exact ⟨i + 1, v ++ [ext v], A4, 5, c4, rfl, by go_num, by omega, by omega, HG9, HJ2⟩
                case measure => simp [intOf]; omega
              · have hx : ext v = 97 := by
                  rw [hext, if_neg]
                  rintro ⟨_, h | h⟩
                  · omega
                  · rw [hy] at h; exact hy3 (Option.some.inj h)
                have qy : ((y.toNat : Int) == 3) = false := u8_neI hy3
                rw [hx] at HA9
                have HA9 : Bx ((Builtin.append_ #[22, 22] 22 #[.slice (some ⟨ga, oa, none⟩) 4 c3, .slice (some ⟨W8.heap.size, 0, none⟩) 1 1]).run Tryz.prog (W8.alloc (.cells #[.int .u8 97] 5)) = .ok (.slice A4 5 c4) w9) := HA9
                clear hext hx HG8 hkv hy hy3
                generalize (y.toNat : Int) = z at *
                go_wp2_with (at_builtin; refine wpList_append_eq rfl _ _ rfl rfl rfl rfl HA9.out ?_; clear HA9)
                go_roundw
                case rel => exact ⟨i + 1, v ++ [ext v], A4, 5, c4, rfl, by go_num, by omega, by omega, HG9, HJ2⟩
                case measure => simp [intOf]; omega
          · have hx : ext v = 97 := by rw [hext, if_neg (fun h => h5k h.1)]
            rw [hx] at HA9
            have HA9 : Bx ((Builtin.append_ #[22, 22] 22 #[.slice A3 k c3, .slice (some ⟨W8.heap.size, 0, none⟩) 1 1]).run Tryz.prog (W8.alloc (.cells #[.int .u8 97] 5)) = .ok (.slice A4 (k + 1) c4) w9) := HA9
            have q5 : ¬ (k : Int) < 5 := by omega
            clear hext hx HG8 hkv
            go_wp2_with (at_builtin; refine wpList_append_eq rfl _ _ rfl rfl rfl rfl HA9.out ?_; clear HA9)
            go_roundw
            case rel => exact ⟨i + 1, v ++ [ext v], A4, k + 1, c4, rfl, by go_num, by omega, by omega, HG9, HJ2⟩
            case measure => simp [intOf]; omega
    · have E5 : (((x.e : Nat) : Int) != 5) = true := by simp; omega
      have hall : tk (b ++ ds) = x := by rw [← HX.out]; exact tk_app ds (by rw [HX.out]; exact e5)
      have hsW : Spell W4 (fun g => g < W4.heap.size) A n c b := HST4.out.sp.weak (fun g hg => Nat.lt_of_lt_of_le hg HST4.out.be.size)
      have hdW : Spell W4 (fun g => g < W4.heap.size) B m d ds := HSD4.out.sp.weak (fun g hg => Nat.lt_of_lt_of_le hg HST4.out.be.size)
      obtain ⟨A2, c2, w5, A3, c3, w6, ha5, ha6, hm6⟩ := both hsW hdW (by omega) (by omega)
      have HA5 := Bx.mk ha5
      have HA6 := Bx.mk ha6
      have HT6 : Bx (Calls Tryz.prog 8 #[.slice A3 (n + m : Nat) c3] w6 _) := ⟨take_as (made_spell hm6 (by rw [List.length_append, HBL.out, HDL.out])) (fun g hg => hg) (by omega) (HE.out.below (HST4.out.be.trans (hm6.below.mono HST4.out.be.size))) hall⟩
      have HB6 := Bx.mk (HST4.out.be.trans (hm6.below.mono HST4.out.be.size))
      clear e0 e5 hall hsW hdW ha5 ha6 hm6 HX HST4 HSD4
      go_wp2_with (at_builtin; first | (refine wpList_append_eq rfl _ _ rfl rfl rfl rfl HA5.out ?_; clear HA5) | (refine wpList_append_eq rfl _ _ rfl rfl rfl rfl HA6.out ?_; clear HA6))
      refine HT6.out.mono ?_
      rintro e w7 ⟨rfl, hb7⟩
      have HB7 := Bx.mk (HB6.out.trans ((hb7.alloc hb7.size (.cells #[.int .u8 (x.kind : Int), .string (S x.text), .int .i64 (x.port : Int)] 26)).mono HB6.out.size))
      clear hb7 HT6 HB6
      go_wp2_with fail
      go_ret
      exact ⟨rfl, HB7.out⟩
theorem more_walk {w : World} {A B : Option Addr} {n c m d : Nat} {bs cs : List Int} (hs0 : Src w (fun g => g < w.heap.size) A n c bs) (hs1 : Src w (fun g => g < w.heap.size) B m d cs) (he : Env w) (hN : Nums w) : Calls Tryz.prog 6 #[.slice A n c, .slice B m d] w (True_ w) := by
  obtain ⟨b, rfl⟩ := ints_of hs0.rng
  obtain ⟨ds, rfl⟩ := ints_of hs1.rng
  by_cases hq : 300 < n ∨ 300 < m
  · exact more_big hq he hN
  · exact more_main hs0 hs1 (by omega) (by omega) he hN
end Go.Proofs.YtefpplkoohnfbaaGreatDoor.ak
