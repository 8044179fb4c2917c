/-
  Given for the seat's laws: the contracts of the document's own Number, Reply and Print. No condition but those of the theorems.
-/
import Derived.Test.YtefpplkoohnfbaaDoorDPrint
namespace Go.Proofs.YtefpplkoohnfbaaDoor.ak
open Go.RowKit mem hostp hw own
set_option linter.unusedVariables false

theorem num_cells (k : Nat) (h : k < 14) : (#[.int .u8 0, .int .u8 1, .int .u8 2, .int .u8 7, .int .u8 8, .int .u8 1, .int .u8 1, .int .u8 1, .int .u8 2, .int .u8 2, .int .u8 2, .int .u8 3, .int .u8 4, .int .u8 6] : Array Value)[k]? = some (.int .u8 (num k : Int)) := by
  match k, h with
  | 0, _ => rfl
  | 1, _ => rfl
  | 2, _ => rfl
  | 3, _ => rfl
  | 4, _ => rfl
  | 5, _ => rfl
  | 6, _ => rfl
  | 7, _ => rfl
  | 8, _ => rfl
  | 9, _ => rfl
  | 10, _ => rfl
  | 11, _ => rfl
  | 12, _ => rfl
  | 13, _ => rfl
  | n + 14, h => omega
set_option maxHeartbeats 2000000 in
set_option maxRecDepth 100000 in
theorem rnumber_any (k : Nat) (hk : k < 256) (w : World) : Calls Tryd.prog 9 #[.int .u8 (k : Int)] w (Gives (.int .u8 (num k : Int)) w) := by
  have HB := Bx.mk ((Below.refl _ w).alloc (Nat.le_refl _) (.cells #[.int .u8 0, .int .u8 1, .int .u8 2, .int .u8 7, .int .u8 8, .int .u8 1, .int .u8 1, .int .u8 1, .int .u8 2, .int .u8 2, .int .u8 2, .int .u8 3, .int .u8 4, .int .u8 6] 5))
  have hwk : IntKind.i64.wrap (k : Int) = (k : Int) := IntWalk.i64_in _ (by omega)
  by_cases h : k < 14
  · have hc : (w.alloc (.cells #[.int .u8 0, .int .u8 1, .int .u8 2, .int .u8 7, .int .u8 8, .int .u8 1, .int .u8 1, .int .u8 1, .int .u8 2, .int .u8 2, .int .u8 2, .int .u8 3, .int .u8 4, .int .u8 6] 5)).cell? ⟨w.heap.size, k, none⟩ = some (.int .u8 (num k : Int)) := by
      rw [lit_cell]
      exact num_cells k h
    have hz : ¬ (14 : Int) ≤ (k : Int) := by omega
    have hz2 : (k : Int) < 14 := by omega
    clear h
    generalize (num k : Int) = z at *
    go_enter Tryd.func9, Tryd.ntmps9
    go_wp2_with fail
    go_ret
    exact ⟨rfl, HB.out⟩
  · rw [num_big (by omega)]
    have hz : (14 : Int) ≤ (k : Int) := by omega
    clear h
    go_enter Tryd.func9, Tryd.ntmps9
    go_wp2_with fail
    go_ret
    exact ⟨rfl, HB.out⟩
set_option maxHeartbeats 1000000 in
theorem rreply_any (k : Nat) (hk : k < 256) (w : World) : Calls Tryd.prog 7 #[.int .u8 (k : Int)] w (MadeAt (rpl (num k)) w) := by
  have HN := Bx.mk (rnumber_any k hk w)
  have hm := num_lt k
  have e : ints (rpl (num k)) = [5, (num k : Int), 0, 1, 0, 0, 0, 0, 0, 0] := by
    have : (UInt8.ofNat (num k)).toNat = num k := by simp; omega
    simp [ints, rpl, this]
  have HM : Bx (∀ w1, Below w.heap.size w w1 → Made w (w1.alloc (.cells #[.int .u8 5, .int .u8 (num k : Int), .int .u8 0, .int .u8 1, .int .u8 0, .int .u8 0, .int .u8 0, .int .u8 0, .int .u8 0, .int .u8 0] 5)) (.slice (some ⟨w1.heap.size, 0, none⟩) (rpl (num k)).length 10) (rpl (num k))) := by
    refine ⟨fun w1 hb => Made.base (w0 := w1) ⟨?_, (Below.refl _ _).alloc (Nat.le_refl _) _⟩ hb⟩
    rw [e]
    exact ⟨rfl, .inr ⟨w1.heap.size, 10, _, rfl, Nat.le_refl _, heap_alloc_new w1 _, by show 10 ≤ 10; omega, by unfold maxLen; omega, rfl, rfl⟩⟩
  clear e
  generalize (num k : Int) = z at *
  have hl : (rpl (num k)).length = 10 := rfl
  unfold MadeAt
  rw [hl] at HM ⊢
  clear hl
  go_enter Tryd.func7, Tryd.ntmps7
  go_wp2_with fail
  refine HN.out.mono ?_
  rintro e w1 ⟨rfl, hb1⟩
  have HM1 := Bx.mk (HM.out w1 hb1)
  clear HM hb1
  go_wp2_with fail
  exact bodyPost_ret (v := .slice (some ⟨w1.heap.size, 0, none⟩) 10 10) (by simp [results, Tryd.results7, go_sem]) rfl ⟨_, _, rfl, HM1.out⟩
set_option maxHeartbeats 1000000 in
theorem rmayTarget_any (k : Int) (t : ByteArray) (p : Int) (h0 : 0 ≤ k) (w : World) : Calls Tryd.prog 10 #[tv k t p] w (Gives (.bool (mayT (tt k t p))) w) := by
  have hb : Below w.heap.size w (w.alloc (.cells #[.int .u8 k, .string t, .int .i64 p] 25)) := (Below.refl _ w).alloc (Nat.le_refl _) _
  have hl := Lies.new w 25 #[.int .u8 k, .string t, .int .i64 p]
  have HM := Lib.hid (rmay_any k t h0 (w.alloc (.cells #[.int .u8 k, .string t, .int .i64 p] 25)))
  have HE := Lib.hid (mayT_eq k t p)
  have HB := Lib.hid hb
  have HL := Lib.hid hl
  clear hb hl
  unfold hv at HM
  unfold tv
  generalize may (hh k t) = b at HM HE
  go_enter Tryd.func10, Tryd.ntmps10
  go_wp2_with fail
  refine HM.out.mono ?_
  rintro e w' ⟨rfl, hb2⟩
  have hl2 := HL.out.below hb2 (by simp)
  have c2 := hl2.cell 2
  simp at c2
  have HB2 := Lib.hid (HB.out.trans (hb2.mono (by simp)))
  clear hb2 hl2
  cases b
  · go_wp2
    go_ret
    exact ⟨by rw [HE.out]; rfl, HB2.out⟩
  · by_cases q1 : 1 ≤ p
    · by_cases q2 : p ≤ 65535
      · go_wp2
        go_ret
        exact ⟨by rw [HE.out, decide_eq_true q1, decide_eq_true q2]; rfl, HB2.out⟩
      · go_wp2
        go_ret
        exact ⟨by rw [HE.out, decide_eq_true q1, decide_eq_false (show ¬ p ≤ 65535 by omega)]; rfl, HB2.out⟩
    · go_wp2
      go_ret
      exact ⟨by rw [HE.out, decide_eq_false (show ¬ 1 ≤ p by omega)]; rfl, HB2.out⟩

theorem made_lit (w : World) (l : Str) (hl : l.length ≤ 1000) {n : Nat} (hn : l.length = n) :
    ∃ A c w2, (Builtin.append_ #[26, 26] 26 #[.slice none 0 0, .slice (some ⟨w.heap.size, 0, none⟩) n n]).run Tryd.prog (w.alloc (.cells (B8 (ints l)).toArray 5)) = .ok (.slice A n c) w2 ∧ Made w w2 (.slice A n c) l := by
  subst hn
  have hs := src_lit w (ints l) (0, 0) (ints_rng l) (by rw [ints_len]; exact hl)
  rw [ints_len] at hs
  have h0 : Made w w (.slice none 0 0) [] := ⟨own_none _ _ _, Below.refl _ _⟩
  obtain ⟨A2, c2, w2, happ, hmd⟩ := h0.app (ys := l) ((Below.refl _ w).alloc (Nat.le_refl _) _) hs (by simp; omega)
  simp only [List.length_nil, Nat.zero_add, List.nil_append] at happ hmd
  exact ⟨A2, c2, w2, happ, hmd⟩
set_option maxHeartbeats 2000000 in
set_option maxRecDepth 100000 in
theorem rprint_bad {k : Int} {x : Str} {p : Int} (h0 : 0 ≤ k) (hm : mayT (tt k (S x) p) = false) (w : World) : Calls Tryd.prog 4 #[tv k (S x) p] w (PrintAs [] 0 2 w) := by
  have HM := Bx.mk (fun w => rmayTarget_any k (S x) p h0 w)
  rw [hm] at HM
  have hb : Below w.heap.size w (w.alloc (.cells #[.int .u8 k, .string (S x), .int .i64 p] 25)) := (Below.refl _ _).alloc (Nat.le_refl _) _
  have HB := Bx.mk hb
  clear hm hb
  unfold tv at HM ⊢
  generalize S x = s at *
  go_enter Tryd.func4, Tryd.ntmps4
  go_wp2_with fail
  refine (HM.out _).mono ?_
  rintro e w1 ⟨rfl, hb1⟩
  have HB1 := Bx.mk (HB.out.trans (hb1.mono HB.out.size))
  clear hb1 HM HB
  go_wp2_with fail
  exact bodyPost_ret (v := .tuple #[.slice none 0 0, .int .i64 2]) (by simp [results, Tryd.results4, go_sem]) rfl ⟨none, 0, rfl, own_none _ _ _, HB1.out⟩
set_option maxHeartbeats 4000000 in
set_option maxRecDepth 100000 in
theorem rprint_one {x : Str} {q : Nat} (hq1 : 1 ≤ q) (hq2 : q ≤ 65535) (hx : x.length ≤ 40) (hm : mayT (tt 1 (S x) (q : Int)) = true) (w : World) : Calls Tryd.prog 4 #[tv 1 (S x) (q : Int)] w (PrintAs (pr 1 x q) (4 + x.length + 2) 0 w) := by
  have HM := Bx.mk (fun w => rmayTarget_any 1 (S x) (q : Int) (by omega) w)
  rw [hm] at HM
  have hb : Below w.heap.size w (w.alloc (.cells #[.int .u8 1, .string (S x), .int .i64 (q : Int)] 25)) := (Below.refl _ _).alloc (Nat.le_refl _) _
  have HL := Bx.mk (Lies.new w 25 #[.int .u8 1, .string (S x), .int .i64 (q : Int)])
  have HB := Bx.mk hb
  obtain ⟨p1, p2⟩ := port_bytes hq2
  have HP1 := Bx.mk p1
  have HP2 := Bx.mk p2
  have hsz := S_size x
  have hwl : IntKind.u8.wrap (x.length : Int) = (x.length : Int) := by rw [IntKind.wrap_u8']; omega
  have td : (q : Int).tdiv 256 = ((q / 256 : Nat) : Int) := by rw [Int.tdiv_eq_ediv_of_nonneg (by omega)]; omega
  have tm : (q : Int).tmod 256 = ((q % 256 : Nat) : Int) := by rw [Int.tmod_eq_emod_of_nonneg (by omega)]; omega
  have hd8 : IntKind.u8.wrap ((q / 256 : Nat) : Int) = ((q / 256 : Nat) : Int) := by rw [IntKind.wrap_u8']; omega
  have hm8 : IntKind.u8.wrap ((q % 256 : Nat) : Int) = ((q % 256 : Nat) : Int) := by rw [IntKind.wrap_u8']; omega
  have hd64 : IntKind.i64.wrap ((q / 256 : Nat) : Int) = ((q / 256 : Nat) : Int) := IntWalk.i64_in _ (by omega)
  have hm64 : IntKind.i64.wrap ((q % 256 : Nat) : Int) = ((q % 256 : Nat) : Int) := IntWalk.i64_in _ (by omega)
  have HOL := Bx.mk (ofNat_len hx)
  clear hm hb p1 p2
  unfold tv at HM ⊢
  go_enter Tryd.func4, Tryd.ntmps4
  go_wp2_with fail
  refine (HM.out _).mono ?_
  rintro e w1 ⟨rfl, hb1⟩
  have hl1 := HL.out.below hb1 (by simp)
  have HB1 := Bx.mk (HB.out.trans (hb1.mono HB.out.size))
  obtain ⟨A1, c1, w2, ha1, M1⟩ := made_lit w1 [5, 1, 0, 1] (by simp) (n := 4) rfl
  have E1 : (B8 (ints [5, 1, 0, 1])).toArray = #[.int .u8 5, .int .u8 1, .int .u8 0, .int .u8 1] := by rfl
  rw [E1] at ha1
  have hl2 := hl1.below M1.below hl1.lt
  have e1 : ([5, 1, 0, 1] : Str).length = 4 := rfl
  obtain ⟨A2, c2, w3, ha2, M2⟩ := Made.text M1 x (by rw [e1]; omega)
  rw [e1] at ha2 M2
  have hl3 := hl1.below M2.below hl1.lt
  have e2 : ([5, 1, 0, 1] ++ x : Str).length = 4 + x.length := by rw [List.length_append, e1]
  obtain ⟨A3, c3, w4, ha3, M3⟩ := Made.push2 M2 (by rw [e2]; omega) (UInt8.ofNat (q / 256)) (UInt8.ofNat (q % 256))
  rw [HP1.out, HP2.out] at ha3
  rw [e2] at ha3 M3
  have epr : [5, 1, 0, 1] ++ x ++ [UInt8.ofNat (q / 256), UInt8.ofNat (q % 256)] = pr 1 x q := by simp [pr, hdr]
  rw [epr] at M3
  have H1 := Bx.mk ha1; have H2 := Bx.mk ha2; have H3 := Bx.mk ha3
  have HM3 := Bx.mk (Made.base M3 HB1.out)
  have d0 := hl1.cell 0
  have d1 := hl1.cell 1
  have d2 := hl2.cell 1
  have d3 := hl3.cell 2
  simp at d0 d1 d2 d3
  clear hb1 hl1 hl2 hl3 M1 M2 M3 ha1 ha2 ha3 HM HL HB e1 e2 HP1 HP2 epr HOL E1
  go_wp2_with (at_builtin; (first | (refine Lib.wpList_append_run _ rfl _ _ _ _ rfl _ _ rfl rfl _ _ H1.out ?_; clear H1) | (refine Lib.wpList_append_run _ rfl _ _ _ _ rfl _ _ rfl rfl _ _ H2.out ?_; clear H2) | (refine Lib.wpList_append_run _ rfl _ _ _ _ rfl _ _ rfl rfl _ _ H3.out ?_; clear H3)))
  exact bodyPost_ret (v := .tuple #[.slice A3 (4 + x.length + 2) c3, .int .i64 0]) (by simp [results, Tryd.results4, go_sem]) rfl ⟨A3, c3, rfl, HM3.out⟩
set_option maxHeartbeats 4000000 in
set_option maxRecDepth 100000 in
theorem rprint_two {x : Str} {q : Nat} (hq1 : 1 ≤ q) (hq2 : q ≤ 65535) (hx : x.length ≤ 40) (hm : mayT (tt 2 (S x) (q : Int)) = true) (w : World) : Calls Tryd.prog 4 #[tv 2 (S x) (q : Int)] w (PrintAs (pr 2 x q) (4 + x.length + 2) 0 w) := by
  have HM := Bx.mk (fun w => rmayTarget_any 2 (S x) (q : Int) (by omega) w)
  rw [hm] at HM
  have hb : Below w.heap.size w (w.alloc (.cells #[.int .u8 2, .string (S x), .int .i64 (q : Int)] 25)) := (Below.refl _ _).alloc (Nat.le_refl _) _
  have HL := Bx.mk (Lies.new w 25 #[.int .u8 2, .string (S x), .int .i64 (q : Int)])
  have HB := Bx.mk hb
  obtain ⟨p1, p2⟩ := port_bytes hq2
  have HP1 := Bx.mk p1
  have HP2 := Bx.mk p2
  have hsz := S_size x
  have hwl : IntKind.u8.wrap (x.length : Int) = (x.length : Int) := by rw [IntKind.wrap_u8']; omega
  have td : (q : Int).tdiv 256 = ((q / 256 : Nat) : Int) := by rw [Int.tdiv_eq_ediv_of_nonneg (by omega)]; omega
  have tm : (q : Int).tmod 256 = ((q % 256 : Nat) : Int) := by rw [Int.tmod_eq_emod_of_nonneg (by omega)]; omega
  have hd8 : IntKind.u8.wrap ((q / 256 : Nat) : Int) = ((q / 256 : Nat) : Int) := by rw [IntKind.wrap_u8']; omega
  have hm8 : IntKind.u8.wrap ((q % 256 : Nat) : Int) = ((q % 256 : Nat) : Int) := by rw [IntKind.wrap_u8']; omega
  have hd64 : IntKind.i64.wrap ((q / 256 : Nat) : Int) = ((q / 256 : Nat) : Int) := IntWalk.i64_in _ (by omega)
  have hm64 : IntKind.i64.wrap ((q % 256 : Nat) : Int) = ((q % 256 : Nat) : Int) := IntWalk.i64_in _ (by omega)
  have HOL := Bx.mk (ofNat_len hx)
  clear hm hb p1 p2
  unfold tv at HM ⊢
  go_enter Tryd.func4, Tryd.ntmps4
  go_wp2_with fail
  refine (HM.out _).mono ?_
  rintro e w1 ⟨rfl, hb1⟩
  have hl1 := HL.out.below hb1 (by simp)
  have HB1 := Bx.mk (HB.out.trans (hb1.mono HB.out.size))
  obtain ⟨A1, c1, w2, ha1, M1⟩ := made_lit w1 [5, 1, 0, 4] (by simp) (n := 4) rfl
  have E1 : (B8 (ints [5, 1, 0, 4])).toArray = #[.int .u8 5, .int .u8 1, .int .u8 0, .int .u8 4] := by rfl
  rw [E1] at ha1
  have hl2 := hl1.below M1.below hl1.lt
  have e1 : ([5, 1, 0, 4] : Str).length = 4 := rfl
  obtain ⟨A2, c2, w3, ha2, M2⟩ := Made.text M1 x (by rw [e1]; omega)
  rw [e1] at ha2 M2
  have hl3 := hl1.below M2.below hl1.lt
  have e2 : ([5, 1, 0, 4] ++ x : Str).length = 4 + x.length := by rw [List.length_append, e1]
  obtain ⟨A3, c3, w4, ha3, M3⟩ := Made.push2 M2 (by rw [e2]; omega) (UInt8.ofNat (q / 256)) (UInt8.ofNat (q % 256))
  rw [HP1.out, HP2.out] at ha3
  rw [e2] at ha3 M3
  have epr : [5, 1, 0, 4] ++ x ++ [UInt8.ofNat (q / 256), UInt8.ofNat (q % 256)] = pr 2 x q := by simp [pr, hdr]
  rw [epr] at M3
  have H1 := Bx.mk ha1; have H2 := Bx.mk ha2; have H3 := Bx.mk ha3
  have HM3 := Bx.mk (Made.base M3 HB1.out)
  have d0 := hl1.cell 0
  have d1 := hl1.cell 1
  have d2 := hl2.cell 1
  have d3 := hl3.cell 2
  simp at d0 d1 d2 d3
  clear hb1 hl1 hl2 hl3 M1 M2 M3 ha1 ha2 ha3 HM HL HB e1 e2 HP1 HP2 epr HOL E1
  go_wp2_with (at_builtin; (first | (refine Lib.wpList_append_run _ rfl _ _ _ _ rfl _ _ rfl rfl _ _ H1.out ?_; clear H1) | (refine Lib.wpList_append_run _ rfl _ _ _ _ rfl _ _ rfl rfl _ _ H2.out ?_; clear H2) | (refine Lib.wpList_append_run _ rfl _ _ _ _ rfl _ _ rfl rfl _ _ H3.out ?_; clear H3)))
  exact bodyPost_ret (v := .tuple #[.slice A3 (4 + x.length + 2) c3, .int .i64 0]) (by simp [results, Tryd.results4, go_sem]) rfl ⟨A3, c3, rfl, HM3.out⟩
set_option maxHeartbeats 4000000 in
set_option maxRecDepth 100000 in
theorem rprint_three {x : Str} {q : Nat} (hq1 : 1 ≤ q) (hq2 : q ≤ 65535) (hx : x.length ≤ 40) (hm : mayT (tt 3 (S x) (q : Int)) = true) (w : World) : Calls Tryd.prog 4 #[tv 3 (S x) (q : Int)] w (PrintAs (pr 3 x q) (5 + x.length + 2) 0 w) := by
  have HM := Bx.mk (fun w => rmayTarget_any 3 (S x) (q : Int) (by omega) w)
  rw [hm] at HM
  have hb : Below w.heap.size w (w.alloc (.cells #[.int .u8 3, .string (S x), .int .i64 (q : Int)] 25)) := (Below.refl _ _).alloc (Nat.le_refl _) _
  have HL := Bx.mk (Lies.new w 25 #[.int .u8 3, .string (S x), .int .i64 (q : Int)])
  have HB := Bx.mk hb
  obtain ⟨p1, p2⟩ := port_bytes hq2
  have HP1 := Bx.mk p1
  have HP2 := Bx.mk p2
  have hsz := S_size x
  have hwl : IntKind.u8.wrap (x.length : Int) = (x.length : Int) := by rw [IntKind.wrap_u8']; omega
  have td : (q : Int).tdiv 256 = ((q / 256 : Nat) : Int) := by rw [Int.tdiv_eq_ediv_of_nonneg (by omega)]; omega
  have tm : (q : Int).tmod 256 = ((q % 256 : Nat) : Int) := by rw [Int.tmod_eq_emod_of_nonneg (by omega)]; omega
  have hd8 : IntKind.u8.wrap ((q / 256 : Nat) : Int) = ((q / 256 : Nat) : Int) := by rw [IntKind.wrap_u8']; omega
  have hm8 : IntKind.u8.wrap ((q % 256 : Nat) : Int) = ((q % 256 : Nat) : Int) := by rw [IntKind.wrap_u8']; omega
  have hd64 : IntKind.i64.wrap ((q / 256 : Nat) : Int) = ((q / 256 : Nat) : Int) := IntWalk.i64_in _ (by omega)
  have hm64 : IntKind.i64.wrap ((q % 256 : Nat) : Int) = ((q % 256 : Nat) : Int) := IntWalk.i64_in _ (by omega)
  have HOL := Bx.mk (ofNat_len hx)
  clear hm hb p1 p2
  unfold tv at HM ⊢
  go_enter Tryd.func4, Tryd.ntmps4
  go_wp2_with fail
  refine (HM.out _).mono ?_
  rintro e w1 ⟨rfl, hb1⟩
  have hl1 := HL.out.below hb1 (by simp)
  have HB1 := Bx.mk (HB.out.trans (hb1.mono HB.out.size))
  obtain ⟨A1, c1, w2, ha1, M1⟩ := made_lit w1 [5, 1, 0, 3, UInt8.ofNat x.length] (by simp) (n := 5) rfl
  have E1 : (B8 (ints [5, 1, 0, 3, UInt8.ofNat x.length])).toArray = #[.int .u8 5, .int .u8 1, .int .u8 0, .int .u8 3, .int .u8 (x.length : Int)] := by simp [B8, ints, HOL.out]
  rw [E1] at ha1
  have hl2 := hl1.below M1.below hl1.lt
  have e1 : ([5, 1, 0, 3, UInt8.ofNat x.length] : Str).length = 5 := rfl
  obtain ⟨A2, c2, w3, ha2, M2⟩ := Made.text M1 x (by rw [e1]; omega)
  rw [e1] at ha2 M2
  have hl3 := hl1.below M2.below hl1.lt
  have e2 : ([5, 1, 0, 3, UInt8.ofNat x.length] ++ x : Str).length = 5 + x.length := by rw [List.length_append, e1]
  obtain ⟨A3, c3, w4, ha3, M3⟩ := Made.push2 M2 (by rw [e2]; omega) (UInt8.ofNat (q / 256)) (UInt8.ofNat (q % 256))
  rw [HP1.out, HP2.out] at ha3
  rw [e2] at ha3 M3
  have epr : [5, 1, 0, 3, UInt8.ofNat x.length] ++ x ++ [UInt8.ofNat (q / 256), UInt8.ofNat (q % 256)] = pr 3 x q := by simp [pr, hdr]
  rw [epr] at M3
  have H1 := Bx.mk ha1; have H2 := Bx.mk ha2; have H3 := Bx.mk ha3
  have HM3 := Bx.mk (Made.base M3 HB1.out)
  have d0 := hl1.cell 0
  have d1 := hl1.cell 1
  have d2 := hl2.cell 1
  have d3 := hl3.cell 2
  simp at d0 d1 d2 d3
  clear hb1 hl1 hl2 hl3 M1 M2 M3 ha1 ha2 ha3 HM HL HB e1 e2 HP1 HP2 epr HOL E1
  go_wp2_with (at_builtin; (first | (refine Lib.wpList_append_run _ rfl _ _ _ _ rfl _ _ rfl rfl _ _ H1.out ?_; clear H1) | (refine Lib.wpList_append_run _ rfl _ _ _ _ rfl _ _ rfl rfl _ _ H2.out ?_; clear H2) | (refine Lib.wpList_append_run _ rfl _ _ _ _ rfl _ _ rfl rfl _ _ H3.out ?_; clear H3)))
  exact bodyPost_ret (v := .tuple #[.slice A3 (5 + x.length + 2) c3, .int .i64 0]) (by simp [results, Tryd.results4, go_sem]) rfl ⟨A3, c3, rfl, HM3.out⟩
theorem rprint_any (k : Int) (x : Str) (p : Int) (h0 : 0 ≤ k) (w : World) : Calls Tryd.prog 4 #[tv k (S x) p] w (PrintAs (pk k x p).1 (pk k x p).1.length (pk k x p).2 w) := by
  unfold pk
  by_cases hm : mayT (tt k (S x) p) = true
  · rw [if_pos hm]
    obtain ⟨h1, h2, h3⟩ := mayT_port hm
    obtain ⟨q, rfl⟩ : ∃ q : Nat, p = (q : Int) := ⟨p.toNat, by omega⟩
    dsimp only
    rw [pr_len]
    rcases may_fits h1 with ⟨rfl, hx⟩ | ⟨rfl, hx⟩ | ⟨rfl, hx⟩
    · exact rprint_one (by omega) (by omega) (by omega) hm w
    · exact rprint_two (by omega) (by omega) (by omega) hm w
    · have := name_len hx
      exact rprint_three (by omega) (by omega) (by omega) hm w
  · rw [if_neg hm]
    exact rprint_bad h0 (by simpa using hm) w
end Go.Proofs.YtefpplkoohnfbaaDoor.ak
