/-
  Given for the seat's laws: the contract of Print. No condition but those of the theorems.
-/
import Derived.Test.YtefpplkoohnfbaaDoorDMem
import Derived.Lib.BytesEntry
import Derived.Lib.AppendZeros
namespace Go.Proofs.YtefpplkoohnfbaaDoor.ak
open Go.RowKit mem hostp hw own
set_option linter.unusedVariables false

theorem own_base {w : World} {B B' : Nat} {e : TypeId} {v : Value} {k : Nat} {xs : List Value} (h : w.ownsRow B' e 1 v k xs) (hB : B ≤ B') : w.ownsRow B e 1 v k xs := by
  obtain ⟨h1, h2 | ⟨g, cap, cur, h3, h4, h5⟩⟩ := h
  · exact ⟨h1, .inl h2⟩
  · exact ⟨h1, .inr ⟨g, cap, cur, h3, Nat.le_trans hB h4, h5⟩⟩
theorem Made.base {w w0 w2 : World} {v : Value} {l : Str} (h : Made w0 w2 v l) (hb : Below w.heap.size w w0) : Made w w2 v l := ⟨own_base h.own hb.size, hb.trans (h.below.mono hb.size)⟩
theorem strCells_S (l : Str) : Lib.strCells (S l) = B8 (ints l) := by simp [Lib.strCells, B8, ints]
/-- a text more -/
theorem Made.text {w wr : World} {v : Value} {l : Str} (h : Made w wr v l) (x : Str) (hl : l.length + x.length ≤ 100000) :
    ∃ A2 c2 w2, (Builtin.append_ #[26, 9] 26 #[v, .string (S x)]).run Tryd.prog wr = .ok (.slice A2 (l.length + x.length) c2) w2 ∧ Made w w2 (.slice A2 (l.length + x.length) c2) (l ++ x) := by
  obtain ⟨i0, hinf, hz0, hz1, hz2⟩ := info_parts (show (Tryd.prog.info? 5).map (fun i => (i.zero, i.size, i.bytes)) = some (some (.int .u8 0), 1, 1) by kernel_rfl)
  obtain ⟨v', w', happ, ho, hg, _⟩ := Lib.run_append_own_string (P := Tryd.prog) (w := wr) w.heap.size 26 9 26 5 i0 Tryd.underlying26 Tryd.underlying9 hinf hz0 hz1 hz2 v l.length (B8 (ints l)) h.own (S x)
    (by unfold maxLen; rw [S_size]; omega) (by rw [S_size]; omega) h.below.size
  rw [S_size] at ho
  obtain ⟨A2, c2, rfl⟩ := own_form ho
  refine ⟨A2, c2, w', happ, ?_, h.below.grown hg h.below.size (own_ge h.own)⟩
  have e : (l ++ x).length = l.length + x.length := List.length_append
  rw [e, ints_app]
  have e2 : B8 (ints l ++ ints x) = B8 (ints l) ++ B8 (ints x) := by simp [B8]
  rw [e2, ← strCells_S x]
  exact ho
/-- two bytes more -/
theorem Made.push2 {w w1 : World} {v : Value} {l : Str} (h : Made w w1 v l) (hl : l.length ≤ 10000) (x y : UInt8) :
    ∃ A c w2, (Builtin.append_ #[26, 26] 26 #[v, .slice (some ⟨w1.heap.size, 0, none⟩) 2 2]).run Tryd.prog (w1.alloc (.cells #[.int .u8 (x.toNat : Int), .int .u8 (y.toNat : Int)] 5)) = .ok (.slice A (l.length + 2) c) w2 ∧
      Made w w2 (.slice A (l.length + 2) c) (l ++ [x, y]) := by
  have hs := src_lit w1 [(x.toNat : Int), (y.toNat : Int)] (0, 0) (by have := x.toNat_lt; have := y.toNat_lt; simp; omega) (by simp)
  exact h.app (ys := [x, y]) ((Below.refl _ w1).alloc (Nat.le_refl _) _) hs (by simp; omega)
/-- the first bytes -/
theorem made_three (w : World) (x y z : UInt8) : Made w (w.alloc (.cells #[.int .u8 (x.toNat : Int), .int .u8 (y.toNat : Int), .int .u8 (z.toNat : Int)] 5)) (.slice (some ⟨w.heap.size, 0, none⟩) (3 : Nat) 3) [x, y, z] :=
  ⟨⟨rfl, .inr ⟨w.heap.size, 3, _, rfl, Nat.le_refl _, heap_alloc_new w _, Nat.le_refl _, by unfold maxLen; omega, rfl, rfl⟩⟩, (Below.refl _ _).alloc (Nat.le_refl _) _⟩

/-- the bytes of a request -/
def pr (k : Nat) (x : Str) (q : Nat) : Str := hdr k x.length ++ (x ++ [UInt8.ofNat (q / 256), UInt8.ofNat (q % 256)])
/-- what Print gives: bytes of the call's own, so many, and the number of the error -/
def PrintAs (l : Str) (k q : Nat) (w : World) (e : Ending) (w' : World) : Prop := ∃ A c, e = .returned (.tuple #[.slice A k c, .int .i64 (q : Int)]) ∧ Made w w' (.slice A k c) l
theorem mayT_port {k : Int} {x : Str} {p : Int} (h : mayT (tt k (S x) p) = true) : may (hh k (S x)) = true ∧ 1 ≤ p ∧ p ≤ 65535 := by
  rw [mayT_eq] at h
  simp only [Bool.and_eq_true, decide_eq_true_eq] at h
  exact ⟨h.1.1, h.1.2, h.2⟩
theorem may_fits {k : Int} {x : Str} (h : may (hh k (S x)) = true) : (k = 1 ∧ x.length = 4) ∨ (k = 2 ∧ x.length = 16) ∨ (k = 3 ∧ nameB x = true) := by
  have h := may_iff.1 h
  simp only [hh, S_list] at h
  rcases h with ⟨h1, h2⟩ | ⟨h1, h2⟩ | ⟨h1, h2⟩
  · exact .inl ⟨by omega, h2⟩
  · exact .inr (.inl ⟨by omega, h2⟩)
  · exact .inr (.inr ⟨by omega, h2⟩)
set_option maxHeartbeats 2000000 in
set_option maxRecDepth 100000 in
theorem print_bad {k : Int} {x : Str} {p : Int} (h0 : 0 ≤ k) (hm : mayT (tt k (S x) p) = false) (w : World) : Calls Tryd.prog 5 #[tv k (S x) p] w (PrintAs [] 0 2 w) := by
  have HM := Bx.mk (fun w => mayTarget_any k (S x) p h0 w)
  rw [hm] at HM
  have hb : Below w.heap.size w (w.alloc (.cells #[.int .u8 k, .string (S x), .int .i64 p] 25)) := (Below.refl _ _).alloc (Nat.le_refl _) _
  have HB := Bx.mk hb
  clear hm hb
  unfold tv at HM ⊢
  generalize S x = s at *
  go_enter Tryd.func5, Tryd.ntmps5
  go_wp2_with fail
  refine (HM.out _).mono ?_
  rintro e w1 ⟨rfl, hb1⟩
  have HB1 := Bx.mk (HB.out.trans (hb1.mono HB.out.size))
  clear hb1 HM HB
  go_wp2_with fail
  exact bodyPost_ret (v := .tuple #[.slice none 0 0, .int .i64 2]) (by simp [results, Tryd.results5, go_sem]) rfl ⟨none, 0, rfl, own_none _ _ _, HB1.out⟩

theorem port_bytes {q : Nat} (h : q ≤ 65535) : (UInt8.ofNat (q / 256)).toNat = q / 256 ∧ (UInt8.ofNat (q % 256)).toNat = q % 256 := by
  constructor
  · simp; omega
  · simp
set_option maxHeartbeats 4000000 in
set_option maxRecDepth 100000 in
theorem print_one {x : Str} {q : Nat} (hq1 : 1 ≤ q) (hq2 : q ≤ 65535) (hx : x.length ≤ 40) (hm : mayT (tt 1 (S x) (q : Int)) = true) (w : World) : Calls Tryd.prog 5 #[tv 1 (S x) (q : Int)] w (PrintAs (pr 1 x q) (4 + x.length + 2) 0 w) := by
  have HM := Bx.mk (fun w => mayTarget_any 1 (S x) (q : Int) (by omega) w)
  rw [hm] at HM
  have hb : Below w.heap.size w (w.alloc (.cells #[.int .u8 1, .string (S x), .int .i64 (q : Int)] 25)) := (Below.refl _ _).alloc (Nat.le_refl _) _
  have HL := Bx.mk (Lies.new w 25 #[.int .u8 1, .string (S x), .int .i64 (q : Int)])
  have HB := Bx.mk hb
  obtain ⟨p1, p2⟩ := port_bytes hq2
  have HP1 := Bx.mk p1
  have HP2 := Bx.mk p2
  have hsz := S_size x
  have hwl : IntKind.u8.wrap (x.length : Int) = (x.length : Int) := by rw [IntKind.wrap_u8']; omega
  have hwq : IntKind.u8.wrap (q : Int) = ((q % 256 : Nat) : Int) := by rw [IntKind.wrap_u8']; omega
  have hol := ofNat_len hx
  have HOL := Bx.mk hol
  clear hm hb p1 p2 hol
  unfold tv at HM ⊢
  go_enter Tryd.func5, Tryd.ntmps5
  go_wp2_with fail
  refine (HM.out _).mono ?_
  rintro e w1 ⟨rfl, hb1⟩
  have hl1 := HL.out.below hb1 (by simp)
  have HB1 := Bx.mk (HB.out.trans (hb1.mono HB.out.size))
  obtain ⟨W1, hW1⟩ : ∃ W1, W1 = w1.alloc (.cells #[.int .u8 5, .int .u8 1, .int .u8 0] 5) := ⟨_, rfl⟩
  have M0 : Made w1 W1 (.slice (some ⟨w1.heap.size, 0, none⟩) (3 : Nat) 3) [5, 1, 0] := by rw [hW1]; exact made_three w1 5 1 0
  have hlW := hl1.below M0.below hl1.lt
  obtain ⟨A1, c1, w2, ha1, M1⟩ := Made.push M0 (by simp) 1
  have e0 : ([5, 1, 0] : Str).length + 1 = 4 := rfl
  rw [e0] at ha1 M1
  have ha1 : (Builtin.append_ #[26, 26] 26 #[.slice (some ⟨w1.heap.size, 0, none⟩) 3 3, .slice (some ⟨W1.heap.size, 0, none⟩) 1 1]).run Tryd.prog (W1.alloc (.cells #[.int .u8 1] 5)) = .ok (.slice A1 4 c1) w2 := ha1
  clear e0
  have hl2 := hl1.below M1.below hl1.lt
  have e1 : ([5, 1, 0] ++ [1] : Str).length = 4 := rfl
  obtain ⟨A2, c2, w3, ha2, M2⟩ := Made.text M1 x (by rw [e1]; omega)
  rw [e1] at ha2 M2
  have hl3 := hl1.below M2.below hl1.lt
  have e2 : ([5, 1, 0] ++ [1] ++ x : Str).length = 4 + x.length := by rw [List.length_append, e1]
  obtain ⟨A3, c3, w4, ha3, M3⟩ := Made.push2 M2 (by rw [e2]; omega) (UInt8.ofNat (q / 256)) (UInt8.ofNat (q % 256))
  rw [HP1.out, HP2.out] at ha3
  rw [e2] at ha3 M3
  have epr : [5, 1, 0] ++ [1] ++ x ++ [UInt8.ofNat (q / 256), UInt8.ofNat (q % 256)] = pr 1 x q := by simp [pr, hdr]
  rw [epr] at M3
  have H1 := Bx.mk ha1; have H2 := Bx.mk ha2; have H3 := Bx.mk ha3
  have HM3 := Bx.mk (Made.base M3 HB1.out)
  have d0 := hlW.cell 0
  have d1 := hl2.cell 1
  have d2 := hl3.cell 2
  have d3 := hlW.cell 1
  simp at d0 d1 d2 d3
  clear hb1 hl1 hl2 hl3 hlW M0 M1 M2 M3 ha1 ha2 ha3 HM HL HB e1 e2 HP1 HP2 epr
  go_upto_region 4 with fail
  rw [← hW1]
  clear hW1
  go_wp2_with (at_builtin; (first | (refine Lib.wpList_append_run _ rfl _ _ _ _ rfl _ _ rfl rfl _ _ H1.out ?_; clear H1) | (refine Lib.wpList_append_run _ rfl _ _ _ _ rfl _ _ rfl rfl _ _ H2.out ?_; clear H2) | (refine Lib.wpList_append_run _ rfl _ _ _ _ rfl _ _ rfl rfl _ _ H3.out ?_; clear H3)))
  exact bodyPost_ret (v := .tuple #[.slice A3 (4 + x.length + 2) c3, .int .i64 0]) (by simp [results, Tryd.results5, go_sem]) rfl ⟨A3, c3, rfl, HM3.out⟩
set_option maxHeartbeats 4000000 in
set_option maxRecDepth 100000 in
theorem print_two {x : Str} {q : Nat} (hq1 : 1 ≤ q) (hq2 : q ≤ 65535) (hx : x.length ≤ 40) (hm : mayT (tt 2 (S x) (q : Int)) = true) (w : World) : Calls Tryd.prog 5 #[tv 2 (S x) (q : Int)] w (PrintAs (pr 2 x q) (4 + x.length + 2) 0 w) := by
  have HM := Bx.mk (fun w => mayTarget_any 2 (S x) (q : Int) (by omega) w)
  rw [hm] at HM
  have hb : Below w.heap.size w (w.alloc (.cells #[.int .u8 2, .string (S x), .int .i64 (q : Int)] 25)) := (Below.refl _ _).alloc (Nat.le_refl _) _
  have HL := Bx.mk (Lies.new w 25 #[.int .u8 2, .string (S x), .int .i64 (q : Int)])
  have HB := Bx.mk hb
  obtain ⟨p1, p2⟩ := port_bytes hq2
  have HP1 := Bx.mk p1
  have HP2 := Bx.mk p2
  have hsz := S_size x
  have hwl : IntKind.u8.wrap (x.length : Int) = (x.length : Int) := by rw [IntKind.wrap_u8']; omega
  have hwq : IntKind.u8.wrap (q : Int) = ((q % 256 : Nat) : Int) := by rw [IntKind.wrap_u8']; omega
  have hol := ofNat_len hx
  have HOL := Bx.mk hol
  clear hm hb p1 p2 hol
  unfold tv at HM ⊢
  go_enter Tryd.func5, Tryd.ntmps5
  go_wp2_with fail
  refine (HM.out _).mono ?_
  rintro e w1 ⟨rfl, hb1⟩
  have hl1 := HL.out.below hb1 (by simp)
  have HB1 := Bx.mk (HB.out.trans (hb1.mono HB.out.size))
  obtain ⟨W1, hW1⟩ : ∃ W1, W1 = w1.alloc (.cells #[.int .u8 5, .int .u8 1, .int .u8 0] 5) := ⟨_, rfl⟩
  have M0 : Made w1 W1 (.slice (some ⟨w1.heap.size, 0, none⟩) (3 : Nat) 3) [5, 1, 0] := by rw [hW1]; exact made_three w1 5 1 0
  have hlW := hl1.below M0.below hl1.lt
  obtain ⟨A1, c1, w2, ha1, M1⟩ := Made.push M0 (by simp) 4
  have e0 : ([5, 1, 0] : Str).length + 1 = 4 := rfl
  rw [e0] at ha1 M1
  have ha1 : (Builtin.append_ #[26, 26] 26 #[.slice (some ⟨w1.heap.size, 0, none⟩) 3 3, .slice (some ⟨W1.heap.size, 0, none⟩) 1 1]).run Tryd.prog (W1.alloc (.cells #[.int .u8 4] 5)) = .ok (.slice A1 4 c1) w2 := ha1
  clear e0
  have hl2 := hl1.below M1.below hl1.lt
  have e1 : ([5, 1, 0] ++ [4] : Str).length = 4 := rfl
  obtain ⟨A2, c2, w3, ha2, M2⟩ := Made.text M1 x (by rw [e1]; omega)
  rw [e1] at ha2 M2
  have hl3 := hl1.below M2.below hl1.lt
  have e2 : ([5, 1, 0] ++ [4] ++ x : Str).length = 4 + x.length := by rw [List.length_append, e1]
  obtain ⟨A3, c3, w4, ha3, M3⟩ := Made.push2 M2 (by rw [e2]; omega) (UInt8.ofNat (q / 256)) (UInt8.ofNat (q % 256))
  rw [HP1.out, HP2.out] at ha3
  rw [e2] at ha3 M3
  have epr : [5, 1, 0] ++ [4] ++ x ++ [UInt8.ofNat (q / 256), UInt8.ofNat (q % 256)] = pr 2 x q := by simp [pr, hdr]
  rw [epr] at M3
  have H1 := Bx.mk ha1; have H2 := Bx.mk ha2; have H3 := Bx.mk ha3
  have HM3 := Bx.mk (Made.base M3 HB1.out)
  have d0 := hlW.cell 0
  have d1 := hl2.cell 1
  have d2 := hl3.cell 2
  have d3 := hlW.cell 1
  simp at d0 d1 d2 d3
  clear hb1 hl1 hl2 hl3 hlW M0 M1 M2 M3 ha1 ha2 ha3 HM HL HB e1 e2 HP1 HP2 epr
  go_upto_region 4 with fail
  rw [← hW1]
  clear hW1
  go_wp2_with (at_builtin; (first | (refine Lib.wpList_append_run _ rfl _ _ _ _ rfl _ _ rfl rfl _ _ H1.out ?_; clear H1) | (refine Lib.wpList_append_run _ rfl _ _ _ _ rfl _ _ rfl rfl _ _ H2.out ?_; clear H2) | (refine Lib.wpList_append_run _ rfl _ _ _ _ rfl _ _ rfl rfl _ _ H3.out ?_; clear H3)))
  exact bodyPost_ret (v := .tuple #[.slice A3 (4 + x.length + 2) c3, .int .i64 0]) (by simp [results, Tryd.results5, go_sem]) rfl ⟨A3, c3, rfl, HM3.out⟩
set_option maxHeartbeats 4000000 in
set_option maxRecDepth 100000 in
theorem print_three {x : Str} {q : Nat} (hq1 : 1 ≤ q) (hq2 : q ≤ 65535) (hx : x.length ≤ 40) (hm : mayT (tt 3 (S x) (q : Int)) = true) (w : World) : Calls Tryd.prog 5 #[tv 3 (S x) (q : Int)] w (PrintAs (pr 3 x q) (5 + x.length + 2) 0 w) := by
  have HM := Bx.mk (fun w => mayTarget_any 3 (S x) (q : Int) (by omega) w)
  rw [hm] at HM
  have hb : Below w.heap.size w (w.alloc (.cells #[.int .u8 3, .string (S x), .int .i64 (q : Int)] 25)) := (Below.refl _ _).alloc (Nat.le_refl _) _
  have HL := Bx.mk (Lies.new w 25 #[.int .u8 3, .string (S x), .int .i64 (q : Int)])
  have HB := Bx.mk hb
  obtain ⟨p1, p2⟩ := port_bytes hq2
  have HP1 := Bx.mk p1
  have HP2 := Bx.mk p2
  have hsz := S_size x
  have hwl : IntKind.u8.wrap (x.length : Int) = (x.length : Int) := by rw [IntKind.wrap_u8']; omega
  have hwq : IntKind.u8.wrap (q : Int) = ((q % 256 : Nat) : Int) := by rw [IntKind.wrap_u8']; omega
  have hol := ofNat_len hx
  have HOL := Bx.mk hol
  clear hm hb p1 p2 hol
  unfold tv at HM ⊢
  go_enter Tryd.func5, Tryd.ntmps5
  go_wp2_with fail
  refine (HM.out _).mono ?_
  rintro e w1 ⟨rfl, hb1⟩
  have hl1 := HL.out.below hb1 (by simp)
  have HB1 := Bx.mk (HB.out.trans (hb1.mono HB.out.size))
  obtain ⟨W1, hW1⟩ : ∃ W1, W1 = w1.alloc (.cells #[.int .u8 5, .int .u8 1, .int .u8 0] 5) := ⟨_, rfl⟩
  have M0 : Made w1 W1 (.slice (some ⟨w1.heap.size, 0, none⟩) (3 : Nat) 3) [5, 1, 0] := by rw [hW1]; exact made_three w1 5 1 0
  have hlW := hl1.below M0.below hl1.lt
  obtain ⟨A1, c1, w2, ha1, M1⟩ := Made.push2 M0 (by simp) 3 (UInt8.ofNat x.length)
  have e0 : ([5, 1, 0] : Str).length + 2 = 5 := rfl
  rw [e0, HOL.out] at ha1
  rw [e0] at M1
  have ha1 : (Builtin.append_ #[26, 26] 26 #[.slice (some ⟨w1.heap.size, 0, none⟩) 3 3, .slice (some ⟨W1.heap.size, 0, none⟩) 2 2]).run Tryd.prog (W1.alloc (.cells #[.int .u8 3, .int .u8 (x.length : Int)] 5)) = .ok (.slice A1 5 c1) w2 := ha1
  clear e0
  have hl2 := hl1.below M1.below hl1.lt
  have e1 : ([5, 1, 0] ++ [3, UInt8.ofNat x.length] : Str).length = 5 := rfl
  obtain ⟨A2, c2, w3, ha2, M2⟩ := Made.text M1 x (by rw [e1]; omega)
  rw [e1] at ha2 M2
  have hl3 := hl1.below M2.below hl1.lt
  have e2 : ([5, 1, 0] ++ [3, UInt8.ofNat x.length] ++ x : Str).length = 5 + x.length := by rw [List.length_append, e1]
  obtain ⟨A3, c3, w4, ha3, M3⟩ := Made.push2 M2 (by rw [e2]; omega) (UInt8.ofNat (q / 256)) (UInt8.ofNat (q % 256))
  rw [HP1.out, HP2.out] at ha3
  rw [e2] at ha3 M3
  have epr : [5, 1, 0] ++ [3, UInt8.ofNat x.length] ++ x ++ [UInt8.ofNat (q / 256), UInt8.ofNat (q % 256)] = pr 3 x q := by simp [pr, hdr]
  rw [epr] at M3
  have H1 := Bx.mk ha1; have H2 := Bx.mk ha2; have H3 := Bx.mk ha3
  have HM3 := Bx.mk (Made.base M3 HB1.out)
  have d0 := hlW.cell 0
  have d1 := hl2.cell 1
  have d2 := hl3.cell 2
  have d3 := hlW.cell 1
  simp at d0 d1 d2 d3
  clear hb1 hl1 hl2 hl3 hlW M0 M1 M2 M3 ha1 ha2 ha3 HM HL HB e1 e2 HP1 HP2 epr
  go_upto_region 4 with fail
  rw [← hW1]
  clear hW1
  go_wp2_with (at_builtin; (first | (refine Lib.wpList_append_run _ rfl _ _ _ _ rfl _ _ rfl rfl _ _ H1.out ?_; clear H1) | (refine Lib.wpList_append_run _ rfl _ _ _ _ rfl _ _ rfl rfl _ _ H2.out ?_; clear H2) | (refine Lib.wpList_append_run _ rfl _ _ _ _ rfl _ _ rfl rfl _ _ H3.out ?_; clear H3)))
  exact bodyPost_ret (v := .tuple #[.slice A3 (5 + x.length + 2) c3, .int .i64 0]) (by simp [results, Tryd.results5, go_sem]) rfl ⟨A3, c3, rfl, HM3.out⟩
/-- what Print gives -/
def pk (k : Int) (x : Str) (p : Int) : Str × Nat := if mayT (tt k (S x) p) = true then (pr k.toNat x p.toNat, 0) else ([], 2)
theorem pr_len (k : Nat) (x : Str) (q : Nat) : (pr k x q).length = hdn k + x.length + 2 := by simp [pr, hdr_len]; omega
theorem print_any (k : Int) (x : Str) (p : Int) (h0 : 0 ≤ k) (w : World) : Calls Tryd.prog 5 #[tv k (S x) p] w (PrintAs (pk k x p).1 (pk k x p).1.length (pk k x p).2 w) := by
  unfold pk
  by_cases hm : mayT (tt k (S x) p) = true
  · rw [if_pos hm]
    obtain ⟨h1, h2, h3⟩ := mayT_port hm
    obtain ⟨q, rfl⟩ : ∃ q : Nat, p = (q : Int) := ⟨p.toNat, by omega⟩
    dsimp only
    rw [pr_len]
    rcases may_fits h1 with ⟨rfl, hx⟩ | ⟨rfl, hx⟩ | ⟨rfl, hx⟩
    · exact print_one (by omega) (by omega) (by omega) hm w
    · exact print_two (by omega) (by omega) (by omega) hm w
    · have := name_len hx
      exact print_three (by omega) (by omega) (by omega) hm w
  · rw [if_neg hm]
    exact print_bad h0 (by simpa using hm) w
end Go.Proofs.YtefpplkoohnfbaaDoor.ak
