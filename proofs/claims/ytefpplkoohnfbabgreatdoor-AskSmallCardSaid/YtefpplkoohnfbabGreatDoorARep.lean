/-
  Given for the seat's laws: the contracts of TakeReply, Number and Reply. No condition but those of the theorems.
-/
import Derived.Test.YtefpplkoohnfbabGreatDoorATake
namespace Go.Proofs.YtefpplkoohnfbabGreatDoor.ak
open Go.RowKit mem hostp hw own
set_option linter.unusedVariables false

def PTo (B g m : Nat) (r : R) (W : World) (e : Ending) (W' : World) : Prop := e = .returned (.tuple #[]) ∧ Rd W' B g 46 r [.int .u8 (m : Int)] ∧ Kp g W W'
set_option maxHeartbeats 4000000 in
set_option maxRecDepth 100000 in
theorem ptake_any {W : World} {B g : Nat} {b : Str} (h : Rd W B g 46 ⟨b, 0, 0⟩ [.int .u8 0]) {r1 : R} (h1 : (⟨b, 0, 0⟩ : R).only 5 6 = r1) {r2 : R} {m : UInt8} (h2 : r1.next = (m, r2)) {a : (Nat × Nat) × R} (h3 : (r2.only 0 6).addr 6 = a) {r4 : R} (h4 : (a.2.text a.1.2).2 = r4) :
    Calls Tryz.prog 12 #[.pointer (some ⟨g, 0, none⟩)] W (PTo B g m.toNat r4.port.2 W) := by
  have H1 : Bx (Calls Tryz.prog 15 #[.pointer (some ⟨g, 0, none⟩), .int .u8 5, .int .i64 6] W _) := ⟨only_any h 5 6⟩
  rw [h1] at H1
  have HX2 := Bx.mk h2
  have HX3 := Bx.mk h3
  have HX4 := Bx.mk h4
  clear h h1 h2 h3 h4
  go_enter Tryz.func12, Tryz.ntmps12
  go_wp2_with fail
  refine H1.out.mono ?_
  rintro e W1 ⟨rfl, h1, k1⟩
  have H2 := Bx.mk (next_any h1)
  rw [HX2.out] at H2
  have K1 := Bx.mk k1
  clear h1 k1 H1
  dsimp only at H2
  go_wp2_with fail
  refine H2.out.mono ?_
  rintro e W2 ⟨rfl, h1, k1⟩
  have c3 := (h1.restCell 0).1
  have f3 : W2.frozen? ⟨g, 3, none⟩ = false := (h1.restCell 0).2
  have c3' : W2.cell? ⟨g, 3, none⟩ = some (.int .u8 0) := c3
  obtain ⟨h5, k5⟩ := h1.setRest 0 (.int .u8 (m.toNat : Int))
  have h5' : Rd (W2.setCell ⟨g, 3, none⟩ (.int .u8 (m.toNat : Int))) B g 46 r2 [.int .u8 (m.toNat : Int)] := h5
  have H3 : Bx (Calls Tryz.prog 15 #[.pointer (some ⟨g, 0, none⟩), .int .u8 0, .int .i64 6] (W2.setCell ⟨g, 3, none⟩ (.int .u8 (m.toNat : Int))) _) := ⟨only_any h5' 0 6⟩
  have K2 : Bx (Kp g W (W2.setCell ⟨g, 3, none⟩ (.int .u8 (m.toNat : Int)))) := ⟨kp_trans (kp_trans K1.out k1) k5⟩
  clear h1 k1 H2 K1 h5 k5 c3 h5'
  go_wp2_with fail
  refine H3.out.mono ?_
  rintro e W3 ⟨rfl, h1, k1⟩
  have H4 : Bx (Calls Tryz.prog 16 #[.pointer (some ⟨g, 0, none⟩), .int .i64 6] W3 _) := ⟨addr_any h1 6⟩
  have K3 := Bx.mk (kp_trans K2.out k1)
  have hkinds := addr_kinds (r2.only 0 6) 6
  rw [HX3.out] at H4 hkinds
  clear h1 k1 H3 K2 HX3
  go_wp2_with fail
  refine H4.out.mono ?_
  rintro e W4 ⟨rfl, h1, k1⟩
  have H5 := Bx.mk (text_any h1 a.1.2 (by omega))
  rw [HX4.out] at H5
  have K4 := Bx.mk (kp_trans K3.out k1)
  clear h1 k1 H4 K3 hkinds HX4
  generalize (a.2.text a.1.2).1 = x at *
  go_wp2_with fail
  refine H5.out.mono ?_
  rintro e W5 ⟨rfl, h1, k1⟩
  have H6 := Bx.mk (port_any h1)
  have K5 := Bx.mk (kp_trans K4.out k1)
  clear h1 k1 H5 K4
  go_wp2_with fail
  refine H6.out.mono ?_
  rintro e W6 ⟨rfl, h1, k1⟩
  have H7 := Bx.mk h1
  have K6 := Bx.mk (kp_trans K5.out k1)
  clear h1 k1 H6 K5
  go_wp2_with fail
  go_end0
  exact ⟨rfl, H7.out, K6.out⟩

/-- what TakeReply gives -/
def RepTo (x : CH) (w : World) (e : Ending) (w' : World) : Prop := Gives (.tuple #[.int .u8 (x.num : Int), .int .i64 (x.n : Int), .int .i64 (x.e : Int)]) w e w'
theorem rep_start {w : World} {ok : Nat → Prop} {A : Option Addr} {n c : Nat} {b : Str} (hs : Spell w ok A n c b) (hok : ∀ g, ok g → g < w.heap.size) (hn : n ≤ 100000) {W : World}
    (hW : W = w.alloc (.cells #[.slice A n c, .int .i64 0, .int .i64 0, .int .u8 0] 46)) :
    Rd W w.heap.size w.heap.size 46 ⟨b, 0, 0⟩ [.int .u8 0] ∧ Below w.heap.size w W := by
  subst hW
  have hbl := spell_len hs
  have hb : Below w.heap.size w (w.alloc (.cells #[.slice A n c, .int .i64 0, .int .i64 0, .int .u8 0] 46)) := (Below.refl _ _).alloc (Nat.le_refl _) _
  have h2 := Lies.new w 46 #[.slice A n c, .int .i64 0, .int .i64 0, .int .u8 0]
  subst hbl
  exact ⟨⟨⟨A, c, h2, (hs.below hb hok).weak hok⟩, Nat.le_refl _, by show 0 + b.length ≤ _; omega⟩, hb⟩
set_option maxHeartbeats 4000000 in
set_option maxRecDepth 100000 in
theorem rep_any {w : World} {ok : Nat → Prop} {A : Option Addr} {n c : Nat} {b : Str} (hs : Spell w ok A n c b) (hok : ∀ g, ok g → g < w.heap.size) (hn : n ≤ 100000) : Calls Tryz.prog 7 #[.slice A n c] w (RepTo (ch b) w) := by
  rw [← reply_ch]
  obtain ⟨X, hX⟩ : ∃ X, R.reply b = X := ⟨_, rfl⟩
  rw [hX]
  unfold R.reply R.midC R.finC at hX
  obtain ⟨r1, hr1⟩ : ∃ r1, (⟨b, 0, 0⟩ : R).only 5 6 = r1 := ⟨_, rfl⟩
  rw [hr1] at hX
  obtain ⟨⟨m, r2⟩, hr2⟩ : ∃ y, r1.next = y := ⟨_, rfl⟩
  rw [hr2] at hX
  dsimp only at hX
  obtain ⟨a, hr3⟩ : ∃ a, (r2.only 0 6).addr 6 = a := ⟨_, rfl⟩
  rw [hr3] at hX
  obtain ⟨r4, hr4⟩ : ∃ r4, (a.2.text a.1.2).2 = r4 := ⟨_, rfl⟩
  rw [hr4] at hX
  have HX := Bx.mk hX
  clear hX
  have HST := Bx.mk (@rep_start w ok A n c b hs hok hn)
  have HQ := Bx.mk (fun (W : World) (B g : Nat) (h : Rd W B g 46 ⟨b, 0, 0⟩ [.int .u8 0]) => ptake_any h hr1 hr2 hr3 hr4)
  clear hs hok hr1 hr2 hr3 hr4
  go_enter Tryz.func7, Tryz.ntmps7
  go_upto_region 2 with fail
  obtain ⟨W, hW⟩ : ∃ W, W = w.alloc (.cells #[.slice A n c, .int .i64 0, .int .i64 0, .int .u8 0] 46) := ⟨_, rfl⟩
  obtain ⟨h1, b1⟩ := HST.out hW
  rw [← hW]
  clear hW HST
  have HB := Bx.mk b1
  have HQ1 := Bx.mk (HQ.out _ _ _ h1)
  clear h1 b1 HQ
  generalize r4.port.2 = r at *
  go_wp2_with fail
  refine HQ1.out.mono ?_
  rintro e W1 ⟨rfl, h2, k2⟩
  have hB1 : Below w.heap.size w W1 := HB.out.trans (kp_to k2 (by omega) HB.out.size)
  clear k2 HQ1 HB
  obtain ⟨A2, c2, hl2, hs2, _, d1, d2, _, _, _⟩ := h2.cells
  have e3 : W1.cell? ⟨w.heap.size, 3, none⟩ = some (.int .u8 (m.toNat : Int)) := (h2.restCell 0).1
  have HB1 := Bx.mk hB1
  clear h2 hs2 hl2 hB1 W
  by_cases hf : r.f = 0
  · have eX := HX.out
    rw [if_neg (by omega)] at eX
    subst eX
    have d2' : W1.cell? ⟨w.heap.size, 2, none⟩ = some (.int .i64 0) := by rw [d2, hf]; rfl
    clear hf d2 HX
    go_wp2_with fail
    go_region
    all_goals
      go_wp2_with fail
      exact bodyPost_ret (v := .tuple #[.int .u8 (m.toNat : Int), .int .i64 (r.k : Int), .int .i64 0]) (by simp [results, Tryz.results7, go_sem]) rfl ⟨rfl, HB1.out.drew⟩
  · have eX := HX.out
    rw [if_pos hf] at eX
    subst eX
    have q : ((r.f : Int) != 0) = true := by simp; omega
    clear HX hf
    go_wp2_with fail
    go_region
    all_goals
      go_wp2_with fail
      exact bodyPost_ret (v := .tuple #[.int .u8 0, .int .i64 0, .int .i64 (r.f : Int)]) (by simp [results, Tryz.results7, go_sem]) rfl ⟨rfl, HB1.out.drew⟩

/-! ### Number, Reply -/
def num : Nat → Nat := fun k => ([0, 1, 2, 7, 8, 1, 1, 1, 2, 2, 2, 3, 4, 6] : List Nat).getD k 1
/-- the table of numbers lies as it is laid -/
def Nums (w : World) : Prop := ∀ k, k < 14 → w.cell? ⟨0, k, none⟩ = some (.int .u8 (num k : Int))
theorem Nums.below {w w' : World} {B : Nat} (h : Nums w) (hb : Below B w w') (hB : w.heap.size ≤ B) : Nums w' := fun k hk => hw.cell_kept (h k hk) (hb.mono hB)
theorem num_lt (k : Nat) : num k ≤ 8 := by
  unfold num
  by_cases h : k < 14
  · have : ∀ i : Fin 14, ([0, 1, 2, 7, 8, 1, 1, 1, 2, 2, 2, 3, 4, 6] : List Nat).getD i.1 1 ≤ 8 := by decide
    exact this ⟨k, h⟩
  · rw [List.getD_eq_getElem?_getD, List.getElem?_eq_none (by simp; omega)]
    decide
theorem num_big {k : Nat} (h : 14 ≤ k) : num k = 1 := by
  unfold num
  rw [List.getD_eq_getElem?_getD, List.getElem?_eq_none (by simp; omega)]
  rfl
set_option maxHeartbeats 1000000 in
theorem number_any (k : Nat) (hk : k < 256) (w : World) (hN : Nums w) : Calls Tryz.prog 13 #[.int .u8 (k : Int)] w fun e w' => e = .returned (.int .u8 (num k : Int)) ∧ w' = w := by
  by_cases h : k < 14
  · have hc := hN k h
    have hz : ¬ (14 : Int) ≤ (k : Int) := by omega
    have hz2 : (k : Int) < 14 := by omega
    clear hN
    generalize (num k : Int) = z at *
    go_enter Tryz.func13, Tryz.ntmps13
    go_wp2_with fail
    exact bodyPost_ret (v := .int .u8 z) (by simp [results, Tryz.results13, go_sem]) rfl ⟨rfl, rfl⟩
  · rw [num_big (by omega)]
    have hz : (14 : Int) ≤ (k : Int) := by omega
    clear hN h
    go_enter Tryz.func13, Tryz.ntmps13
    go_wp2_with fail
    exact bodyPost_ret (v := .int .u8 1) (by simp [results, Tryz.results13, go_sem]) rfl ⟨rfl, rfl⟩
/-- the reply with a number -/
def rpl (m : Nat) : Str := [5, UInt8.ofNat m, 0, 1, 0, 0, 0, 0, 0, 0]
def MadeAt (l : Str) (w : World) (e : Ending) (w' : World) : Prop := ∃ A c, e = .returned (.slice A l.length c) ∧ Made w w' (.slice A l.length c) l
set_option maxHeartbeats 1000000 in
theorem reply_any (k : Nat) (hk : k < 256) (w : World) (hN : Nums w) : Calls Tryz.prog 9 #[.int .u8 (k : Int)] w (MadeAt (rpl (num k)) w) := by
  have HN := Bx.mk (number_any k hk w hN)
  have hm := num_lt k
  have e : ints (rpl (num k)) = [5, (num k : Int), 0, 1, 0, 0, 0, 0, 0, 0] := by
    have : (UInt8.ofNat (num k)).toNat = num k := by simp; omega
    simp [ints, rpl, this]
  have HM : Bx (Made w (w.alloc (.cells #[.int .u8 5, .int .u8 (num k : Int), .int .u8 0, .int .u8 1, .int .u8 0, .int .u8 0, .int .u8 0, .int .u8 0, .int .u8 0, .int .u8 0] 5)) (.slice (some ⟨w.heap.size, 0, none⟩) (rpl (num k)).length 10) (rpl (num k))) := by
    refine ⟨⟨?_, (Below.refl _ _).alloc (Nat.le_refl _) _⟩⟩
    rw [e]
    exact ⟨rfl, .inr ⟨w.heap.size, 10, _, rfl, Nat.le_refl _, heap_alloc_new w _, by show 10 ≤ 10; omega, by unfold maxLen; omega, rfl, rfl⟩⟩
  clear hN e
  generalize (num k : Int) = z at *
  have hl : (rpl (num k)).length = 10 := rfl
  unfold MadeAt
  rw [hl] at HM ⊢
  clear hl
  go_enter Tryz.func9, Tryz.ntmps9
  go_wp2_with fail
  refine HN.out.mono ?_
  rintro e w1 ⟨rfl, rfl⟩
  go_wp2_with fail
  exact bodyPost_ret (v := .slice (some ⟨w1.heap.size, 0, none⟩) 10 10) (by simp [results, Tryz.results9, go_sem]) rfl ⟨_, _, rfl, HM.out⟩
end Go.Proofs.YtefpplkoohnfbabGreatDoor.ak
