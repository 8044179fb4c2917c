/-
  Given for the seat's laws: the contract of connect.Reply. No condition but those of the theorems.
-/
import Derived.Test.YtghdaengkgiekaaGreatDoorYCRpf
import Derived.Test.YtghdaengkgiekaaGreatDoorYKApp
import Derived.Deep.RegionHeld3
namespace Go.Proofs.YtghdaengkgiekaaGreatDoor.cn
open Go.RowKit mem hd
set_option linter.unusedVariables false

def H9 : Str := [72, 84, 84, 80, 47, 49, 46, 49, 32]
def rline (c : Nat) : Str := H9 ++ hostp.nm 10 (rsn c).1 ++ [32] ++ (rsn c).2
def RpTo (c : Nat) (w : World) (e : Ending) (w' : World) : Prop := ∃ A n k, e = .returned (.slice A n k) ∧ (pr (rline c) (rflds c)).length = n ∧ RowG w' w.heap.size (.slice A n k) (pr (rline c) (rflds c)) ∧ Below w.heap.size w w'
theorem row_set2 {W : World} {B : Nat} {A : Option Addr} {n c : Nat} {fs : Flds} {g4 : Nat} (h : RowF W B (.slice A n c) fs) (hn : fs.length = n) (hg : g4 < B) (u v : Value) :
    FAt ((W.setCell ⟨g4, 0, none⟩ u).setCell ⟨g4, 1, none⟩ v) (fun g => g < ((W.setCell ⟨g4, 0, none⟩ u).setCell ⟨g4, 1, none⟩ v).heap.size) A n c fs :=
  rowF_at (rown_same h fun g hg' => (Below.heap_setCell _ ⟨g4, 1, none⟩ v g (by have := (rown_lt h hg').1; show g ≠ g4; omega)).trans (Below.heap_setCell _ ⟨g4, 0, none⟩ u g (by have := (rown_lt h hg').1; show g ≠ g4; omega))) hn
theorem row_alloc {W : World} {B : Nat} {A : Option Addr} {n c : Nat} {fs : Flds} (h : RowF W B (.slice A n c) fs) (hn : fs.length = n) (o : Obj) : FAt (W.alloc o) (fun g => g < (W.alloc o).heap.size) A n c fs :=
  rowF_at (rown_same h fun g hg' => Below.heap_alloc _ _ _ (rown_lt h hg').2) hn
theorem two {W : World} {g : Nat} {t : TypeId} {a b : Value} (h : Lies W g t #[a, b]) : W.cell? ⟨g, 0, none⟩ = some a ∧ W.cell? ⟨g, 1, none⟩ = some b := ⟨by have := h.cell 0; simpa using this, by have := h.cell 1; simpa using this⟩
set_option maxRecDepth 100000 in
set_option maxHeartbeats 8000000 in
theorem reply_any {w : World} (he : hw.Env w) (hr : Rsn w) (c : Nat) (hc : c < 256) (hp : prints (rline c) (rflds c)) (hsm : Small (rline c) (rflds c)) : Calls Tryz.prog 12 #[.int .u8 (c : Int)] w (RpTo c w) := by
  have H := Bx.mk (reasonOf_any hr c hc)
  have HE := Bx.mk he
  have HPp := Bx.mk hp
  have HSm := Bx.mk hsm
  obtain ⟨l1, hl1⟩ : ∃ l1, l1 = S (H9 ++ hostp.nm 10 (rsn c).1) := ⟨_, rfl⟩
  obtain ⟨l2, hl2⟩ : ∃ l2, l2 = S (H9 ++ hostp.nm 10 (rsn c).1 ++ [32]) := ⟨_, rfl⟩
  obtain ⟨l3, hl3⟩ : ∃ l3, l3 = S (rline c) := ⟨_, rfl⟩
  have hln : (rline c).length ≤ 2000 := hsm.line
  have hln2 : (H9 ++ hostp.nm 10 (rsn c).1 ++ [32]).length + (rsn c).2.length ≤ 2000 := by unfold rline at hln; rw [List.length_append] at hln; exact hln
  have hln3 : (hostp.nm 10 (rsn c).1).length ≤ 2000 := by simp at hln2; omega
  have C1 : ∀ W, (Op.stringOp .add ⟨#[72, 84, 84, 80, 47, 49, 46, 49, 32]⟩ (S (hostp.nm 10 (rsn c).1))).run Tryz.prog W = .ok (.string l1) W := fun W => by rw [hl1]; exact cat H9 _ (by decide) (by omega) W
  have C2 : ∀ W, (Op.stringOp .add l1 ⟨#[32]⟩).run Tryz.prog W = .ok (.string l2) W := fun W => by rw [hl1, hl2]; exact cat _ [32] (by simp [H9]; omega) (by decide) W
  have C3 : ∀ W, (Op.stringOp .add l2 (S (rsn c).2)).run Tryz.prog W = .ok (.string l3) W := fun W => by rw [hl2, hl3]; exact cat _ _ (by omega) (by omega) W
  have hst : (rsn c).1 ≤ 599 := by
    unfold rsn
    cases h : rs[c]? with
    | none => decide
    | some p =>
      have hm := List.mem_of_getElem? h
      simp only [Option.getD_some]
      exact (show ∀ p ∈ rs, p.1 ≤ 599 by decide) p hm
  have HIt : Bx (∀ w, hw.Env w → Calls Tryz.prog 33 #[.int .i64 ((rsn c).1 : Int)] w (Gives (.string (S (hostp.nm 10 (rsn c).1))) w)) := ⟨fun w he => by
    have h := hw.itoa_any ((rsn c).1 : Int) (by omega) (by omega) w he
    rw [Int.toNat_natCast] at h
    exact h⟩
  have HRF := Bx.mk (fun w => replyFields_any w c hc)
  have HPr : Bx (∀ (w : World) (A : Option Addr) (n k : Nat), FAt w (fun g => g < w.heap.size) A n k (rflds c) → Calls Tryz.prog 21 #[.agg #[.string l3, .slice A n k]] w (PrintTo (rline c) (rflds c) w)) := ⟨fun w A n k hf => by rw [hl3]; exact print_any hf (fun g hg => hg) hsm⟩
  clear hr he hp hsm hl1 hl2 hl3 hln hln2 hln3 hst
  generalize S (hostp.nm 10 (rsn c).1) = it at *
  generalize S (rsn c).2 = tx at *
  generalize ((rsn c).1 : Int) = st at *
  go_enter Tryz.func12, Tryz.ntmps12
  go_wp2_with fail
  refine H.out.mono ?_
  rintro e w1 ⟨rfl, hb⟩
  have ha := hb.alloc hb.size (.cells #[.int .i64 st, .string tx] 65)
  have HB := Bx.mk ha
  have HL := Bx.mk (Lies.new w1 65 #[.int .i64 st, .string tx])
  clear hb ha H
  go_upto_region 2 with fail
  generalize w1.alloc (.cells #[.int .i64 st, .string tx] 65) = W2 at *
  generalize w1.heap.size = g at *
  have y0 : W2.cell? ⟨g, 0, none⟩ = some (.int .i64 st) := by have := HL.out.cell 0; simpa using this
  have y1 : W2.cell? ⟨g, 1, none⟩ = some (.string tx) := by have := HL.out.cell 1; simpa using this
  have HC : Bx (∀ W', Below W2.heap.size W2 W' → W'.cell? ⟨g, 0, none⟩ = some (.int .i64 st) ∧ W'.cell? ⟨g, 1, none⟩ = some (.string tx)) := ⟨fun W' hb => ⟨hd.cell_kept y0 hb, hd.cell_kept y1 hb⟩⟩
  have HE2 := Bx.mk (HE.out.below HB.out)
  have b0 : Below W2.heap.size W2 W2.drew := (Below.refl _ _).drew
  have HLr : Bx (∀ W', Below W2.heap.size W2 W' → Lies W' g 65 #[.int .i64 st, .string tx]) := ⟨fun W' hb => HL.out.below hb HL.out.lt⟩
  clear y0 y1 HL HE
  go_region_held3 (fun W' => W'.cell? ⟨g, 0, none⟩ = some (.int .i64 st) ∧ W'.cell? ⟨g, 1, none⟩ = some (.string tx))
    (first | exact HC.out _ b0 | exact HC.out _ (b0.alloc b0.size _) | exact two (((HLr.out _ b0).far ((HLr.out _ b0).apart HZ.out (by decide)) _).far ((HLr.out _ b0).apart HZ.out (by decide)) _))
    (first
      | (go_at_call 33; refine (HIt.out _ (HE2.out.below (by first | exact b0 | exact ((Below.refl _ W2).alloc (Nat.le_refl _) _).drew))).mono ?_; rintro e w3 ⟨rfl, hb3⟩; first | replace b0 := b0.trans (hb3.mono b0.size) | (have HZ := Bx.mk ((Lies.new W2 47 #[.string ⟨#[]⟩, .slice none 0 0]).drew.below hb3 (by simp)); replace b0 := (((Below.refl _ W2).alloc (Nat.le_refl _) _).drew).trans (hb3.mono (by simp))); clear hb3)
      | (go_at_call 34; refine (HRF.out _).mono ?_; rintro e w4 ⟨A4, n4, c4, rfl, hn4, hr4, hb4⟩; have HR4 := Bx.mk hr4; have HN4 := Bx.mk hn4; first | (have hz4 := Nat.le_refl W2.heap.size; have hzB := HZ.out.lt; replace HZ := Bx.mk (HZ.out.below hb4 HZ.out.lt); replace b0 := b0.trans (hb4.mono b0.size); have z0 := HZ.out.cell 0; have z1 := HZ.out.cell 1; have f0 := HZ.out.frozen 0; have f1 := HZ.out.frozen 1; simp at z0 z1; clear hb4 hn4 hr4) | (have hz4 := b0.size; have hzB := (Lies.new w3 47 #[.string ⟨#[]⟩, .slice none 0 0]).lt; have HZ := Bx.mk ((Lies.new w3 47 #[.string ⟨#[]⟩, .slice none 0 0]).below hb4 (by simp)); replace b0 := (b0.alloc b0.size _).trans (hb4.mono (b0.alloc b0.size _).size); have z0 := HZ.out.cell 0; have z1 := HZ.out.cell 1; have f0 := HZ.out.frozen 0; have f1 := HZ.out.frozen 1; simp at z0 z1; clear hb4 hn4 hr4) | (replace b0 := b0.trans (hb4.mono b0.size); clear hb4 hn4 hr4)))
  · have HX := Bx.mk (Lies.new w4 47 #[.string l3, .slice A4 n4 c4])
    have HBW := Bx.mk (HB.out.trans (Below.mono (b0.alloc b0.size (.cells #[.string l3, .slice A4 n4 c4] 47)) HB.out.size))
    have HFX := Bx.mk (row_alloc HR4.out HN4.out (.cells #[.string l3, .slice A4 n4 c4] 47))
    clear HR4 b0
    generalize w4.alloc (.cells #[.string l3, .slice A4 n4 c4] 47) = X at *
    generalize w4.heap.size = g4 at *
    have y0 := (two HX.out).1
    have y1 := (two HX.out).2
    have HP5 := Bx.mk (HPr.out _ _ _ _ HFX.out)
    clear HX HFX HPr HRF HIt HC HLr
    go_wp2_with fail
    refine HP5.out.mono ?_
    intro e w5 hp5
    obtain ⟨A5, c5, rfl, hr5, hb5⟩ := hp5.1 HPp.out
    have HF : Bx (RpTo c w (.returned (.slice A5 (pr (rline c) (rflds c)).length c5)) w5) := ⟨A5, _, c5, rfl, rfl, hr5.weak HBW.out.size, HBW.out.trans (hb5.mono HBW.out.size)⟩
    clear hp5 hr5 hb5 HP5
    generalize (pr (rline c) (rflds c)).length = n5 at *
    go_wp2_with fail
    exact bodyPost_ret (v := .slice A5 n5 c5) (by simp [results, Tryz.results12, go_sem]) rfl HF.out
  · have HX : Bx (Lies ((w4.setCell ⟨w3.heap.size, 0, none⟩ (.string l3)).setCell ⟨w3.heap.size, 1, none⟩ (.slice A4 n4 c4)) w3.heap.size 47 #[.string l3, .slice A4 n4 c4]) := ⟨by have := (HZ.out.set 0 (.string l3)).set 1 (.slice A4 n4 c4); simpa using this⟩
    have HBW := Bx.mk (HB.out.trans (Below.mono (Below.setCell (p := ⟨w3.heap.size, 1, none⟩) (Below.setCell (p := ⟨w3.heap.size, 0, none⟩) b0 hz4 (.string l3)) hz4 (.slice A4 n4 c4)) HB.out.size))
    have HFX := Bx.mk (row_set2 HR4.out HN4.out hzB (.string l3) (.slice A4 n4 c4))
    clear HR4 HZ b0 f0 f1 z0 z1 hzB hz4
    generalize ((w4.setCell ⟨w3.heap.size, 0, none⟩ (.string l3)).setCell ⟨w3.heap.size, 1, none⟩ (.slice A4 n4 c4)) = X at *
    generalize w3.heap.size = g4 at *
    have y0 := (two HX.out).1
    have y1 := (two HX.out).2
    have HP5 := Bx.mk (HPr.out _ _ _ _ HFX.out)
    clear HX HFX HPr HRF HIt HC HLr
    go_wp2_with fail
    refine HP5.out.mono ?_
    intro e w5 hp5
    obtain ⟨A5, c5, rfl, hr5, hb5⟩ := hp5.1 HPp.out
    have HF : Bx (RpTo c w (.returned (.slice A5 (pr (rline c) (rflds c)).length c5)) w5) := ⟨A5, _, c5, rfl, rfl, hr5.weak HBW.out.size, HBW.out.trans (hb5.mono HBW.out.size)⟩
    clear hp5 hr5 hb5 HP5
    generalize (pr (rline c) (rflds c)).length = n5 at *
    go_wp2_with fail
    exact bodyPost_ret (v := .slice A5 n5 c5) (by simp [results, Tryz.results12, go_sem]) rfl HF.out
  · have HX : Bx (Lies ((w4.setCell ⟨W2.heap.size, 0, none⟩ (.string l3)).setCell ⟨W2.heap.size, 1, none⟩ (.slice A4 n4 c4)) W2.heap.size 47 #[.string l3, .slice A4 n4 c4]) := ⟨by have := (HZ.out.set 0 (.string l3)).set 1 (.slice A4 n4 c4); simpa using this⟩
    have HBW := Bx.mk (HB.out.trans (Below.mono (Below.setCell (p := ⟨W2.heap.size, 1, none⟩) (Below.setCell (p := ⟨W2.heap.size, 0, none⟩) b0 hz4 (.string l3)) hz4 (.slice A4 n4 c4)) HB.out.size))
    have HFX := Bx.mk (row_set2 HR4.out HN4.out hzB (.string l3) (.slice A4 n4 c4))
    clear HR4 HZ b0 f0 f1 z0 z1 hzB hz4
    generalize ((w4.setCell ⟨W2.heap.size, 0, none⟩ (.string l3)).setCell ⟨W2.heap.size, 1, none⟩ (.slice A4 n4 c4)) = X at *
    generalize W2.heap.size = g4 at *
    have y0 := (two HX.out).1
    have y1 := (two HX.out).2
    have HP5 := Bx.mk (HPr.out _ _ _ _ HFX.out)
    clear HX HFX HPr HRF HIt HC HLr
    go_wp2_with fail
    refine HP5.out.mono ?_
    intro e w5 hp5
    obtain ⟨A5, c5, rfl, hr5, hb5⟩ := hp5.1 HPp.out
    have HF : Bx (RpTo c w (.returned (.slice A5 (pr (rline c) (rflds c)).length c5)) w5) := ⟨A5, _, c5, rfl, rfl, hr5.weak HBW.out.size, HBW.out.trans (hb5.mono HBW.out.size)⟩
    clear hp5 hr5 hb5 HP5
    generalize (pr (rline c) (rflds c)).length = n5 at *
    go_wp2_with fail
    exact bodyPost_ret (v := .slice A5 n5 c5) (by simp [results, Tryz.results12, go_sem]) rfl HF.out
end Go.Proofs.YtghdaengkgiekaaGreatDoor.cn
