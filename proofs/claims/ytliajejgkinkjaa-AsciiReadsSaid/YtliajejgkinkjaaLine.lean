/-
  Given for the seat's laws: the contracts of lineLength and of the reader's Line. No condition but those of the theorems.
-/
import Derived.Test.YtliajejgkinkjaaReads
import Derived.Test.YtliajejgkinkjaaPure
import Derived.Lib.SlBytesConst
import Derived.Laws.BytesArg
import Derived.Deep.RegionHeld3
namespace Go.Proofs.Ytliajejgkinkjaa.reader
open Go.RowKit mem plain
set_option linter.unusedVariables false

theorem lit_cell {w : World} {cs : Array Value} {t : TypeId} {fz : Nat × Nat} (i : Nat) : (w.alloc (.cells cs t fz)).cell? ⟨w.heap.size, i, none⟩ = cs[i]? := by
  have key : ∀ (W : World) (g : Nat), W.heap[g]? = some (.cells cs t fz) → W.cell? ⟨g, i, none⟩ = cs[i]? := fun W g h => by simp [World.cell?, h]
  exact key _ _ (heap_alloc_new w _)

/-- bytes.Index of 13, 10 -/
theorem index_src {w : World} {ok : Nat → Prop} {A : Option Addr} {l c g : Nat} {ys : List Int} (h : Src w ok A l c ys) (hl : l ≤ 5000) (hm : Max w) (h0 : w.cell? ⟨g, 0, none⟩ = some (.int .u8 13)) (h1 : w.cell? ⟨g, 1, none⟩ = some (.int .u8 10)) :
    Calls Try.prog 33 #[.slice A l c, .slice (some ⟨g, 0, none⟩) 2 2] w fun e w' => e = .returned (.int .i64 (idxI ys)) ∧ Still w w' := by
  cases A with
  | none =>
    have hc := h.non rfl
    have hl0 : l = 0 := by have := h.cap; omega
    subst hc hl0
    obtain rfl : ys = [] := List.eq_nil_of_length_eq_zero h.len
    refine (Try.bytes_Index_nil (some ⟨g, 0, none⟩) 2 2 w (by decide) (fun e => absurd e (by decide))).mono fun e w' ⟨he, hw⟩ => ?_
    subst hw
    exact ⟨he, Still.refl _⟩
  | some a =>
    obtain ⟨m, hm⟩ := hm
    refine (Try.bytes_Index_at a ⟨g, 0, none⟩ l c 2 2 ys [13, 10] m w h.len rfl h.rng (by intro y hy; simp at hy; rcases hy with rfl | rfl <;> decide) (h.add_cell rfl) (fun i hi => ?_) h.cap (by omega) (by decide) hm).mono fun e w' ⟨he, q, hw⟩ => ?_
    · have : i = 0 ∨ i = 1 := by omega
      rcases this with rfl | rfl
      · exact h0
      · exact h1
    · subst hw
      rw [show Lib.bytesOf [13, 10] = [13, 10] by decide, index_nEnd ys h.rng] at he
      exact ⟨he, Still.drewN _ _⟩

/-- bytes.TrimSuffix of 13 -/
theorem trim_src {w : World} {ok : Nat → Prop} {A : Option Addr} {l c g : Nat} {ys : List Int} (h : Src w ok A l c ys) (hl : l ≤ 5000) (h0 : w.cell? ⟨g, 0, none⟩ = some (.int .u8 13)) :
    Calls Try.prog 34 #[.slice A l c, .slice (some ⟨g, 0, none⟩) 1 1] w fun e w' => (∃ A' c', e = .returned (.slice A' (bare ys) c')) ∧ w = w' := by
  refine (Try.bytes_TrimSuffix_all A (some ⟨g, 0, none⟩) l c 1 1 ys [13] w h.len rfl h.cap (by omega) h.bytesIn (fun _ => ⟨g, 0, rfl, fun i hi => ?_⟩)).mono fun e w' ⟨he, hw⟩ => ⟨?_, hw.symm⟩
  · obtain rfl : i = 0 := by omega
    exact h0
  · subst he
    have hs := hasSuffix_13 ys h.rng
    rcases Nat.eq_zero_or_pos l with hz | hp
    · subst hz
      obtain rfl : ys = [] := List.eq_nil_of_length_eq_zero h.len
      have hb : bare [] = 0 := rfl
      unfold Lib.trimSuffixV
      split
      · unfold Lib.bytesTrimSuffix
        rw [hs]
        exact ⟨_, _, rfl⟩
      · exact ⟨_, _, rfl⟩
    · obtain ⟨b, o, e, _⟩ := h.bytesIn hp
      subst e
      show ∃ A' c', Ending.returned (Lib.bytesTrimSuffix b o l c ys [13]) = _
      unfold Lib.bytesTrimSuffix Lib.sliceTo
      rw [hs]
      unfold bare
      rw [h.len]
      by_cases hl : ys.getLast? = some 13
      · simp only [hl, decide_true, if_true]
        exact ⟨_, _, rfl⟩
      · simp only [hl, decide_false, if_false]
        exact ⟨_, _, rfl⟩

def LenIs (ys : List Int) (most : Int) (w : World) (e : Ending) (w' : World) : Prop := e = .returned (.tuple #[.int .i64 (lineF ys most).1, .int .i64 (lineF ys most).2]) ∧ Below w.heap.size w w'

set_option maxHeartbeats 1000000 in
theorem length_any {w : World} {ok : Nat → Prop} {A : Option Addr} {l c : Nat} {ys : List Int} (h : Src w ok A l c ys) (hg : ∀ g, ok g → g < w.heap.size) (hl : l ≤ 5000) (hm : Max w) (most : Int) :
    Calls Try.prog 30 #[.slice A l c, .int .i64 most] w (LenIs ys most w) := by
  have kc := fun (w : World) (C : Array Value) (n c : Nat) => Lib.run_convert_bytes_const (P := Try.prog) w 25 5 C n c Try.underlying25 Try.underlying5
  have hb1 : Below w.heap.size w (w.alloc (.cells #[.int .u8 13, .int .u8 10] 5 (2, 3))) := (Below.refl _ w).alloc (Nat.le_refl _) _
  have hi := index_src (g := w.heap.size) (h.below hb1 hg) hl (hm.keep (hb1.block 0 hm.lt)) (lit_cell 0) (lit_cell 1)
  have HI := Lib.hid hi
  have HS := Lib.hid (h.below hb1 hg)
  have HB := Lib.hid hb1
  have hlen := h.len
  have hble := bare_le ys
  rw [hlen] at hble
  cases hn : nEnd ys with
  | some i =>
    have hi2 := nEnd_lt hn
    have e1 : idxI ys = (i : Int) := by unfold idxI; rw [hn]
    rw [e1] at HI
    rw [hlen] at hi2
    by_cases hle : (i : Int) ≤ most
    · have HE := Lib.hid (show lineF ys most = ((i : Int), 0) by unfold lineF; rw [hn]; exact if_neg (by omega))
      have ht : decide (most < (i : Int)) = false := decide_eq_false (by omega)
      clear hi h hb1 hlen hn e1 hm
      go_enter Try.func30, Try.ntmps30
      go_wp2_with fail
      refine HI.out.mono ?_
      rintro e w1 ⟨rfl, hst⟩
      have HST := Lib.hid hst
      clear hst
      go_wp2
      go_ret2
      exact ⟨by rw [HE.out]; rfl, HB.out.trans ((Still.below HST.out _).mono (Nat.le_refl _))⟩
    · have HE := Lib.hid (show lineF ys most = (0, 6) by unfold lineF; rw [hn]; exact if_pos (by omega))
      have hlt : most < (i : Int) := by omega
      clear hi h hb1 hlen hn e1 hm hle
      go_enter Try.func30, Try.ntmps30
      go_wp2_with fail
      refine HI.out.mono ?_
      rintro e w1 ⟨rfl, hst⟩
      have HST := Lib.hid hst
      clear hst
      go_wp2
      go_ret2
      exact ⟨by rw [HE.out]; rfl, HB.out.trans ((Still.below HST.out _).mono (Nat.le_refl _))⟩
  | none =>
    have e1 : idxI ys = -1 := by unfold idxI; rw [hn]
    rw [e1] at HI
    by_cases hle : (bare ys : Int) ≤ most
    · have HE := Lib.hid (show lineF ys most = (0, 5) by unfold lineF; rw [hn]; exact if_neg (by omega))
      have HT := Lib.hid (fun (W : World) (hW : Src W ok A l c ys) (g : Nat) h0 => trim_src (g := g) hW hl h0)
      clear hi h hb1 hlen hn e1 hm
      go_enter Try.func30, Try.ntmps30
      go_wp2_with fail
      refine HI.out.mono ?_
      rintro e w1 ⟨rfl, hst⟩
      have HST := Lib.hid hst
      have hs1 := HS.out.still hst
      have hb2 : Below w1.heap.size w1 (w1.alloc (.cells #[.int .u8 13] 5)) := (Below.refl _ w1).alloc (Nat.le_refl _) _
      have HTT := Lib.hid (HT.out _ (hs1.below hb2 (fun g h1 => by have := hg g h1; have := HB.out.size; rw [Still.size hst]; omega)) w1.heap.size (lit_cell 0))
      have HB2 := Lib.hid hb2
      have hsz : w.heap.size ≤ w1.heap.size := by rw [Still.size hst]; exact HB.out.size
      clear hst hs1 hb2
      go_wp2_with fail
      refine HTT.out.mono ?_
      rintro e w2 ⟨⟨A', c', rfl⟩, rfl⟩
      generalize hbb : bare ys = b at *
      have HBB := Lib.hid hbb
      clear hbb
      go_wp2
      go_ret2
      exact ⟨by rw [HE.out]; rfl, (HB.out.trans ((Still.below HST.out _).mono (Nat.le_refl _))).trans (HB2.out.mono hsz)⟩
    · have HE := Lib.hid (show lineF ys most = (0, 6) by unfold lineF; rw [hn]; exact if_pos (by omega))
      have HT := Lib.hid (fun (W : World) (hW : Src W ok A l c ys) (g : Nat) h0 => trim_src (g := g) hW hl h0)
      have hlt : most < (bare ys : Int) := by omega
      clear hi h hb1 hlen hn e1 hm hle
      go_enter Try.func30, Try.ntmps30
      go_wp2_with fail
      refine HI.out.mono ?_
      rintro e w1 ⟨rfl, hst⟩
      have HST := Lib.hid hst
      have hs1 := HS.out.still hst
      have hb2 : Below w1.heap.size w1 (w1.alloc (.cells #[.int .u8 13] 5)) := (Below.refl _ w1).alloc (Nat.le_refl _) _
      have HTT := Lib.hid (HT.out _ (hs1.below hb2 (fun g h1 => by have := hg g h1; have := HB.out.size; rw [Still.size hst]; omega)) w1.heap.size (lit_cell 0))
      have HB2 := Lib.hid hb2
      have hsz : w.heap.size ≤ w1.heap.size := by rw [Still.size hst]; exact HB.out.size
      clear hst hs1 hb2
      go_wp2_with fail
      refine HTT.out.mono ?_
      rintro e w2 ⟨⟨A', c', rfl⟩, rfl⟩
      generalize hbb : bare ys = b at *
      have HBB := Lib.hid hbb
      clear hbb
      go_wp2
      go_ret2
      exact ⟨by rw [HE.out]; rfl, (HB.out.trans ((Still.below HST.out _).mono (Nat.le_refl _))).trans (HB2.out.mono hsz)⟩

end Go.Proofs.Ytliajejgkinkjaa.reader
