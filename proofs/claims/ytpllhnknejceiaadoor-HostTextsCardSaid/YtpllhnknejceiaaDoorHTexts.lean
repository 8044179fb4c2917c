/-
  Given for the seat's laws: the walk of HostTexts. No condition but that the library's tables lie as they are laid.
-/
import Derived.Test.YtpllhnknejceiaaDoorHRPrint
namespace Go.Proofs.YtpllhnknejceiaaDoor.hw
open Go.RowKit mem hostp
set_option linter.unusedVariables false

set_option maxRecDepth 100000 in
set_option maxHeartbeats 16000000 in
theorem texts_walk (k : Int) (t : ByteArray) (p : Int) (h0 : 0 ≤ k) (w : World) (he : Env w) : Calls Tryd.prog 3 #[tv k t p] w (Gives (.bool true) w) := by
  obtain ⟨w0, hw0⟩ : ∃ w0, w0 = w.alloc (.cells #[.int .u8 k, .string t, .int .i64 p] 25) := ⟨_, rfl⟩
  have hb0 : Below w.heap.size w w0 := by rw [hw0]; exact (Below.refl _ w).alloc (Nat.le_refl _) _
  have hl0 : Lies w0 w.heap.size 25 #[.int .u8 k, .string t, .int .i64 p] := by rw [hw0]; exact Lies.new _ _ _
  have c0 := hl0.cell 0
  have c1 := hl0.cell 1
  have c2 := hl0.cell 2
  simp at c0 c1 c2
  have HC := Lib.hid (show ∀ W, Below w0.heap.size w0 W → W.cell? ⟨w.heap.size, 0, none⟩ = some (.int .u8 k) ∧ W.cell? ⟨w.heap.size, 1, none⟩ = some (.string t) ∧ W.cell? ⟨w.heap.size, 2, none⟩ = some (.int .i64 p) from fun W hW => ⟨cell_kept c0 hW, cell_kept c1 hW, cell_kept c2 hW⟩)
  have HB0 := Lib.hid hb0
  have he0 := he.below hb0
  have h1 := fun W => may_any k t h0 W
  have h2 := fun W => rmay_any k t h0 W
  have h3 := fun W => mayTarget_any k t p h0 W
  have h4 := fun W => rmayTarget_any k t p h0 W
  have h5 := fun W (hW : Below w0.heap.size w0 W) => text_any k t h0 W (he0.below hW)
  have h6 := fun W => rtext_any k t h0 W
  have h7 := fun W (hW : Below w0.heap.size w0 W) => print_any k t p h0 W (he0.below hW)
  have h8 := fun W => rprint_any k t p h0 W
  unfold hv at h1 h2 h5 h6
  unfold tv at h3 h4 h7 h8
  generalize may (hh k t) = b1 at h1 h2
  generalize mayT (tt k t p) = b2 at h3 h4
  generalize S (text (hh k t)) = s1 at h5 h6
  generalize S (print (tt k t p)) = s2 at h7 h8
  have H1 := Lib.hid h1
  have H2 := Lib.hid h2
  have H3 := Lib.hid h3
  have H4 := Lib.hid h4
  have H5 := Lib.hid h5
  have H6 := Lib.hid h6
  have H7 := Lib.hid h7
  have H8 := Lib.hid h8
  have e1 : (b1 == b1) = true := beq_self_eq_true _
  have e2 : (b2 == b2) = true := beq_self_eq_true _
  unfold tv
  clear hb0 hl0 he he0 h1 h2 h3 h4 h5 h6 h7 h8
  by_cases hs : 2000 < t.size
  · go_enter Tryd.func3, Tryd.ntmps3
    go_wp2
    rw [← hw0]
    go_ret
    exact ⟨rfl, HB0.out⟩
  · go_enter Tryd.func3, Tryd.ntmps3
    go_upto_region 3 with fail
    rw [← hw0]
    clear hw0
    have bb : Below w0.heap.size w0 w0.drew := (Below.refl _ w0).drew
    go_region_held3 (fun W' => W'.cell? ⟨w.heap.size, 0, none⟩ = some (.int .u8 k) ∧ W'.cell? ⟨w.heap.size, 1, none⟩ = some (.string t) ∧ W'.cell? ⟨w.heap.size, 2, none⟩ = some (.int .i64 p))
      (first | exact HC.out _ bb)
      (first
        | (go_at_call 4; refine (H1.out _).mono ?_; rintro e w2 ⟨rfl, hb2⟩; replace bb := bb.trans (hb2.mono bb.size); clear hb2)
        | (go_at_call 5; refine (H2.out _).mono ?_; rintro e w2 ⟨rfl, hb2⟩; replace bb := bb.trans (hb2.mono bb.size); clear hb2)
        | (go_at_call 6; refine (H3.out _).mono ?_; rintro e w2 ⟨rfl, hb2⟩; replace bb := bb.trans (hb2.mono bb.size); clear hb2)
        | (go_at_call 7; refine (H4.out _).mono ?_; rintro e w2 ⟨rfl, hb2⟩; replace bb := bb.trans (hb2.mono bb.size); clear hb2)
        | (go_at_call 8; refine (H5.out _ bb).mono ?_; rintro e w2 ⟨rfl, hb2⟩; replace bb := bb.trans (hb2.mono bb.size); clear hb2)
        | (go_at_call 9; refine (H6.out _).mono ?_; rintro e w2 ⟨rfl, hb2⟩; replace bb := bb.trans (hb2.mono bb.size); clear hb2)
        | (go_at_call 10; refine (H7.out _ bb).mono ?_; rintro e w2 ⟨rfl, hb2⟩; replace bb := bb.trans (hb2.mono bb.size); clear hb2)
        | (go_at_call 11; refine (H8.out _).mono ?_; rintro e w2 ⟨rfl, hb2⟩; replace bb := bb.trans (hb2.mono bb.size); clear hb2))
    all_goals
      have HB3 := Lib.hid (HB0.out.trans (bb.mono HB0.out.size))
      clear bb
      go_wp2
      go_ret
      exact ⟨rfl, HB3.out⟩

end Go.Proofs.YtpllhnknejceiaaDoor.hw
