/-
  Given for the seat's laws: the contract of the reader's Line. No condition but those of the theorems.
-/
import Derived.Test.YtliajejgkinkjaaLine
import Derived.Deep.CutBlock
import Derived.Deep.DeepCutAuto
namespace Go.Proofs.Ytliajejgkinkjaa.reader
open Go.RowKit mem plain
set_option linter.unusedVariables false

theorem cut_h (W : World) (A : Option Addr) (n c j : Nat) (h : j ≤ c) :
    (Instr.slice 25 (.slice A n c) none (some (.int .i64 (j : Int))) none).run Try.prog W = .ok (.slice A j c) W := by
  obtain ⟨i0, hi, hz0, hz1, hz2⟩ := info_parts (show (Try.prog.info? 5).map (fun i => (i.zero, i.size, i.bytes)) = some (some (.int .u8 0), 1, 1) by kernel_rfl)
  rw [run_slice_h W 25 _ n c (by kernel_rfl) .i64 _ (by omega) (by omega)]
  have he : Try.prog.elem 25 = 5 := by kernel_rfl
  rw [he]
  have hs : (sizeOf 5).run Try.prog W = .ok 1 W := by simp [sizeOf, typeInfo, hi, hz1]
  rw [hs]
  simp only [Result.andThen, sliced, Int.toNat_natCast, Nat.mul_one, Nat.sub_zero]
  congr 2
  split
  · rfl
  · cases A <;> simp [Addr.add]

theorem cut_l (W : World) (A : Option Addr) (n c k : Nat) (h : k ≤ n) :
    (Instr.slice 25 (.slice A n c) (some (.int .i64 (k : Int))) none none).run Try.prog W = .ok (.slice (cutA A c k) (n - k) (c - k)) W := by
  obtain ⟨i0, hi, hz0, hz1, hz2⟩ := info_parts (show (Try.prog.info? 5).map (fun i => (i.zero, i.size, i.bytes)) = some (some (.int .u8 0), 1, 1) by kernel_rfl)
  rw [run_slice_l W 25 _ n c (by kernel_rfl) .i64 _ (by omega) (by omega)]
  have he : Try.prog.elem 25 = 5 := by kernel_rfl
  rw [he]
  have hs : (sizeOf 5).run Try.prog W = .ok 1 W := by simp [sizeOf, typeInfo, hi, hz1]
  rw [hs]
  simp only [Result.andThen, sliced, Int.toNat_natCast, Nat.mul_one]
  rfl

theorem str_run {w : World} {ok : Nat → Prop} {A : Option Addr} {l c : Nat} {bs : List Int} (h : Src w ok A l c bs) (j d : Nat) (hj : j ≤ l) :
    (convert 25 9 (.slice A j d)).run Try.prog w = .ok (.string (strOfNums (bs.take j))) w := by
  rcases Nat.eq_zero_or_pos j with h0 | h0
  · subst h0
    rw [run_convert_bytes_zero w 25 5 Try.underlying25 Try.underlying5 A d 9 Try.underlying9]
    rfl
  · obtain ⟨g, off, rfl, hc⟩ := h.bytesIn (by omega)
    have hl := h.len
    exact run_convert_bytes_arg (P := Try.prog) w 25 5 Try.underlying25 Try.underlying5 g off j d (bs.take j) (by simp; omega) (fun i hi => by
      rw [hc i (by omega)]
      simp [List.getD, hi]) 9 Try.underlying9

theorem enters_line (args : Array Value) (W : World) : (callFunc 31 args).run Try.prog W = .ok (.enter 31 args) W := enters Try.func31 (by kernel_rfl) (by kernel_rfl) args W

set_option maxHeartbeats 400000 in
theorem line_fn {w : World} {ok : Nat → Prop} {A : Option Addr} {l c bn bl j : Nat} {bs : List Int} {v : Value} (h : Src w ok A l c bs) (hj : j ≤ l) (hn : Lies w bn 3 #[.int .i64 (j : Int)]) (hb : Lies w bl 9 #[v]) :
    Calls Try.prog 31 #[.slice A l c, .pointer (some ⟨bn, 0, none⟩), .pointer (some ⟨bl, 0, none⟩)] w fun e w' => e = .returned (.tuple #[]) ∧ w' = w.setCell ⟨bl, 0, none⟩ (.string (strOfNums (bs.take j))) := by
  have hc := h.cap
  have q1 := fun W => cut_h W A l c j (by omega)
  have q2 := str_run h j c hj
  have c0 := hn.cell 0
  have c1 := hb.cell 0
  have f1 := hb.frozen 0
  clear h hn hb
  generalize strOfNums (bs.take j) = s at *
  go_enter Try.func31, Try.ntmps31
  go_wp2
  go_end0
  exact ⟨rfl, rfl⟩

section
variable {w : World} {B r : Nat} {A : Option Addr} {n c : Nat} {xs : List Int} {k : Nat}

set_option maxHeartbeats 400000 in
theorem line_neg (h : Has w B r A n c xs k) (m : Int) (hm : m < 0) : Calls Try.prog 21 #[.pointer (some ⟨r, 0, none⟩), .int .i64 m] w (Reads (.tuple #[.string ⟨#[]⟩, .int .i64 2]) w B r A n c xs k) := by
  have HH := Lib.hid h
  clear h
  go_enter Try.func21, Try.ntmps21
  go_wp2
  go_ret2
  exact ⟨rfl, Left.stay HH.out (Below.refl _ _)⟩

/-- lineLength at what is left -/
theorem length_has (h : Has w B r A n c xs k) (m : Int) (W : World) (hW : Below w.heap.size w W) :
    Calls Try.prog 30 #[.slice (cutA A c k) (n - k) (c - k), .int .i64 m] W (LenIs (xs.drop k) m W) := by
  have h1 := h.below hW (Nat.le_refl _)
  have hs := h1.src.cut k (n - k) (by have := h.le; omega)
  rw [List.take_of_length_le (by rw [List.length_drop, h.len]; omega)] at hs
  exact length_any hs (fun g hg => hg.2.1) (by have := h.small; omega) h1.mx m

/-- what stands behind the first statement of Line: the box of the length -/
structure Boxed (w W : World) (g : Nat) (v : Int) : Prop where
  box : Lies W g 3 #[.int .i64 v]
  below : Below w.heap.size w W
  new : w.heap.size ≤ g

theorem boxed_after {w W1 : World} (v : Int) (hb : Below w.heap.size w W1) : Boxed w (W1.alloc (.cells #[.int .i64 v] 3)) W1.heap.size v := ⟨Lies.new _ _ _, hb.alloc hb.size _, hb.size⟩
theorem boxed_ahead {w W1 : World} {u : Value} (v : Int) (hb : Below w.heap.size w W1) (hl : Lies W1 w.heap.size 3 #[u]) : Boxed w (W1.setCell ⟨w.heap.size, 0, none⟩ (.int .i64 v)) w.heap.size v :=
  ⟨by simpa using hl.set 0 (.int .i64 v), hb.setCell (Nat.le_refl _) _, Nat.le_refl _⟩

set_option maxHeartbeats 2000000 in
theorem line_err (h : Has w B r A n c xs k) (m : Int) (hm : 0 ≤ m) (v e : Int) (he : lineF (xs.drop k) m = (v, e)) (h0 : e = 5 ∨ e = 6) : Calls Try.prog 21 #[.pointer (some ⟨r, 0, none⟩), .int .i64 m] w (Reads (.tuple #[.string ⟨#[]⟩, .int .i64 e]) w B r A n c xs k) := by
  have HC := Lib.hid (fun W hW => length_has h m W hW)
  unfold LenIs at HC
  rw [he] at HC
  dsimp only at HC
  have q1 := fun W => cut_l W A n c k h.le
  have HK := Lib.hid (show ∀ W, Below w.heap.size w W → W.cell? ⟨r, 0, none⟩ = some (.slice A n c) ∧ W.cell? ⟨r, 1, none⟩ = some (.int .i64 (k : Int)) from fun W hW => ⟨(h.head.below hW h.head.lt).cell 0, (h.head.below hW h.head.lt).cell 1⟩)
  have HH := Lib.hid h
  have he1 : ((e : Int) != 0) = true := by rcases h0 with rfl | rfl <;> rfl
  have he2 : ((e : Int) == 0) = false := by rcases h0 with rfl | rfl <;> rfl
  have b1 : Below w.heap.size w w.drew := (Still.drew1 w).below _
  have b2 : Below w.heap.size w (w.alloc (.cells #[.int .i64 0] 3)).drew := ((Below.refl _ w).alloc (Nat.le_refl _) _).drew
  have LB := Lib.hid (show Lies (w.alloc (.cells #[.int .i64 0] 3)).drew w.heap.size 3 #[.int .i64 0] from (Lies.new w _ _).drew)
  clear h he h0
  go_enter Try.func21, Try.ntmps21
  go_upto_region 5 with fail
  have c0 : w.cell? ⟨r, 0, none⟩ = some (.slice A n c) := (HK.out _ (Below.refl _ _)).1
  have c1 : w.cell? ⟨r, 1, none⟩ = some (.int .i64 (k : Int)) := (HK.out _ (Below.refl _ _)).2
  go_cut [6, 7] (fun s6 s7 wx => ∃ g : Nat, s6 = .pointer (some ⟨g, 0, none⟩) ∧ s7 = .int .i64 e ∧ Hid (Boxed w wx g v))
  case first =>
    go_region_held3 (fun W' => W'.cell? ⟨r, 0, none⟩ = some (.slice A n c) ∧ W'.cell? ⟨r, 1, none⟩ = some (.int .i64 (k : Int)))
      (first | exact HK.out _ b1 | exact HK.out _ b2 | exact HK.out _ b3 | exact HK.out _ (b3.alloc b3.size _) | exact HK.out _ (b3.setCell (Nat.le_refl _) _))
      (first
        | (go_at_call 30; refine (HC.out _ b1).mono ?_; rintro e w2 ⟨rfl, hb2⟩; have b3 := b1.trans hb2; have BX := Lib.hid (boxed_after v b3); clear hb2)
        | (go_at_call 30; refine (HC.out _ b2).mono ?_; rintro e w2 ⟨rfl, hb2⟩; have b3 := b2.trans (hb2.mono (by simp)); have lb := LB.out.below hb2 LB.out.lt; have BX := Lib.hid (boxed_ahead v b3 lb); have lb0 := lb.cell 0; have lb1 := lb.frozen 0; clear hb2 lb))
    all_goals
      go_wp2_with fail
      go_meet
      exact ⟨_, rfl, rfl, BX⟩
  case rest =>
    obtain ⟨g, rfl, rfl, hB⟩ := hcut
    clear HC HK
    go_wp2
    go_ret2
    exact ⟨rfl, Left.stay HH.out hB.out.below⟩

theorem line_room (h : Has w B r A n c xs k) {m : Int} {i : Nat} (he : lineF (xs.drop k) m = ((i : Int), 0)) : k + (i + 2) ≤ n := by
  unfold lineF at he
  cases hn : nEnd (xs.drop k) with
  | none => rw [hn] at he; dsimp only at he; split at he <;> simp at he
  | some j =>
    rw [hn] at he
    dsimp only at he
    split at he
    · simp at he
    · have hj : (j : Int) = (i : Int) := by simpa using he
      have hj : j = i := by omega
      subst hj
      have := nEnd_lt hn
      rw [List.length_drop, h.len] at this
      omega

set_option maxHeartbeats 2000000 in
theorem line_ok (h : Has w B r A n c xs k) (m : Int) (hm : 0 ≤ m) (i : Nat) (he : lineF (xs.drop k) m = ((i : Int), 0)) : Calls Try.prog 21 #[.pointer (some ⟨r, 0, none⟩), .int .i64 m] w (Reads (.tuple #[.string (strOfNums ((xs.drop k).take i)), .int .i64 0]) w B r A n c xs (k + (i + 2))) := by
  have HC := Lib.hid (fun W hW => length_has h m W hW)
  unfold LenIs at HC
  rw [he] at HC
  dsimp only at HC
  have q1 := fun W => cut_l W A n c k h.le
  have HK := Lib.hid (show ∀ W, Below w.heap.size w W → W.cell? ⟨r, 0, none⟩ = some (.slice A n c) ∧ W.cell? ⟨r, 1, none⟩ = some (.int .i64 (k : Int)) from fun W hW => ⟨(h.head.below hW h.head.lt).cell 0, (h.head.below hW h.head.lt).cell 1⟩)
  have HH := Lib.hid h
  have b1 : Below w.heap.size w w.drew := (Still.drew1 w).below _
  have b2 : Below w.heap.size w (w.alloc (.cells #[.int .i64 0] 3)).drew := ((Below.refl _ w).alloc (Nat.le_refl _) _).drew
  have LB := Lib.hid (show Lies (w.alloc (.cells #[.int .i64 0] 3)).drew w.heap.size 3 #[.int .i64 0] from (Lies.new w _ _).drew)
  have hi2 := line_room h he
  have hr := h.head.lt
  have hsm := h.small
  clear h he
  go_enter Try.func21, Try.ntmps21
  go_upto_region 5 with fail
  have c0 : w.cell? ⟨r, 0, none⟩ = some (.slice A n c) := (HK.out _ (Below.refl _ _)).1
  have c1 : w.cell? ⟨r, 1, none⟩ = some (.int .i64 (k : Int)) := (HK.out _ (Below.refl _ _)).2
  go_cut [6, 7] (fun s6 s7 wx => ∃ g : Nat, s6 = .pointer (some ⟨g, 0, none⟩) ∧ s7 = .int .i64 0 ∧ Hid (Boxed w wx g (i : Int)))
  case first =>
    go_region_held3 (fun W' => W'.cell? ⟨r, 0, none⟩ = some (.slice A n c) ∧ W'.cell? ⟨r, 1, none⟩ = some (.int .i64 (k : Int)))
      (first | exact HK.out _ b1 | exact HK.out _ b2 | exact HK.out _ b3 | exact HK.out _ (b3.alloc b3.size _) | exact HK.out _ (b3.setCell (Nat.le_refl _) _))
      (first
        | (go_at_call 30; refine (HC.out _ b1).mono ?_; rintro e w2 ⟨rfl, hb2⟩; have b3 := b1.trans hb2; have BX := Lib.hid (boxed_after (i : Int) b3); clear hb2)
        | (go_at_call 30; refine (HC.out _ b2).mono ?_; rintro e w2 ⟨rfl, hb2⟩; have b3 := b2.trans (hb2.mono (by simp)); have lb := LB.out.below hb2 LB.out.lt; have BX := Lib.hid (boxed_ahead (i : Int) b3 lb); have lb0 := lb.cell 0; have lb1 := lb.frozen 0; clear hb2 lb))
    all_goals
      go_wp2_with fail
      go_meet
      exact ⟨_, rfl, rfl, BX⟩
  case rest =>
    obtain ⟨g, rfl, rfl, hB⟩ := hcut
    clear HC HK q1 b1 b2 LB c0 c1
    have hb1 : Below w.heap.size w (wc.alloc (.cells #[.string ⟨#[]⟩] 9)) := hB.out.below.alloc hB.out.below.size _
    have h1 := HH.out.below hb1 (Nat.le_refl _)
    have hbox : Lies (wc.alloc (.cells #[.string ⟨#[]⟩] 9)) g 3 #[.int .i64 (i : Int)] := hB.out.box.alloc _
    have hstr := Lies.new wc 9 #[.string ⟨#[]⟩]
    have hgn := hB.out.new
    have hgl := hB.out.box.lt
    have hbs := hB.out.below.size
    have hn := next_ok (wc.alloc (.cells #[.string ⟨#[]⟩] 9)) h1 (i + 2) hi2 31 #[.pointer (some ⟨g, 0, none⟩), .pointer (some ⟨wc.heap.size, 0, none⟩)]
      (fun w' => Below w.heap.size w w' ∧ w'.cell? ⟨wc.heap.size, 0, none⟩ = some (.string (strOfNums ((xs.drop k).take i)))) enters_line (fun W hW => by
        have hs := (h1.src.still hW).cut k (i + 2) hi2
        have l1 : Lies W g 3 #[.int .i64 (i : Int)] := hbox.of_same (by rw [hW.heap])
        have l2 : Lies W wc.heap.size 9 #[.string ⟨#[]⟩] := hstr.of_same (by rw [hW.heap])
        refine (line_fn hs (show i ≤ i + 2 by omega) l1 l2).mono ?_
        rintro e' w' ⟨rfl, rfl⟩
        rw [List.take_take, show min i (i + 2) = i by omega]
        refine ⟨rfl, (Below.heap_setCell _ _ _ _ (by simp; omega)).trans (by rw [hW.heap]), ((hb1.trans ((hW.below _).mono (Nat.le_refl _))).setCell (by simpa using hbs) _), ?_⟩
        exact (l2.set 0 _).cell 0)
    rw [show ((i + 2 : Nat) : Int) = (i : Int) + 2 by omega] at hn
    have cn : (wc.alloc (.cells #[.string ⟨#[]⟩] 9)).cell? ⟨g, 0, none⟩ = some (.int .i64 (i : Int)) := hbox.cell 0
    have HN := Lib.hid hn
    clear hn h1 hb1 hbox hstr hgn hgl hB
    go_wp2_with fail
    refine HN.out.mono ?_
    rintro e w2 ⟨rfl, w1, ⟨hbel, hc1⟩, hr1, rfl⟩
    have HB := Lib.hid hbel
    have hc : (w1.setCell ⟨r, 1, none⟩ (.int .i64 ((k + (i + 2) : Nat) : Int))).cell? ⟨wc.heap.size, 0, none⟩ = some (.string (strOfNums ((xs.drop k).take i))) := (World.cell?_of_block (Below.heap_setCell _ _ _ _ (by simp; omega))).trans hc1
    clear hbel hc1 hr1
    generalize hW2 : w1.setCell ⟨r, 1, none⟩ (.int .i64 ((k + (i + 2) : Nat) : Int)) = w2 at *
    have HW2 := Lib.hid hW2
    clear hW2
    generalize strOfNums ((xs.drop k).take i) = s at *
    go_wp2
    go_ret2
    refine ⟨rfl, ?_⟩
    rw [← HW2.out]
    exact Left.moved HH.out HB.out _ hi2
end

end Go.Proofs.Ytliajejgkinkjaa.reader
