/-
  Given for the seat's laws: the document's Print. No condition but those of the theorem.
-/
import Derived.Test.YtkclhfoeimbikaaDoorKRTake
import Derived.Test.YtkclhfoeimbikaaDoorKPure6
import Derived.Test.YtkclhfoeimbikaaDoorKPrint
import Derived.Deep.QuietTactic
import Derived.BigQuiet
namespace Go.Proofs.YtkclhfoeimbikaaDoor.hd
open Go.RowKit mem
set_option linter.unusedVariables false

structure RP1 (w wr : World) (l : Str) (fs : Flds) (A : Option Addr) (n c i m : Nat) (o : ByteArray) : Prop where
  box : Lies wr w.heap.size 25 #[.string (S l), .slice A n c]
  be : Below w.heap.size w wr
  out : o = S (outP l fs i)
  len : (outP l fs i).length = m
theorem RP1.field {w wr : World} {l : Str} {fs : Flds} {A : Option Addr} {n c i m : Nat} {o : ByteArray} (H : RP1 w wr l fs A n c i m o) {p : Str × Str} (hp : fs[i]? = some p) {o' : ByteArray} (ho : o' = S (outP l fs i ++ prF p)) (k : Nat) :
    RP1 w ((wr.alloc (.cells #[.string (S p.1), .string (S p.2)] 49)).drewN k) l fs A n c (i + 1) (outP l fs i ++ prF p).length o' :=
  ⟨(H.box.alloc _).drewN _, ((H.be.alloc H.be.size _)).trans (((Still.drewN _ k).below _).mono (by have := H.be.size; simp; omega)), by rw [ho, outP_add hp], by rw [outP_add hp]⟩
structure RP2 (w wr : World) (l : Str) (fs : Flds) (A : Option Addr) (n c : Nat) (g5 : Nat) (fs2 : Flds) (A4 : Option Addr) (c4 i : Nat) : Prop where
  box : Lies wr w.heap.size 25 #[.string (S l), .slice A n c]
  bx : Lies wr g5 25 #[.string (S l), .slice A4 n c4]
  fx : FAt wr (fun g => g < wr.heap.size) A4 n c4 fs2
  be : Below w.heap.size w wr
  eq : ∀ j, j < i → fs2[j]? = (lowF fs)[j]?
theorem RP2.next {w wr W : World} {l : Str} {fs : Flds} {A : Option Addr} {n c g5 : Nat} {fs2 : Flds} {A4 : Option Addr} {c4 i : Nat} (H : RP2 w wr l fs A n c g5 fs2 A4 c4 i) (hb : Below wr.heap.size wr W) : RP2 w W l fs A n c g5 fs2 A4 c4 i :=
  ⟨H.box.below hb H.box.lt, H.bx.below hb H.bx.lt, (H.fx.below hb (fun g hg => hg)).weak (fun g hg => Nat.lt_of_lt_of_le hg hb.size), H.be.trans (hb.mono H.be.size), H.eq⟩
theorem RP2.step {w wr : World} {l : Str} {fs : Flds} {A : Option Addr} {n c g5 : Nat} {fs2 : Flds} {A4 : Option Addr} {c4 i : Nat} (H : RP2 w wr l fs A n c g5 fs2 A4 c4 i) (h : fs2[i]? = (lowF fs)[i]?) : RP2 w wr l fs A n c g5 fs2 A4 c4 (i + 1) :=
  ⟨H.box, H.bx, H.fx, H.be, fun j hj => by
    rcases (show j < i ∨ j = i by omega) with h1 | h1
    · exact H.eq j h1
    · rw [h1]; exact h⟩
set_option maxHeartbeats 8000000 in
set_option maxRecDepth 100000 in
theorem rprint_any {w : World} {ok : Nat → Prop} {A : Option Addr} {n c : Nat} {l : Str} {fs : Flds} (hf : FAt w ok A n c fs) (hok : ∀ g, ok g → g < w.heap.size) (hz : Small l fs) : Calls Tryd.prog 13 #[.agg #[.string (S l), .slice A n c]] w (PrintTo l fs w) := by
  have HN := Bx.mk hf.len
  have HF := Bx.mk hf
  have HO := Bx.mk hok
  have HZ := Bx.mk hz
  have hbox := Lies.new w 25 #[.string (S l), .slice A n c]
  have hbb : Below w.heap.size w (w.alloc (.cells #[.string (S l), .slice A n c] 25)) := (Below.refl _ _).alloc (Nat.le_refl _) _
  have b0 : (w.alloc (.cells #[.string (S l), .slice A n c] 25)).cell? ⟨w.heap.size, 0, none⟩ = some (.string (S l)) := hbox.cell 0
  have b1 : (w.alloc (.cells #[.string (S l), .slice A n c] 25)).cell? ⟨w.heap.size, 1, none⟩ = some (.slice A n c) := hbox.cell 1
  by_cases h16 : 16 < n
  · have q : (16 : Int) < (n : Int) := by omega
    have HE := Bx.mk (print_no (not_many (l := l) (show 16 < fs.length by rw [hf.len]; exact h16)) hbb)
    clear hf hok hz hbox hbb h16
    go_enter Tryd.func13, Tryd.ntmps13
    go_upto_region 1 with fail
    generalize w.alloc (.cells #[.string (S l), .slice A n c] 25) = W0 at *
    go_wp2_with fail
    exact bodyPost_ret (v := .tuple #[.slice none 0 0, .int .i64 2]) (by simp [results, Tryd.results13, go_sem]) rfl HE.out
  have q : ¬ (16 : Int) < (n : Int) := by omega
  have hn16 : n ≤ 16 := by omega
  obtain ⟨o0, ho0⟩ : ∃ o0, o0 = S (outP l fs 0) := ⟨_, rfl⟩
  have c1 : ∀ W, (Op.stringOp .add (S l) ⟨#[13, 10]⟩).run Tryd.prog W = .ok (.string o0) W := fun W => by
    rw [ho0, outP_zero]
    exact cat l [13, 10] (by have := hz.line; omega) (by simp) W
  have HP0 : Bx (RP1 w (w.alloc (.cells #[.string (S l), .slice A n c] 25)) l fs A n c 0 (outP l fs 0).length o0) := ⟨⟨hbox, hbb, ho0, rfl⟩⟩
  clear hf hok hz hbox hbb h16 ho0
  go_enter Tryd.func13, Tryd.ntmps13
  go_upto_region 1 with fail
  generalize w.alloc (.cells #[.string (S l), .slice A n c] 25) = W0 at *
  generalize (outP l fs 0).length = m0 at *
  go_wp2_with fail
  clear q c1 b0 b1
  go_loopw [4, 5] (fun s4 s5 wr => ∃ (i m : Nat) (o : ByteArray), i ≤ n ∧ s5 = .int .i64 (i : Int) ∧ s4 = .string o ∧ Bx (RP1 w wr l fs A n c i m o)) (fun _ s5 _ => n - (intOf s5).toNat)
  case atStart => exact ⟨0, m0, o0, by omega, rfl, rfl, HP0⟩
  case round =>
    clear HP0
    obtain ⟨i, m, o, hi, rfl, rfl, H⟩ := hrel
    have bx1 := H.out.box.cell 1
    simp at bx1
    have hosz : o.size = m := by rw [H.out.out, S_size, H.out.len]
    by_cases hlt : i < n
    · obtain ⟨p, hp⟩ : ∃ p, fs[i]? = some p := ⟨_, List.getElem?_eq_getElem (by rw [HN.out]; exact hlt)⟩
      obtain ⟨g, off, rfl, hg, y0, y1⟩ := (HF.out.below H.out.be HO.out).at hp
      have i0 : (0 : Int) ≤ (i : Int) := by omega
      have i1 : (i : Int) < (n : Int) := by omega
      have hpz := HZ.out.flds p (List.mem_of_getElem? hp)
      have hal := Lies.new wr 49 #[.string (S p.1), .string (S p.2)]
      have x0 : (wr.alloc (.cells #[.string (S p.1), .string (S p.2)] 49)).cell? ⟨wr.heap.size, 0, none⟩ = some (.string (S p.1)) := hal.cell 0
      have x1 : (wr.alloc (.cells #[.string (S p.1), .string (S p.2)] 49)).cell? ⟨wr.heap.size, 1, none⟩ = some (.string (S p.2)) := hal.cell 1
      have hbe : ∀ k, Below w.heap.size w ((wr.alloc (.cells #[.string (S p.1), .string (S p.2)] 49)).drewN k) := fun k => (H.out.be.alloc H.out.be.size _).trans (((Still.drewN _ k).below _).mono (by have := H.out.be.size; simp; omega))
      have HTr := Bx.mk (Rtrim_any p.2 (by omega))
      have HNm := Bx.mk (RName_any p.1 (by omega))
      have HBE := Bx.mk hbe
      clear hg hal hbe
      by_cases hm : 512 < m
      · have q1 : (512 : Int) < (m : Int) := by omega
        have HY : Bx (¬ prints l fs) := ⟨not_long (i := i) (by rw [H.out.len]; exact hm)⟩
        clear hm hp hpz H
        go_upto_region 8 with fail
        generalize wr.alloc (.cells #[.string (S p.1), .string (S p.2)] 49) = W1 at *
        go_quiet (first | (go_at_call 28; refine Calls.quiet_of_same (HTr.out _)) | (go_at_call 19; refine Calls.quiet_of_same (HNm.out _)))
        go_wp2_with fail
        exact bodyPost_ret (v := .tuple #[.slice none 0 0, .int .i64 2]) (by simp [results, Tryd.results13, go_sem]) rfl (print_no HY.out (HBE.out _))
      have q1 : decide ((512 : Int) < (m : Int)) = false := decide_eq_false (by omega)
      by_cases ht : trim p.2 = p.2
      · rw [ht] at HTr
        cases hnm : isN p.1 with
        | false =>
          rw [hnm] at HNm
          have HY : Bx (¬ prints l fs) := ⟨not_name hp hnm⟩
          clear hm hp hpz H ht hnm
          go_upto_region 8 with fail
          generalize wr.alloc (.cells #[.string (S p.1), .string (S p.2)] 49) = W1 at *
          go_quiet (first | (go_at_call 28; refine Calls.quiet_of_same (HTr.out _)) | (go_at_call 19; refine Calls.quiet_of_same (HNm.out _)))
          go_wp2_with fail
          exact bodyPost_ret (v := .tuple #[.slice none 0 0, .int .i64 2]) (by simp [results, Tryd.results13, go_sem]) rfl (print_no HY.out (HBE.out _))
        | true =>
          rw [hnm] at HNm
          have hm5 : (outP l fs i).length ≤ 512 := by rw [H.out.len]; omega
          obtain ⟨o1, ho1⟩ : ∃ o1, o1 = S (outP l fs i ++ p.1) := ⟨_, rfl⟩
          have c1 : ∀ W, (Op.stringOp .add o (S p.1)).run Tryd.prog W = .ok (.string o1) W := fun W => by
            rw [H.out.out, ho1]
            exact cat _ _ (by omega) (by omega) W
          by_cases hv : p.2 = []
          · have hem : (S p.2).toList.isEmpty = true := by rw [empty_iff, S_list]; exact decide_eq_true hv
            obtain ⟨o2, ho2⟩ : ∃ o2, o2 = S (outP l fs i ++ prF p) := ⟨_, rfl⟩
            have c2 : ∀ W, (Op.stringOp .add o1 ⟨#[58, 13, 10]⟩).run Tryd.prog W = .ok (.string o2) W := fun W => by
              rw [ho1, ho2, show outP l fs i ++ prF p = outP l fs i ++ p.1 ++ [58, 13, 10] by simp [prF, hv]]
              exact cat _ [58, 13, 10] (by rw [List.length_append]; omega) (by simp) W
            have HNX := Bx.mk (H.out.field hp ho2)
            generalize (outP l fs i ++ prF p).length = m2 at *
            clear hm hp hpz H ht hnm hm5 ho1 ho2 hv
            go_upto_region 8 with fail
            generalize wr.alloc (.cells #[.string (S p.1), .string (S p.2)] 49) = W1 at *
            go_quiet (first | (go_at_call 28; refine Calls.quiet_of_same (HTr.out _)) | (go_at_call 19; refine Calls.quiet_of_same (HNm.out _)))
            go_wp2_with fail
            go_roundw
            case rel => exact ⟨i + 1, m2, o2, by omega, by go_num, rfl, ⟨HNX.out _⟩⟩
            case measure => simp [intOf]; omega
          · have hem : (S p.2).toList.isEmpty = false := by rw [empty_iff, S_list]; exact decide_eq_false hv
            obtain ⟨o3, ho3⟩ : ∃ o3, o3 = S (outP l fs i ++ p.1 ++ [58, 32]) := ⟨_, rfl⟩
            have c3 : ∀ W, (Op.stringOp .add o1 ⟨#[58, 32]⟩).run Tryd.prog W = .ok (.string o3) W := fun W => by
              rw [ho1, ho3]
              exact cat _ [58, 32] (by rw [List.length_append]; omega) (by simp) W
            obtain ⟨o4, ho4⟩ : ∃ o4, o4 = S (outP l fs i ++ p.1 ++ [58, 32] ++ p.2) := ⟨_, rfl⟩
            have c4 : ∀ W, (Op.stringOp .add o3 (S p.2)).run Tryd.prog W = .ok (.string o4) W := fun W => by
              rw [ho3, ho4]
              exact cat _ _ (by simp only [List.length_append, List.length_cons, List.length_nil]; omega) (by omega) W
            obtain ⟨o5, ho5⟩ : ∃ o5, o5 = S (outP l fs i ++ prF p) := ⟨_, rfl⟩
            have c5 : ∀ W, (Op.stringOp .add o4 ⟨#[13, 10]⟩).run Tryd.prog W = .ok (.string o5) W := fun W => by
              rw [ho4, ho5, show outP l fs i ++ prF p = outP l fs i ++ p.1 ++ [58, 32] ++ p.2 ++ [13, 10] by simp [prF, hv]]
              exact cat _ [13, 10] (by simp only [List.length_append, List.length_cons, List.length_nil]; omega) (by simp) W
            have HNX := Bx.mk (H.out.field hp ho5)
            generalize (outP l fs i ++ prF p).length = m2 at *
            clear hm hp hpz H ht hnm hm5 ho1 ho3 ho4 ho5 hv
            go_upto_region 8 with fail
            generalize wr.alloc (.cells #[.string (S p.1), .string (S p.2)] 49) = W1 at *
            go_quiet (first | (go_at_call 28; refine Calls.quiet_of_same (HTr.out _)) | (go_at_call 19; refine Calls.quiet_of_same (HNm.out _)))
            go_wp2_with fail
            go_roundw
            case rel => exact ⟨i + 1, m2, o5, by omega, by go_num, rfl, ⟨HNX.out _⟩⟩
            case measure => simp [intOf]; omega
      · have hne := (str_ne ht).1
        have HY : Bx (¬ prints l fs) := ⟨not_trim hp ht⟩
        clear hm hp hpz H ht
        go_upto_region 8 with fail
        generalize wr.alloc (.cells #[.string (S p.1), .string (S p.2)] 49) = W1 at *
        go_quiet (first | (go_at_call 28; refine Calls.quiet_of_same (HTr.out _)) | (go_at_call 19; refine Calls.quiet_of_same (HNm.out _)))
        go_wp2_with fail
        exact bodyPost_ret (v := .tuple #[.slice none 0 0, .int .i64 2]) (by simp [results, Tryd.results13, go_sem]) rfl (print_no HY.out (HBE.out _))
    · obtain rfl : n = i := by omega
      obtain ⟨s, hs⟩ : ∃ s, s = S (pr l fs) := ⟨_, rfl⟩
      obtain ⟨M, hM⟩ : ∃ M, (pr l fs).length = M := ⟨_, rfl⟩
      have hall := outP_all (l := l) HN.out
      have hup : (outP l fs n).length ≤ 61200 := upTo_len HZ.out n
      have cp : ∀ W, (Op.stringOp .add o ⟨#[13, 10]⟩).run Tryd.prog W = .ok (.string s) W := fun W => by
        rw [H.out.out, hs, ← hall]
        exact cat _ [13, 10] (by omega) (by simp) W
      have hsz : s.size = M := by rw [hs, S_size, hM]
      have hM6 : M ≤ 61202 := by rw [← hM, ← hall, List.length_append]; show _ + 2 ≤ _; omega
      by_cases hm : 512 < M
      · have q2 : (512 : Int) < (M : Int) := by omega
        have HE := Bx.mk (print_no (not_end (l := l) (fs := fs) (by rw [hM]; exact hm)) H.out.be)
        clear hm hM hs hall hup H hlt hosz
        go_wp2_with fail
        exact bodyPost_ret (v := .tuple #[.slice none 0 0, .int .i64 2]) (by simp [results, Tryd.results13, go_sem]) rfl HE.out
      have q2 : ¬ (512 : Int) < (M : Int) := by omega
      have hconv := conv_any s wr
      rw [hsz] at hconv
      have hrow := conv_row (pr l fs) wr (by omega)
      rw [← hs, hM] at hrow
      have hcb := conv_below s wr
      generalize Lib.bytesWorld wr 5 s = W2 at *
      generalize grownCap wr M 0 5 = cc at *
      have hbox2 := H.out.box.below hcb H.out.box.lt
      have hbe2 := H.out.be.trans (hcb.mono H.out.be.size)
      obtain ⟨l2, fs2, n2, e2, hx⟩ : ∃ l2 fs2 n2 e2, take (pr l fs) = (l2, fs2, n2, e2) := ⟨_, _, _, _, rfl⟩
      have HX := Bx.mk hx
      have HTk := Bx.mk (rtake_any (hrow.spell hM) (fun g hg => hg) (by omega))
      have hpl := prints_late hx
      rw [hM] at hpl
      have HPI := Bx.mk hpl
      have HBox2 := Bx.mk hbox2
      have HBe2 := Bx.mk hbe2
      have HS := Bx.mk hs
      have HM := Bx.mk hM
      clear hs hM hall hup hm hrow hcb hbox2 hbe2 hx hpl H hlt hosz
      go_wp2_with fail
      refine HTk.out.mono ?_
      intro en w4 ht
      obtain ⟨A4, c4, rfl, hf4, hb4⟩ := take_r HX.out ht
      obtain ⟨k, hk⟩ : ∃ k, fs2.length = k := ⟨_, rfl⟩
      rw [hk] at hf4 ⊢
      have L := Lies.new w4 25 #[.string (S l2), .slice A4 k c4]
      have hb5 := hb4.alloc hb4.size (.cells #[.string (S l2), .slice A4 k c4] 25)
      have HL := Bx.mk L
      have HF5 := Bx.mk ((hf4.below ((Below.refl _ _).alloc (Nat.le_refl _) (.cells #[.string (S l2), .slice A4 k c4] 25)) (fun g hg => hg)).weak (ok' := fun g => g < (w4.alloc (.cells #[.string (S l2), .slice A4 k c4] 25)).heap.size) fun g hg => by simp; omega)
      have HBox5 := Bx.mk (HBox2.out.below hb5 HBox2.out.lt)
      have HBe5 := Bx.mk (HBe2.out.trans (hb5.mono HBe2.out.size))
      have HK := Bx.mk hk
      clear ht hf4 hb4 hb5 L HTk HBox2 HBe2 hconv cp hk q2
      go_upto_region 17 with fail
      generalize w4.alloc (.cells #[.string (S l2), .slice A4 k c4] 25) = W5 at *
      generalize w4.heap.size = g5 at *
      have z0 := HL.out.cell 0; have z1 := HL.out.cell 1
      have y0 := HBox5.out.cell 0; have y1 := HBox5.out.cell 1
      simp at z0 z1 y0 y1
      by_cases he : e2 = 0
      · have q1 : ((e2 : Int) != 0) = false := by rw [he]; rfl
        by_cases hn2 : n2 = M
        · have q2 : ((n2 : Int) != (M : Int)) = false := by rw [hn2]; simp
          by_cases hl : l2 = l
          · have hl' := hl.symm
            subst hl'
            by_cases hkn : k = n
            · subst hkn
              have q4 : ((k : Int) != (k : Int)) = false := by simp
              have HP2 : Bx (RP2 w W5 l fs A k c g5 fs2 A4 c4 0) := ⟨⟨HBox5.out, HL.out, HF5.out, HBe5.out, fun j hj => by omega⟩⟩
              have HLS : Bx (fs2.length = k) := HK
              clear hl HL HBox5 HBe5 HF5
              go_wp2_with fail
              clear z0 z1 y0 y1 q1 q2 q4
              go_loopw [10] (fun s10 wr => ∃ i : Nat, i ≤ k ∧ s10 = .int .i64 (i : Int) ∧ Bx (RP2 w wr l fs A k c g5 fs2 A4 c4 i)) (fun s10 _ => k - (intOf s10).toNat)
              case atStart => exact ⟨0, by omega, rfl, HP2⟩
              case round =>
                clear HP2
                obtain ⟨i, hi, rfl, H⟩ := hrel
                have z1 := H.out.bx.cell 1
                have y1 := H.out.box.cell 1
                simp at z1 y1
                by_cases hlt : i < k
                · obtain ⟨p, hp⟩ : ∃ p, fs[i]? = some p := ⟨_, List.getElem?_eq_getElem (by rw [HN.out]; exact hlt)⟩
                  obtain ⟨q, hq⟩ : ∃ q, fs2[i]? = some q := ⟨_, List.getElem?_eq_getElem (by rw [HLS.out]; exact hlt)⟩
                  obtain ⟨g, off, rfl, hg, y2, y3⟩ := (HF.out.below H.out.be HO.out).at hp
                  obtain ⟨g', off', rfl, hg', z2, z3⟩ := H.out.fx.at hq
                  have i0 : (0 : Int) ≤ (i : Int) := by omega
                  have i1 : (i : Int) < (k : Int) := by omega
                  have HLw := Bx.mk (RLower_any p.1 (by have := HZ.out.flds p (List.mem_of_getElem? hp); omega))
                  have hlq : (lowF fs)[i]? = some (low p.1, p.2) := by simp [lowF, hp]
                  have b0 : Below wr.heap.size wr wr.drew := (Below.refl _ _).drew
                  by_cases e1 : q.1 = low p.1
                  · rw [e1] at z2
                    by_cases e2 : q.2 = p.2
                    · rw [e2] at z3
                      have HST := Bx.mk (H.out.step (by rw [hq, hlq, ← e1, ← e2]))
                      have HC : Bx (∀ W', Below wr.heap.size wr W' → W'.cell? ⟨g5, 1, none⟩ = some (.slice (some ⟨g', off', none⟩) k c4) ∧ W'.cell? ⟨w.heap.size, 1, none⟩ = some (.slice (some ⟨g, off, none⟩) k c) ∧ W'.cell? ⟨g', off' + i * 2, none⟩ = some (.string (S (low p.1))) ∧ W'.cell? ⟨g', off' + i * 2 + 1, none⟩ = some (.string (S p.2)) ∧ W'.cell? ⟨g, off + i * 2, none⟩ = some (.string (S p.1)) ∧ W'.cell? ⟨g, off + i * 2 + 1, none⟩ = some (.string (S p.2))) := ⟨fun W' hb => ⟨cell_kept z1 hb, cell_kept y1 hb, cell_kept z2 hb, cell_kept z3 hb, cell_kept y2 hb, cell_kept y3 hb⟩⟩
                      clear hlq hq hp e1 e2 hg hg' z2 z3 y2 y3 H
                      go_wp2_with fail
                      go_upto_region 22 with fail
                      clear z1 y1
                      go_region_held3 (fun W' => W'.cell? ⟨g5, 1, none⟩ = some (.slice (some ⟨g', off', none⟩) k c4) ∧ W'.cell? ⟨w.heap.size, 1, none⟩ = some (.slice (some ⟨g, off, none⟩) k c) ∧ W'.cell? ⟨g', off' + i * 2, none⟩ = some (.string (S (low p.1))) ∧ W'.cell? ⟨g', off' + i * 2 + 1, none⟩ = some (.string (S p.2)) ∧ W'.cell? ⟨g, off + i * 2, none⟩ = some (.string (S p.1)) ∧ W'.cell? ⟨g, off + i * 2 + 1, none⟩ = some (.string (S p.2)))
                        (exact HC.out _ b0)
                        (first | (go_at_call 21; refine (HLw.out _).mono ?_; rintro e w9 ⟨rfl, hb9⟩; replace b0 := b0.trans (hb9.mono b0.size); clear hb9))
                      have HNX := Bx.mk (HST.out.next b0)
                      clear b0 HC HST HLw
                      go_wp2_with fail
                      go_roundw
                      case rel => exact ⟨i + 1, by omega, by go_num, HNX⟩
                      case measure => simp [intOf]; omega
                    · have hne := (str_ne e2).1
                      have HY : Bx (¬ prints l fs) := ⟨fun h => e2 (by have h5 := ((HPI.out.1 h).2.2.2.2); rw [h5, hlq] at hq; simp at hq; rw [← hq])⟩
                      have HC : Bx (∀ W', Below wr.heap.size wr W' → W'.cell? ⟨g5, 1, none⟩ = some (.slice (some ⟨g', off', none⟩) k c4) ∧ W'.cell? ⟨w.heap.size, 1, none⟩ = some (.slice (some ⟨g, off, none⟩) k c) ∧ W'.cell? ⟨g', off' + i * 2, none⟩ = some (.string (S (low p.1))) ∧ W'.cell? ⟨g', off' + i * 2 + 1, none⟩ = some (.string (S q.2)) ∧ W'.cell? ⟨g, off + i * 2, none⟩ = some (.string (S p.1)) ∧ W'.cell? ⟨g, off + i * 2 + 1, none⟩ = some (.string (S p.2))) := ⟨fun W' hb => ⟨cell_kept z1 hb, cell_kept y1 hb, cell_kept z2 hb, cell_kept z3 hb, cell_kept y2 hb, cell_kept y3 hb⟩⟩
                      have HBE := Bx.mk H.out.be
                      clear hlq hq hp e1 e2 hg hg' z2 z3 y2 y3 H
                      go_wp2_with fail
                      go_upto_region 22 with fail
                      clear z1 y1
                      go_region_held3 (fun W' => W'.cell? ⟨g5, 1, none⟩ = some (.slice (some ⟨g', off', none⟩) k c4) ∧ W'.cell? ⟨w.heap.size, 1, none⟩ = some (.slice (some ⟨g, off, none⟩) k c) ∧ W'.cell? ⟨g', off' + i * 2, none⟩ = some (.string (S (low p.1))) ∧ W'.cell? ⟨g', off' + i * 2 + 1, none⟩ = some (.string (S q.2)) ∧ W'.cell? ⟨g, off + i * 2, none⟩ = some (.string (S p.1)) ∧ W'.cell? ⟨g, off + i * 2 + 1, none⟩ = some (.string (S p.2)))
                        (exact HC.out _ b0)
                        (first | (go_at_call 21; refine (HLw.out _).mono ?_; rintro e w9 ⟨rfl, hb9⟩; replace b0 := b0.trans (hb9.mono b0.size); clear hb9))
                      have HE := Bx.mk (print_no HY.out (HBE.out.trans (b0.mono HBE.out.size)))
                      clear b0 HC HLw
                      go_wp2_with fail
                      exact bodyPost_ret (v := .tuple #[.slice none 0 0, .int .i64 2]) (by simp [results, Tryd.results13, go_sem]) rfl HE.out
                  · have hne := (str_ne e1).1
                    have hnb : ∀ W, (Op.stringOp .neq (S q.1) (S (low p.1))).run Tryd.prog W = .ok (.bool true) W := fun W => by
                      have h0 := (str_ne e1).1
                      simp [Op.stringOp, go_sem, h0]
                    have HY : Bx (¬ prints l fs) := ⟨fun h => e1 (by have h5 := ((HPI.out.1 h).2.2.2.2); rw [h5, hlq] at hq; simp at hq; rw [← hq])⟩
                    have HC : Bx (∀ W', Below wr.heap.size wr W' → W'.cell? ⟨g5, 1, none⟩ = some (.slice (some ⟨g', off', none⟩) k c4) ∧ W'.cell? ⟨w.heap.size, 1, none⟩ = some (.slice (some ⟨g, off, none⟩) k c) ∧ W'.cell? ⟨g', off' + i * 2, none⟩ = some (.string (S q.1)) ∧ W'.cell? ⟨g', off' + i * 2 + 1, none⟩ = some (.string (S q.2)) ∧ W'.cell? ⟨g, off + i * 2, none⟩ = some (.string (S p.1)) ∧ W'.cell? ⟨g, off + i * 2 + 1, none⟩ = some (.string (S p.2))) := ⟨fun W' hb => ⟨cell_kept z1 hb, cell_kept y1 hb, cell_kept z2 hb, cell_kept z3 hb, cell_kept y2 hb, cell_kept y3 hb⟩⟩
                    have HBE := Bx.mk H.out.be
                    clear hlq hq hp e1 hg hg' z2 z3 y2 y3 H
                    go_wp2_with fail
                    go_upto_region 22 with fail
                    clear z1 y1
                    refine wp_region_held_drew (S := fun W' => W'.cell? ⟨g5, 1, none⟩ = some (.slice (some ⟨g', off', none⟩) k c4) ∧ W'.cell? ⟨w.heap.size, 1, none⟩ = some (.slice (some ⟨g, off, none⟩) k c) ∧ W'.cell? ⟨g', off' + i * 2, none⟩ = some (.string (S q.1)) ∧ W'.cell? ⟨g', off' + i * 2 + 1, none⟩ = some (.string (S q.2)) ∧ W'.cell? ⟨g, off + i * 2, none⟩ = some (.string (S p.1)) ∧ W'.cell? ⟨g, off + i * 2 + 1, none⟩ = some (.string (S p.2))) (by kernel_rfl) (HC.out _ b0) (fun hHeld => ?_)
                    refine wpAnyH_take (i := 0) (oi := { dst := some 107, op := Op.fieldAddr 25 (Operand.tmp 7) 1, type := 0, pos := "ref.go:178", after := #[], guard := none }) (v := ?v1) rfl (by kernel_rfl) (by kernel_rfl) (by kernel_rfl) (fun _ _ _ h => h) (Or.inl ⟨by rfl, ?y1⟩) hHeld ?r1
                    case y1 => (intro W hSw; (try dsimp only at hSw); go_simp; try with_reducible rfl)
                    try simp only [Act.put, List.setIfInBounds_toArray, List.set_cons_zero, List.set_cons_succ]
                    refine wpAnyH_take (i := 1) (oi := { dst := some 108, op := Op.load 23 (Operand.tmp 107), type := 23, pos := "ref.go:178", after := #[{ on := 0, ground := Ground.data }], guard := none }) (v := ?v2) rfl (by kernel_rfl) (by kernel_rfl) (by kernel_rfl) (fun _ _ _ h => h) (Or.inl ⟨by rfl, ?y2⟩) hHeld ?r2
                    case y2 => (intro W hSw; (try dsimp only at hSw); go_simp; try with_reducible rfl)
                    try simp only [Act.put, List.setIfInBounds_toArray, List.set_cons_zero, List.set_cons_succ]
                    refine wpAnyH_take (i := 2) (oi := { dst := some 109, op := Op.move (Operand.tmp 10), type := 3, pos := "ref.go:178", after := #[], guard := none }) (v := ?v3) rfl (by kernel_rfl) (by kernel_rfl) (by kernel_rfl) (fun _ _ _ h => h) (Or.inl ⟨by rfl, ?y3⟩) hHeld ?r3
                    case y3 => (intro W hSw; (try dsimp only at hSw); go_simp; try with_reducible rfl)
                    try simp only [Act.put, List.setIfInBounds_toArray, List.set_cons_zero, List.set_cons_succ]
                    refine wpAnyH_take (i := 3) (oi := { dst := some 110, op := Op.indexAddr 23 (Operand.tmp 108) (Operand.tmp 109), type := 0, pos := "ref.go:178", after := #[{ on := 1, ground := Ground.data }, { on := 2, ground := Ground.data }], guard := none }) (v := ?v4) rfl (by kernel_rfl) (by kernel_rfl) (by kernel_rfl) (fun _ _ _ h => h) (Or.inl ⟨by rfl, ?y4⟩) hHeld ?r4
                    case y4 => (intro W hSw; (try dsimp only at hSw); go_simp; try with_reducible rfl)
                    try simp only [Act.put, List.setIfInBounds_toArray, List.set_cons_zero, List.set_cons_succ]
                    refine wpAnyH_take (i := 4) (oi := { dst := some 111, op := Op.indexAddr 49 (Operand.tmp 110) (Operand.const (Value.int IntKind.i64 0)), type := 0, pos := "ref.go:178", after := #[{ on := 3, ground := Ground.data }], guard := none }) (v := ?v5) rfl (by kernel_rfl) (by kernel_rfl) (by kernel_rfl) (fun _ _ _ h => h) (Or.inl ⟨by rfl, ?y5⟩) hHeld ?r5
                    case y5 => (intro W hSw; (try dsimp only at hSw); go_simp; try with_reducible rfl)
                    try simp only [Act.put, List.setIfInBounds_toArray, List.set_cons_zero, List.set_cons_succ]
                    refine wpAnyH_take (i := 5) (oi := { dst := some 112, op := Op.load 9 (Operand.tmp 111), type := 9, pos := "ref.go:178", after := #[{ on := 4, ground := Ground.data }], guard := none }) (v := ?v6) rfl (by kernel_rfl) (by kernel_rfl) (by kernel_rfl) (fun _ _ _ h => h) (Or.inl ⟨by rfl, ?y6⟩) hHeld ?r6
                    case y6 => (intro W hSw; (try dsimp only at hSw); go_simp; try with_reducible rfl)
                    try simp only [Act.put, List.setIfInBounds_toArray, List.set_cons_zero, List.set_cons_succ]
                    refine wpAnyH_take (i := 6) (oi := { dst := some 113, op := Op.fieldAddr 25 (Operand.tmp 1) 1, type := 0, pos := "ref.go:178", after := #[], guard := none }) (v := ?v7) rfl (by kernel_rfl) (by kernel_rfl) (by kernel_rfl) (fun _ _ _ h => h) (Or.inl ⟨by rfl, ?y7⟩) hHeld ?r7
                    case y7 => (intro W hSw; (try dsimp only at hSw); go_simp; try with_reducible rfl)
                    try simp only [Act.put, List.setIfInBounds_toArray, List.set_cons_zero, List.set_cons_succ]
                    refine wpAnyH_take (i := 7) (oi := { dst := some 114, op := Op.load 23 (Operand.tmp 113), type := 23, pos := "ref.go:178", after := #[{ on := 6, ground := Ground.data }], guard := none }) (v := ?v8) rfl (by kernel_rfl) (by kernel_rfl) (by kernel_rfl) (fun _ _ _ h => h) (Or.inl ⟨by rfl, ?y8⟩) hHeld ?r8
                    case y8 => (intro W hSw; (try dsimp only at hSw); go_simp; try with_reducible rfl)
                    try simp only [Act.put, List.setIfInBounds_toArray, List.set_cons_zero, List.set_cons_succ]
                    refine wpAnyH_take (i := 8) (oi := { dst := some 115, op := Op.move (Operand.tmp 10), type := 3, pos := "ref.go:178", after := #[], guard := none }) (v := ?v9) rfl (by kernel_rfl) (by kernel_rfl) (by kernel_rfl) (fun _ _ _ h => h) (Or.inl ⟨by rfl, ?y9⟩) hHeld ?r9
                    case y9 => (intro W hSw; (try dsimp only at hSw); go_simp; try with_reducible rfl)
                    try simp only [Act.put, List.setIfInBounds_toArray, List.set_cons_zero, List.set_cons_succ]
                    refine wpAnyH_take (i := 9) (oi := { dst := some 116, op := Op.indexAddr 23 (Operand.tmp 114) (Operand.tmp 115), type := 0, pos := "ref.go:178", after := #[{ on := 7, ground := Ground.data }, { on := 8, ground := Ground.data }], guard := none }) (v := ?v10) rfl (by kernel_rfl) (by kernel_rfl) (by kernel_rfl) (fun _ _ _ h => h) (Or.inl ⟨by rfl, ?y10⟩) hHeld ?r10
                    case y10 => (intro W hSw; (try dsimp only at hSw); go_simp; try with_reducible rfl)
                    try simp only [Act.put, List.setIfInBounds_toArray, List.set_cons_zero, List.set_cons_succ]
                    refine wpAnyH_take (i := 10) (oi := { dst := some 117, op := Op.indexAddr 49 (Operand.tmp 116) (Operand.const (Value.int IntKind.i64 0)), type := 0, pos := "ref.go:178", after := #[{ on := 9, ground := Ground.data }], guard := none }) (v := ?v11) rfl (by kernel_rfl) (by kernel_rfl) (by kernel_rfl) (fun _ _ _ h => h) (Or.inl ⟨by rfl, ?y11⟩) hHeld ?r11
                    case y11 => (intro W hSw; (try dsimp only at hSw); go_simp; try with_reducible rfl)
                    try simp only [Act.put, List.setIfInBounds_toArray, List.set_cons_zero, List.set_cons_succ]
                    refine wpAnyH_take (i := 11) (oi := { dst := some 118, op := Op.load 9 (Operand.tmp 117), type := 9, pos := "ref.go:178", after := #[{ on := 10, ground := Ground.data }], guard := none }) (v := ?v12) rfl (by kernel_rfl) (by kernel_rfl) (by kernel_rfl) (fun _ _ _ h => h) (Or.inl ⟨by rfl, ?y12⟩) hHeld ?r12
                    case y12 => (intro W hSw; (try dsimp only at hSw); go_simp; try with_reducible rfl)
                    try simp only [Act.put, List.setIfInBounds_toArray, List.set_cons_zero, List.set_cons_succ]
                    refine wpAnyH_ready (rs := [12]) (by kernel_rfl) (by simp) (AllReadyH.cons (o := { dst := some 119, op := Op.call { callee := Callee.value (Operand.func 21), args := #[Operand.tmp 118], argTypes := #[9] }, type := 9, pos := "ref.go:178", after := #[{ on := 11, ground := Ground.data }], guard := none }) rfl (fun K hK => ?_) AllReadyH.nil)
                    go_simp
                    refine (HLw.out _).mono ?_
                    rintro e w9 ⟨rfl, hb9⟩
                    replace b0 := b0.trans (hb9.mono b0.size)
                    clear hb9
                    refine hK.out _ _ (HC.out _ b0) (fun hHeld => ?_)
                    clear hK K
                    try simp only [Act.put, List.setIfInBounds_toArray, List.set_cons_zero, List.set_cons_succ]
                    refine wpAnyH_take (i := 13) (oi := { dst := some 120, op := Op.binOp BinOp.neq 9 (Operand.tmp 112) (Operand.tmp 119) 9, type := 4, pos := "ref.go:178", after := #[{ on := 5, ground := Ground.data }, { on := 12, ground := Ground.data }], guard := none }) (v := ?v13) rfl (by kernel_rfl) (by kernel_rfl) (by kernel_rfl) (fun _ _ _ h => h) (Or.inl ⟨by rfl, ?y13⟩) hHeld ?r13
                    case y13 => (intro W hSw; (try dsimp only at hSw); go_simp; try with_reducible rfl)
                    try simp only [Act.put, List.setIfInBounds_toArray, List.set_cons_zero, List.set_cons_succ]
                    refine wpAnyH_take (i := 14) (oi := { dst := some 121, op := Op.move (Operand.tmp 120), type := 4, pos := "ref.go:178", after := #[{ on := 13, ground := Ground.data }, { on := 12, ground := Ground.chain }], guard := none }) (v := ?v14) rfl (by kernel_rfl) (by kernel_rfl) (by kernel_rfl) (fun _ _ _ h => h) (Or.inl ⟨by rfl, ?y14⟩) hHeld ?r14
                    case y14 => (intro W hSw; (try dsimp only at hSw); go_simp; try with_reducible rfl)
                    try simp only [Act.put, List.setIfInBounds_toArray, List.set_cons_zero, List.set_cons_succ]
                    refine wpAnyH_take (i := 15) (oi := { dst := some 122, op := Op.fieldAddr 25 (Operand.tmp 7) 1, type := 0, pos := "ref.go:178", after := #[{ on := 14, ground := Ground.guard }], guard := some (14, false) }) (v := undef) rfl (by kernel_rfl) (by kernel_rfl) (by kernel_rfl) (fun _ _ _ h => h) (Or.inr ⟨by rfl, rfl⟩) hHeld ?r15
                    try simp only [Act.put, List.setIfInBounds_toArray, List.set_cons_zero, List.set_cons_succ]
                    refine wpAnyH_take (i := 16) (oi := { dst := some 123, op := Op.load 23 (Operand.tmp 122), type := 23, pos := "ref.go:178", after := #[{ on := 15, ground := Ground.data }, { on := 14, ground := Ground.guard }], guard := some (14, false) }) (v := undef) rfl (by kernel_rfl) (by kernel_rfl) (by kernel_rfl) (fun _ _ _ h => h) (Or.inr ⟨by rfl, rfl⟩) hHeld ?r16
                    try simp only [Act.put, List.setIfInBounds_toArray, List.set_cons_zero, List.set_cons_succ]
                    refine wpAnyH_take (i := 17) (oi := { dst := some 124, op := Op.move (Operand.tmp 10), type := 3, pos := "ref.go:178", after := #[{ on := 14, ground := Ground.guard }], guard := some (14, false) }) (v := undef) rfl (by kernel_rfl) (by kernel_rfl) (by kernel_rfl) (fun _ _ _ h => h) (Or.inr ⟨by rfl, rfl⟩) hHeld ?r17
                    try simp only [Act.put, List.setIfInBounds_toArray, List.set_cons_zero, List.set_cons_succ]
                    refine wpAnyH_take (i := 18) (oi := { dst := some 125, op := Op.indexAddr 23 (Operand.tmp 123) (Operand.tmp 124), type := 0, pos := "ref.go:178", after := #[{ on := 16, ground := Ground.data }, { on := 17, ground := Ground.data }, { on := 14, ground := Ground.guard }], guard := some (14, false) }) (v := undef) rfl (by kernel_rfl) (by kernel_rfl) (by kernel_rfl) (fun _ _ _ h => h) (Or.inr ⟨by rfl, rfl⟩) hHeld ?r18
                    try simp only [Act.put, List.setIfInBounds_toArray, List.set_cons_zero, List.set_cons_succ]
                    refine wpAnyH_take (i := 19) (oi := { dst := some 126, op := Op.indexAddr 49 (Operand.tmp 125) (Operand.const (Value.int IntKind.i64 1)), type := 0, pos := "ref.go:178", after := #[{ on := 18, ground := Ground.data }, { on := 14, ground := Ground.guard }], guard := some (14, false) }) (v := undef) rfl (by kernel_rfl) (by kernel_rfl) (by kernel_rfl) (fun _ _ _ h => h) (Or.inr ⟨by rfl, rfl⟩) hHeld ?r19
                    try simp only [Act.put, List.setIfInBounds_toArray, List.set_cons_zero, List.set_cons_succ]
                    refine wpAnyH_take (i := 20) (oi := { dst := some 127, op := Op.load 9 (Operand.tmp 126), type := 9, pos := "ref.go:178", after := #[{ on := 19, ground := Ground.data }, { on := 14, ground := Ground.guard }], guard := some (14, false) }) (v := undef) rfl (by kernel_rfl) (by kernel_rfl) (by kernel_rfl) (fun _ _ _ h => h) (Or.inr ⟨by rfl, rfl⟩) hHeld ?r20
                    try simp only [Act.put, List.setIfInBounds_toArray, List.set_cons_zero, List.set_cons_succ]
                    refine wpAnyH_take (i := 21) (oi := { dst := some 128, op := Op.fieldAddr 25 (Operand.tmp 1) 1, type := 0, pos := "ref.go:178", after := #[{ on := 14, ground := Ground.guard }], guard := some (14, false) }) (v := undef) rfl (by kernel_rfl) (by kernel_rfl) (by kernel_rfl) (fun _ _ _ h => h) (Or.inr ⟨by rfl, rfl⟩) hHeld ?r21
                    try simp only [Act.put, List.setIfInBounds_toArray, List.set_cons_zero, List.set_cons_succ]
                    refine wpAnyH_take (i := 22) (oi := { dst := some 129, op := Op.load 23 (Operand.tmp 128), type := 23, pos := "ref.go:178", after := #[{ on := 21, ground := Ground.data }, { on := 14, ground := Ground.guard }], guard := some (14, false) }) (v := undef) rfl (by kernel_rfl) (by kernel_rfl) (by kernel_rfl) (fun _ _ _ h => h) (Or.inr ⟨by rfl, rfl⟩) hHeld ?r22
                    try simp only [Act.put, List.setIfInBounds_toArray, List.set_cons_zero, List.set_cons_succ]
                    refine wpAnyH_take (i := 23) (oi := { dst := some 130, op := Op.move (Operand.tmp 10), type := 3, pos := "ref.go:178", after := #[{ on := 14, ground := Ground.guard }], guard := some (14, false) }) (v := undef) rfl (by kernel_rfl) (by kernel_rfl) (by kernel_rfl) (fun _ _ _ h => h) (Or.inr ⟨by rfl, rfl⟩) hHeld ?r23
                    try simp only [Act.put, List.setIfInBounds_toArray, List.set_cons_zero, List.set_cons_succ]
                    refine wpAnyH_take (i := 24) (oi := { dst := some 131, op := Op.indexAddr 23 (Operand.tmp 129) (Operand.tmp 130), type := 0, pos := "ref.go:178", after := #[{ on := 22, ground := Ground.data }, { on := 23, ground := Ground.data }, { on := 14, ground := Ground.guard }], guard := some (14, false) }) (v := undef) rfl (by kernel_rfl) (by kernel_rfl) (by kernel_rfl) (fun _ _ _ h => h) (Or.inr ⟨by rfl, rfl⟩) hHeld ?r24
                    try simp only [Act.put, List.setIfInBounds_toArray, List.set_cons_zero, List.set_cons_succ]
                    refine wpAnyH_take (i := 25) (oi := { dst := some 132, op := Op.indexAddr 49 (Operand.tmp 131) (Operand.const (Value.int IntKind.i64 1)), type := 0, pos := "ref.go:178", after := #[{ on := 24, ground := Ground.data }, { on := 14, ground := Ground.guard }], guard := some (14, false) }) (v := undef) rfl (by kernel_rfl) (by kernel_rfl) (by kernel_rfl) (fun _ _ _ h => h) (Or.inr ⟨by rfl, rfl⟩) hHeld ?r25
                    try simp only [Act.put, List.setIfInBounds_toArray, List.set_cons_zero, List.set_cons_succ]
                    refine wpAnyH_take (i := 26) (oi := { dst := some 133, op := Op.load 9 (Operand.tmp 132), type := 9, pos := "ref.go:178", after := #[{ on := 25, ground := Ground.data }, { on := 14, ground := Ground.guard }], guard := some (14, false) }) (v := undef) rfl (by kernel_rfl) (by kernel_rfl) (by kernel_rfl) (fun _ _ _ h => h) (Or.inr ⟨by rfl, rfl⟩) hHeld ?r26
                    try simp only [Act.put, List.setIfInBounds_toArray, List.set_cons_zero, List.set_cons_succ]
                    refine wpAnyH_take (i := 27) (oi := { dst := some 134, op := Op.binOp BinOp.neq 9 (Operand.tmp 127) (Operand.tmp 133) 9, type := 4, pos := "ref.go:178", after := #[{ on := 20, ground := Ground.data }, { on := 26, ground := Ground.data }, { on := 14, ground := Ground.guard }], guard := some (14, false) }) (v := undef) rfl (by kernel_rfl) (by kernel_rfl) (by kernel_rfl) (fun _ _ _ h => h) (Or.inr ⟨by rfl, rfl⟩) hHeld ?r27
                    try simp only [Act.put, List.setIfInBounds_toArray, List.set_cons_zero, List.set_cons_succ]
                    refine wpAnyH_take (i := 28) (oi := { dst := some 135, op := Op.pick (Operand.tmp 121) (Operand.const (Value.bool true)) (Operand.tmp 134), type := 4, pos := "ref.go:178", after := #[{ on := 14, ground := Ground.data }, { on := 27, ground := Ground.data }], guard := none }) (v := ?v28) rfl (by kernel_rfl) (by kernel_rfl) (by kernel_rfl) (fun _ _ _ h => h) (Or.inl ⟨by rfl, ?y28⟩) hHeld ?r28
                    case y28 => (intro W hSw; (try dsimp only at hSw); go_simp; try with_reducible rfl)
                    try simp only [Act.put, List.setIfInBounds_toArray, List.set_cons_zero, List.set_cons_succ]
                    refine wpAnyH_done (by kernel_rfl) ?_ _
                    have HE := Bx.mk (print_no HY.out (HBE.out.trans (b0.mono HBE.out.size)))
                    clear b0 HC HLw
                    go_wp2_with fail
                    exact bodyPost_ret (v := .tuple #[.slice none 0 0, .int .i64 2]) (by simp [results, Tryd.results13, go_sem]) rfl HE.out
                · obtain rfl : k = i := by omega
                  have heq : fs2 = lowF fs := List.ext_getElem? fun j => by
                    rcases Nat.lt_or_ge j k with h | h
                    · exact H.out.eq j h
                    · rw [List.getElem?_eq_none (by rw [HLS.out]; exact h), List.getElem?_eq_none (by rw [lowF_len, HN.out]; exact h)]
                  have HPr : Bx (prints l fs) := ⟨HPI.out.2 ⟨he, hn2, by first | rfl | trivial, by rw [HLS.out, HN.out], heq⟩⟩
                  have hcv := conv_any s wr
                  rw [hsz] at hcv
                  have hrw := conv_row (pr l fs) wr (by rw [HM.out]; omega)
                  rw [← HS.out, HM.out] at hrw
                  have hcb := conv_below s wr
                  have HE : Bx (PrintTo l fs w (.returned (.tuple #[.slice (some ⟨wr.heap.size, 0, none⟩) M (grownCap wr M 0 5), .int .i64 0])) (Lib.bytesWorld wr 5 s)) := ⟨by
                    refine ⟨fun _ => ⟨_, _, by rw [HM.out], ?_, H.out.be.trans (hcb.mono H.out.be.size)⟩, fun h => absurd HPr.out h⟩
                    rw [HM.out]
                    exact hrw.weak H.out.be.size⟩
                  generalize Lib.bytesWorld wr 5 s = W9 at *
                  generalize grownCap wr M 0 5 = cc9 at *
                  clear hcb hrw heq H he hn2 hlt
                  go_wp2_with fail
                  exact bodyPost_ret (v := .tuple #[.slice (some ⟨wr.heap.size, 0, none⟩) M cc9, .int .i64 0]) (by simp [results, Tryd.results13, go_sem]) rfl HE.out
            · have q4 : ((k : Int) != (n : Int)) = true := by simp; omega
              have HE := Bx.mk (print_no (fun h => hkn (by have := (HPI.out.1 h).2.2.2.1; rw [HK.out, HN.out] at this; exact this)) HBe5.out)
              clear he hn2 hl hkn
              go_wp2_with fail
              exact bodyPost_ret (v := .tuple #[.slice none 0 0, .int .i64 2]) (by simp [results, Tryd.results13, go_sem]) rfl HE.out
          · have q3 := (str_ne hl).1
            have HE := Bx.mk (print_no (fun h => hl (HPI.out.1 h).2.2.1) HBe5.out)
            clear he hn2 hl
            go_wp2_with fail
            exact bodyPost_ret (v := .tuple #[.slice none 0 0, .int .i64 2]) (by simp [results, Tryd.results13, go_sem]) rfl HE.out
        · have q2 : ((n2 : Int) != (M : Int)) = true := by simp; omega
          have HE := Bx.mk (print_no (fun h => hn2 (HPI.out.1 h).2.1) HBe5.out)
          clear he hn2
          go_wp2_with fail
          exact bodyPost_ret (v := .tuple #[.slice none 0 0, .int .i64 2]) (by simp [results, Tryd.results13, go_sem]) rfl HE.out
      · have q1 : ((e2 : Int) != 0) = true := by simp; omega
        have HE := Bx.mk (print_no (fun h => he (HPI.out.1 h).1) HBe5.out)
        clear he
        go_wp2_with fail
        exact bodyPost_ret (v := .tuple #[.slice none 0 0, .int .i64 2]) (by simp [results, Tryd.results13, go_sem]) rfl HE.out
end Go.Proofs.YtkclhfoeimbikaaDoor.hd
