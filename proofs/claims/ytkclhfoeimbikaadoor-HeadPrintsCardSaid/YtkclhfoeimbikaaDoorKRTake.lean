/-
  Given for the seat's laws: the document's Take. No condition but those of the theorem.
-/
import Derived.Test.YtkclhfoeimbikaaDoorKLOnce
import Derived.Test.YtkclhfoeimbikaaDoorKPure5
import Derived.Test.YtkclhfoeimbikaaDoorKRef2
import Derived.Test.YtkclhfoeimbikaaDoorKRef3
import Derived.Deep.DeepCutAuto
import Derived.Deep.CutBlock
namespace Go.Proofs.YtkclhfoeimbikaaDoor.hd
open Go.RowKit mem
set_option linter.unusedVariables false

structure RT (w wr : World) (b sh : Str) (at_ ln : Nat) (l : Str) (fs : Flds) (n : Nat) (A2 : Option Addr) (c2 : Nat) : Prop where
  res : Lies wr w.heap.size 25 #[.string ⟨#[]⟩, .slice none 0 0]
  hd : Lies wr (w.heap.size + 1) 25 #[.string (S l), .slice A2 n c2]
  row : RowF wr w.heap.size (.slice A2 n c2) fs
  hn : fs.length = n
  be : Below w.heap.size w wr
  bnd : at_ ≤ sh.length
  pl : Pl b (sh.drop at_) at_ ln l fs
theorem rt_start (w : World) (b : Str) : RT w ((w.alloc (.cells #[.string ⟨#[]⟩, .slice none 0 0] 25)).alloc (.cells #[.string ⟨#[]⟩, .slice none 0 0] 25)) b (b.take 512) 0 0 [] [] 0 none 0 := by
  have h1 := Lies.new w 25 #[.string ⟨#[]⟩, .slice none 0 0]
  have h2 := Lies.new (w.alloc (.cells #[.string ⟨#[]⟩, .slice none 0 0] 25)) 25 #[.string (S []), .slice none (0 : Nat) 0]
  have z1 : (w.alloc (.cells #[.string ⟨#[]⟩, .slice none 0 0] 25)).heap.size = w.heap.size + 1 := by simp
  rw [z1] at h2
  exact ⟨h1.alloc _, h2, rowF_nil _ _, rfl, ((Below.refl _ _).alloc (Nat.le_refl _) _).alloc (by simp) _, Nat.zero_le _, .inl ⟨rfl, rfl, rfl, take_gs b⟩⟩
theorem rresults {W : World} {h : Nat} {x y : Value} (c0 : W.cell? ⟨h, 0, none⟩ = some x) (c1 : W.cell? ⟨h, 1, none⟩ = some y) (tmps : Array Value) (h2 : tmps[2]?.getD undef = .pointer (some ⟨h, 0, none⟩)) {v3 v4 : Value} (h3 : tmps[3]?.getD undef = v3) (h4 : tmps[4]?.getD undef = v4) :
    (results Tryd.f10 tmps).run Tryd.prog W = .ok (.tuple #[.agg #[x, y], v3, v4]) W := by
  simp [results, Tryd.results10, go_sem, h2, h3, h4, c0, c1]
section
variable {w wr : World} {b sh : Str} {at_ ln : Nat} {l : Str} {fs : Flds} {n : Nat} {A2 : Option Addr} {c2 : Nat}
theorem RT.err (H : RT w wr b sh at_ ln l fs n A2 c2) {e : Nat} (he : take b = ([], [], 0, e)) :
    TakeTo (take b) w (.returned (.tuple #[.agg #[.string ⟨#[]⟩, .slice none 0 0], .int .i64 0, .int .i64 (e : Int)])) ((wr.setCell ⟨w.heap.size, 0, none⟩ (.string ⟨#[]⟩)).setCell ⟨w.heap.size, 1, none⟩ (.slice none 0 0)) := by
  rw [he]
  exact ⟨.slice none 0 0, rfl, rowF_nil _ _, (H.be.setCell (by simp) _).setCell (by simp) _⟩
theorem RT.done (H : RT w wr b sh at_ ln l fs n A2 c2) {k : Nat} (he : take b = (l, fs, k, 0)) :
    TakeTo (take b) w (.returned (.tuple #[.agg #[.string (S l), .slice A2 n c2], .int .i64 (k : Int), .int .i64 0])) ((wr.setCell ⟨w.heap.size, 0, none⟩ (.string (S l))).setCell ⟨w.heap.size, 1, none⟩ (.slice A2 n c2)) := by
  rw [he]
  refine ⟨.slice A2 n c2, rfl, ?_, (H.be.setCell (by simp) _).setCell (by simp) _⟩
  have ne : ∀ k, (Value.slice A2 n c2).ownBlock = some k → k ≠ w.heap.size := by
    rintro k hk2 rfl
    exact rown_ne H.row H.res (by decide) hk2
  exact rown_same (rown_same H.row fun k hk2 => Below.heap_setCell _ _ _ _ (ne k hk2)) fun k hk2 => Below.heap_setCell _ _ _ _ (ne k hk2)
theorem RT.line (H : RT w wr b sh at_ ln l fs n A2 c2) {at2 ln2 : Nat} {l2 : Str} (ha : at2 ≤ sh.length) (hp : Pl b (sh.drop at2) at2 ln2 l2 fs) : RT w (wr.setCell ⟨w.heap.size + 1, 0, none⟩ (.string (S l2))) b sh at2 ln2 l2 fs n A2 c2 := by
  refine ⟨H.res.far (p := ⟨w.heap.size + 1, 0, none⟩) (by show w.heap.size ≠ w.heap.size + 1; omega) _, H.hd.set 0 _, ?_, H.hn, H.be.setCell (p := ⟨w.heap.size + 1, 0, none⟩) (by show w.heap.size ≤ w.heap.size + 1; omega) _, ha, hp⟩
  exact rown_same H.row fun g hg => Below.heap_setCell _ _ _ _ fun e => rown_ne H.row H.hd (by decide) (by rw [hg]; exact congrArg some e)
theorem RT.field (H : RT w wr b sh at_ ln l fs n A2 c2) {w3 : World} (h3 : Below wr.heap.size wr w3) (p : Str × Str) (hi : n ≤ 1000) {at2 ln2 : Nat} (ha : at2 ≤ sh.length) (hp : Pl b (sh.drop at2) at2 ln2 l (fs ++ [p])) :
    ∃ A3 c3 W4, (Builtin.append_ #[23, 23] 23 #[.slice A2 n c2, .slice (some ⟨w3.heap.size, 0, none⟩) 1 1]).run Tryd.prog (w3.alloc (.cells #[.string (S p.1), .string (S p.2)] 49)) = .ok (.slice A3 (n + 1 : Nat) c3) W4 ∧
      W4.cell? ⟨w.heap.size + 1, 1, none⟩ = some (.slice A2 n c2) ∧ W4.frozen? ⟨w.heap.size + 1, 1, none⟩ = false ∧ RT w (W4.setCell ⟨w.heap.size + 1, 1, none⟩ (.slice A3 (n + 1 : Nat) c3)) b sh at2 ln2 l (fs ++ [p]) (n + 1) A3 c3 := by
  have hm3 := H.hd.below h3 H.hd.lt
  have hf3 := rown_same H.row fun g hg => h3.block g (rown_lt H.row hg).2
  have hr3 := H.res.below h3 H.res.lt
  have hB : w.heap.size ≤ w3.heap.size := by have := hr3.lt; omega
  obtain ⟨A3, c3, W4, hrun, ho, hk⟩ := pushF hf3 H.hn hB p (by omega)
  have ne : ∀ {g : Nat} {cs : Array Value}, Lies w3 g 25 cs → (Value.slice A2 n c2).ownBlock ≠ some g := fun h => rown_ne hf3 h (by decide)
  have hm4 : Lies W4 (w.heap.size + 1) 25 #[.string (S l), .slice A2 n c2] := hm3.of_same (hk.block _ hm3.lt (ne hm3))
  have hr4 : Lies W4 w.heap.size 25 #[.string ⟨#[]⟩, .slice none 0 0] := hr3.of_same (hk.block _ hr3.lt (ne hr3))
  have hb4 : Below w.heap.size w W4 := (H.be.trans (h3.mono H.be.size)).trans (hk.below hB fun k h1 h2 => by have := (rown_lt hf3 h2).1; omega)
  refine ⟨A3, c3, W4, hrun, hm4.cell 1, hm4.frozen 1, hr4.far (p := ⟨w.heap.size + 1, 1, none⟩) (by show w.heap.size ≠ w.heap.size + 1; omega) _, hm4.set 1 _, ?_, by simp [H.hn], hb4.setCell (p := ⟨w.heap.size + 1, 1, none⟩) (by show w.heap.size ≤ w.heap.size + 1; omega) _, ha, hp⟩
  exact rown_same ho fun g hg => Below.heap_setCell _ _ _ _ fun e => rown_ne ho hm4 (by decide) (by rw [hg]; exact congrArg some e)
end
theorem ns_three {q : Str} {ln E : Nat} {t : ByteArray} (h : Ns q ln) (ht : t = S (lineOf q)) (hE : (lineOf q).length = E) :
    (((ln : Int) == 17) = false) ∨ (((ln : Int) == 17) = true ∧ ¬ (0 : Int) < (E : Int)) ∨ (((ln : Int) == 17) = true ∧ (0 : Int) < (E : Int) ∧ ∀ W, (Instr.index 9 (.string t) (.int .i64 0)).run Tryd.prog W = .ok (.int .u8 13) W) := by
  rcases h with h | ⟨h, e⟩ | ⟨h, r, e⟩
  · exact .inl (by rw [beq_eq_false_iff_ne]; omega)
  · refine .inr (.inl ⟨by simp [h], ?_⟩)
    rw [e] at hE
    simp [lineOf] at hE
    omega
  · refine .inr (.inr ⟨by simp [h], ?_, ?_⟩)
    · rw [e] at hE
      simp [lineOf] at hE
      omega
    · exact str_at ht 0 13 (by rw [e]; simp [lineOf])
set_option maxHeartbeats 16000000 in
set_option maxRecDepth 100000 in
theorem rtake_any {w : World} {ok : Nat → Prop} {A : Option Addr} {n c : Nat} {b : Str} (hs : Spell w ok A n c b) (hok : ∀ g, ok g → g < w.heap.size) (hn5 : n ≤ 100000) : Calls Tryd.prog 10 #[.slice A n c] w (TakeTo (take b) w) := by
  have hbl := spell_len hs
  obtain ⟨sh, hsh⟩ : ∃ sh, b.take 512 = sh := ⟨_, rfl⟩
  obtain ⟨m, hm⟩ : ∃ m, sh.length = m := ⟨_, rfl⟩
  have hmn : (512 < n ∧ m = 512) ∨ (¬ 512 < n ∧ m = n) := by rw [← hm, ← hsh, List.length_take]; omega
  have hss : Spell w ok A m c sh := by
    have := take_spell hs (show m ≤ n by omega)
    have e : b.take m = sh := by
      rcases hmn with ⟨h1, h2⟩ | ⟨h1, h2⟩
      · rw [h2, hsh]
      · rw [← hsh, List.take_of_length_le (show b.length ≤ 512 by omega), List.take_of_length_le (by omega)]
    rwa [e] at this
  have h0 := rt_start w b
  rw [hsh] at h0
  have HSS := Bx.mk hss
  have HOK := Bx.mk hok
  have H0 := Bx.mk h0
  have HM := Bx.mk hm
  have hm5 : m ≤ 512 := by omega
  have n0 : (0 : Int) ≤ (n : Int) := by omega
  have hto : ∀ V, 512 < n → (Instr.slice 22 (.slice A n c) none (some (.int .i64 512)) none).run Tryd.prog V = .ok (.slice A 512 c) V := fun V h => by
    have hcap := hs.cap
    obtain ⟨i0, hi, hz0, hz1, hz2⟩ := info_parts (show (Tryd.prog.info? 5).map (fun i => (i.zero, i.size, i.bytes)) = some (some (.int .u8 0), 1, 1) by kernel_rfl)
    rw [run_slice_h V 22 _ n c (by kernel_rfl) .i64 _ (by omega) (by omega)]
    have he : Tryd.prog.elem 22 = 5 := by kernel_rfl
    rw [he]
    have hs : (sizeOf 5).run Tryd.prog V = .ok 1 V := by simp [sizeOf, typeInfo, hi, hz1]
    rw [hs]
    simp only [Result.andThen, sliced]
    cases A <;> simp [Addr.add]
  clear hs hok hsh hss h0 hm hbl
  rcases hmn with ⟨h1, h2⟩ | ⟨h1, h2⟩
  · first
      | (have hto5 : ∀ V, (Instr.slice 22 (.slice A n c) none (some (.int .i64 512)) none).run Tryd.prog V = .ok (.slice A 512 c) V := fun V => hto V h1
         have i5 : (512 : Int) < (n : Int) := by omega)
      | (have i5 : ¬ (512 : Int) < (n : Int) := by omega)
    have HMN := Bx.mk h2
    clear h1 h2 hto
    go_enter Tryd.func10, Tryd.ntmps10
    go_upto_region 2 with fail
    generalize ((w.alloc (.cells #[.string ⟨#[]⟩, .slice none 0 0] 25)).alloc (.cells #[.string ⟨#[]⟩, .slice none 0 0] 25)) = W0 at *
    go_wp2_with fail
    first | rw [show Value.slice A 512 c = Value.slice A m c by rw [HMN.out]] | rw [show Value.slice A n c = Value.slice A m c by rw [HMN.out]]
    go_loopw [6, 7] (fun s6 s7 wr => ∃ (at_ ln : Nat) (l : Str) (fs : Flds) (k : Nat) (A2 : Option Addr) (c2 : Nat), s6 = .int .i64 (at_ : Int) ∧ s7 = .int .i64 (ln : Int) ∧ Bx (RT w wr b sh at_ ln l fs k A2 c2)) (fun s6 _ _ => m - (intOf s6).toNat)
    case atStart => exact ⟨0, 0, [], [], 0, none, 0, rfl, rfl, H0⟩
    case round =>
      clear H0
      obtain ⟨at_, ln, l, fs, k, A2, c2, rfl, rfl, H⟩ := hrel
      have hat : at_ ≤ m := by have := H.out.bnd; rw [HM.out] at this; exact this
      obtain ⟨q, hq⟩ : ∃ q, sh.drop at_ = q := ⟨_, rfl⟩
      obtain ⟨K, hK⟩ : ∃ K, m - at_ = K := ⟨_, rfl⟩
      have hqK : q.length = K := by rw [← hq, List.length_drop, HM.out, hK]
      have hmK1 : m ≤ at_ + K := by omega
      have hmK2 : at_ + K ≤ m := by omega
      have a0 : (0 : Int) ≤ (at_ : Int) := by omega
      have hsl0 : ∀ V, (Instr.slice 22 (.slice A m c) (some (.int .i64 (at_ : Int))) none none).run Tryd.prog V = .ok (.slice (cutA A c at_) K (c - at_)) V := fun V => by
        have := cut_l V A m c at_ hat
        rwa [hK] at this
      obtain ⟨s, hs⟩ : ∃ s, s = S q := ⟨_, rfl⟩
      have hcv : (convert 22 9 (.slice (cutA A c at_) K (c - at_))).run Tryd.prog wr = .ok (.string s) wr := by
        have h1 := (HSS.out.below H.out.be HOK.out).cut at_ K (by omega)
        rw [ints_drop, ints_take, hq, List.take_of_length_le (by omega)] at h1
        rw [hs]
        exact spell_str h1
      have hsz : s.size = K := by rw [hs, S_size, hqK]
      obtain ⟨E, hE⟩ : ∃ E, (lineOf q).length = E := ⟨_, rfl⟩
      have hEK : E ≤ K := by rw [← hE, ← hqK]; exact line_len q
      have HSQ := Bx.mk hs
      have HQ := Bx.mk hq
      have HQK := Bx.mk hqK
      have HE := Bx.mk hE
      clear hs hq hqK hE hK
      go_upto_block 2 with fail
      clear hsl0 hcv
      go_cut [10, 11] from 24 to 134 (fun s10 s11 wx => s10 = .int .i64 (E : Int) ∧ wx = wr)
      case first =>
        go_wp2_with fail
        go_loopw [10, 11] (fun s10 s11 wv => ∃ i : Nat, i ≤ K ∧ s10 = .int .i64 (K : Int) ∧ s11 = .int .i64 (i : Int) ∧ wv = wr ∧ Bx (∀ j, j < i → q[j]? ≠ some 13)) (fun _ s11 _ => K - (intOf s11).toNat)
        case atStart => exact ⟨0, by omega, rfl, rfl, rfl, ⟨fun j hj => by omega⟩⟩
        case round =>
          obtain ⟨i, hi, rfl, rfl, hwv, HJ⟩ := hrel
          replace hwv := hwv.symm
          subst hwv
          by_cases hlt : i < K
          · obtain ⟨x, hx⟩ : ∃ x, q[i]? = some x := ⟨_, List.getElem?_eq_getElem (by rw [HQK.out]; exact hlt)⟩
            have hix := str_at HSQ.out i x hx
            have i0 : (0 : Int) ≤ (i : Int) := by omega
            have i1 : (i : Int) < (K : Int) := by omega
            have hw1 : IntKind.i64.wrap ((i : Int) + 1) = ((i + 1 : Nat) : Int) := by rw [IntWalk.i64_in _ (by omega)]; omega
            by_cases h13 : x = 13
            · subst h13
              have hEi : E = i + 1 := by rw [← HE.out]; exact line_first HJ.out hx
              clear hx HJ
              go_wp2_with fail
              go_meet
              exact ⟨by rw [hEi]; first | rfl | simp, rfl⟩
            · have e13 : ((x.toNat : Int) == 13) = false := (ne_int (y := 13) h13).1
              have HJ2 : Bx (∀ j, j < i + 1 → q[j]? ≠ some 13) := ⟨fun j hj => by
                rcases (show j < i ∨ j = i by omega) with h | h
                · exact HJ.out j h
                · rw [h, hx]; exact fun e => h13 (Option.some.inj e)⟩
              clear hx h13 HJ
              go_wp2_with fail
              go_roundw
              case rel => exact ⟨i + 1, by omega, rfl, by go_num, trivial, HJ2⟩
              case measure => simp [intOf]; omega
          · obtain rfl : i = K := by omega
            have hEi : E = i := by rw [← HE.out, lineOf_all (fun j hj => HJ.out j (by rw [HQK.out] at hj; exact hj)), HQK.out]
            clear HJ
            go_wp2_with fail
            go_meet
            exact ⟨by rw [hEi], rfl⟩
      case rest =>
        obtain ⟨rfl, hwc⟩ := hcut
        replace hwc := hwc.symm
        subst hwc
        obtain ⟨t, ht⟩ : ∃ t, t = S (lineOf q) := ⟨_, rfl⟩
        have hstr : ∀ W, (Instr.slice 9 (.string s) none (some (.int .i64 (E : Int))) none).run Tryd.prog W = .ok (.string t) W := fun W => by
          have := str_to q E (by rw [HQK.out]; exact hEK) W
          rw [← HE.out, ← line_take q, HE.out] at this
          rw [HSQ.out, ht]
          exact this
        have htz : t.size = E := by rw [ht, S_size, HE.out]
        obtain ⟨fl, hfl⟩ : ∃ fl, (ln == 0) = fl := ⟨_, rfl⟩
        have hfl2 : ((ln : Int) == 0) = fl := by
          rw [← hfl]
          by_cases h : ln = 0
          · simp [h]
          · rw [beq_eq_false_iff_ne.2 h, beq_eq_false_iff_ne]; omega
        have hP := Rpart_any (lineOf q) fl (by rw [HE.out]; omega) wr
        rw [← ht] at hP
        have hev := line_all H.out.pl
        rw [HQ.out] at hev
        unfold Ev at hev
        rw [hfl] at hev
        have l0 := H.out.res.cell 0; have l1 := H.out.res.cell 1; have f0 := H.out.res.frozen 0; have f1 := H.out.res.frozen 1
        simp at l0 l1
        have HT := Bx.mk ht
        clear ht
        rcases hev with ⟨hp, h17, he⟩ | ⟨x, r, hq, hx, h17, he⟩ | ⟨hp, hl, hns, he⟩ | ⟨u, x, v, hq, hl, hp, hns, hx⟩
        · rw [hp] at hP
          have HP := Bx.mk hP
          have q17 : ((ln : Int) == 17) = false := by rw [beq_eq_false_iff_ne]; omega
          have HF := Bx.mk (H.out.err he)
          clear hp h17 he hP HQ H
          go_wp2_with fail
          refine HP.out.mono ?_
          rintro e2 w2 ⟨rfl, hw2⟩
          replace hw2 := hw2.symm
          subst hw2
          go_wp2_with fail
          exact bodyPost_ret (rresults (by simp [go_sem, l0]) (by simp [go_sem, l1]) _ rfl rfl rfl) rfl HF.out
        · have q17 : ((ln : Int) == 17) = true := by simp [h17]
          have hE1 : (0 : Int) < (E : Int) := by rw [← HE.out, hq]; simp [lineOf, hx]
          have hix0 : ∀ W, (Instr.index 9 (.string t) (.int .i64 0)).run Tryd.prog W = .ok (.int .u8 (x.toNat : Int)) W := str_at HT.out 0 x (by rw [hq]; simp [lineOf, hx])
          have hx13 : ((x.toNat : Int) != 13) = true := (ne_int (y := 13) hx).2
          have hSg := RSign_any x wr
          generalize partP fl false 0 (lineOf q) = p at hP
          obtain ⟨p1, p2⟩ := p
          have HP := Bx.mk hP
          generalize (x.toNat : Int) = z at *
          cases hsx : sgn x with
          | true =>
            rw [hsx] at hSg he
            have HSg := Bx.mk hSg
            have HF := Bx.mk (H.out.err he)
            clear hq hx h17 he hP HQ H hSg hsx
            go_wp2_with fail
            refine HP.out.mono ?_
            rintro e2 w2 ⟨rfl, hw2⟩
            replace hw2 := hw2.symm
            subst hw2
            go_wp2_with fail
            refine HSg.out.mono ?_
            rintro e2 w2 ⟨rfl, hw2⟩
            replace hw2 := hw2.symm
            subst hw2
            go_wp2_with fail
            exact bodyPost_ret (rresults (by simp [go_sem, l0]) (by simp [go_sem, l1]) _ rfl rfl rfl) rfl HF.out
          | false =>
            rw [hsx] at hSg he
            have HSg := Bx.mk hSg
            have HF := Bx.mk (H.out.err he)
            clear hq hx h17 he hP HQ H hSg hsx
            go_wp2_with fail
            refine HP.out.mono ?_
            rintro e2 w2 ⟨rfl, hw2⟩
            replace hw2 := hw2.symm
            subst hw2
            go_wp2_with fail
            refine HSg.out.mono ?_
            rintro e2 w2 ⟨rfl, hw2⟩
            replace hw2 := hw2.symm
            subst hw2
            go_wp2_with fail
            exact bodyPost_ret (rresults (by simp [go_sem, l0]) (by simp [go_sem, l1]) _ rfl rfl rfl) rfl HF.out
        · have qEK : ((E : Int) == (K : Int)) = true := by
            have : E = K := by rw [← HE.out, hl, HQK.out]
            simp [this]
          rw [HQK.out, show at_ + K = m by omega] at he
          have h3 := ns_three hns HT.out HE.out
          by_cases h512 : m = 512
          · have he3 : take b = ([], [], 0, 3) := by rw [he]; simp [fin, h512]
            have q5 : ((m : Int) == 512) = true := by simp [h512]
            have HF := Bx.mk (H.out.err he3)
            clear hl hns he HQ H h512 he3
            rcases hp with hp | hp
            all_goals
              rw [hp] at hP
              have HP := Bx.mk hP
              clear hP hp
              rcases h3 with q17 | ⟨q17, hE1⟩ | ⟨q17, hE1, hix0⟩
              all_goals
                go_wp2_with fail
                refine HP.out.mono ?_
                rintro e2 w2 ⟨rfl, hw2⟩
                replace hw2 := hw2.symm
                subst hw2
                go_wp2_with fail
                exact bodyPost_ret (rresults (by simp [go_sem, l0]) (by simp [go_sem, l1]) _ rfl rfl rfl) rfl HF.out
          · have he3 : take b = ([], [], 0, 5) := by rw [he]; simp [fin, h512]
            have q5 : ((m : Int) == 512) = false := by rw [beq_eq_false_iff_ne]; omega
            have HF := Bx.mk (H.out.err he3)
            clear hl hns he HQ H h512 he3
            rcases hp with hp | hp
            all_goals
              rw [hp] at hP
              have HP := Bx.mk hP
              clear hP hp
              rcases h3 with q17 | ⟨q17, hE1⟩ | ⟨q17, hE1, hix0⟩
              all_goals
                go_wp2_with fail
                refine HP.out.mono ?_
                rintro e2 w2 ⟨rfl, hw2⟩
                replace hw2 := hw2.symm
                subst hw2
                go_wp2_with fail
                exact bodyPost_ret (rresults (by simp [go_sem, l0]) (by simp [go_sem, l1]) _ rfl rfl rfl) rfl HF.out
        · rw [hp] at hP
          have HP := Bx.mk hP
          have h3 := ns_three hns HT.out HE.out
          obtain ⟨U, hU⟩ : ∃ U, u.length = U := ⟨_, rfl⟩
          have hEU : E = U + 1 := by rw [← HE.out, hl]; simp [hU]
          have hKU : U + 2 + v.length = K := by rw [← HQK.out, hq]; simp [hU]; omega
          have qEK : ((E : Int) == (K : Int)) = false := by rw [beq_eq_false_iff_ne]; omega
          have hixE := str_at HSQ.out E x (by rw [hq, List.getElem?_append_right (by omega), hU, show E - U = 1 by omega]; rfl)
          have e0 : (0 : Int) ≤ (E : Int) := by omega
          have e1 : (E : Int) < (K : Int) := by omega
          have hv : sh.drop (at_ + U + 2) = v := by
            have : sh.drop (at_ + U + 2) = (sh.drop at_).drop (U + 2) := by rw [List.drop_drop]; congr 1
            rw [this, HQ.out, hq, show u ++ 13 :: x :: v = (u ++ [13, x]) ++ v by simp, List.drop_left' (by simp [hU])]
          have hKU1 : U + 2 ≤ K := by omega
          have hEU1 : E ≤ U + 1 := by omega
          have hEU2 : U + 1 ≤ E := by omega
          have h3 := h3.imp_right fun h => h.elim (fun h => absurd (show (0 : Int) < (E : Int) by omega) h.2) id
          clear hns hp hP hEU hKU
          rcases hx with ⟨hx, he⟩ | ⟨rfl, hfin⟩
          · have hx10 : ((x.toNat : Int) != 10) = true := (ne_int (y := 10) hx).2
            have HF := Bx.mk (H.out.err he)
            generalize (x.toNat : Int) = z at *
            clear hq hl hU hv hx he HQ H
            rcases h3 with q17 | ⟨q17, hE1, hix0⟩
            all_goals
              go_wp2_with fail
              refine HP.out.mono ?_
              rintro e2 w2 ⟨rfl, hw2⟩
              replace hw2 := hw2.symm
              subst hw2
              go_wp2_with fail
              exact bodyPost_ret (rresults (by simp [go_sem, l0]) (by simp [go_sem, l1]) _ rfl rfl rfl) rfl HF.out
          · have hwa : IntKind.i64.wrap ((at_ : Int) + (E : Int)) = (at_ : Int) + (E : Int) := IntWalk.i64_in _ (by omega)
            have hwb : IntKind.i64.wrap ((at_ : Int) + (E : Int) + 1) = ((at_ + U + 2 : Nat) : Int) := by rw [IntWalk.i64_in _ (by omega)]; omega
            have hme : (E : Int) - 1 = (U : Int) := by omega
            have hw0 : IntKind.i64.wrap (U : Int) = (U : Int) := IntWalk.i64_in _ (by omega)
            obtain ⟨xx, hxx⟩ : ∃ xx, xx = S u := ⟨_, rfl⟩
            have hsl : ∀ W, (Instr.slice 9 (.string t) none (some (.int .i64 (U : Int))) none).run Tryd.prog W = .ok (.string xx) W := fun W => by
              have := str_to (lineOf q) U (by rw [HE.out]; omega) W
              rw [show (lineOf q).take U = u by rw [hl, List.take_left' hU]] at this
              rw [HT.out, hxx]
              exact this
            have hat2 : at_ + U + 2 ≤ sh.length := by rw [HM.out]; omega
            have hwl : IntKind.i64.wrap ((ln : Int) + 1) = ((ln + 1 : Nat) : Int) := by
              have : ln ≤ 17 := by
                rcases H.out.pl with ⟨h, _⟩ | ⟨h, h2, _⟩ <;> omega
              rw [IntWalk.i64_in _ (by omega)]; omega
            unfold Fin2 at hfin
            rw [hU] at hfin
            have d0 := H.out.hd.cell 0; have d1 := H.out.hd.cell 1; have g0 := H.out.hd.frozen 0
            simp at d0 d1
            have HV := Bx.mk hv
            have HXX := Bx.mk hxx
            have HU := Bx.mk hU
            clear hq hl hv hxx hU HQ
            rcases hfin with ⟨hz, hf, hpl⟩ | ⟨hz, hu, he⟩ | ⟨hz, h17, k2, val, hu, hk2, hf16, hpl⟩
            · have hln : ¬ (0 : Int) < (ln : Int) := by omega
              have hfl1 : fl = true := by rw [← hfl, hz]; rfl
              have hln1 : ln + 1 = 1 := by omega
              subst hfl1
              rw [hf] at H
              have HN : Bx (RT w (wr.setCell ⟨w.heap.size + 1, 0, none⟩ (.string xx)) b sh (at_ + U + 2) (ln + 1) u [] k A2 c2) := ⟨by
                rw [HXX.out, hln1]
                exact H.out.line hat2 (by rw [HV.out]; exact hpl)⟩
              clear H hf hpl hz hln1 hfl
              rcases h3 with q17 | ⟨q17, hE1, hix0⟩
              all_goals
                go_wp2_with fail
                refine HP.out.mono ?_
                rintro e2 w2 ⟨rfl, hw2⟩
                replace hw2 := hw2.symm
                subst hw2
                go_wp2_with fail
                go_roundw
                case rel => exact ⟨at_ + U + 2, ln + 1, u, [], k, A2, c2, by go_num, by go_num, HN⟩
                case measure => simp [intOf]; omega
            · have hln : (0 : Int) < (ln : Int) := by omega
              have hem : xx.toList.isEmpty = true := by rw [HXX.out, empty_iff, S_list]; exact decide_eq_true hu
              have hfl1 : fl = false := by rw [← hfl]; exact beq_eq_false_iff_ne.2 (by omega)
              subst hfl1
              have HF := Bx.mk (H.out.done he)
              clear H hu he hz hfl
              rcases h3 with q17 | ⟨q17, hE1, hix0⟩
              all_goals
                go_wp2_with fail
                refine HP.out.mono ?_
                rintro e2 w2 ⟨rfl, hw2⟩
                replace hw2 := hw2.symm
                subst hw2
                go_wp2_with fail
                exact bodyPost_ret (rresults (by simp [go_sem, l0]) (by simp [go_sem, l1]) _ rfl rfl rfl) rfl HF.out
            · have hln : (0 : Int) < (ln : Int) := by omega
              have q17 : ((ln : Int) == 17) = false := by rw [beq_eq_false_iff_ne]; omega
              have hem : xx.toList.isEmpty = false := by rw [HXX.out, empty_iff, S_list]; exact decide_eq_false (by rw [hu]; simp)
              have hfl1 : fl = false := by rw [← hfl]; exact beq_eq_false_iff_ne.2 (by omega)
              subst hfl1
              obtain ⟨k3, hk3⟩ : ∃ k3, k2.length = k3 := ⟨_, rfl⟩
              have hUk : k3 + 1 + val.length ≤ U := by rw [← HU.out, hu]; simp [hk3]; omega
              have hxxz : xx.size = U := by rw [HXX.out, S_size, HU.out]
              have hb : ∀ i, i < k3 → ∃ y, u[i]? = some y ∧ y ≠ 58 := fun i hi => by
                refine ⟨k2[i]'(by omega), ?_, fun e => hk2 (by rw [← e]; exact List.getElem_mem _)⟩
                rw [hu, List.getElem?_append_left (by omega), List.getElem?_eq_getElem (by omega)]
              have he8 : u[k3]? = some 58 := by rw [hu, List.getElem?_append_right (by omega), hk3]; simp
              have HBY := Bx.mk hb
              have hi8 := str_at HXX.out k3 58 he8
              have hslk : ∀ W, (Instr.slice 9 (.string xx) none (some (.int .i64 (k3 : Int))) none).run Tryd.prog W = .ok (.string (S k2)) W := fun W => by
                have := str_to u k3 (by rw [HU.out]; omega) W
                rw [show u.take k3 = k2 by rw [hu, List.take_left' hk3]] at this
                rw [HXX.out]
                exact this
              have hslv : ∀ W, (Instr.slice 9 (.string xx) (some (.int .i64 ((k3 : Int) + 1))) none none).run Tryd.prog W = .ok (.string (S val)) W := fun W => by
                rw [show ((k3 : Int) + 1) = ((k3 + 1 : Nat) : Int) by omega]
                have := str_from u (k3 + 1) (by rw [HU.out]; omega) W
                rw [show u.drop (k3 + 1) = val by rw [hu, show k2 ++ 58 :: val = (k2 ++ [58]) ++ val by simp, List.drop_left' (by simp [hk3])]] at this
                rw [HXX.out]
                exact this
              have hwk : IntKind.i64.wrap ((k3 : Int) + 1) = (k3 : Int) + 1 := IntWalk.i64_in _ (by omega)
              have HLw := Bx.mk (RLower_any k2 (by omega))
              have HTr := Bx.mk (Rtrim_any val (by omega))
              have HPL : Bx (Pl b (sh.drop (at_ + U + 2)) (at_ + U + 2) (ln + 1) l (fs ++ [(low k2, trim val)])) := ⟨by rw [HV.out]; exact hpl⟩
              have HAT := Bx.mk hat2
              have hkk : k ≤ 1000 := by have := H.out.hn; omega
              clear hu hk2 hpl hb he8 hfl h17 hz h3 hf16 hat2 hk3
              go_wp2_with fail
              refine HP.out.mono ?_
              rintro e2 w2 ⟨rfl, hw2⟩
              replace hw2 := hw2.symm
              subst hw2
              go_wp2_with fail
              go_loopw [16] (fun s16 wv => ∃ i : Nat, i ≤ k3 ∧ s16 = .int .i64 (i : Int) ∧ wv = wr) (fun s16 _ => k3 - (intOf s16).toNat)
              case atStart => exact ⟨0, by omega, rfl, rfl⟩
              case round =>
                obtain ⟨i, hi, rfl, hwv⟩ := hrel
                replace hwv := hwv.symm
                subst hwv
                have i0 : (0 : Int) ≤ (i : Int) := by omega
                have i1 : (i : Int) < (U : Int) := by omega
                by_cases hlt : i < k3
                · obtain ⟨y, hy, hy8⟩ := HBY.out i hlt
                  have hix := str_at HXX.out i y hy
                  have hy2 : ((y.toNat : Int) != 58) = true := (ne_int (y := 58) hy8).2
                  have hw1 : IntKind.i64.wrap ((i : Int) + 1) = ((i + 1 : Nat) : Int) := by rw [IntWalk.i64_in _ (by omega)]; omega
                  generalize (y.toNat : Int) = z at *
                  clear hy hy8
                  go_wp2_with fail
                  go_roundw
                  case rel => exact ⟨i + 1, by omega, by go_num, trivial⟩
                  case measure => simp [intOf]; omega
                · obtain rfl : i = k3 := by omega
                  have b0 : Below wr.heap.size wr wr.drew := (Below.refl _ _).drew
                  have hgm := H.out.hd.lt
                  have HVv : Bx (∀ W', Below wr.heap.size wr W' → W'.cell? ⟨w.heap.size + 1, 1, none⟩ = some (.slice A2 k c2)) := ⟨fun W' hb => cell_kept d1 hb⟩
                  go_wp2_with fail
                  go_upto_region 36 with fail
                  refine wp_region_held_drew (S := fun W' => True) (by kernel_rfl) (trivial) (fun hHeld => ?_)
                  refine wpAnyH_take (i := 0) (oi := { dst := some 118, op := Op.fieldAddr 25 (Operand.tmp 5) 1, type := 0, pos := "ref.go:145", after := #[], guard := none }) (v := ?v1) rfl (by kernel_rfl) (by kernel_rfl) (by kernel_rfl) (fun _ _ _ h => h) (Or.inl ⟨by rfl, ?y1⟩) hHeld ?r1
                  case y1 => (intro W hSw; (try dsimp only at hSw); go_simp; try with_reducible rfl)
                  try simp only [Act.put, List.setIfInBounds_toArray, List.set_cons_zero, List.set_cons_succ]
                  refine wpAnyH_take (i := 2) (oi := { dst := some 120, op := Op.move (Operand.tmp 15), type := 9, pos := "ref.go:145", after := #[], guard := none }) (v := ?v2) rfl (by kernel_rfl) (by kernel_rfl) (by kernel_rfl) (fun _ _ _ h => h) (Or.inl ⟨by rfl, ?y2⟩) hHeld ?r2
                  case y2 => (intro W hSw; (try dsimp only at hSw); go_simp; try with_reducible rfl)
                  try simp only [Act.put, List.setIfInBounds_toArray, List.set_cons_zero, List.set_cons_succ]
                  refine wpAnyH_take (i := 3) (oi := { dst := some 121, op := Op.move (Operand.tmp 16), type := 3, pos := "ref.go:145", after := #[], guard := none }) (v := ?v3) rfl (by kernel_rfl) (by kernel_rfl) (by kernel_rfl) (fun _ _ _ h => h) (Or.inl ⟨by rfl, ?y3⟩) hHeld ?r3
                  case y3 => (intro W hSw; (try dsimp only at hSw); go_simp; try with_reducible rfl)
                  try simp only [Act.put, List.setIfInBounds_toArray, List.set_cons_zero, List.set_cons_succ]
                  refine wpAnyH_take (i := 4) (oi := { dst := some 122, op := Op.slice 9 (Operand.tmp 120) none (some (Operand.tmp 121)) none, type := 9, pos := "ref.go:145", after := #[{ on := 2, ground := Ground.data }, { on := 3, ground := Ground.data }], guard := none }) (v := ?v4) rfl (by kernel_rfl) (by kernel_rfl) (by kernel_rfl) (fun _ _ _ h => h) (Or.inl ⟨by rfl, ?y4⟩) hHeld ?r4
                  case y4 => (intro W hSw; (try dsimp only at hSw); go_simp; try with_reducible rfl)
                  try simp only [Act.put, List.setIfInBounds_toArray, List.set_cons_zero, List.set_cons_succ]
                  refine wpAnyH_take (i := 6) (oi := { dst := some 124, op := Op.move (Operand.tmp 15), type := 9, pos := "ref.go:145", after := #[], guard := none }) (v := ?v5) rfl (by kernel_rfl) (by kernel_rfl) (by kernel_rfl) (fun _ _ _ h => h) (Or.inl ⟨by rfl, ?y5⟩) hHeld ?r5
                  case y5 => (intro W hSw; (try dsimp only at hSw); go_simp; try with_reducible rfl)
                  try simp only [Act.put, List.setIfInBounds_toArray, List.set_cons_zero, List.set_cons_succ]
                  refine wpAnyH_take (i := 7) (oi := { dst := some 125, op := Op.move (Operand.tmp 16), type := 3, pos := "ref.go:145", after := #[], guard := none }) (v := ?v6) rfl (by kernel_rfl) (by kernel_rfl) (by kernel_rfl) (fun _ _ _ h => h) (Or.inl ⟨by rfl, ?y6⟩) hHeld ?r6
                  case y6 => (intro W hSw; (try dsimp only at hSw); go_simp; try with_reducible rfl)
                  try simp only [Act.put, List.setIfInBounds_toArray, List.set_cons_zero, List.set_cons_succ]
                  refine wpAnyH_take (i := 8) (oi := { dst := some 126, op := Op.binOp BinOp.add 3 (Operand.tmp 125) (Operand.const (Value.int IntKind.i64 1)) 3, type := 3, pos := "ref.go:145", after := #[{ on := 7, ground := Ground.data }], guard := none }) (v := ?v7) rfl (by kernel_rfl) (by kernel_rfl) (by kernel_rfl) (fun _ _ _ h => h) (Or.inl ⟨by rfl, ?y7⟩) hHeld ?r7
                  case y7 => (intro W hSw; (try dsimp only at hSw); go_simp; try with_reducible rfl)
                  try simp only [Act.put, List.setIfInBounds_toArray, List.set_cons_zero, List.set_cons_succ]
                  refine wpAnyH_take (i := 9) (oi := { dst := some 127, op := Op.slice 9 (Operand.tmp 124) (some (Operand.tmp 126)) none none, type := 9, pos := "ref.go:145", after := #[{ on := 6, ground := Ground.data }, { on := 8, ground := Ground.data }], guard := none }) (v := ?v8) rfl (by kernel_rfl) (by kernel_rfl) (by kernel_rfl) (fun _ _ _ h => h) (Or.inl ⟨by rfl, ?y8⟩) hHeld ?r8
                  case y8 => (intro W hSw; (try dsimp only at hSw); go_simp; try with_reducible rfl)
                  try simp only [Act.put, List.setIfInBounds_toArray, List.set_cons_zero, List.set_cons_succ]
                  refine wpAnyH_ready (rs := [1, 5]) (by kernel_rfl) (by simp) (AllReadyH.cons (o := { dst := some 119, op := Op.load 23 (Operand.tmp 118), type := 23, pos := "ref.go:145", after := #[{ on := 0, ground := Ground.data }], guard := none }) rfl (fun K hK => ?_) (AllReadyH.cons (o := { dst := some 123, op := Op.call { callee := Callee.value (Operand.func 21), args := #[Operand.tmp 122], argTypes := #[9] }, type := 9, pos := "ref.go:145", after := #[{ on := 4, ground := Ground.data }], guard := none }) rfl (fun K hK => ?_) AllReadyH.nil))
                  · go_simp
                    refine hK.out _ _ (trivial) (fun hHeld => ?_)
                    clear hK K
                    try simp only [Act.put, List.setIfInBounds_toArray, List.set_cons_zero, List.set_cons_succ]
                    refine wpAnyH_ready (rs := [5]) (by kernel_rfl) (by simp) (AllReadyH.cons (o := { dst := some 123, op := Op.call { callee := Callee.value (Operand.func 21), args := #[Operand.tmp 122], argTypes := #[9] }, type := 9, pos := "ref.go:145", after := #[{ on := 4, ground := Ground.data }], guard := none }) rfl (fun K hK => ?_) AllReadyH.nil)
                    go_simp
                    refine (HLw.out _).mono ?_
                    rintro e w3 ⟨rfl, hb3⟩
                    replace b0 := b0.trans (hb3.mono b0.size)
                    obtain ⟨A4, c4, W4, hrun, x0, x1, hprl⟩ := H.out.field b0 (low k2, trim val) hkk HAT.out HPL.out
                    have v0 := HVv.out _ b0
                    have hgm3 := Nat.lt_of_lt_of_le hgm b0.size
                    clear hb3
                    refine hK.out _ _ (trivial) (fun hHeld => ?_)
                    clear hK K
                    try simp only [Act.put, List.setIfInBounds_toArray, List.set_cons_zero, List.set_cons_succ]
                    refine wpAnyH_ready (rs := [10]) (by kernel_rfl) (by simp) (AllReadyH.cons (o := { dst := some 128, op := Op.call { callee := Callee.value (Operand.func 28), args := #[Operand.tmp 127], argTypes := #[9] }, type := 9, pos := "ref.go:145", after := #[{ on := 9, ground := Ground.data }, { on := 5, ground := Ground.chain }], guard := none }) rfl (fun K hK => ?_) AllReadyH.nil)
                    go_simp
                    refine (HTr.out _).mono ?_
                    rintro e w4 ⟨rfl, hw4⟩
                    replace hw4 := hw4.symm
                    subst hw4
                    refine hK.out _ _ (trivial) (fun hHeld => ?_)
                    clear hK K
                    try simp only [Act.put, List.setIfInBounds_toArray, List.set_cons_zero, List.set_cons_succ]
                    refine wpAnyH_take (i := 11) (oi := { dst := some 129, op := Op.build 49 #[(0, Operand.tmp 123), (1, Operand.tmp 128)], type := 49, pos := "ref.go:145", after := #[{ on := 5, ground := Ground.data }, { on := 10, ground := Ground.data }], guard := none }) (v := ?v9) rfl (by kernel_rfl) (by kernel_rfl) (by kernel_rfl) (fun _ _ _ h => h) (Or.inl ⟨by rfl, ?y9⟩) hHeld ?r9
                    case y9 => (intro W hSw; (try dsimp only at hSw); go_simp; try with_reducible rfl)
                    try simp only [Act.put, List.setIfInBounds_toArray, List.set_cons_zero, List.set_cons_succ]
                    refine wpAnyH_ready (rs := [12]) (by kernel_rfl) (by simp) (AllReadyH.cons (o := { dst := some 130, op := Op.buildSlice 23 1 #[(0, Operand.tmp 129)], type := 23, pos := "ref.go:145", after := #[{ on := 11, ground := Ground.data }], guard := none }) rfl (fun K hK => ?_) AllReadyH.nil)
                    go_simp
                    refine hK.out _ _ (trivial) (fun hHeld => ?_)
                    clear hK K
                    try simp only [Act.put, List.setIfInBounds_toArray, List.set_cons_zero, List.set_cons_succ]
                    refine wpAnyH_ready (rs := [13]) (by kernel_rfl) (by simp) (AllReadyH.cons (o := { dst := some 131, op := Op.call { callee := Callee.builtin Builtin.append, args := #[Operand.tmp 119, Operand.tmp 130], argTypes := #[23, 23] }, type := 23, pos := "ref.go:145", after := #[{ on := 1, ground := Ground.data }, { on := 12, ground := Ground.data }, { on := 10, ground := Ground.chain }], guard := none }) rfl (fun K hK => ?_) AllReadyH.nil)
                    refine step_append_eq rfl _ _ 23 23 rfl rfl (by simp [Act.eval]) (by simp [Act.eval]) hrun ?_
                    refine hK.out _ _ (trivial) (fun hHeld => ?_)
                    clear hK K
                    try simp only [Act.put, List.setIfInBounds_toArray, List.set_cons_zero, List.set_cons_succ]
                    refine wpAnyH_take (i := 14) (oi := { dst := some 132, op := Op.fieldAddr 25 (Operand.tmp 5) 1, type := 0, pos := "ref.go:145", after := #[{ on := 0, ground := Ground.phase }, { on := 1, ground := Ground.phase }, { on := 2, ground := Ground.phase }, { on := 3, ground := Ground.phase }, { on := 4, ground := Ground.phase }, { on := 5, ground := Ground.phase }, { on := 6, ground := Ground.phase }, { on := 7, ground := Ground.phase }, { on := 8, ground := Ground.phase }, { on := 9, ground := Ground.phase }, { on := 10, ground := Ground.phase }, { on := 11, ground := Ground.phase }, { on := 12, ground := Ground.phase }, { on := 13, ground := Ground.phase }], guard := none }) (v := ?v10) rfl (by kernel_rfl) (by kernel_rfl) (by kernel_rfl) (fun _ _ _ h => h) (Or.inl ⟨by rfl, ?y10⟩) hHeld ?r10
                    case y10 => (intro W hSw; (try dsimp only at hSw); go_simp; try with_reducible rfl)
                    try simp only [Act.put, List.setIfInBounds_toArray, List.set_cons_zero, List.set_cons_succ]
                    refine wpAnyH_ready (rs := [15]) (by kernel_rfl) (by simp) (AllReadyH.cons (o := { dst := none, op := Op.store 23 (Operand.tmp 132) (Operand.tmp 131), type := 0, pos := "ref.go:145", after := #[{ on := 14, ground := Ground.data }, { on := 13, ground := Ground.data }, { on := 13, ground := Ground.chain }, { on := 0, ground := Ground.phase }, { on := 1, ground := Ground.phase }, { on := 2, ground := Ground.phase }, { on := 3, ground := Ground.phase }, { on := 4, ground := Ground.phase }, { on := 5, ground := Ground.phase }, { on := 6, ground := Ground.phase }, { on := 7, ground := Ground.phase }, { on := 8, ground := Ground.phase }, { on := 9, ground := Ground.phase }, { on := 10, ground := Ground.phase }, { on := 11, ground := Ground.phase }, { on := 12, ground := Ground.phase }, { on := 13, ground := Ground.phase }], guard := none }) rfl (fun K hK => ?_) AllReadyH.nil)
                    go_simp
                    refine hK.out _ _ (trivial) (fun hHeld => ?_)
                    clear hK K
                    try simp only [Act.put, List.setIfInBounds_toArray, List.set_cons_zero, List.set_cons_succ]
                    refine wpAnyH_done (by kernel_rfl) ?_ _
                    have HPN := Bx.mk hprl
                    clear hrun x0 x1 hprl v0 HVv HLw HTr H d0 d1 g0 l0 l1 f0 f1
                    go_wp2_with fail
                    go_roundw
                    case rel => exact ⟨at_ + U + 2, ln + 1, l, _, k + 1, A4, c4, by go_num, by go_num, HPN⟩
                    case measure => simp [intOf]; omega
                  · go_simp
                    refine (HLw.out _).mono ?_
                    rintro e w3 ⟨rfl, hb3⟩
                    replace b0 := b0.trans (hb3.mono b0.size)
                    obtain ⟨A4, c4, W4, hrun, x0, x1, hprl⟩ := H.out.field b0 (low k2, trim val) hkk HAT.out HPL.out
                    have v0 := HVv.out _ b0
                    have hgm3 := Nat.lt_of_lt_of_le hgm b0.size
                    clear hb3
                    refine hK.out _ _ (trivial) (fun hHeld => ?_)
                    clear hK K
                    try simp only [Act.put, List.setIfInBounds_toArray, List.set_cons_zero, List.set_cons_succ]
                    refine wpAnyH_ready (rs := [1, 10]) (by kernel_rfl) (by simp) (AllReadyH.cons (o := { dst := some 119, op := Op.load 23 (Operand.tmp 118), type := 23, pos := "ref.go:145", after := #[{ on := 0, ground := Ground.data }], guard := none }) rfl (fun K hK => ?_) (AllReadyH.cons (o := { dst := some 128, op := Op.call { callee := Callee.value (Operand.func 28), args := #[Operand.tmp 127], argTypes := #[9] }, type := 9, pos := "ref.go:145", after := #[{ on := 9, ground := Ground.data }, { on := 5, ground := Ground.chain }], guard := none }) rfl (fun K hK => ?_) AllReadyH.nil))
                    · go_simp
                      refine hK.out _ _ (trivial) (fun hHeld => ?_)
                      clear hK K
                      try simp only [Act.put, List.setIfInBounds_toArray, List.set_cons_zero, List.set_cons_succ]
                      refine wpAnyH_ready (rs := [10]) (by kernel_rfl) (by simp) (AllReadyH.cons (o := { dst := some 128, op := Op.call { callee := Callee.value (Operand.func 28), args := #[Operand.tmp 127], argTypes := #[9] }, type := 9, pos := "ref.go:145", after := #[{ on := 9, ground := Ground.data }, { on := 5, ground := Ground.chain }], guard := none }) rfl (fun K hK => ?_) AllReadyH.nil)
                      go_simp
                      refine (HTr.out _).mono ?_
                      rintro e w4 ⟨rfl, hw4⟩
                      replace hw4 := hw4.symm
                      subst hw4
                      refine hK.out _ _ (trivial) (fun hHeld => ?_)
                      clear hK K
                      try simp only [Act.put, List.setIfInBounds_toArray, List.set_cons_zero, List.set_cons_succ]
                      refine wpAnyH_take (i := 11) (oi := { dst := some 129, op := Op.build 49 #[(0, Operand.tmp 123), (1, Operand.tmp 128)], type := 49, pos := "ref.go:145", after := #[{ on := 5, ground := Ground.data }, { on := 10, ground := Ground.data }], guard := none }) (v := ?v11) rfl (by kernel_rfl) (by kernel_rfl) (by kernel_rfl) (fun _ _ _ h => h) (Or.inl ⟨by rfl, ?y11⟩) hHeld ?r11
                      case y11 => (intro W hSw; (try dsimp only at hSw); go_simp; try with_reducible rfl)
                      try simp only [Act.put, List.setIfInBounds_toArray, List.set_cons_zero, List.set_cons_succ]
                      refine wpAnyH_ready (rs := [12]) (by kernel_rfl) (by simp) (AllReadyH.cons (o := { dst := some 130, op := Op.buildSlice 23 1 #[(0, Operand.tmp 129)], type := 23, pos := "ref.go:145", after := #[{ on := 11, ground := Ground.data }], guard := none }) rfl (fun K hK => ?_) AllReadyH.nil)
                      go_simp
                      refine hK.out _ _ (trivial) (fun hHeld => ?_)
                      clear hK K
                      try simp only [Act.put, List.setIfInBounds_toArray, List.set_cons_zero, List.set_cons_succ]
                      refine wpAnyH_ready (rs := [13]) (by kernel_rfl) (by simp) (AllReadyH.cons (o := { dst := some 131, op := Op.call { callee := Callee.builtin Builtin.append, args := #[Operand.tmp 119, Operand.tmp 130], argTypes := #[23, 23] }, type := 23, pos := "ref.go:145", after := #[{ on := 1, ground := Ground.data }, { on := 12, ground := Ground.data }, { on := 10, ground := Ground.chain }], guard := none }) rfl (fun K hK => ?_) AllReadyH.nil)
                      refine step_append_eq rfl _ _ 23 23 rfl rfl (by simp [Act.eval]) (by simp [Act.eval]) hrun ?_
                      refine hK.out _ _ (trivial) (fun hHeld => ?_)
                      clear hK K
                      try simp only [Act.put, List.setIfInBounds_toArray, List.set_cons_zero, List.set_cons_succ]
                      refine wpAnyH_take (i := 14) (oi := { dst := some 132, op := Op.fieldAddr 25 (Operand.tmp 5) 1, type := 0, pos := "ref.go:145", after := #[{ on := 0, ground := Ground.phase }, { on := 1, ground := Ground.phase }, { on := 2, ground := Ground.phase }, { on := 3, ground := Ground.phase }, { on := 4, ground := Ground.phase }, { on := 5, ground := Ground.phase }, { on := 6, ground := Ground.phase }, { on := 7, ground := Ground.phase }, { on := 8, ground := Ground.phase }, { on := 9, ground := Ground.phase }, { on := 10, ground := Ground.phase }, { on := 11, ground := Ground.phase }, { on := 12, ground := Ground.phase }, { on := 13, ground := Ground.phase }], guard := none }) (v := ?v12) rfl (by kernel_rfl) (by kernel_rfl) (by kernel_rfl) (fun _ _ _ h => h) (Or.inl ⟨by rfl, ?y12⟩) hHeld ?r12
                      case y12 => (intro W hSw; (try dsimp only at hSw); go_simp; try with_reducible rfl)
                      try simp only [Act.put, List.setIfInBounds_toArray, List.set_cons_zero, List.set_cons_succ]
                      refine wpAnyH_ready (rs := [15]) (by kernel_rfl) (by simp) (AllReadyH.cons (o := { dst := none, op := Op.store 23 (Operand.tmp 132) (Operand.tmp 131), type := 0, pos := "ref.go:145", after := #[{ on := 14, ground := Ground.data }, { on := 13, ground := Ground.data }, { on := 13, ground := Ground.chain }, { on := 0, ground := Ground.phase }, { on := 1, ground := Ground.phase }, { on := 2, ground := Ground.phase }, { on := 3, ground := Ground.phase }, { on := 4, ground := Ground.phase }, { on := 5, ground := Ground.phase }, { on := 6, ground := Ground.phase }, { on := 7, ground := Ground.phase }, { on := 8, ground := Ground.phase }, { on := 9, ground := Ground.phase }, { on := 10, ground := Ground.phase }, { on := 11, ground := Ground.phase }, { on := 12, ground := Ground.phase }, { on := 13, ground := Ground.phase }], guard := none }) rfl (fun K hK => ?_) AllReadyH.nil)
                      go_simp
                      refine hK.out _ _ (trivial) (fun hHeld => ?_)
                      clear hK K
                      try simp only [Act.put, List.setIfInBounds_toArray, List.set_cons_zero, List.set_cons_succ]
                      refine wpAnyH_done (by kernel_rfl) ?_ _
                      have HPN := Bx.mk hprl
                      clear hrun x0 x1 hprl v0 HVv HLw HTr H d0 d1 g0 l0 l1 f0 f1
                      go_wp2_with fail
                      go_roundw
                      case rel => exact ⟨at_ + U + 2, ln + 1, l, _, k + 1, A4, c4, by go_num, by go_num, HPN⟩
                      case measure => simp [intOf]; omega
                    · go_simp
                      refine (HTr.out _).mono ?_
                      rintro e w4 ⟨rfl, hw4⟩
                      replace hw4 := hw4.symm
                      subst hw4
                      refine hK.out _ _ (trivial) (fun hHeld => ?_)
                      clear hK K
                      try simp only [Act.put, List.setIfInBounds_toArray, List.set_cons_zero, List.set_cons_succ]
                      refine wpAnyH_take (i := 11) (oi := { dst := some 129, op := Op.build 49 #[(0, Operand.tmp 123), (1, Operand.tmp 128)], type := 49, pos := "ref.go:145", after := #[{ on := 5, ground := Ground.data }, { on := 10, ground := Ground.data }], guard := none }) (v := ?v13) rfl (by kernel_rfl) (by kernel_rfl) (by kernel_rfl) (fun _ _ _ h => h) (Or.inl ⟨by rfl, ?y13⟩) hHeld ?r13
                      case y13 => (intro W hSw; (try dsimp only at hSw); go_simp; try with_reducible rfl)
                      try simp only [Act.put, List.setIfInBounds_toArray, List.set_cons_zero, List.set_cons_succ]
                      refine wpAnyH_ready (rs := [1, 12]) (by kernel_rfl) (by simp) (AllReadyH.cons (o := { dst := some 119, op := Op.load 23 (Operand.tmp 118), type := 23, pos := "ref.go:145", after := #[{ on := 0, ground := Ground.data }], guard := none }) rfl (fun K hK => ?_) (AllReadyH.cons (o := { dst := some 130, op := Op.buildSlice 23 1 #[(0, Operand.tmp 129)], type := 23, pos := "ref.go:145", after := #[{ on := 11, ground := Ground.data }], guard := none }) rfl (fun K hK => ?_) AllReadyH.nil))
                      · go_simp
                        refine hK.out _ _ (trivial) (fun hHeld => ?_)
                        clear hK K
                        try simp only [Act.put, List.setIfInBounds_toArray, List.set_cons_zero, List.set_cons_succ]
                        refine wpAnyH_ready (rs := [12]) (by kernel_rfl) (by simp) (AllReadyH.cons (o := { dst := some 130, op := Op.buildSlice 23 1 #[(0, Operand.tmp 129)], type := 23, pos := "ref.go:145", after := #[{ on := 11, ground := Ground.data }], guard := none }) rfl (fun K hK => ?_) AllReadyH.nil)
                        go_simp
                        refine hK.out _ _ (trivial) (fun hHeld => ?_)
                        clear hK K
                        try simp only [Act.put, List.setIfInBounds_toArray, List.set_cons_zero, List.set_cons_succ]
                        refine wpAnyH_ready (rs := [13]) (by kernel_rfl) (by simp) (AllReadyH.cons (o := { dst := some 131, op := Op.call { callee := Callee.builtin Builtin.append, args := #[Operand.tmp 119, Operand.tmp 130], argTypes := #[23, 23] }, type := 23, pos := "ref.go:145", after := #[{ on := 1, ground := Ground.data }, { on := 12, ground := Ground.data }, { on := 10, ground := Ground.chain }], guard := none }) rfl (fun K hK => ?_) AllReadyH.nil)
                        refine step_append_eq rfl _ _ 23 23 rfl rfl (by simp [Act.eval]) (by simp [Act.eval]) hrun ?_
                        refine hK.out _ _ (trivial) (fun hHeld => ?_)
                        clear hK K
                        try simp only [Act.put, List.setIfInBounds_toArray, List.set_cons_zero, List.set_cons_succ]
                        refine wpAnyH_take (i := 14) (oi := { dst := some 132, op := Op.fieldAddr 25 (Operand.tmp 5) 1, type := 0, pos := "ref.go:145", after := #[{ on := 0, ground := Ground.phase }, { on := 1, ground := Ground.phase }, { on := 2, ground := Ground.phase }, { on := 3, ground := Ground.phase }, { on := 4, ground := Ground.phase }, { on := 5, ground := Ground.phase }, { on := 6, ground := Ground.phase }, { on := 7, ground := Ground.phase }, { on := 8, ground := Ground.phase }, { on := 9, ground := Ground.phase }, { on := 10, ground := Ground.phase }, { on := 11, ground := Ground.phase }, { on := 12, ground := Ground.phase }, { on := 13, ground := Ground.phase }], guard := none }) (v := ?v14) rfl (by kernel_rfl) (by kernel_rfl) (by kernel_rfl) (fun _ _ _ h => h) (Or.inl ⟨by rfl, ?y14⟩) hHeld ?r14
                        case y14 => (intro W hSw; (try dsimp only at hSw); go_simp; try with_reducible rfl)
                        try simp only [Act.put, List.setIfInBounds_toArray, List.set_cons_zero, List.set_cons_succ]
                        refine wpAnyH_ready (rs := [15]) (by kernel_rfl) (by simp) (AllReadyH.cons (o := { dst := none, op := Op.store 23 (Operand.tmp 132) (Operand.tmp 131), type := 0, pos := "ref.go:145", after := #[{ on := 14, ground := Ground.data }, { on := 13, ground := Ground.data }, { on := 13, ground := Ground.chain }, { on := 0, ground := Ground.phase }, { on := 1, ground := Ground.phase }, { on := 2, ground := Ground.phase }, { on := 3, ground := Ground.phase }, { on := 4, ground := Ground.phase }, { on := 5, ground := Ground.phase }, { on := 6, ground := Ground.phase }, { on := 7, ground := Ground.phase }, { on := 8, ground := Ground.phase }, { on := 9, ground := Ground.phase }, { on := 10, ground := Ground.phase }, { on := 11, ground := Ground.phase }, { on := 12, ground := Ground.phase }, { on := 13, ground := Ground.phase }], guard := none }) rfl (fun K hK => ?_) AllReadyH.nil)
                        go_simp
                        refine hK.out _ _ (trivial) (fun hHeld => ?_)
                        clear hK K
                        try simp only [Act.put, List.setIfInBounds_toArray, List.set_cons_zero, List.set_cons_succ]
                        refine wpAnyH_done (by kernel_rfl) ?_ _
                        have HPN := Bx.mk hprl
                        clear hrun x0 x1 hprl v0 HVv HLw HTr H d0 d1 g0 l0 l1 f0 f1
                        go_wp2_with fail
                        go_roundw
                        case rel => exact ⟨at_ + U + 2, ln + 1, l, _, k + 1, A4, c4, by go_num, by go_num, HPN⟩
                        case measure => simp [intOf]; omega
                      · go_simp
                        refine hK.out _ _ (trivial) (fun hHeld => ?_)
                        clear hK K
                        try simp only [Act.put, List.setIfInBounds_toArray, List.set_cons_zero, List.set_cons_succ]
                        refine wpAnyH_ready (rs := [1]) (by kernel_rfl) (by simp) (AllReadyH.cons (o := { dst := some 119, op := Op.load 23 (Operand.tmp 118), type := 23, pos := "ref.go:145", after := #[{ on := 0, ground := Ground.data }], guard := none }) rfl (fun K hK => ?_) AllReadyH.nil)
                        go_simp
                        refine hK.out _ _ (trivial) (fun hHeld => ?_)
                        clear hK K
                        try simp only [Act.put, List.setIfInBounds_toArray, List.set_cons_zero, List.set_cons_succ]
                        refine wpAnyH_ready (rs := [13]) (by kernel_rfl) (by simp) (AllReadyH.cons (o := { dst := some 131, op := Op.call { callee := Callee.builtin Builtin.append, args := #[Operand.tmp 119, Operand.tmp 130], argTypes := #[23, 23] }, type := 23, pos := "ref.go:145", after := #[{ on := 1, ground := Ground.data }, { on := 12, ground := Ground.data }, { on := 10, ground := Ground.chain }], guard := none }) rfl (fun K hK => ?_) AllReadyH.nil)
                        refine step_append_eq rfl _ _ 23 23 rfl rfl (by simp [Act.eval]) (by simp [Act.eval]) hrun ?_
                        refine hK.out _ _ (trivial) (fun hHeld => ?_)
                        clear hK K
                        try simp only [Act.put, List.setIfInBounds_toArray, List.set_cons_zero, List.set_cons_succ]
                        refine wpAnyH_take (i := 14) (oi := { dst := some 132, op := Op.fieldAddr 25 (Operand.tmp 5) 1, type := 0, pos := "ref.go:145", after := #[{ on := 0, ground := Ground.phase }, { on := 1, ground := Ground.phase }, { on := 2, ground := Ground.phase }, { on := 3, ground := Ground.phase }, { on := 4, ground := Ground.phase }, { on := 5, ground := Ground.phase }, { on := 6, ground := Ground.phase }, { on := 7, ground := Ground.phase }, { on := 8, ground := Ground.phase }, { on := 9, ground := Ground.phase }, { on := 10, ground := Ground.phase }, { on := 11, ground := Ground.phase }, { on := 12, ground := Ground.phase }, { on := 13, ground := Ground.phase }], guard := none }) (v := ?v15) rfl (by kernel_rfl) (by kernel_rfl) (by kernel_rfl) (fun _ _ _ h => h) (Or.inl ⟨by rfl, ?y15⟩) hHeld ?r15
                        case y15 => (intro W hSw; (try dsimp only at hSw); go_simp; try with_reducible rfl)
                        try simp only [Act.put, List.setIfInBounds_toArray, List.set_cons_zero, List.set_cons_succ]
                        refine wpAnyH_ready (rs := [15]) (by kernel_rfl) (by simp) (AllReadyH.cons (o := { dst := none, op := Op.store 23 (Operand.tmp 132) (Operand.tmp 131), type := 0, pos := "ref.go:145", after := #[{ on := 14, ground := Ground.data }, { on := 13, ground := Ground.data }, { on := 13, ground := Ground.chain }, { on := 0, ground := Ground.phase }, { on := 1, ground := Ground.phase }, { on := 2, ground := Ground.phase }, { on := 3, ground := Ground.phase }, { on := 4, ground := Ground.phase }, { on := 5, ground := Ground.phase }, { on := 6, ground := Ground.phase }, { on := 7, ground := Ground.phase }, { on := 8, ground := Ground.phase }, { on := 9, ground := Ground.phase }, { on := 10, ground := Ground.phase }, { on := 11, ground := Ground.phase }, { on := 12, ground := Ground.phase }, { on := 13, ground := Ground.phase }], guard := none }) rfl (fun K hK => ?_) AllReadyH.nil)
                        go_simp
                        refine hK.out _ _ (trivial) (fun hHeld => ?_)
                        clear hK K
                        try simp only [Act.put, List.setIfInBounds_toArray, List.set_cons_zero, List.set_cons_succ]
                        refine wpAnyH_done (by kernel_rfl) ?_ _
                        have HPN := Bx.mk hprl
                        clear hrun x0 x1 hprl v0 HVv HLw HTr H d0 d1 g0 l0 l1 f0 f1
                        go_wp2_with fail
                        go_roundw
                        case rel => exact ⟨at_ + U + 2, ln + 1, l, _, k + 1, A4, c4, by go_num, by go_num, HPN⟩
                        case measure => simp [intOf]; omega
  · first
      | (have hto5 : ∀ V, (Instr.slice 22 (.slice A n c) none (some (.int .i64 512)) none).run Tryd.prog V = .ok (.slice A 512 c) V := fun V => hto V h1
         have i5 : (512 : Int) < (n : Int) := by omega)
      | (have i5 : ¬ (512 : Int) < (n : Int) := by omega)
    have HMN := Bx.mk h2
    clear h1 h2 hto
    go_enter Tryd.func10, Tryd.ntmps10
    go_upto_region 2 with fail
    generalize ((w.alloc (.cells #[.string ⟨#[]⟩, .slice none 0 0] 25)).alloc (.cells #[.string ⟨#[]⟩, .slice none 0 0] 25)) = W0 at *
    go_wp2_with fail
    first | rw [show Value.slice A 512 c = Value.slice A m c by rw [HMN.out]] | rw [show Value.slice A n c = Value.slice A m c by rw [HMN.out]]
    go_loopw [6, 7] (fun s6 s7 wr => ∃ (at_ ln : Nat) (l : Str) (fs : Flds) (k : Nat) (A2 : Option Addr) (c2 : Nat), s6 = .int .i64 (at_ : Int) ∧ s7 = .int .i64 (ln : Int) ∧ Bx (RT w wr b sh at_ ln l fs k A2 c2)) (fun s6 _ _ => m - (intOf s6).toNat)
    case atStart => exact ⟨0, 0, [], [], 0, none, 0, rfl, rfl, H0⟩
    case round =>
      clear H0
      obtain ⟨at_, ln, l, fs, k, A2, c2, rfl, rfl, H⟩ := hrel
      have hat : at_ ≤ m := by have := H.out.bnd; rw [HM.out] at this; exact this
      obtain ⟨q, hq⟩ : ∃ q, sh.drop at_ = q := ⟨_, rfl⟩
      obtain ⟨K, hK⟩ : ∃ K, m - at_ = K := ⟨_, rfl⟩
      have hqK : q.length = K := by rw [← hq, List.length_drop, HM.out, hK]
      have hmK1 : m ≤ at_ + K := by omega
      have hmK2 : at_ + K ≤ m := by omega
      have a0 : (0 : Int) ≤ (at_ : Int) := by omega
      have hsl0 : ∀ V, (Instr.slice 22 (.slice A m c) (some (.int .i64 (at_ : Int))) none none).run Tryd.prog V = .ok (.slice (cutA A c at_) K (c - at_)) V := fun V => by
        have := cut_l V A m c at_ hat
        rwa [hK] at this
      obtain ⟨s, hs⟩ : ∃ s, s = S q := ⟨_, rfl⟩
      have hcv : (convert 22 9 (.slice (cutA A c at_) K (c - at_))).run Tryd.prog wr = .ok (.string s) wr := by
        have h1 := (HSS.out.below H.out.be HOK.out).cut at_ K (by omega)
        rw [ints_drop, ints_take, hq, List.take_of_length_le (by omega)] at h1
        rw [hs]
        exact spell_str h1
      have hsz : s.size = K := by rw [hs, S_size, hqK]
      obtain ⟨E, hE⟩ : ∃ E, (lineOf q).length = E := ⟨_, rfl⟩
      have hEK : E ≤ K := by rw [← hE, ← hqK]; exact line_len q
      have HSQ := Bx.mk hs
      have HQ := Bx.mk hq
      have HQK := Bx.mk hqK
      have HE := Bx.mk hE
      clear hs hq hqK hE hK
      go_upto_block 2 with fail
      clear hsl0 hcv
      go_cut [10, 11] from 24 to 134 (fun s10 s11 wx => s10 = .int .i64 (E : Int) ∧ wx = wr)
      case first =>
        go_wp2_with fail
        go_loopw [10, 11] (fun s10 s11 wv => ∃ i : Nat, i ≤ K ∧ s10 = .int .i64 (K : Int) ∧ s11 = .int .i64 (i : Int) ∧ wv = wr ∧ Bx (∀ j, j < i → q[j]? ≠ some 13)) (fun _ s11 _ => K - (intOf s11).toNat)
        case atStart => exact ⟨0, by omega, rfl, rfl, rfl, ⟨fun j hj => by omega⟩⟩
        case round =>
          obtain ⟨i, hi, rfl, rfl, hwv, HJ⟩ := hrel
          replace hwv := hwv.symm
          subst hwv
          by_cases hlt : i < K
          · obtain ⟨x, hx⟩ : ∃ x, q[i]? = some x := ⟨_, List.getElem?_eq_getElem (by rw [HQK.out]; exact hlt)⟩
            have hix := str_at HSQ.out i x hx
            have i0 : (0 : Int) ≤ (i : Int) := by omega
            have i1 : (i : Int) < (K : Int) := by omega
            have hw1 : IntKind.i64.wrap ((i : Int) + 1) = ((i + 1 : Nat) : Int) := by rw [IntWalk.i64_in _ (by omega)]; omega
            by_cases h13 : x = 13
            · subst h13
              have hEi : E = i + 1 := by rw [← HE.out]; exact line_first HJ.out hx
              clear hx HJ
              go_wp2_with fail
              go_meet
              exact ⟨by rw [hEi]; first | rfl | simp, rfl⟩
            · have e13 : ((x.toNat : Int) == 13) = false := (ne_int (y := 13) h13).1
              have HJ2 : Bx (∀ j, j < i + 1 → q[j]? ≠ some 13) := ⟨fun j hj => by
                rcases (show j < i ∨ j = i by omega) with h | h
                · exact HJ.out j h
                · rw [h, hx]; exact fun e => h13 (Option.some.inj e)⟩
              clear hx h13 HJ
              go_wp2_with fail
              go_roundw
              case rel => exact ⟨i + 1, by omega, rfl, by go_num, trivial, HJ2⟩
              case measure => simp [intOf]; omega
          · obtain rfl : i = K := by omega
            have hEi : E = i := by rw [← HE.out, lineOf_all (fun j hj => HJ.out j (by rw [HQK.out] at hj; exact hj)), HQK.out]
            clear HJ
            go_wp2_with fail
            go_meet
            exact ⟨by rw [hEi], rfl⟩
      case rest =>
        obtain ⟨rfl, hwc⟩ := hcut
        replace hwc := hwc.symm
        subst hwc
        obtain ⟨t, ht⟩ : ∃ t, t = S (lineOf q) := ⟨_, rfl⟩
        have hstr : ∀ W, (Instr.slice 9 (.string s) none (some (.int .i64 (E : Int))) none).run Tryd.prog W = .ok (.string t) W := fun W => by
          have := str_to q E (by rw [HQK.out]; exact hEK) W
          rw [← HE.out, ← line_take q, HE.out] at this
          rw [HSQ.out, ht]
          exact this
        have htz : t.size = E := by rw [ht, S_size, HE.out]
        obtain ⟨fl, hfl⟩ : ∃ fl, (ln == 0) = fl := ⟨_, rfl⟩
        have hfl2 : ((ln : Int) == 0) = fl := by
          rw [← hfl]
          by_cases h : ln = 0
          · simp [h]
          · rw [beq_eq_false_iff_ne.2 h, beq_eq_false_iff_ne]; omega
        have hP := Rpart_any (lineOf q) fl (by rw [HE.out]; omega) wr
        rw [← ht] at hP
        have hev := line_all H.out.pl
        rw [HQ.out] at hev
        unfold Ev at hev
        rw [hfl] at hev
        have l0 := H.out.res.cell 0; have l1 := H.out.res.cell 1; have f0 := H.out.res.frozen 0; have f1 := H.out.res.frozen 1
        simp at l0 l1
        have HT := Bx.mk ht
        clear ht
        rcases hev with ⟨hp, h17, he⟩ | ⟨x, r, hq, hx, h17, he⟩ | ⟨hp, hl, hns, he⟩ | ⟨u, x, v, hq, hl, hp, hns, hx⟩
        · rw [hp] at hP
          have HP := Bx.mk hP
          have q17 : ((ln : Int) == 17) = false := by rw [beq_eq_false_iff_ne]; omega
          have HF := Bx.mk (H.out.err he)
          clear hp h17 he hP HQ H
          go_wp2_with fail
          refine HP.out.mono ?_
          rintro e2 w2 ⟨rfl, hw2⟩
          replace hw2 := hw2.symm
          subst hw2
          go_wp2_with fail
          exact bodyPost_ret (rresults (by simp [go_sem, l0]) (by simp [go_sem, l1]) _ rfl rfl rfl) rfl HF.out
        · have q17 : ((ln : Int) == 17) = true := by simp [h17]
          have hE1 : (0 : Int) < (E : Int) := by rw [← HE.out, hq]; simp [lineOf, hx]
          have hix0 : ∀ W, (Instr.index 9 (.string t) (.int .i64 0)).run Tryd.prog W = .ok (.int .u8 (x.toNat : Int)) W := str_at HT.out 0 x (by rw [hq]; simp [lineOf, hx])
          have hx13 : ((x.toNat : Int) != 13) = true := (ne_int (y := 13) hx).2
          have hSg := RSign_any x wr
          generalize partP fl false 0 (lineOf q) = p at hP
          obtain ⟨p1, p2⟩ := p
          have HP := Bx.mk hP
          generalize (x.toNat : Int) = z at *
          cases hsx : sgn x with
          | true =>
            rw [hsx] at hSg he
            have HSg := Bx.mk hSg
            have HF := Bx.mk (H.out.err he)
            clear hq hx h17 he hP HQ H hSg hsx
            go_wp2_with fail
            refine HP.out.mono ?_
            rintro e2 w2 ⟨rfl, hw2⟩
            replace hw2 := hw2.symm
            subst hw2
            go_wp2_with fail
            refine HSg.out.mono ?_
            rintro e2 w2 ⟨rfl, hw2⟩
            replace hw2 := hw2.symm
            subst hw2
            go_wp2_with fail
            exact bodyPost_ret (rresults (by simp [go_sem, l0]) (by simp [go_sem, l1]) _ rfl rfl rfl) rfl HF.out
          | false =>
            rw [hsx] at hSg he
            have HSg := Bx.mk hSg
            have HF := Bx.mk (H.out.err he)
            clear hq hx h17 he hP HQ H hSg hsx
            go_wp2_with fail
            refine HP.out.mono ?_
            rintro e2 w2 ⟨rfl, hw2⟩
            replace hw2 := hw2.symm
            subst hw2
            go_wp2_with fail
            refine HSg.out.mono ?_
            rintro e2 w2 ⟨rfl, hw2⟩
            replace hw2 := hw2.symm
            subst hw2
            go_wp2_with fail
            exact bodyPost_ret (rresults (by simp [go_sem, l0]) (by simp [go_sem, l1]) _ rfl rfl rfl) rfl HF.out
        · have qEK : ((E : Int) == (K : Int)) = true := by
            have : E = K := by rw [← HE.out, hl, HQK.out]
            simp [this]
          rw [HQK.out, show at_ + K = m by omega] at he
          have h3 := ns_three hns HT.out HE.out
          by_cases h512 : m = 512
          · have he3 : take b = ([], [], 0, 3) := by rw [he]; simp [fin, h512]
            have q5 : ((m : Int) == 512) = true := by simp [h512]
            have HF := Bx.mk (H.out.err he3)
            clear hl hns he HQ H h512 he3
            rcases hp with hp | hp
            all_goals
              rw [hp] at hP
              have HP := Bx.mk hP
              clear hP hp
              rcases h3 with q17 | ⟨q17, hE1⟩ | ⟨q17, hE1, hix0⟩
              all_goals
                go_wp2_with fail
                refine HP.out.mono ?_
                rintro e2 w2 ⟨rfl, hw2⟩
                replace hw2 := hw2.symm
                subst hw2
                go_wp2_with fail
                exact bodyPost_ret (rresults (by simp [go_sem, l0]) (by simp [go_sem, l1]) _ rfl rfl rfl) rfl HF.out
          · have he3 : take b = ([], [], 0, 5) := by rw [he]; simp [fin, h512]
            have q5 : ((m : Int) == 512) = false := by rw [beq_eq_false_iff_ne]; omega
            have HF := Bx.mk (H.out.err he3)
            clear hl hns he HQ H h512 he3
            rcases hp with hp | hp
            all_goals
              rw [hp] at hP
              have HP := Bx.mk hP
              clear hP hp
              rcases h3 with q17 | ⟨q17, hE1⟩ | ⟨q17, hE1, hix0⟩
              all_goals
                go_wp2_with fail
                refine HP.out.mono ?_
                rintro e2 w2 ⟨rfl, hw2⟩
                replace hw2 := hw2.symm
                subst hw2
                go_wp2_with fail
                exact bodyPost_ret (rresults (by simp [go_sem, l0]) (by simp [go_sem, l1]) _ rfl rfl rfl) rfl HF.out
        · rw [hp] at hP
          have HP := Bx.mk hP
          have h3 := ns_three hns HT.out HE.out
          obtain ⟨U, hU⟩ : ∃ U, u.length = U := ⟨_, rfl⟩
          have hEU : E = U + 1 := by rw [← HE.out, hl]; simp [hU]
          have hKU : U + 2 + v.length = K := by rw [← HQK.out, hq]; simp [hU]; omega
          have qEK : ((E : Int) == (K : Int)) = false := by rw [beq_eq_false_iff_ne]; omega
          have hixE := str_at HSQ.out E x (by rw [hq, List.getElem?_append_right (by omega), hU, show E - U = 1 by omega]; rfl)
          have e0 : (0 : Int) ≤ (E : Int) := by omega
          have e1 : (E : Int) < (K : Int) := by omega
          have hv : sh.drop (at_ + U + 2) = v := by
            have : sh.drop (at_ + U + 2) = (sh.drop at_).drop (U + 2) := by rw [List.drop_drop]; congr 1
            rw [this, HQ.out, hq, show u ++ 13 :: x :: v = (u ++ [13, x]) ++ v by simp, List.drop_left' (by simp [hU])]
          have hKU1 : U + 2 ≤ K := by omega
          have hEU1 : E ≤ U + 1 := by omega
          have hEU2 : U + 1 ≤ E := by omega
          have h3 := h3.imp_right fun h => h.elim (fun h => absurd (show (0 : Int) < (E : Int) by omega) h.2) id
          clear hns hp hP hEU hKU
          rcases hx with ⟨hx, he⟩ | ⟨rfl, hfin⟩
          · have hx10 : ((x.toNat : Int) != 10) = true := (ne_int (y := 10) hx).2
            have HF := Bx.mk (H.out.err he)
            generalize (x.toNat : Int) = z at *
            clear hq hl hU hv hx he HQ H
            rcases h3 with q17 | ⟨q17, hE1, hix0⟩
            all_goals
              go_wp2_with fail
              refine HP.out.mono ?_
              rintro e2 w2 ⟨rfl, hw2⟩
              replace hw2 := hw2.symm
              subst hw2
              go_wp2_with fail
              exact bodyPost_ret (rresults (by simp [go_sem, l0]) (by simp [go_sem, l1]) _ rfl rfl rfl) rfl HF.out
          · have hwa : IntKind.i64.wrap ((at_ : Int) + (E : Int)) = (at_ : Int) + (E : Int) := IntWalk.i64_in _ (by omega)
            have hwb : IntKind.i64.wrap ((at_ : Int) + (E : Int) + 1) = ((at_ + U + 2 : Nat) : Int) := by rw [IntWalk.i64_in _ (by omega)]; omega
            have hme : (E : Int) - 1 = (U : Int) := by omega
            have hw0 : IntKind.i64.wrap (U : Int) = (U : Int) := IntWalk.i64_in _ (by omega)
            obtain ⟨xx, hxx⟩ : ∃ xx, xx = S u := ⟨_, rfl⟩
            have hsl : ∀ W, (Instr.slice 9 (.string t) none (some (.int .i64 (U : Int))) none).run Tryd.prog W = .ok (.string xx) W := fun W => by
              have := str_to (lineOf q) U (by rw [HE.out]; omega) W
              rw [show (lineOf q).take U = u by rw [hl, List.take_left' hU]] at this
              rw [HT.out, hxx]
              exact this
            have hat2 : at_ + U + 2 ≤ sh.length := by rw [HM.out]; omega
            have hwl : IntKind.i64.wrap ((ln : Int) + 1) = ((ln + 1 : Nat) : Int) := by
              have : ln ≤ 17 := by
                rcases H.out.pl with ⟨h, _⟩ | ⟨h, h2, _⟩ <;> omega
              rw [IntWalk.i64_in _ (by omega)]; omega
            unfold Fin2 at hfin
            rw [hU] at hfin
            have d0 := H.out.hd.cell 0; have d1 := H.out.hd.cell 1; have g0 := H.out.hd.frozen 0
            simp at d0 d1
            have HV := Bx.mk hv
            have HXX := Bx.mk hxx
            have HU := Bx.mk hU
            clear hq hl hv hxx hU HQ
            rcases hfin with ⟨hz, hf, hpl⟩ | ⟨hz, hu, he⟩ | ⟨hz, h17, k2, val, hu, hk2, hf16, hpl⟩
            · have hln : ¬ (0 : Int) < (ln : Int) := by omega
              have hfl1 : fl = true := by rw [← hfl, hz]; rfl
              have hln1 : ln + 1 = 1 := by omega
              subst hfl1
              rw [hf] at H
              have HN : Bx (RT w (wr.setCell ⟨w.heap.size + 1, 0, none⟩ (.string xx)) b sh (at_ + U + 2) (ln + 1) u [] k A2 c2) := ⟨by
                rw [HXX.out, hln1]
                exact H.out.line hat2 (by rw [HV.out]; exact hpl)⟩
              clear H hf hpl hz hln1 hfl
              rcases h3 with q17 | ⟨q17, hE1, hix0⟩
              all_goals
                go_wp2_with fail
                refine HP.out.mono ?_
                rintro e2 w2 ⟨rfl, hw2⟩
                replace hw2 := hw2.symm
                subst hw2
                go_wp2_with fail
                go_roundw
                case rel => exact ⟨at_ + U + 2, ln + 1, u, [], k, A2, c2, by go_num, by go_num, HN⟩
                case measure => simp [intOf]; omega
            · have hln : (0 : Int) < (ln : Int) := by omega
              have hem : xx.toList.isEmpty = true := by rw [HXX.out, empty_iff, S_list]; exact decide_eq_true hu
              have hfl1 : fl = false := by rw [← hfl]; exact beq_eq_false_iff_ne.2 (by omega)
              subst hfl1
              have HF := Bx.mk (H.out.done he)
              clear H hu he hz hfl
              rcases h3 with q17 | ⟨q17, hE1, hix0⟩
              all_goals
                go_wp2_with fail
                refine HP.out.mono ?_
                rintro e2 w2 ⟨rfl, hw2⟩
                replace hw2 := hw2.symm
                subst hw2
                go_wp2_with fail
                exact bodyPost_ret (rresults (by simp [go_sem, l0]) (by simp [go_sem, l1]) _ rfl rfl rfl) rfl HF.out
            · have hln : (0 : Int) < (ln : Int) := by omega
              have q17 : ((ln : Int) == 17) = false := by rw [beq_eq_false_iff_ne]; omega
              have hem : xx.toList.isEmpty = false := by rw [HXX.out, empty_iff, S_list]; exact decide_eq_false (by rw [hu]; simp)
              have hfl1 : fl = false := by rw [← hfl]; exact beq_eq_false_iff_ne.2 (by omega)
              subst hfl1
              obtain ⟨k3, hk3⟩ : ∃ k3, k2.length = k3 := ⟨_, rfl⟩
              have hUk : k3 + 1 + val.length ≤ U := by rw [← HU.out, hu]; simp [hk3]; omega
              have hxxz : xx.size = U := by rw [HXX.out, S_size, HU.out]
              have hb : ∀ i, i < k3 → ∃ y, u[i]? = some y ∧ y ≠ 58 := fun i hi => by
                refine ⟨k2[i]'(by omega), ?_, fun e => hk2 (by rw [← e]; exact List.getElem_mem _)⟩
                rw [hu, List.getElem?_append_left (by omega), List.getElem?_eq_getElem (by omega)]
              have he8 : u[k3]? = some 58 := by rw [hu, List.getElem?_append_right (by omega), hk3]; simp
              have HBY := Bx.mk hb
              have hi8 := str_at HXX.out k3 58 he8
              have hslk : ∀ W, (Instr.slice 9 (.string xx) none (some (.int .i64 (k3 : Int))) none).run Tryd.prog W = .ok (.string (S k2)) W := fun W => by
                have := str_to u k3 (by rw [HU.out]; omega) W
                rw [show u.take k3 = k2 by rw [hu, List.take_left' hk3]] at this
                rw [HXX.out]
                exact this
              have hslv : ∀ W, (Instr.slice 9 (.string xx) (some (.int .i64 ((k3 : Int) + 1))) none none).run Tryd.prog W = .ok (.string (S val)) W := fun W => by
                rw [show ((k3 : Int) + 1) = ((k3 + 1 : Nat) : Int) by omega]
                have := str_from u (k3 + 1) (by rw [HU.out]; omega) W
                rw [show u.drop (k3 + 1) = val by rw [hu, show k2 ++ 58 :: val = (k2 ++ [58]) ++ val by simp, List.drop_left' (by simp [hk3])]] at this
                rw [HXX.out]
                exact this
              have hwk : IntKind.i64.wrap ((k3 : Int) + 1) = (k3 : Int) + 1 := IntWalk.i64_in _ (by omega)
              have HLw := Bx.mk (RLower_any k2 (by omega))
              have HTr := Bx.mk (Rtrim_any val (by omega))
              have HPL : Bx (Pl b (sh.drop (at_ + U + 2)) (at_ + U + 2) (ln + 1) l (fs ++ [(low k2, trim val)])) := ⟨by rw [HV.out]; exact hpl⟩
              have HAT := Bx.mk hat2
              have hkk : k ≤ 1000 := by have := H.out.hn; omega
              clear hu hk2 hpl hb he8 hfl h17 hz h3 hf16 hat2 hk3
              go_wp2_with fail
              refine HP.out.mono ?_
              rintro e2 w2 ⟨rfl, hw2⟩
              replace hw2 := hw2.symm
              subst hw2
              go_wp2_with fail
              go_loopw [16] (fun s16 wv => ∃ i : Nat, i ≤ k3 ∧ s16 = .int .i64 (i : Int) ∧ wv = wr) (fun s16 _ => k3 - (intOf s16).toNat)
              case atStart => exact ⟨0, by omega, rfl, rfl⟩
              case round =>
                obtain ⟨i, hi, rfl, hwv⟩ := hrel
                replace hwv := hwv.symm
                subst hwv
                have i0 : (0 : Int) ≤ (i : Int) := by omega
                have i1 : (i : Int) < (U : Int) := by omega
                by_cases hlt : i < k3
                · obtain ⟨y, hy, hy8⟩ := HBY.out i hlt
                  have hix := str_at HXX.out i y hy
                  have hy2 : ((y.toNat : Int) != 58) = true := (ne_int (y := 58) hy8).2
                  have hw1 : IntKind.i64.wrap ((i : Int) + 1) = ((i + 1 : Nat) : Int) := by rw [IntWalk.i64_in _ (by omega)]; omega
                  generalize (y.toNat : Int) = z at *
                  clear hy hy8
                  go_wp2_with fail
                  go_roundw
                  case rel => exact ⟨i + 1, by omega, by go_num, trivial⟩
                  case measure => simp [intOf]; omega
                · obtain rfl : i = k3 := by omega
                  have b0 : Below wr.heap.size wr wr.drew := (Below.refl _ _).drew
                  have hgm := H.out.hd.lt
                  have HVv : Bx (∀ W', Below wr.heap.size wr W' → W'.cell? ⟨w.heap.size + 1, 1, none⟩ = some (.slice A2 k c2)) := ⟨fun W' hb => cell_kept d1 hb⟩
                  go_wp2_with fail
                  go_upto_region 36 with fail
                  refine wp_region_held_drew (S := fun W' => True) (by kernel_rfl) (trivial) (fun hHeld => ?_)
                  refine wpAnyH_take (i := 0) (oi := { dst := some 118, op := Op.fieldAddr 25 (Operand.tmp 5) 1, type := 0, pos := "ref.go:145", after := #[], guard := none }) (v := ?v301) rfl (by kernel_rfl) (by kernel_rfl) (by kernel_rfl) (fun _ _ _ h => h) (Or.inl ⟨by rfl, ?y301⟩) hHeld ?r301
                  case y301 => (intro W hSw; (try dsimp only at hSw); go_simp; try with_reducible rfl)
                  try simp only [Act.put, List.setIfInBounds_toArray, List.set_cons_zero, List.set_cons_succ]
                  refine wpAnyH_take (i := 2) (oi := { dst := some 120, op := Op.move (Operand.tmp 15), type := 9, pos := "ref.go:145", after := #[], guard := none }) (v := ?v302) rfl (by kernel_rfl) (by kernel_rfl) (by kernel_rfl) (fun _ _ _ h => h) (Or.inl ⟨by rfl, ?y302⟩) hHeld ?r302
                  case y302 => (intro W hSw; (try dsimp only at hSw); go_simp; try with_reducible rfl)
                  try simp only [Act.put, List.setIfInBounds_toArray, List.set_cons_zero, List.set_cons_succ]
                  refine wpAnyH_take (i := 3) (oi := { dst := some 121, op := Op.move (Operand.tmp 16), type := 3, pos := "ref.go:145", after := #[], guard := none }) (v := ?v303) rfl (by kernel_rfl) (by kernel_rfl) (by kernel_rfl) (fun _ _ _ h => h) (Or.inl ⟨by rfl, ?y303⟩) hHeld ?r303
                  case y303 => (intro W hSw; (try dsimp only at hSw); go_simp; try with_reducible rfl)
                  try simp only [Act.put, List.setIfInBounds_toArray, List.set_cons_zero, List.set_cons_succ]
                  refine wpAnyH_take (i := 4) (oi := { dst := some 122, op := Op.slice 9 (Operand.tmp 120) none (some (Operand.tmp 121)) none, type := 9, pos := "ref.go:145", after := #[{ on := 2, ground := Ground.data }, { on := 3, ground := Ground.data }], guard := none }) (v := ?v304) rfl (by kernel_rfl) (by kernel_rfl) (by kernel_rfl) (fun _ _ _ h => h) (Or.inl ⟨by rfl, ?y304⟩) hHeld ?r304
                  case y304 => (intro W hSw; (try dsimp only at hSw); go_simp; try with_reducible rfl)
                  try simp only [Act.put, List.setIfInBounds_toArray, List.set_cons_zero, List.set_cons_succ]
                  refine wpAnyH_take (i := 6) (oi := { dst := some 124, op := Op.move (Operand.tmp 15), type := 9, pos := "ref.go:145", after := #[], guard := none }) (v := ?v305) rfl (by kernel_rfl) (by kernel_rfl) (by kernel_rfl) (fun _ _ _ h => h) (Or.inl ⟨by rfl, ?y305⟩) hHeld ?r305
                  case y305 => (intro W hSw; (try dsimp only at hSw); go_simp; try with_reducible rfl)
                  try simp only [Act.put, List.setIfInBounds_toArray, List.set_cons_zero, List.set_cons_succ]
                  refine wpAnyH_take (i := 7) (oi := { dst := some 125, op := Op.move (Operand.tmp 16), type := 3, pos := "ref.go:145", after := #[], guard := none }) (v := ?v306) rfl (by kernel_rfl) (by kernel_rfl) (by kernel_rfl) (fun _ _ _ h => h) (Or.inl ⟨by rfl, ?y306⟩) hHeld ?r306
                  case y306 => (intro W hSw; (try dsimp only at hSw); go_simp; try with_reducible rfl)
                  try simp only [Act.put, List.setIfInBounds_toArray, List.set_cons_zero, List.set_cons_succ]
                  refine wpAnyH_take (i := 8) (oi := { dst := some 126, op := Op.binOp BinOp.add 3 (Operand.tmp 125) (Operand.const (Value.int IntKind.i64 1)) 3, type := 3, pos := "ref.go:145", after := #[{ on := 7, ground := Ground.data }], guard := none }) (v := ?v307) rfl (by kernel_rfl) (by kernel_rfl) (by kernel_rfl) (fun _ _ _ h => h) (Or.inl ⟨by rfl, ?y307⟩) hHeld ?r307
                  case y307 => (intro W hSw; (try dsimp only at hSw); go_simp; try with_reducible rfl)
                  try simp only [Act.put, List.setIfInBounds_toArray, List.set_cons_zero, List.set_cons_succ]
                  refine wpAnyH_take (i := 9) (oi := { dst := some 127, op := Op.slice 9 (Operand.tmp 124) (some (Operand.tmp 126)) none none, type := 9, pos := "ref.go:145", after := #[{ on := 6, ground := Ground.data }, { on := 8, ground := Ground.data }], guard := none }) (v := ?v308) rfl (by kernel_rfl) (by kernel_rfl) (by kernel_rfl) (fun _ _ _ h => h) (Or.inl ⟨by rfl, ?y308⟩) hHeld ?r308
                  case y308 => (intro W hSw; (try dsimp only at hSw); go_simp; try with_reducible rfl)
                  try simp only [Act.put, List.setIfInBounds_toArray, List.set_cons_zero, List.set_cons_succ]
                  refine wpAnyH_ready (rs := [1, 5]) (by kernel_rfl) (by simp) (AllReadyH.cons (o := { dst := some 119, op := Op.load 23 (Operand.tmp 118), type := 23, pos := "ref.go:145", after := #[{ on := 0, ground := Ground.data }], guard := none }) rfl (fun K hK => ?_) (AllReadyH.cons (o := { dst := some 123, op := Op.call { callee := Callee.value (Operand.func 21), args := #[Operand.tmp 122], argTypes := #[9] }, type := 9, pos := "ref.go:145", after := #[{ on := 4, ground := Ground.data }], guard := none }) rfl (fun K hK => ?_) AllReadyH.nil))
                  · go_simp
                    refine hK.out _ _ (trivial) (fun hHeld => ?_)
                    clear hK K
                    try simp only [Act.put, List.setIfInBounds_toArray, List.set_cons_zero, List.set_cons_succ]
                    refine wpAnyH_ready (rs := [5]) (by kernel_rfl) (by simp) (AllReadyH.cons (o := { dst := some 123, op := Op.call { callee := Callee.value (Operand.func 21), args := #[Operand.tmp 122], argTypes := #[9] }, type := 9, pos := "ref.go:145", after := #[{ on := 4, ground := Ground.data }], guard := none }) rfl (fun K hK => ?_) AllReadyH.nil)
                    go_simp
                    refine (HLw.out _).mono ?_
                    rintro e w3 ⟨rfl, hb3⟩
                    replace b0 := b0.trans (hb3.mono b0.size)
                    obtain ⟨A4, c4, W4, hrun, x0, x1, hprl⟩ := H.out.field b0 (low k2, trim val) hkk HAT.out HPL.out
                    have v0 := HVv.out _ b0
                    have hgm3 := Nat.lt_of_lt_of_le hgm b0.size
                    clear hb3
                    refine hK.out _ _ (trivial) (fun hHeld => ?_)
                    clear hK K
                    try simp only [Act.put, List.setIfInBounds_toArray, List.set_cons_zero, List.set_cons_succ]
                    refine wpAnyH_ready (rs := [10]) (by kernel_rfl) (by simp) (AllReadyH.cons (o := { dst := some 128, op := Op.call { callee := Callee.value (Operand.func 28), args := #[Operand.tmp 127], argTypes := #[9] }, type := 9, pos := "ref.go:145", after := #[{ on := 9, ground := Ground.data }, { on := 5, ground := Ground.chain }], guard := none }) rfl (fun K hK => ?_) AllReadyH.nil)
                    go_simp
                    refine (HTr.out _).mono ?_
                    rintro e w4 ⟨rfl, hw4⟩
                    replace hw4 := hw4.symm
                    subst hw4
                    refine hK.out _ _ (trivial) (fun hHeld => ?_)
                    clear hK K
                    try simp only [Act.put, List.setIfInBounds_toArray, List.set_cons_zero, List.set_cons_succ]
                    refine wpAnyH_take (i := 11) (oi := { dst := some 129, op := Op.build 49 #[(0, Operand.tmp 123), (1, Operand.tmp 128)], type := 49, pos := "ref.go:145", after := #[{ on := 5, ground := Ground.data }, { on := 10, ground := Ground.data }], guard := none }) (v := ?v309) rfl (by kernel_rfl) (by kernel_rfl) (by kernel_rfl) (fun _ _ _ h => h) (Or.inl ⟨by rfl, ?y309⟩) hHeld ?r309
                    case y309 => (intro W hSw; (try dsimp only at hSw); go_simp; try with_reducible rfl)
                    try simp only [Act.put, List.setIfInBounds_toArray, List.set_cons_zero, List.set_cons_succ]
                    refine wpAnyH_ready (rs := [12]) (by kernel_rfl) (by simp) (AllReadyH.cons (o := { dst := some 130, op := Op.buildSlice 23 1 #[(0, Operand.tmp 129)], type := 23, pos := "ref.go:145", after := #[{ on := 11, ground := Ground.data }], guard := none }) rfl (fun K hK => ?_) AllReadyH.nil)
                    go_simp
                    refine hK.out _ _ (trivial) (fun hHeld => ?_)
                    clear hK K
                    try simp only [Act.put, List.setIfInBounds_toArray, List.set_cons_zero, List.set_cons_succ]
                    refine wpAnyH_ready (rs := [13]) (by kernel_rfl) (by simp) (AllReadyH.cons (o := { dst := some 131, op := Op.call { callee := Callee.builtin Builtin.append, args := #[Operand.tmp 119, Operand.tmp 130], argTypes := #[23, 23] }, type := 23, pos := "ref.go:145", after := #[{ on := 1, ground := Ground.data }, { on := 12, ground := Ground.data }, { on := 10, ground := Ground.chain }], guard := none }) rfl (fun K hK => ?_) AllReadyH.nil)
                    refine step_append_eq rfl _ _ 23 23 rfl rfl (by simp [Act.eval]) (by simp [Act.eval]) hrun ?_
                    refine hK.out _ _ (trivial) (fun hHeld => ?_)
                    clear hK K
                    try simp only [Act.put, List.setIfInBounds_toArray, List.set_cons_zero, List.set_cons_succ]
                    refine wpAnyH_take (i := 14) (oi := { dst := some 132, op := Op.fieldAddr 25 (Operand.tmp 5) 1, type := 0, pos := "ref.go:145", after := #[{ on := 0, ground := Ground.phase }, { on := 1, ground := Ground.phase }, { on := 2, ground := Ground.phase }, { on := 3, ground := Ground.phase }, { on := 4, ground := Ground.phase }, { on := 5, ground := Ground.phase }, { on := 6, ground := Ground.phase }, { on := 7, ground := Ground.phase }, { on := 8, ground := Ground.phase }, { on := 9, ground := Ground.phase }, { on := 10, ground := Ground.phase }, { on := 11, ground := Ground.phase }, { on := 12, ground := Ground.phase }, { on := 13, ground := Ground.phase }], guard := none }) (v := ?v310) rfl (by kernel_rfl) (by kernel_rfl) (by kernel_rfl) (fun _ _ _ h => h) (Or.inl ⟨by rfl, ?y310⟩) hHeld ?r310
                    case y310 => (intro W hSw; (try dsimp only at hSw); go_simp; try with_reducible rfl)
                    try simp only [Act.put, List.setIfInBounds_toArray, List.set_cons_zero, List.set_cons_succ]
                    refine wpAnyH_ready (rs := [15]) (by kernel_rfl) (by simp) (AllReadyH.cons (o := { dst := none, op := Op.store 23 (Operand.tmp 132) (Operand.tmp 131), type := 0, pos := "ref.go:145", after := #[{ on := 14, ground := Ground.data }, { on := 13, ground := Ground.data }, { on := 13, ground := Ground.chain }, { on := 0, ground := Ground.phase }, { on := 1, ground := Ground.phase }, { on := 2, ground := Ground.phase }, { on := 3, ground := Ground.phase }, { on := 4, ground := Ground.phase }, { on := 5, ground := Ground.phase }, { on := 6, ground := Ground.phase }, { on := 7, ground := Ground.phase }, { on := 8, ground := Ground.phase }, { on := 9, ground := Ground.phase }, { on := 10, ground := Ground.phase }, { on := 11, ground := Ground.phase }, { on := 12, ground := Ground.phase }, { on := 13, ground := Ground.phase }], guard := none }) rfl (fun K hK => ?_) AllReadyH.nil)
                    go_simp
                    refine hK.out _ _ (trivial) (fun hHeld => ?_)
                    clear hK K
                    try simp only [Act.put, List.setIfInBounds_toArray, List.set_cons_zero, List.set_cons_succ]
                    refine wpAnyH_done (by kernel_rfl) ?_ _
                    have HPN := Bx.mk hprl
                    clear hrun x0 x1 hprl v0 HVv HLw HTr H d0 d1 g0 l0 l1 f0 f1
                    go_wp2_with fail
                    go_roundw
                    case rel => exact ⟨at_ + U + 2, ln + 1, l, _, k + 1, A4, c4, by go_num, by go_num, HPN⟩
                    case measure => simp [intOf]; omega
                  · go_simp
                    refine (HLw.out _).mono ?_
                    rintro e w3 ⟨rfl, hb3⟩
                    replace b0 := b0.trans (hb3.mono b0.size)
                    obtain ⟨A4, c4, W4, hrun, x0, x1, hprl⟩ := H.out.field b0 (low k2, trim val) hkk HAT.out HPL.out
                    have v0 := HVv.out _ b0
                    have hgm3 := Nat.lt_of_lt_of_le hgm b0.size
                    clear hb3
                    refine hK.out _ _ (trivial) (fun hHeld => ?_)
                    clear hK K
                    try simp only [Act.put, List.setIfInBounds_toArray, List.set_cons_zero, List.set_cons_succ]
                    refine wpAnyH_ready (rs := [1, 10]) (by kernel_rfl) (by simp) (AllReadyH.cons (o := { dst := some 119, op := Op.load 23 (Operand.tmp 118), type := 23, pos := "ref.go:145", after := #[{ on := 0, ground := Ground.data }], guard := none }) rfl (fun K hK => ?_) (AllReadyH.cons (o := { dst := some 128, op := Op.call { callee := Callee.value (Operand.func 28), args := #[Operand.tmp 127], argTypes := #[9] }, type := 9, pos := "ref.go:145", after := #[{ on := 9, ground := Ground.data }, { on := 5, ground := Ground.chain }], guard := none }) rfl (fun K hK => ?_) AllReadyH.nil))
                    · go_simp
                      refine hK.out _ _ (trivial) (fun hHeld => ?_)
                      clear hK K
                      try simp only [Act.put, List.setIfInBounds_toArray, List.set_cons_zero, List.set_cons_succ]
                      refine wpAnyH_ready (rs := [10]) (by kernel_rfl) (by simp) (AllReadyH.cons (o := { dst := some 128, op := Op.call { callee := Callee.value (Operand.func 28), args := #[Operand.tmp 127], argTypes := #[9] }, type := 9, pos := "ref.go:145", after := #[{ on := 9, ground := Ground.data }, { on := 5, ground := Ground.chain }], guard := none }) rfl (fun K hK => ?_) AllReadyH.nil)
                      go_simp
                      refine (HTr.out _).mono ?_
                      rintro e w4 ⟨rfl, hw4⟩
                      replace hw4 := hw4.symm
                      subst hw4
                      refine hK.out _ _ (trivial) (fun hHeld => ?_)
                      clear hK K
                      try simp only [Act.put, List.setIfInBounds_toArray, List.set_cons_zero, List.set_cons_succ]
                      refine wpAnyH_take (i := 11) (oi := { dst := some 129, op := Op.build 49 #[(0, Operand.tmp 123), (1, Operand.tmp 128)], type := 49, pos := "ref.go:145", after := #[{ on := 5, ground := Ground.data }, { on := 10, ground := Ground.data }], guard := none }) (v := ?v311) rfl (by kernel_rfl) (by kernel_rfl) (by kernel_rfl) (fun _ _ _ h => h) (Or.inl ⟨by rfl, ?y311⟩) hHeld ?r311
                      case y311 => (intro W hSw; (try dsimp only at hSw); go_simp; try with_reducible rfl)
                      try simp only [Act.put, List.setIfInBounds_toArray, List.set_cons_zero, List.set_cons_succ]
                      refine wpAnyH_ready (rs := [12]) (by kernel_rfl) (by simp) (AllReadyH.cons (o := { dst := some 130, op := Op.buildSlice 23 1 #[(0, Operand.tmp 129)], type := 23, pos := "ref.go:145", after := #[{ on := 11, ground := Ground.data }], guard := none }) rfl (fun K hK => ?_) AllReadyH.nil)
                      go_simp
                      refine hK.out _ _ (trivial) (fun hHeld => ?_)
                      clear hK K
                      try simp only [Act.put, List.setIfInBounds_toArray, List.set_cons_zero, List.set_cons_succ]
                      refine wpAnyH_ready (rs := [13]) (by kernel_rfl) (by simp) (AllReadyH.cons (o := { dst := some 131, op := Op.call { callee := Callee.builtin Builtin.append, args := #[Operand.tmp 119, Operand.tmp 130], argTypes := #[23, 23] }, type := 23, pos := "ref.go:145", after := #[{ on := 1, ground := Ground.data }, { on := 12, ground := Ground.data }, { on := 10, ground := Ground.chain }], guard := none }) rfl (fun K hK => ?_) AllReadyH.nil)
                      refine step_append_eq rfl _ _ 23 23 rfl rfl (by simp [Act.eval]) (by simp [Act.eval]) hrun ?_
                      refine hK.out _ _ (trivial) (fun hHeld => ?_)
                      clear hK K
                      try simp only [Act.put, List.setIfInBounds_toArray, List.set_cons_zero, List.set_cons_succ]
                      refine wpAnyH_take (i := 14) (oi := { dst := some 132, op := Op.fieldAddr 25 (Operand.tmp 5) 1, type := 0, pos := "ref.go:145", after := #[{ on := 0, ground := Ground.phase }, { on := 1, ground := Ground.phase }, { on := 2, ground := Ground.phase }, { on := 3, ground := Ground.phase }, { on := 4, ground := Ground.phase }, { on := 5, ground := Ground.phase }, { on := 6, ground := Ground.phase }, { on := 7, ground := Ground.phase }, { on := 8, ground := Ground.phase }, { on := 9, ground := Ground.phase }, { on := 10, ground := Ground.phase }, { on := 11, ground := Ground.phase }, { on := 12, ground := Ground.phase }, { on := 13, ground := Ground.phase }], guard := none }) (v := ?v312) rfl (by kernel_rfl) (by kernel_rfl) (by kernel_rfl) (fun _ _ _ h => h) (Or.inl ⟨by rfl, ?y312⟩) hHeld ?r312
                      case y312 => (intro W hSw; (try dsimp only at hSw); go_simp; try with_reducible rfl)
                      try simp only [Act.put, List.setIfInBounds_toArray, List.set_cons_zero, List.set_cons_succ]
                      refine wpAnyH_ready (rs := [15]) (by kernel_rfl) (by simp) (AllReadyH.cons (o := { dst := none, op := Op.store 23 (Operand.tmp 132) (Operand.tmp 131), type := 0, pos := "ref.go:145", after := #[{ on := 14, ground := Ground.data }, { on := 13, ground := Ground.data }, { on := 13, ground := Ground.chain }, { on := 0, ground := Ground.phase }, { on := 1, ground := Ground.phase }, { on := 2, ground := Ground.phase }, { on := 3, ground := Ground.phase }, { on := 4, ground := Ground.phase }, { on := 5, ground := Ground.phase }, { on := 6, ground := Ground.phase }, { on := 7, ground := Ground.phase }, { on := 8, ground := Ground.phase }, { on := 9, ground := Ground.phase }, { on := 10, ground := Ground.phase }, { on := 11, ground := Ground.phase }, { on := 12, ground := Ground.phase }, { on := 13, ground := Ground.phase }], guard := none }) rfl (fun K hK => ?_) AllReadyH.nil)
                      go_simp
                      refine hK.out _ _ (trivial) (fun hHeld => ?_)
                      clear hK K
                      try simp only [Act.put, List.setIfInBounds_toArray, List.set_cons_zero, List.set_cons_succ]
                      refine wpAnyH_done (by kernel_rfl) ?_ _
                      have HPN := Bx.mk hprl
                      clear hrun x0 x1 hprl v0 HVv HLw HTr H d0 d1 g0 l0 l1 f0 f1
                      go_wp2_with fail
                      go_roundw
                      case rel => exact ⟨at_ + U + 2, ln + 1, l, _, k + 1, A4, c4, by go_num, by go_num, HPN⟩
                      case measure => simp [intOf]; omega
                    · go_simp
                      refine (HTr.out _).mono ?_
                      rintro e w4 ⟨rfl, hw4⟩
                      replace hw4 := hw4.symm
                      subst hw4
                      refine hK.out _ _ (trivial) (fun hHeld => ?_)
                      clear hK K
                      try simp only [Act.put, List.setIfInBounds_toArray, List.set_cons_zero, List.set_cons_succ]
                      refine wpAnyH_take (i := 11) (oi := { dst := some 129, op := Op.build 49 #[(0, Operand.tmp 123), (1, Operand.tmp 128)], type := 49, pos := "ref.go:145", after := #[{ on := 5, ground := Ground.data }, { on := 10, ground := Ground.data }], guard := none }) (v := ?v313) rfl (by kernel_rfl) (by kernel_rfl) (by kernel_rfl) (fun _ _ _ h => h) (Or.inl ⟨by rfl, ?y313⟩) hHeld ?r313
                      case y313 => (intro W hSw; (try dsimp only at hSw); go_simp; try with_reducible rfl)
                      try simp only [Act.put, List.setIfInBounds_toArray, List.set_cons_zero, List.set_cons_succ]
                      refine wpAnyH_ready (rs := [1, 12]) (by kernel_rfl) (by simp) (AllReadyH.cons (o := { dst := some 119, op := Op.load 23 (Operand.tmp 118), type := 23, pos := "ref.go:145", after := #[{ on := 0, ground := Ground.data }], guard := none }) rfl (fun K hK => ?_) (AllReadyH.cons (o := { dst := some 130, op := Op.buildSlice 23 1 #[(0, Operand.tmp 129)], type := 23, pos := "ref.go:145", after := #[{ on := 11, ground := Ground.data }], guard := none }) rfl (fun K hK => ?_) AllReadyH.nil))
                      · go_simp
                        refine hK.out _ _ (trivial) (fun hHeld => ?_)
                        clear hK K
                        try simp only [Act.put, List.setIfInBounds_toArray, List.set_cons_zero, List.set_cons_succ]
                        refine wpAnyH_ready (rs := [12]) (by kernel_rfl) (by simp) (AllReadyH.cons (o := { dst := some 130, op := Op.buildSlice 23 1 #[(0, Operand.tmp 129)], type := 23, pos := "ref.go:145", after := #[{ on := 11, ground := Ground.data }], guard := none }) rfl (fun K hK => ?_) AllReadyH.nil)
                        go_simp
                        refine hK.out _ _ (trivial) (fun hHeld => ?_)
                        clear hK K
                        try simp only [Act.put, List.setIfInBounds_toArray, List.set_cons_zero, List.set_cons_succ]
                        refine wpAnyH_ready (rs := [13]) (by kernel_rfl) (by simp) (AllReadyH.cons (o := { dst := some 131, op := Op.call { callee := Callee.builtin Builtin.append, args := #[Operand.tmp 119, Operand.tmp 130], argTypes := #[23, 23] }, type := 23, pos := "ref.go:145", after := #[{ on := 1, ground := Ground.data }, { on := 12, ground := Ground.data }, { on := 10, ground := Ground.chain }], guard := none }) rfl (fun K hK => ?_) AllReadyH.nil)
                        refine step_append_eq rfl _ _ 23 23 rfl rfl (by simp [Act.eval]) (by simp [Act.eval]) hrun ?_
                        refine hK.out _ _ (trivial) (fun hHeld => ?_)
                        clear hK K
                        try simp only [Act.put, List.setIfInBounds_toArray, List.set_cons_zero, List.set_cons_succ]
                        refine wpAnyH_take (i := 14) (oi := { dst := some 132, op := Op.fieldAddr 25 (Operand.tmp 5) 1, type := 0, pos := "ref.go:145", after := #[{ on := 0, ground := Ground.phase }, { on := 1, ground := Ground.phase }, { on := 2, ground := Ground.phase }, { on := 3, ground := Ground.phase }, { on := 4, ground := Ground.phase }, { on := 5, ground := Ground.phase }, { on := 6, ground := Ground.phase }, { on := 7, ground := Ground.phase }, { on := 8, ground := Ground.phase }, { on := 9, ground := Ground.phase }, { on := 10, ground := Ground.phase }, { on := 11, ground := Ground.phase }, { on := 12, ground := Ground.phase }, { on := 13, ground := Ground.phase }], guard := none }) (v := ?v314) rfl (by kernel_rfl) (by kernel_rfl) (by kernel_rfl) (fun _ _ _ h => h) (Or.inl ⟨by rfl, ?y314⟩) hHeld ?r314
                        case y314 => (intro W hSw; (try dsimp only at hSw); go_simp; try with_reducible rfl)
                        try simp only [Act.put, List.setIfInBounds_toArray, List.set_cons_zero, List.set_cons_succ]
                        refine wpAnyH_ready (rs := [15]) (by kernel_rfl) (by simp) (AllReadyH.cons (o := { dst := none, op := Op.store 23 (Operand.tmp 132) (Operand.tmp 131), type := 0, pos := "ref.go:145", after := #[{ on := 14, ground := Ground.data }, { on := 13, ground := Ground.data }, { on := 13, ground := Ground.chain }, { on := 0, ground := Ground.phase }, { on := 1, ground := Ground.phase }, { on := 2, ground := Ground.phase }, { on := 3, ground := Ground.phase }, { on := 4, ground := Ground.phase }, { on := 5, ground := Ground.phase }, { on := 6, ground := Ground.phase }, { on := 7, ground := Ground.phase }, { on := 8, ground := Ground.phase }, { on := 9, ground := Ground.phase }, { on := 10, ground := Ground.phase }, { on := 11, ground := Ground.phase }, { on := 12, ground := Ground.phase }, { on := 13, ground := Ground.phase }], guard := none }) rfl (fun K hK => ?_) AllReadyH.nil)
                        go_simp
                        refine hK.out _ _ (trivial) (fun hHeld => ?_)
                        clear hK K
                        try simp only [Act.put, List.setIfInBounds_toArray, List.set_cons_zero, List.set_cons_succ]
                        refine wpAnyH_done (by kernel_rfl) ?_ _
                        have HPN := Bx.mk hprl
                        clear hrun x0 x1 hprl v0 HVv HLw HTr H d0 d1 g0 l0 l1 f0 f1
                        go_wp2_with fail
                        go_roundw
                        case rel => exact ⟨at_ + U + 2, ln + 1, l, _, k + 1, A4, c4, by go_num, by go_num, HPN⟩
                        case measure => simp [intOf]; omega
                      · go_simp
                        refine hK.out _ _ (trivial) (fun hHeld => ?_)
                        clear hK K
                        try simp only [Act.put, List.setIfInBounds_toArray, List.set_cons_zero, List.set_cons_succ]
                        refine wpAnyH_ready (rs := [1]) (by kernel_rfl) (by simp) (AllReadyH.cons (o := { dst := some 119, op := Op.load 23 (Operand.tmp 118), type := 23, pos := "ref.go:145", after := #[{ on := 0, ground := Ground.data }], guard := none }) rfl (fun K hK => ?_) AllReadyH.nil)
                        go_simp
                        refine hK.out _ _ (trivial) (fun hHeld => ?_)
                        clear hK K
                        try simp only [Act.put, List.setIfInBounds_toArray, List.set_cons_zero, List.set_cons_succ]
                        refine wpAnyH_ready (rs := [13]) (by kernel_rfl) (by simp) (AllReadyH.cons (o := { dst := some 131, op := Op.call { callee := Callee.builtin Builtin.append, args := #[Operand.tmp 119, Operand.tmp 130], argTypes := #[23, 23] }, type := 23, pos := "ref.go:145", after := #[{ on := 1, ground := Ground.data }, { on := 12, ground := Ground.data }, { on := 10, ground := Ground.chain }], guard := none }) rfl (fun K hK => ?_) AllReadyH.nil)
                        refine step_append_eq rfl _ _ 23 23 rfl rfl (by simp [Act.eval]) (by simp [Act.eval]) hrun ?_
                        refine hK.out _ _ (trivial) (fun hHeld => ?_)
                        clear hK K
                        try simp only [Act.put, List.setIfInBounds_toArray, List.set_cons_zero, List.set_cons_succ]
                        refine wpAnyH_take (i := 14) (oi := { dst := some 132, op := Op.fieldAddr 25 (Operand.tmp 5) 1, type := 0, pos := "ref.go:145", after := #[{ on := 0, ground := Ground.phase }, { on := 1, ground := Ground.phase }, { on := 2, ground := Ground.phase }, { on := 3, ground := Ground.phase }, { on := 4, ground := Ground.phase }, { on := 5, ground := Ground.phase }, { on := 6, ground := Ground.phase }, { on := 7, ground := Ground.phase }, { on := 8, ground := Ground.phase }, { on := 9, ground := Ground.phase }, { on := 10, ground := Ground.phase }, { on := 11, ground := Ground.phase }, { on := 12, ground := Ground.phase }, { on := 13, ground := Ground.phase }], guard := none }) (v := ?v315) rfl (by kernel_rfl) (by kernel_rfl) (by kernel_rfl) (fun _ _ _ h => h) (Or.inl ⟨by rfl, ?y315⟩) hHeld ?r315
                        case y315 => (intro W hSw; (try dsimp only at hSw); go_simp; try with_reducible rfl)
                        try simp only [Act.put, List.setIfInBounds_toArray, List.set_cons_zero, List.set_cons_succ]
                        refine wpAnyH_ready (rs := [15]) (by kernel_rfl) (by simp) (AllReadyH.cons (o := { dst := none, op := Op.store 23 (Operand.tmp 132) (Operand.tmp 131), type := 0, pos := "ref.go:145", after := #[{ on := 14, ground := Ground.data }, { on := 13, ground := Ground.data }, { on := 13, ground := Ground.chain }, { on := 0, ground := Ground.phase }, { on := 1, ground := Ground.phase }, { on := 2, ground := Ground.phase }, { on := 3, ground := Ground.phase }, { on := 4, ground := Ground.phase }, { on := 5, ground := Ground.phase }, { on := 6, ground := Ground.phase }, { on := 7, ground := Ground.phase }, { on := 8, ground := Ground.phase }, { on := 9, ground := Ground.phase }, { on := 10, ground := Ground.phase }, { on := 11, ground := Ground.phase }, { on := 12, ground := Ground.phase }, { on := 13, ground := Ground.phase }], guard := none }) rfl (fun K hK => ?_) AllReadyH.nil)
                        go_simp
                        refine hK.out _ _ (trivial) (fun hHeld => ?_)
                        clear hK K
                        try simp only [Act.put, List.setIfInBounds_toArray, List.set_cons_zero, List.set_cons_succ]
                        refine wpAnyH_done (by kernel_rfl) ?_ _
                        have HPN := Bx.mk hprl
                        clear hrun x0 x1 hprl v0 HVv HLw HTr H d0 d1 g0 l0 l1 f0 f1
                        go_wp2_with fail
                        go_roundw
                        case rel => exact ⟨at_ + U + 2, ln + 1, l, _, k + 1, A4, c4, by go_num, by go_num, HPN⟩
                        case measure => simp [intOf]; omega
end Go.Proofs.YtkclhfoeimbikaaDoor.hd
