/-
  Given for 'Rows.AsciiReadsSaid': the walk of AsciiReads: it returns true at every input, and turns nothing that was there. No condition.
-/
import Derived.Test.YtliajejgkinkjaaActs
import Derived.Test.YtliajejgkinkjaaActsAt
import Derived.Deep.RegionWith
namespace Go.Proofs.Ytliajejgkinkjaa.model
open Go.RowKit mem reader plain
set_option linter.unusedVariables false
set_option linter.unusedSimpArgs false

section
variable {w : World} {B r : Nat} {A : Option Addr} {n c B' m : Nat} {A' : Option Addr} {c' : Nat} {xs : List Int} {k : Nat}
theorem reads_any (h : Two w B r A n c B' m A' c' xs k) (kd x : Int) (hk0 : 0 ≤ kd) (hk1 : kd ≤ 255) :
    Calls Try.prog 15 #[.pointer (some ⟨r, 0, none⟩), .pointer (some ⟨m, 0, none⟩), .agg #[.int .u8 kd, .int .i64 x]] w (DoneE w B r A n c B' m A' c' xs) := by
  show Calls Try.prog 15 (args r m kd x) w _
  have hcase : kd % 4 = 0 ∨ kd % 4 = 1 ∨ kd % 4 = 2 ∨ kd % 4 = 3 := by omega
  rcases hcase with hq | hq | hq | hq
  · by_cases hk : k + 1 ≤ n
    · exact reads_byte_ok h kd x hk0 hk1 hq hk
    · exact reads_byte_more h kd x hk0 hk1 hq (by omega)
  · by_cases hk : k + 2 ≤ n
    · exact reads_pair_ok h kd x hk0 hk1 hq hk
    · exact reads_pair_more h kd x hk0 hk1 hq (by omega)
  · by_cases hx : x < 0
    · exact reads_bytes_neg h kd x hk0 hk1 hq hx
    · by_cases hk : (n : Int) < (k : Int) + x
      · exact reads_bytes_more h kd x hk0 hk1 hq (by omega) hk
      · exact reads_bytes_ok h kd x hk0 hk1 hq x.toNat (by omega) (by omega)
  · by_cases hx : x < 0
    · exact reads_line_neg h kd x hk0 hk1 hq hx
    · rcases lineF_cases (xs.drop k) x with ⟨i, hf, _⟩ | hf | hf
      · exact reads_line_ok h kd x hk0 hk1 hq (by omega) i hf
      · exact reads_line_err h kd x hk0 hk1 hq (by omega) 0 5 hf (.inl rfl)
      · exact reads_line_err h kd x hk0 hk1 hq (by omega) 0 6 hf (.inr rfl)
end

/-- where the law stands -/
structure At (w wr : World) (B r : Nat) (A : Option Addr) (n c B' m : Nat) (A' : Option Addr) (c' : Nat) (xs : List Int) : Prop where
  two : ∃ k, Two wr B r A n c B' m A' c' xs k
  below : Below w.heap.size w wr
  lo : w.heap.size ≤ r ∧ w.heap.size ≤ m

theorem At.step {w wr w' : World} {B r : Nat} {A : Option Addr} {n c B' m : Nat} {A' : Option Addr} {c' : Nat} {xs : List Int} (h : At w wr B r A n c B' m A' c' xs) (hd : Done wr w' B r A n c B' m A' c' xs) : At w w' B r A n c B' m A' c' xs :=
  ⟨hd.ex, h.below.trans (hd.keep.below h.below.size (fun k hk e => by have := h.lo; omega)), h.lo⟩
theorem At.still {w wr w' : World} {B r : Nat} {A : Option Addr} {n c B' m : Nat} {A' : Option Addr} {c' : Nat} {xs : List Int} (h : At w wr B r A n c B' m A' c' xs) (hs : Still wr w') : At w w' B r A n c B' m A' c' xs := by
  obtain ⟨k, hk⟩ := h.two
  exact ⟨⟨k, hk.later (hs.below _)⟩, h.below.trans (hs.below _), h.lo⟩

/-- where a row of the call's own lies -/
theorem row_at {W : World} {b j cM : Nat} {M : Option Addr} {ys : List Value} {t : TypeId} (ho : W.ownsRow b t 1 (.slice M j cM) j ys) : ∀ g o, M = some ⟨g, o, none⟩ → b ≤ g ∧ g < W.heap.size := fun g o e => by
  subst e
  exact own_lt ho rfl

theorem Two.bumped {w5 wx : World} {B r : Nat} {A : Option Addr} {n c B' m : Nat} {A' : Option Addr} {c' : Nat} {xs : List Int} {k j : Nat} {M : Option Addr} (h : Two w5 B r A n c B' m A' c' xs k) (hBB : B ≤ B') (hM : ∀ g o, M = some ⟨g, o, none⟩ → 0 < g ∧ g < B) (hb : Bump w5 wx M j) : Two wx B r A n c B' m A' c' xs k := by
  have key : ∀ g, g < w5.heap.size → (g = 0 ∨ B ≤ g) → wx.heap[g]? = w5.heap[g]? := fun g hg hh => hb.keep.block g hg (fun ⟨o, e⟩ => by have := hM g o e; omega)
  have hr := h.has.base.2
  have hm := h.mod.base
  exact ⟨h.has.keep (key _ h.lts.1 (.inr hr)) (fun g hg => key _ (own_lt h.has.own hg).2 (.inr (own_lt h.has.own hg).1)) (key _ h.lts.2.2 (.inl rfl)),
    h.mod.keep (key _ h.lts.2.1 (.inr (by omega))) (fun g hg => key _ (own_lt h.mod.own hg).2 (.inr (by have := (own_lt h.mod.own hg).1; omega))), h.pos⟩

set_option maxHeartbeats 400000 in
theorem reads_out1 (Ab : Option Addr) (lb cb : Nat) (Al : Option Addr) (la cl : Nat) (w : World) (h : 600 < lb) :
    Calls Try.prog 4 #[.slice Ab lb cb, .slice Al la cl] w fun e w' => e = .returned (.bool true) ∧ Below w.heap.size w w' := by
  go_enter Try.func4, Try.ntmps4
  go_wp2
  go_ret
  exact ⟨rfl, Below.refl _ _⟩

set_option maxHeartbeats 400000 in
theorem reads_out2 (Ab : Option Addr) (lb cb : Nat) (Al : Option Addr) (la cl : Nat) (w : World) (h : ¬ 600 < lb) (h2 : 100 < la) :
    Calls Try.prog 4 #[.slice Ab lb cb, .slice Al la cl] w fun e w' => e = .returned (.bool true) ∧ Below w.heap.size w w' := by
  go_enter Try.func4, Try.ntmps4
  go_wp2
  go_ret
  exact ⟨rfl, Below.refl _ _⟩

set_option maxRecDepth 20000 in
set_option maxHeartbeats 8000000 in
theorem reads_in (Ab : Option Addr) (lb cb : Nat) (bs : List Int) (Al : Option Addr) (cl : Nat) (acts : List ActD) (w : World) (hs : Src w (fun g => g < w.heap.size) Ab lb cb bs) (hm : Max w) (hat : ActsAt w Al acts) (hok : ActsOk acts) (h6 : lb ≤ 600) (h1 : acts.length ≤ 100) :
    Calls Try.prog 4 #[.slice Ab lb cb, .slice Al acts.length cl] w fun e w' => e = .returned (.bool true) ∧ Below w.heap.size w w' := by
  have HC1 := Lib.hid (copy_any hs (by omega))
  have HSRC := Lib.hid hs
  have HM := Lib.hid hm
  have HAT := Lib.hid hat
  have HOK := Lib.hid hok
  have HLB := Lib.hid hs.len
  have HRG := Lib.hid hs.rng
  obtain ⟨N, hN⟩ : ∃ N, acts.length = N := ⟨_, rfl⟩
  have HN := Lib.hid hN
  rw [hN] at h1
  rw [hN]
  clear hs hm hat hok hN
  go_enter Try.func4, Try.ntmps4
  go_wp2_with fail
  refine HC1.out.mono ?_
  rintro e w1 ⟨M, cM, rfl, hoM, hb1⟩
  have hnew := new_has (src_of_own hoM HRG.out) (by omega) (HM.out.keep (hb1.block 0 HM.out.lt))
  unfold News at hnew
  rw [HLB.out] at hnew
  have HNEW := Lib.hid hnew
  have HOM := Lib.hid hoM
  have HB1 := Lib.hid hb1
  clear hnew hoM hb1 HC1
  go_wp2_with fail
  refine HNEW.out.mono ?_
  rintro e w2 ⟨r, A, c, rfl, hh2, hb2⟩
  have hb02 : Below w.heap.size w w2 := HB1.out.trans (hb2.mono HB1.out.size)
  have HC2 := Lib.hid (copy_any (HSRC.out.below hb02 (fun g hg => hg)) (by omega))
  have HH2 := Lib.hid hh2
  have HB2 := Lib.hid hb2
  have HB02 := Lib.hid hb02
  clear hh2 hb2 hb02 HNEW
  go_wp2_with fail
  refine HC2.out.mono ?_
  rintro e w3 ⟨D, cD, rfl, hoD, hb3⟩
  have hb3' : Below w1.heap.size w2 w3 := hb3.mono HB2.out.size
  have hb4 : Below w3.heap.size w3 (w3.alloc (.cells #[.slice D lb cD, .int .i64 0] 32)) := (Below.refl _ w3).alloc (Nat.le_refl _) _
  have hb14 := (HB2.out.trans hb3').trans (hb4.mono (Nat.le_trans HB2.out.size hb3.size))
  have hb04 := HB1.out.trans (hb14.mono HB1.out.size)
  have hm4 : Mod (w3.alloc (.cells #[.slice D lb cD, .int .i64 0] 32)) w2.heap.size w3.heap.size D lb cD bs 0 :=
    ⟨Lies.new w3 _ _, own_same hoD (fun g hg => Below.heap_alloc _ _ _ (own_lt hoD hg).2), HLB.out, Nat.zero_le _, by omega, HRG.out, hb3.size⟩
  have ht4 : Two (w3.alloc (.cells #[.slice D lb cD, .int .i64 0] 32)) w1.heap.size r A lb c w2.heap.size w3.heap.size D cD bs 0 :=
    ⟨(HH2.out.below hb3 (Nat.le_refl _)).below hb4 (Nat.le_refl _), hm4, by have := HM.out.lt; have := HB02.out.size; have := hb3.size; omega⟩
  have hM4 := own_same (w' := w3.alloc (.cells #[.slice D lb cD, .int .i64 0] 32)) HOM.out (fun g hg => hb14.block g (own_lt HOM.out hg).2)
  have HSM := Lib.hid (same_self _ (src_of_own hM4 HRG.out) (HSRC.out.below hb04 (fun g hg => hg)))
  have HT4 := Lib.hid ht4
  have HM4 := Lib.hid hM4
  have HB04 := Lib.hid hb04
  have HMR := Lib.hid (row_at HOM.out)
  have HLO := Lib.hid (show w.heap.size ≤ w1.heap.size ∧ w1.heap.size ≤ w2.heap.size ∧ w2.heap.size ≤ w3.heap.size ∧ w1.heap.size ≤ r from ⟨HB1.out.size, HB2.out.size, hb3.size, HH2.out.base.2⟩)
  clear hb3 hb3' hb4 hb14 hb04 hm4 ht4 hM4 hoD HC2 HH2 HB2 HB02
  go_upto_region 6 with fail
  generalize w3.alloc (.cells #[.slice D lb cD, .int .i64 0] 32) = w4 at *
  go_wp2_with fail
  refine HSM.out.mono ?_
  rintro e w5 ⟨rfl, hst⟩
  have hM5 := own_same (w' := w5) HM4.out (fun g hg => by rw [hst.heap])
  have HBU := Lib.hid (bump_start hM5)
  have HAFT := Lib.hid (fun (wx : World) (hb : Bump w5 wx M lb) => show At w wx w1.heap.size r A lb c w2.heap.size w3.heap.size D cD bs from
    ⟨⟨0, (HT4.out.later (hst.below _)).bumped HLO.out.2.1 (fun g o e => by have := HMR.out g o e; have := HM.out.lt; omega) hb⟩,
      (HB04.out.trans (hst.below _)).trans (hb.below hM5 (by rw [hst.size]; exact HB04.out.size)), by have := HLO.out; omega⟩)
  clear hst hM5 HSM HT4 HM4 HB04 HMR HLO HOM HB1 HSRC HM HRG HLB
  generalize w1.heap.size = B at *
  generalize w2.heap.size = B' at *
  generalize w3.heap.size = m at *
  go_wp2_with fail
  go_loopg [8] lb (fun g s8 wx => ∃ i : Nat, i ≤ lb ∧ g = lb - i ∧ s8 = .int .i64 i ∧ Hid (Bump w5 wx M lb))
  case atStart => exact ⟨0, Nat.zero_le _, rfl, rfl, HBU⟩
  case round =>
    clear HBU
    obtain ⟨i, hi, rfl, rfl, hb⟩ := hrel
    by_cases hij : i < lb
    · obtain ⟨g, cur, rfl, hl, hg, hc⟩ := hb.out.cells (by omega)
      obtain ⟨z, hz⟩ := hc i hij
      have cz := (hl.cell i).trans hz
      have fz := hl.frozen i
      have HRD := Lib.hid (fun y => bump_round (j := i) (y := y) hb.out.keep hl hg hc)
      clear hb hl hg hc hz
      go_wp2_with fail
      go_roundg (lb - (i + 1))
      case measure => omega
      case rel => exact ⟨i + 1, by omega, rfl, by go_num, HRD.out _⟩
    · have HA := Lib.hid (HAFT.out _ hb.out)
      clear HAFT hb
      go_wp2_with fail
      go_loopg [9] N (fun g s9 wx => ∃ i : Nat, i ≤ N ∧ g = N - i ∧ s9 = .int .i64 i ∧ Hid (At w wx B r A lb c B' m D cD bs))
      case atStart => exact ⟨0, Nat.zero_le _, rfl, rfl, HA⟩
      case round =>
        clear HA
        obtain ⟨i, hi, rfl, rfl, hat⟩ := hrel
        by_cases hiN : i < N
        · obtain ⟨x, hx⟩ : ∃ x, acts[i]? = some x := ⟨_, List.getElem?_eq_getElem (by rw [HN.out]; exact hiN)⟩
          obtain ⟨ga, off, rfl, _, hcs⟩ := (HAT.out.below hat.out.below) (by rw [HN.out]; omega)
          obtain ⟨d0, d1⟩ := hcs i x hx
          obtain ⟨hk0, hk1⟩ := HOK.out i x hx
          have hatd := hat.out.still (Still.drew1 wr)
          obtain ⟨k, ht⟩ := hatd.two
          obtain ⟨kd, xn⟩ := x
          dsimp only at d0 d1 hk0 hk1
          have HRD := Lib.hid (reads_any ht kd xn hk0 hk1)
          have HST := Lib.hid (fun (W : World) (hd : Done wr.drew W B r A lb c B' m D cD bs) => hatd.step hd)
          clear hx hcs ht hat hatd
          go_wp2_with fail
          -- REGION BEGINS
          refine wp_region_any (by kernel_rfl) ?_
          try (change wpAny _ _ _ _ _ _ _ (World.drew _))
          refine wpAny_take (i := 0) (oi := { dst := some 52, op := Op.move (Operand.tmp 6), type := 28, pos := "law.go:77", after := #[], guard := none }) (v := ?v1) rfl (by kernel_rfl) (by kernel_rfl) (by kernel_rfl) (fun _ _ _ h => h) (Or.inl ⟨by rfl, ?y1⟩) ?r1
          case y1 => (intro W; go_simp; try with_reducible rfl)
          try simp only [Act.put, List.setIfInBounds_toArray, List.set_cons_zero, List.set_cons_succ]
          refine wpAny_take (i := 1) (oi := { dst := some 53, op := Op.move (Operand.tmp 7), type := 30, pos := "law.go:77", after := #[], guard := none }) (v := ?v2) rfl (by kernel_rfl) (by kernel_rfl) (by kernel_rfl) (fun _ _ _ h => h) (Or.inl ⟨by rfl, ?y2⟩) ?r2
          case y2 => (intro W; go_simp; try with_reducible rfl)
          try simp only [Act.put, List.setIfInBounds_toArray, List.set_cons_zero, List.set_cons_succ]
          refine wpAny_take (i := 2) (oi := { dst := some 54, op := Op.move (Operand.tmp 1), type := 26, pos := "law.go:77", after := #[], guard := none }) (v := ?v3) rfl (by kernel_rfl) (by kernel_rfl) (by kernel_rfl) (fun _ _ _ h => h) (Or.inl ⟨by rfl, ?y3⟩) ?r3
          case y3 => (intro W; go_simp; try with_reducible rfl)
          try simp only [Act.put, List.setIfInBounds_toArray, List.set_cons_zero, List.set_cons_succ]
          refine wpAny_take (i := 3) (oi := { dst := some 55, op := Op.move (Operand.tmp 9), type := 3, pos := "law.go:77", after := #[], guard := none }) (v := ?v4) rfl (by kernel_rfl) (by kernel_rfl) (by kernel_rfl) (fun _ _ _ h => h) (Or.inl ⟨by rfl, ?y4⟩) ?r4
          case y4 => (intro W; go_simp; try with_reducible rfl)
          try simp only [Act.put, List.setIfInBounds_toArray, List.set_cons_zero, List.set_cons_succ]
          refine wpAny_take (i := 4) (oi := { dst := some 56, op := Op.indexAddr 26 (Operand.tmp 54) (Operand.tmp 55), type := 0, pos := "law.go:77", after := #[{ on := 2, ground := Ground.data }, { on := 3, ground := Ground.data }], guard := none }) (v := ?v5) rfl (by kernel_rfl) (by kernel_rfl) (by kernel_rfl) (fun _ _ _ h => h) (Or.inl ⟨by rfl, ?y5⟩) ?r5
          case y5 => (intro W; go_simp; try with_reducible rfl)
          try simp only [Act.put, List.setIfInBounds_toArray, List.set_cons_zero, List.set_cons_succ]
          refine wpAny_ready (rs := [5]) (by kernel_rfl) (by simp) (AllReady.cons (o := { dst := some 57, op := Op.load 36 (Operand.tmp 56), type := 36, pos := "law.go:77", after := #[{ on := 4, ground := Ground.data }], guard := none }) rfl (fun K hK => ?_) AllReady.nil)
          go_simp
          refine hK _ _ ?_
          clear hK K
          try simp only [Act.put, List.setIfInBounds_toArray, List.set_cons_zero, List.set_cons_succ]
          refine wpAny_ready (rs := [6]) (by kernel_rfl) (by simp) (AllReady.cons (o := { dst := some 58, op := Op.call { callee := Callee.value (Operand.func 15), args := #[Operand.tmp 52, Operand.tmp 53, Operand.tmp 57], argTypes := #[28, 30, 36] }, type := 4, pos := "law.go:77", after := #[{ on := 0, ground := Ground.data }, { on := 1, ground := Ground.data }, { on := 5, ground := Ground.data }], guard := none }) rfl (fun K hK => ?_) AllReady.nil)
          go_simp
          go_at_call 15
          refine HRD.out.mono ?_
          rintro e w6 ⟨rfl, hd⟩
          obtain ⟨k6, ht6⟩ := hd.ex
          have HD := Lib.hid (HST.out _ hd)
          have f6 := ht6.mod.head.cell 1
          have HAA := Lib.hid (at_has w6 ht6.has)
          have HLL := Lib.hid (left_has w6 ht6.has)
          have hle := ht6.mod.le
          have hw6 : IntKind.i64.wrap ((lb : Int) - (k6 : Int)) = (lb : Int) - (k6 : Int) := IntWalk.i64_in _ (by omega)
          have hne1 : ((k6 : Int) != (k6 : Int)) = false := by simp
          have hne2 : ((lb : Int) - (k6 : Int) != (lb : Int) - (k6 : Int)) = false := by simp
          clear hd ht6 HRD HST
          refine hK _ _ ?_
          clear hK K
          try simp only [Act.put, List.setIfInBounds_toArray, List.set_cons_zero, List.set_cons_succ]
          refine wpAny_of_held (S := fun W' => W'.cell? ⟨m, 1, none⟩ = some (.int .i64 (k6 : Int))) _ _ _ _ ?_
          have hHeld : (fun W' : World => W'.cell? ⟨m, 1, none⟩ = some (.int .i64 (k6 : Int))) w6 := f6
          refine wpAnyH_take (i := 7) (oi := { dst := some 59, op := Op.unOp UnOp.not 4 (Operand.tmp 58), type := 4, pos := "law.go:77", after := #[{ on := 6, ground := Ground.data }], guard := none }) (v := ?v6) rfl (by kernel_rfl) (by kernel_rfl) (by kernel_rfl) (fun _ _ _ h => h) (Or.inl ⟨by rfl, ?y6⟩) hHeld ?r6
          case y6 => (intro W hSw; (try dsimp only at hSw); go_simp; try with_reducible rfl)
          try simp only [Act.put, List.setIfInBounds_toArray, List.set_cons_zero, List.set_cons_succ]
          refine wpAnyH_take (i := 8) (oi := { dst := some 60, op := Op.move (Operand.tmp 59), type := 4, pos := "law.go:77", after := #[{ on := 7, ground := Ground.data }, { on := 6, ground := Ground.chain }], guard := none }) (v := ?v7) rfl (by kernel_rfl) (by kernel_rfl) (by kernel_rfl) (fun _ _ _ h => h) (Or.inl ⟨by rfl, ?y7⟩) hHeld ?r7
          case y7 => (intro W hSw; (try dsimp only at hSw); go_simp; try with_reducible rfl)
          try simp only [Act.put, List.setIfInBounds_toArray, List.set_cons_zero, List.set_cons_succ]
          refine wpAnyH_take (i := 9) (oi := { dst := some 61, op := Op.move (Operand.tmp 6), type := 28, pos := "law.go:77", after := #[{ on := 8, ground := Ground.guard }], guard := some (8, false) }) (v := ?v8) rfl (by kernel_rfl) (by kernel_rfl) (by kernel_rfl) (fun _ _ _ h => h) (Or.inl ⟨by rfl, ?y8⟩) hHeld ?r8
          case y8 => (intro W hSw; (try dsimp only at hSw); go_simp; try with_reducible rfl)
          try simp only [Act.put, List.setIfInBounds_toArray, List.set_cons_zero, List.set_cons_succ]
          refine wpAnyH_take (i := 11) (oi := { dst := some 63, op := Op.move (Operand.tmp 7), type := 30, pos := "law.go:77", after := #[{ on := 8, ground := Ground.guard }], guard := some (8, false) }) (v := ?v9) rfl (by kernel_rfl) (by kernel_rfl) (by kernel_rfl) (fun _ _ _ h => h) (Or.inl ⟨by rfl, ?y9⟩) hHeld ?r9
          case y9 => (intro W hSw; (try dsimp only at hSw); go_simp; try with_reducible rfl)
          try simp only [Act.put, List.setIfInBounds_toArray, List.set_cons_zero, List.set_cons_succ]
          refine wpAnyH_take (i := 12) (oi := { dst := some 64, op := Op.nilCheck (Operand.tmp 63), type := 0, pos := "law.go:77", after := #[{ on := 11, ground := Ground.data }, { on := 8, ground := Ground.guard }], guard := some (8, false) }) (v := ?v10) rfl (by kernel_rfl) (by kernel_rfl) (by kernel_rfl) (fun _ _ _ h => h) (Or.inl ⟨by rfl, ?y10⟩) hHeld ?r10
          case y10 => (intro W hSw; (try dsimp only at hSw); go_simp; try with_reducible rfl)
          try simp only [Act.put, List.setIfInBounds_toArray, List.set_cons_zero, List.set_cons_succ]
          refine wpAnyH_take (i := 13) (oi := { dst := some 65, op := Op.fieldAddr 32 (Operand.tmp 64) 1, type := 0, pos := "law.go:77", after := #[{ on := 12, ground := Ground.data }, { on := 8, ground := Ground.guard }], guard := some (8, false) }) (v := ?v11) rfl (by kernel_rfl) (by kernel_rfl) (by kernel_rfl) (fun _ _ _ h => h) (Or.inl ⟨by rfl, ?y11⟩) hHeld ?r11
          case y11 => (intro W hSw; (try dsimp only at hSw); go_simp; try with_reducible rfl)
          try simp only [Act.put, List.setIfInBounds_toArray, List.set_cons_zero, List.set_cons_succ]
          refine wpAnyH_take (i := 14) (oi := { dst := some 66, op := Op.load 3 (Operand.tmp 65), type := 3, pos := "law.go:77", after := #[{ on := 13, ground := Ground.data }, { on := 8, ground := Ground.guard }], guard := some (8, false) }) (v := ?v12) rfl (by kernel_rfl) (by kernel_rfl) (by kernel_rfl) (fun _ _ _ h => h) (Or.inl ⟨by rfl, ?y12⟩) hHeld ?r12
          case y12 => (intro W hSw; (try dsimp only at hSw); go_simp; try with_reducible rfl)
          try simp only [Act.put, List.setIfInBounds_toArray, List.set_cons_zero, List.set_cons_succ]
          refine wpAnyH_ready (rs := [10]) (by kernel_rfl) (by simp) (AllReadyH.cons (o := { dst := some 62, op := Op.call { callee := Callee.value (Operand.func 16), args := #[Operand.tmp 61], argTypes := #[28] }, type := 3, pos := "law.go:77", after := #[{ on := 9, ground := Ground.data }, { on := 8, ground := Ground.chain }, { on := 8, ground := Ground.guard }], guard := some (8, false) }) rfl (fun K hK => ?_) AllReadyH.nil)
          go_simp
          go_at_call 16
          refine HAA.out.mono ?_
          rintro e w' ⟨rfl, rfl⟩
          refine hK.out _ _ f6 (fun hHeld => ?_)
          clear hK K HAA
          try simp only [Act.put, List.setIfInBounds_toArray, List.set_cons_zero, List.set_cons_succ]
          refine wpAnyH_take (i := 15) (oi := { dst := some 67, op := Op.binOp BinOp.neq 3 (Operand.tmp 62) (Operand.tmp 66) 3, type := 4, pos := "law.go:77", after := #[{ on := 10, ground := Ground.data }, { on := 14, ground := Ground.data }, { on := 8, ground := Ground.guard }], guard := some (8, false) }) (v := ?v13) rfl (by kernel_rfl) (by kernel_rfl) (by kernel_rfl) (fun _ _ _ h => h) (Or.inl ⟨by rfl, ?y13⟩) hHeld ?r13
          case y13 => (intro W hSw; (try dsimp only at hSw); go_simp; try with_reducible rfl)
          try simp only [Act.put, List.setIfInBounds_toArray, List.set_cons_zero, List.set_cons_succ]
          refine wpAnyH_take (i := 16) (oi := { dst := some 68, op := Op.pick (Operand.tmp 60) (Operand.const (Value.bool true)) (Operand.tmp 67), type := 4, pos := "law.go:77", after := #[{ on := 8, ground := Ground.data }, { on := 15, ground := Ground.data }], guard := none }) (v := ?v14) rfl (by kernel_rfl) (by kernel_rfl) (by kernel_rfl) (fun _ _ _ h => h) (Or.inl ⟨by rfl, ?y14⟩) hHeld ?r14
          case y14 => (intro W hSw; (try dsimp only at hSw); go_simp; try with_reducible rfl)
          try simp only [Act.put, List.setIfInBounds_toArray, List.set_cons_zero, List.set_cons_succ]
          refine wpAnyH_take (i := 17) (oi := { dst := some 69, op := Op.move (Operand.tmp 68), type := 4, pos := "law.go:77", after := #[{ on := 16, ground := Ground.data }, { on := 10, ground := Ground.chain }], guard := none }) (v := ?v15) rfl (by kernel_rfl) (by kernel_rfl) (by kernel_rfl) (fun _ _ _ h => h) (Or.inl ⟨by rfl, ?y15⟩) hHeld ?r15
          case y15 => (intro W hSw; (try dsimp only at hSw); go_simp; try with_reducible rfl)
          try simp only [Act.put, List.setIfInBounds_toArray, List.set_cons_zero, List.set_cons_succ]
          refine wpAnyH_take (i := 18) (oi := { dst := some 70, op := Op.move (Operand.tmp 6), type := 28, pos := "law.go:77", after := #[{ on := 17, ground := Ground.guard }], guard := some (17, false) }) (v := ?v16) rfl (by kernel_rfl) (by kernel_rfl) (by kernel_rfl) (fun _ _ _ h => h) (Or.inl ⟨by rfl, ?y16⟩) hHeld ?r16
          case y16 => (intro W hSw; (try dsimp only at hSw); go_simp; try with_reducible rfl)
          try simp only [Act.put, List.setIfInBounds_toArray, List.set_cons_zero, List.set_cons_succ]
          refine wpAnyH_take (i := 20) (oi := { dst := some 72, op := Op.move (Operand.tmp 0), type := 25, pos := "law.go:77", after := #[{ on := 17, ground := Ground.guard }], guard := some (17, false) }) (v := ?v17) rfl (by kernel_rfl) (by kernel_rfl) (by kernel_rfl) (fun _ _ _ h => h) (Or.inl ⟨by rfl, ?y17⟩) hHeld ?r17
          case y17 => (intro W hSw; (try dsimp only at hSw); go_simp; try with_reducible rfl)
          try simp only [Act.put, List.setIfInBounds_toArray, List.set_cons_zero, List.set_cons_succ]
          refine wpAnyH_take (i := 21) (oi := { dst := some 73, op := Op.call { callee := Callee.builtin Builtin.len, args := #[Operand.tmp 72], argTypes := #[25] }, type := 3, pos := "law.go:77", after := #[{ on := 20, ground := Ground.data }, { on := 17, ground := Ground.guard }], guard := some (17, false) }) (v := ?v18) rfl (by kernel_rfl) (by kernel_rfl) (by kernel_rfl) (fun _ _ _ h => h) (Or.inl ⟨by rfl, ?y18⟩) hHeld ?r18
          case y18 => (intro W hSw; (try dsimp only at hSw); go_simp; try with_reducible rfl)
          try simp only [Act.put, List.setIfInBounds_toArray, List.set_cons_zero, List.set_cons_succ]
          refine wpAnyH_take (i := 22) (oi := { dst := some 74, op := Op.move (Operand.tmp 7), type := 30, pos := "law.go:77", after := #[{ on := 17, ground := Ground.guard }], guard := some (17, false) }) (v := ?v19) rfl (by kernel_rfl) (by kernel_rfl) (by kernel_rfl) (fun _ _ _ h => h) (Or.inl ⟨by rfl, ?y19⟩) hHeld ?r19
          case y19 => (intro W hSw; (try dsimp only at hSw); go_simp; try with_reducible rfl)
          try simp only [Act.put, List.setIfInBounds_toArray, List.set_cons_zero, List.set_cons_succ]
          refine wpAnyH_take (i := 23) (oi := { dst := some 75, op := Op.nilCheck (Operand.tmp 74), type := 0, pos := "law.go:77", after := #[{ on := 22, ground := Ground.data }, { on := 17, ground := Ground.guard }], guard := some (17, false) }) (v := ?v20) rfl (by kernel_rfl) (by kernel_rfl) (by kernel_rfl) (fun _ _ _ h => h) (Or.inl ⟨by rfl, ?y20⟩) hHeld ?r20
          case y20 => (intro W hSw; (try dsimp only at hSw); go_simp; try with_reducible rfl)
          try simp only [Act.put, List.setIfInBounds_toArray, List.set_cons_zero, List.set_cons_succ]
          refine wpAnyH_take (i := 24) (oi := { dst := some 76, op := Op.fieldAddr 32 (Operand.tmp 75) 1, type := 0, pos := "law.go:77", after := #[{ on := 23, ground := Ground.data }, { on := 17, ground := Ground.guard }], guard := some (17, false) }) (v := ?v21) rfl (by kernel_rfl) (by kernel_rfl) (by kernel_rfl) (fun _ _ _ h => h) (Or.inl ⟨by rfl, ?y21⟩) hHeld ?r21
          case y21 => (intro W hSw; (try dsimp only at hSw); go_simp; try with_reducible rfl)
          try simp only [Act.put, List.setIfInBounds_toArray, List.set_cons_zero, List.set_cons_succ]
          refine wpAnyH_take (i := 25) (oi := { dst := some 77, op := Op.load 3 (Operand.tmp 76), type := 3, pos := "law.go:77", after := #[{ on := 24, ground := Ground.data }, { on := 17, ground := Ground.guard }], guard := some (17, false) }) (v := ?v22) rfl (by kernel_rfl) (by kernel_rfl) (by kernel_rfl) (fun _ _ _ h => h) (Or.inl ⟨by rfl, ?y22⟩) hHeld ?r22
          case y22 => (intro W hSw; (try dsimp only at hSw); go_simp; try with_reducible rfl)
          try simp only [Act.put, List.setIfInBounds_toArray, List.set_cons_zero, List.set_cons_succ]
          refine wpAnyH_take (i := 26) (oi := { dst := some 78, op := Op.binOp BinOp.sub 3 (Operand.tmp 73) (Operand.tmp 77) 3, type := 3, pos := "law.go:77", after := #[{ on := 21, ground := Ground.data }, { on := 25, ground := Ground.data }, { on := 17, ground := Ground.guard }], guard := some (17, false) }) (v := ?v23) rfl (by kernel_rfl) (by kernel_rfl) (by kernel_rfl) (fun _ _ _ h => h) (Or.inl ⟨by rfl, ?y23⟩) hHeld ?r23
          case y23 => (intro W hSw; (try dsimp only at hSw); go_simp; try with_reducible rfl)
          try simp only [Act.put, List.setIfInBounds_toArray, List.set_cons_zero, List.set_cons_succ]
          refine wpAnyH_ready (rs := [19]) (by kernel_rfl) (by simp) (AllReadyH.cons (o := { dst := some 71, op := Op.call { callee := Callee.value (Operand.func 17), args := #[Operand.tmp 70], argTypes := #[28] }, type := 3, pos := "law.go:77", after := #[{ on := 18, ground := Ground.data }, { on := 17, ground := Ground.chain }, { on := 17, ground := Ground.guard }], guard := some (17, false) }) rfl (fun K hK => ?_) AllReadyH.nil)
          go_simp
          go_at_call 17
          refine HLL.out.mono ?_
          rintro e w7 ⟨rfl, hst7⟩
          have f7 := (hst7.cell _).trans f6
          have HD7 := Lib.hid (HD.out.still hst7)
          clear HLL HD hst7 hHeld
          refine hK.out _ _ f7 (fun hHeld => ?_)
          clear hK K
          try simp only [Act.put, List.setIfInBounds_toArray, List.set_cons_zero, List.set_cons_succ]
          refine wpAnyH_take (i := 27) (oi := { dst := some 79, op := Op.binOp BinOp.neq 3 (Operand.tmp 71) (Operand.tmp 78) 3, type := 4, pos := "law.go:77", after := #[{ on := 19, ground := Ground.data }, { on := 26, ground := Ground.data }, { on := 17, ground := Ground.guard }], guard := some (17, false) }) (v := ?v24) rfl (by kernel_rfl) (by kernel_rfl) (by kernel_rfl) (fun _ _ _ h => h) (Or.inl ⟨by rfl, ?y24⟩) hHeld ?r24
          case y24 => (intro W hSw; (try dsimp only at hSw); go_simp; try with_reducible rfl)
          try simp only [Act.put, List.setIfInBounds_toArray, List.set_cons_zero, List.set_cons_succ]
          refine wpAnyH_take (i := 28) (oi := { dst := some 80, op := Op.pick (Operand.tmp 69) (Operand.const (Value.bool true)) (Operand.tmp 79), type := 4, pos := "law.go:77", after := #[{ on := 17, ground := Ground.data }, { on := 27, ground := Ground.data }], guard := none }) (v := ?v25) rfl (by kernel_rfl) (by kernel_rfl) (by kernel_rfl) (fun _ _ _ h => h) (Or.inl ⟨by rfl, ?y25⟩) hHeld ?r25
          case y25 => (intro W hSw; (try dsimp only at hSw); go_simp; try with_reducible rfl)
          try simp only [Act.put, List.setIfInBounds_toArray, List.set_cons_zero, List.set_cons_succ]
          refine wpAnyH_done (by kernel_rfl) ?_ _
          -- REGION ENDS
          go_wp2_with fail
          go_roundg (N - (i + 1))
          case measure => omega
          case rel => exact ⟨i + 1, by omega, rfl, by go_num, HD7⟩
        · go_wp2_with fail
          go_ret
          exact ⟨rfl, hat.out.below⟩

theorem walk (Ab : Option Addr) (lb cb : Nat) (bs : List Int) (Al : Option Addr) (cl : Nat) (acts : List ActD) (w : World) (hm : Max w) (hs : Src w (fun g => g < w.heap.size) Ab lb cb bs) (hat : ActsAt w Al acts) (hok : ActsOk acts) :
    Calls Try.prog 4 #[.slice Ab lb cb, .slice Al acts.length cl] w fun e w' => e = .returned (.bool true) ∧ Below w.heap.size w w' := by
  by_cases h6 : 600 < lb
  · exact reads_out1 Ab lb cb Al acts.length cl w h6
  · by_cases h1 : 100 < acts.length
    · exact reads_out2 Ab lb cb Al acts.length cl w h6 h1
    · exact reads_in Ab lb cb bs Al cl acts w hs hm hat hok (by omega) (by omega)

end Go.Proofs.Ytliajejgkinkjaa.model
