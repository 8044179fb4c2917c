/-
  Given for the seat's laws: a range over a function that writes cells of its own between two rounds: the k-th round is handed encs k. No condition but those of the theorem.
-/
import Derived.Test.YtghdaengkgiekaaGreatDoorYHLab
import Derived.Test.YtghdaengkgiekaaGreatDoorYReg
import Derived.RangeFuncNested
import Derived.RangeFuncBound
import Derived.RangeFuncCalls
import Derived.RangeFuncLeaves
import Derived.RangeFuncBox
import Derived.Shelf.Abstract
import Derived.OwnWalkIn
import Derived.TacticsInMore
import Derived.LoopNIn
import Derived.LoopIn
namespace Go.Proofs.YtghdaengkgiekaaGreatDoor.hw
open Go.RowKit Go.Shelf
set_option linter.unusedVariables false

/-- how a round may be left: it goes on, or returns -/
def roundEnd (B : Nat) (I Ix : World → Prop) (W : World) : Exit → Act → World → Prop
  | .normal, _, W' => KeepsFrom B W W' ∧ I W'
  | .ret, _, W' => KeepsFrom B W W' ∧ Ix W'
  | .exit _, _, _ => False
  | .goto _, _, _ => False
  | .panic _, _, _ => False
  | .outgrown, _, _ => False

/-- what abides whatever keeps the blocks from B on that are no cells -/
def Firm (B : Nat) (R : World → Prop) : Prop := ∀ X Y, KeepsFrom B X Y → R X → R Y

/-- what a function that is ranged over owes: I k: k rounds are over; Y k: the round k is called; Ix: a round has returned; Fin: none is left -/
def SeqW (F : Fence) (n : Nat) (P : Program) (gf : Nat) (lb : Array Value) (encs : Nat → Array Value) (B : Nat) (I Y : Nat → World → Prop) (Ix Fin : World → Prop) : Prop :=
  ∀ (l : Nat) (R Rx : World → Prop) (W : World), Firm B R → Firm B Rx → B ≤ W.heap.size → I 0 W → R W →
    (∀ k W1, Y k W1 → R W1 → YieldAt F (n - 1) P l (encs k) W1 fun e W' => (e = .returned (.bool true) ∧ I (k + 1) W' ∧ R W') ∨ (e = .returned (.bool false) ∧ Ix W' ∧ Rx W')) →
    CallsIn F n P gf (#[.func (.yield l) #[] #[]] ++ lb) W fun e W' => (∃ v, e = .returned v) ∧ ((Fin W' ∧ R W') ∨ (Ix W' ∧ Rx W'))

theorem wpIn_range_w {F : Fence} {n : Nat} {P : Program} {g : Operand} {ps : Array Tmp} {assign body : Code} {Q : Exit → Act → World → Prop} {a : Act} {w : World} (hro : F.round = none) (h1 : 1 ≤ n)
    {gf : Nat} {lb : Array Value} (hg : a.eval g = .func (.func gf) #[] lb) (hFg : F.fn gf) (eg : ∀ args w, (callFunc gf args).run P w = .ok (.enter gf args) w)
    {encs : Nat → Array Value} {I Y : Nat → World → Prop} {Ix Fin : World → Prop} (hseq : SeqW F (n - 1) P gf lb encs w.heap.size I Y Ix Fin) (hps : ∀ k, (encs k).size = ps.size)
    (hI : OwnFrom w.heap.size I) (hY : OwnFrom w.heap.size Y) (hX : OwnFrom w.heap.size (fun (_ : Unit) W => Ix W)) (hN : OwnFrom w.heap.size (fun (_ : Unit) W => Fin W)) (h0 : I 0 w) (a₁ : Nat → Act)
    (hassign : ∀ (l k : Nat) (W : World) (K : Act → World → Prop), K (a₁ k) W → assign.wpIn (F.inRound l) (n - 1 - 1) P (Exit.then K (fun _ _ _ => False)) { tmps := (ps.zip (encs k)).foldl (fun t (p, v) => t.setIfInBounds p v) a.tmps, defers := [] } W)
    (hbody : ∀ (l k : Nat) (W : World), Y k W → body.wpIn (F.inRound l) (n - 1 - 1) P (roundEnd w.heap.size (I (k + 1)) Ix W) (a₁ k) W)
    (hdone : ∀ (D : Nat) (W : World), w.heap.size ≤ D → Fin W → W.heap[D]? = some (.deferred (some [])) → Q .normal { a with defers := { target := .collected D, args := #[] } :: a.defers } W)
    (hstop : ∀ (D : Nat) (W : World), w.heap.size ≤ D → Ix W → W.heap[D]? = some (.deferred (some [])) → Code.ret.wpIn F n P Q { a with defers := { target := .collected D, args := #[] } :: a.defers } W) :
    (Code.rangeFunc g ps assign body).wpIn F n P Q a w := by
  refine wpIn_rangeFunc fun fn hfn => ?_
  rw [hro]
  obtain ⟨rec, hrec⟩ : ∃ rec : LoopState → Option Code → Loop, rec = fun st pe => { state := st, pending := pe, fn, tmps := a.tmps, params := ps, assign, body, defers := w.heap.size } := ⟨_, rfl⟩
  obtain ⟨W1, hW1⟩ : ∃ W1, W1 = (w.alloc (.deferred (some []))).alloc (.loop (rec .ready none)) := ⟨_, rfl⟩
  have hsz : W1.heap.size = w.heap.size + 2 := by rw [hW1]; simp
  have hL : W1.heap[w.heap.size + 1]? = some (.loop (rec .ready none)) := by
    have := World.alloc_heap_new (w.alloc (.deferred (some []))) (.loop (rec .ready none))
    rw [World.size_alloc] at this
    rw [hW1]; exact this
  have hD : W1.heap[w.heap.size]? = some (.deferred (some [])) := by rw [hW1]; exact (Below.heap_alloc _ _ _ (by simp)).trans (World.alloc_heap_new w _)
  have hI1 : I 0 W1 := by rw [hW1]; exact hI.alloc _ (hI.alloc _ h0)
  -- the two facts of book-keeping
  have firm : ∀ st pe, Firm w.heap.size (fun W => W.heap[w.heap.size + 1]? = some (.loop (rec st pe)) ∧ W.heap[w.heap.size]? = some (.deferred (some []))) :=
    fun st pe X Y hk hr => ⟨hk.same _ _ (by omega) hr.1 rfl, hk.same _ _ (Nat.le_refl _) hr.2 rfl⟩
  refine ⟨w.heap.size + 1, [{ target := .collected w.heap.size, args := #[] }], W1, { target := .fn (.func gf) lb, args := #[.func (.yield (w.heap.size + 1)) #[] #[]] }, W1, gf,
    #[.func (.yield (w.heap.size + 1)) #[] #[]] ++ lb, W1, ?_, ?_, ?_, ?_, fun _ => h1, ?_⟩
  · rw [hW1, hrec]; exact run_enterLoop_outer _ _ _ _ _
  · simp only [resolve, hg]
    simp [go_sem]
  · intro f' hf'
    simp [Target.leads] at hf'
    subst hf'
    exact hFg
  · simp [invoke, go_sem, eg]
  · refine (hseq (w.heap.size + 1) _ _ W1 (firm .ready none) (firm .done (some .ret)) (by omega) hI1 ⟨hL, hD⟩ ?_).mono ?_
    · rintro k W hy ⟨hl, hd⟩
      have hll := (Array.getElem?_eq_some_iff.1 hl).1
      have hrun := run_yield (P := P) (args := encs k) hl (by rw [hrec]; exact hps k)
      have hbeg := run_beginRound (P := P) hl (by rw [hrec])
      obtain ⟨Wb, hWb⟩ : ∃ Wb, Wb = W.putObj (w.heap.size + 1) (.loop { rec .ready none with state := .busy }) := ⟨_, rfl⟩
      rw [← hWb] at hbeg
      have hl2 : Wb.heap[w.heap.size + 1]? = some (.loop { rec .ready none with state := .busy }) := by rw [hWb]; exact World.putObj_heap_same hll
      have hd2 : Wb.heap[w.heap.size]? = some (.deferred (some [])) := by rw [hWb]; exact (World.putObj_heap_other (by omega)).trans hd
      have hy2 : Y k Wb := by rw [hWb]; exact hY.putObj _ hy (by omega) hl rfl
      rw [hrec] at hrun
      refine ⟨fn, _, assign, body, hrun, roundIn_of_wpIn hfn (hassign _ k W _ ⟨_, hbeg, wpIn_mono (hbody _ k Wb hy2) ?_⟩)⟩
      have fin : ∀ (jump : Option Code) (W3 : World), KeepsFrom w.heap.size Wb W3 →
          W3.heap[w.heap.size + 1]? = some (.loop { rec .ready none with state := .busy }) ∧
          (Instr.endRound (w.heap.size + 1) jump).run P W3 = .ok (.bool jump.isNone) (W3.putObj (w.heap.size + 1) (.loop (rec (if jump.isNone then .ready else .done) jump))) ∧
          (W3.putObj (w.heap.size + 1) (.loop (rec (if jump.isNone then .ready else .done) jump))).heap[w.heap.size + 1]? = some (.loop (rec (if jump.isNone then .ready else .done) jump)) ∧
          (W3.putObj (w.heap.size + 1) (.loop (rec (if jump.isNone then .ready else .done) jump))).heap[w.heap.size]? = some (.deferred (some [])) := fun jump W3 hk3 => by
        have hl3 := hk3.same _ _ (by omega) hl2 rfl
        have hend := run_endRound (P := P) jump hl3
        rw [hrec] at hend hl3 ⊢
        exact ⟨hl3, hend, World.putObj_heap_same (Array.getElem?_eq_some_iff.1 hl3).1, (World.putObj_heap_other (by omega)).trans (hk3.same _ _ (Nat.le_refl _) hd2 rfl)⟩
      rintro e a3 W3 hp
      cases e with
      | normal =>
        obtain ⟨hk3, hi3⟩ := hp
        obtain ⟨hl3, hend, hl4, hd4⟩ := fin none W3 hk3
        exact ⟨_, _, hend, .inl ⟨rfl, hI.putObj _ hi3 (by omega) hl3 rfl, hl4, hd4⟩⟩
      | ret =>
        obtain ⟨hk3, hi3⟩ := hp
        obtain ⟨hl3, hend, hl4, hd4⟩ := fin (some .ret) W3 hk3
        exact ⟨_, _, hend, .inr ⟨rfl, hX.putObj (s := ()) _ hi3 (by omega) hl3 rfl, hl4, hd4⟩⟩
      | exit id => exact hp.elim
      | goto t => exact hp.elim
      | panic ch => exact hp.elim
      | outgrown => exact hp.elim
    · rintro e W2 ⟨⟨v, rfl⟩, (⟨hf, hl, hd⟩ | ⟨hx, hl, hd⟩)⟩
      · have hend := run_endLoop (P := P) hl (by rw [hrec]; simp)
        rw [hrec] at hend
        exact ⟨none, _, hend, hdone _ _ (Nat.le_refl _) (hN.putObj (s := ()) _ hf (by omega) hl rfl) ((World.putObj_heap_other (by omega)).trans hd)⟩
      · have hend := run_endLoop (P := P) hl (by rw [hrec]; simp)
        rw [hrec] at hend
        exact ⟨some .ret, _, hend, hstop _ _ (Nat.le_refl _) (hX.putObj (s := ()) _ hx (by omega) hl rfl) ((World.putObj_heap_other (by omega)).trans hd)⟩

end Go.Proofs.YtghdaengkgiekaaGreatDoor.hw

/-
  Given for the seat's laws: the function that SplitSeq hands back, when it is ranged over at a point: it writes what is left of the text between two rounds. No condition but those of the theorems.
-/
namespace Go.Proofs.YtghdaengkgiekaaGreatDoor.hw
open Go.RowKit Go.Shelf mem hostp
set_option linter.unusedVariables false
attribute [local go_sem] Oper.semAt_some

/-! ### what is left of a text behind so many pieces -/
def rest (l : Str) (j : Nat) : Str := join 46 ((cut 46 l).drop j)
def piece (l : Str) (j : Nat) : Str := (cut 46 l).getD j []
theorem rest_zero (l : Str) : rest l 0 = l := by unfold rest; rw [List.drop_zero, join_cut]
theorem piece_free {l : Str} {j : Nat} (h : j < (cut 46 l).length) : (46 : UInt8) ∉ piece l j := by
  unfold piece
  rw [List.getD_eq_getElem?_getD, List.getElem?_eq_getElem h]
  exact cut_mem 46 l _ (List.getElem_mem h)
theorem rest_last {l : Str} {j : Nat} (h : j + 1 = (cut 46 l).length) : rest l j = piece l j := by
  unfold rest piece
  rw [List.drop_eq_getElem_cons (by omega), List.drop_eq_nil_of_le (by omega), List.getD_eq_getElem?_getD, List.getElem?_eq_getElem (by omega)]
  rfl
theorem rest_step {l : Str} {j : Nat} (h : j + 1 < (cut 46 l).length) : rest l j = piece l j ++ 46 :: rest l (j + 1) := by
  unfold rest piece
  rw [List.drop_eq_getElem_cons (show j < _ by omega), List.getD_eq_getElem?_getD, List.getElem?_eq_getElem (by omega)]
  cases hd : (cut 46 l).drop (j + 1) with
  | nil => have := congrArg List.length hd; simp at this; omega
  | cons y r => rfl
theorem rest_len (l : Str) : ∀ j, (rest l j).length ≤ l.length
  | 0 => by rw [rest_zero]; exact Nat.le_refl _
  | j + 1 => by
    by_cases h : j + 1 < (cut 46 l).length
    · have h1 := rest_len l j
      rw [rest_step h, List.length_append, List.length_cons] at h1
      omega
    · unfold rest
      rw [List.drop_eq_nil_of_le (by omega)]
      simp [join]
theorem index_free {c : UInt8} : ∀ {x : Str}, c ∉ x → Lib.indexByte x c = -1
  | [], _ => rfl
  | a :: x, h => by
    simp only [List.mem_cons, not_or] at h
    unfold Lib.indexByte
    rw [index_free h.2]
    have : (a == c) = false := beq_eq_false_iff_ne.2 (fun e => h.1 e.symm)
    simp [this]
theorem index_put {c : UInt8} : ∀ {x : Str} (r : Str), c ∉ x → Lib.indexByte (x ++ c :: r) c = x.length
  | [], r, _ => by simp [Lib.indexByte]
  | a :: x, r, h => by
    simp only [List.mem_cons, not_or] at h
    rw [List.cons_append]
    unfold Lib.indexByte
    rw [index_put r h.2]
    have : (a == c) = false := beq_eq_false_iff_ne.2 (fun e => h.1 e.symm)
    simp [this]

/-- the first bytes of a text, as the program cuts them -/
theorem slice_to (W : World) (x r : Str) : (Instr.slice 9 (.string (S (x ++ r))) none (some (.int .i64 (x.length : Int))) none).run Tryz.prog W = .ok (.string (S x)) W := by
  rw [run_slice_string_to_if W 9 _ .i64 _ Tryz.underlying9, if_pos ⟨by omega, by rw [S_size, List.length_append]; omega⟩]
  congr 2
  apply ByteArray.ext
  apply Array.toList_inj.1
  simp [S]
theorem slice_from (W : World) (x : Str) (c : UInt8) (r : Str) : (Instr.slice 9 (.string (S (x ++ c :: r))) (some (.int .i64 ((x.length : Int) + 1))) none none).run Tryz.prog W = .ok (.string (S r)) W := by
  rw [run_slice_string_from_if W 9 _ .i64 _ Tryz.underlying9, if_pos ⟨by omega, by rw [S_size, List.length_append, List.length_cons]; omega⟩]
  congr 2
  apply ByteArray.ext
  apply Array.toList_inj.1
  have h1 : ((x.length : Int) + 1).toNat = x.length + 1 := by omega
  have h2 : (S (x ++ c :: r)).size - (x.length + 1) = r.length := by rw [S_size, List.length_append, List.length_cons]; omega
  unfold S at h2
  simp [S, h1, h2]

set_option maxHeartbeats 400000 in
theorem splitSeq_any (s sep : ByteArray) (w : World) : Calls Tryz.prog 114 #[.string s, .string sep] w fun e w' => e = .returned (.func (.func 152) #[] #[.pointer (some ⟨w.heap.size + 1, 0, none⟩), .pointer (some ⟨w.heap.size, 0, none⟩), .pointer (some ⟨w.heap.size + 1 + 1, 0, none⟩)]) ∧
    w' = ((w.alloc (.cells #[.string s] 9)).alloc (.cells #[.string sep] 9)).alloc (.cells #[.int .i64 0] 3) := by
  go_enter Tryz.func114, Tryz.ntmps114
  go_wp2
  go_ret
  exact ⟨rfl, rfl⟩

/-- k rounds are over; of the text what stands behind j pieces is left -/
structure SH (bs : Nat) (l : Str) (J : Nat → World → Prop) (k j : Nat) (W : World) : Prop where
  jk : J k W
  s : Lies W bs 9 #[.string (S (rest l j))]
  sep : Lies W (bs + 1) 9 #[.string (S [46])]
  sv : Lies W (bs + 1 + 1) 3 #[.int .i64 0]
  le : j < (cut 46 l).length

def strOf (bs : Nat) (W : World) : Nat := match W.cell? ⟨bs, 0, none⟩ with | some (.string t) => t.size | _ => 0
theorem strOf_eq {bs : Nat} {W : World} {t : ByteArray} (h : W.cell? ⟨bs, 0, none⟩ = some (.string t)) : strOf bs W = t.size := by unfold strOf; rw [h]

theorem firm_set {B : Nat} {R : World → Prop} (hR : Firm B R) {W : World} (hr : R W) (p : Addr) (v : Value) : R (W.setCell p v) :=
  hR W _ ((KeepsOthers.setCell W p v).from B) hr

theorem sh_set {bs : Nat} {l : Str} {J : Nat → World → Prop} (hset : ∀ k W v, J k W → J k (W.setCell ⟨bs, 0, none⟩ v)) {k j : Nat} {W : World} (h : SH bs l J k j W) (hj : j + 1 < (cut 46 l).length) :
    SH bs l J k (j + 1) (W.setCell ⟨bs, 0, none⟩ (.string (S (rest l (j + 1))))) :=
  ⟨hset _ _ _ h.jk, h.s.set 0 _, h.sep.far (p := ⟨bs, 0, none⟩) (by show bs + 1 ≠ bs; omega) _, h.sv.far (p := ⟨bs, 0, none⟩) (by show bs + 1 + 1 ≠ bs; omega) _, hj⟩

set_option maxRecDepth 100000 in
set_option maxHeartbeats 4000000 in
theorem split1_seq (B bs : Nat) (l : Str) (hl : l.length ≤ 1000000000) (J : Nat → World → Prop) (hset : ∀ k W v, J k W → J k (W.setCell ⟨bs, 0, none⟩ v)) (Ix : World → Prop) :
    SeqW Fence.wide 2 Tryz.prog 152 #[.pointer (some ⟨bs + 1, 0, none⟩), .pointer (some ⟨bs, 0, none⟩), .pointer (some ⟨bs + 1 + 1, 0, none⟩)] (fun k => #[.string (S (piece l k))]) B
      (fun k => SH bs l J k (k - 1)) (fun k => SH bs l J k k) Ix (J (cut 46 l).length) := fun b R Rx W hR hRx hBW h0 hr hY => by
  have HYY := Lib.hid hY
  have HR := Lib.hid hR
  have H0 := Lib.hid h0
  have HR0 := Lib.hid hr
  have HSET := Lib.hid hset
  have c0 := h0.s.cell 0
  have c1 := h0.sep.cell 0
  have c3 := h0.sv.cell 0
  simp at c0 c1 c3
  clear hY hR hRx h0 hr hset
  refine callsIn_of_wp Tryz.func152 rfl trivial ?_ rfl
  simp only [Tryz.ntmps152, List.size_toArray, List.length_cons, List.length_nil, Nat.reduceAdd, Nat.reduceSub, Array.replicate_succ, Array.replicate_zero, List.push_toArray, List.append_toArray, List.nil_append, List.cons_append]
  have hs1 : (S [46]).size = 1 := rfl
  gi_wp2
  clear c0 c1 c3
  gi_loopw [8] (fun s8 wr => ∃ k : Nat, Hid (SH bs l J k k wr) ∧ Hid (R wr)) (fun s8 wr => strOf bs wr)
  case atStart => exact ⟨0, H0.out, HR0.out⟩
  case round =>
    clear H0 HR0
    obtain ⟨k, hI, hRR⟩ := hrel
    have hk := hI.out.le
    have c0 := hI.out.s.cell 0
    have c1 := hI.out.sep.cell 0
    have c3 := hI.out.sv.cell 0
    have f0 := hI.out.s.frozen 0
    simp at c0 c1 c3
    have hsz := strOf_eq c0
    have hlen := rest_len l k
    rw [S_size] at hsz
    have HSZ := Lib.hid hsz
    obtain ⟨fn, tmps, assign, body, hyy, hRd⟩ := HYY.out k wr hI.out hRR.out
    have hix := Tryz.strings_Index_one (S (rest l k)) 46 wr
    rw [S_list] at hix
    by_cases hlast : k + 1 = (cut 46 l).length
    · rw [rest_last hlast] at c0 hix
      rw [index_free (piece_free hk)] at hix
      have HIX := Lib.hid hix
      have HL := Lib.hid hlast
      clear hix hlen hk hlast hsz
      generalize S (piece l k) = pc at *
      gi_wp2_with fail
      refine ⟨trivial, (callsIn_wide.2 HIX.out).mono ?_⟩
      rintro e w' ⟨rfl, rfl⟩
      gi_wp2_with fail
      refine hRd.mono ?_
      rintro e W3 (⟨rfl, hI3, hR3⟩ | ⟨rfl, hX3, hR3⟩)
      · gi_wp2
        go_end0
        exact ⟨⟨_, rfl⟩, .inl ⟨by rw [← HL.out]; exact hI3.jk, hR3⟩⟩
      · gi_wp2
        go_end0
        exact ⟨⟨_, rfl⟩, .inr ⟨hX3, hR3⟩⟩
    · have hk2 : k + 1 < (cut 46 l).length := by omega
      have hst := rest_step hk2
      have hsl : ∀ W, (Instr.slice 9 (.string (S (rest l k))) none (some (.int .i64 ((piece l k).length : Int))) none).run Tryz.prog W = .ok (.string (S (piece l k))) W := fun W => by rw [hst]; exact slice_to W _ _
      have hsf : ∀ W, (Instr.slice 9 (.string (S (rest l k))) (some (.int .i64 (((piece l k).length : Int) + 1))) none none).run Tryz.prog W = .ok (.string (S (rest l (k + 1)))) W := fun W => by rw [hst]; exact slice_from W _ _ _
      have hpl : (piece l k).length + 1 + (rest l (k + 1)).length = (rest l k).length := by rw [hst, List.length_append, List.length_cons]; omega
      rw [show Lib.indexByte (rest l k) 46 = ((piece l k).length : Int) by rw [hst]; exact index_put _ (piece_free hk)] at hix
      have HIX := Lib.hid hix
      have HK2 := Lib.hid hk2
      have HPL := Lib.hid hpl
      have HS2 : ∀ W3, SH bs l J (k + 1) k W3 → Hid (SH bs l J (k + 1) (k + 1) (W3.setCell ⟨bs, 0, none⟩ (.string (S (rest l (k + 1)))))) := fun W3 h3 => sh_set HSET.out h3 HK2.out
      have HC3 : ∀ W3, SH bs l J (k + 1) k W3 → W3.cell? ⟨bs, 0, none⟩ = some (.string (S (rest l k))) ∧ W3.cell? ⟨bs + 1, 0, none⟩ = some (.string (S [46])) ∧ W3.frozen? ⟨bs, 0, none⟩ = false := fun W3 h3 => ⟨h3.s.cell 0, h3.sep.cell 0, h3.s.frozen 0⟩
      have HZ3 : ∀ W3, SH bs l J (k + 1) (k + 1) W3 → strOf bs W3 = (rest l (k + 1)).length := fun W3 h3 => by rw [strOf_eq (h3.s.cell 0), S_size]
      have HH2 := Lib.hid HS2
      have HHC := Lib.hid HC3
      have HHZ := Lib.hid HZ3
      have hi0 : (0 : Int) ≤ ((piece l k).length : Int) := by omega
      have hi1 : ((piece l k).length : Int) ≤ 1000000000 := by omega
      clear hix hlen hk hlast hsz hst hk2 hpl HS2 HC3 HZ3
      generalize S (piece l k) = pc at *
      generalize ((piece l k).length : Int) = i at hsl hsf HIX hi0 hi1
      generalize S (rest l k) = rs at *
      generalize hrs2 : S (rest l (k + 1)) = rs2 at *
      gi_wp2_with fail
      refine ⟨trivial, (callsIn_wide.2 HIX.out).mono ?_⟩
      rintro e w' ⟨rfl, rfl⟩
      gi_wp2_with fail
      refine hRd.mono ?_
      rintro e W3 (⟨rfl, hI3, hR3⟩ | ⟨rfl, hX3, hR3⟩)
      · obtain ⟨d0, d1, g0⟩ := HHC.out W3 hI3
        have HS3 := HH2.out W3 hI3
        have HR3 := Lib.hid (firm_set HR.out hR3 ⟨bs, 0, none⟩ (.string rs2))
        clear hI3 hR3
        gi_wp2
        go_roundw
        case rel => exact ⟨k + 1, HS3, HR3⟩
        case measure => rw [HHZ.out _ HS3.out, HSZ.out]; have := HPL.out; omega
      · gi_wp2
        refine bodyPost_ret (results_none rfl _ _ _) rfl ?_
        exact ⟨⟨_, rfl⟩, .inr ⟨hX3, hR3⟩⟩

end Go.Proofs.YtghdaengkgiekaaGreatDoor.hw

/-
  Given for the seat's laws: the contract of isName. No condition but those of the theorems.
-/
namespace Go.Proofs.YtghdaengkgiekaaGreatDoor.hw
open Go.RowKit Go.Shelf mem hostp
set_option linter.unusedVariables false
attribute [local go_sem] Oper.semAt_some

/-- is the label that was looked at last made of digits alone? -/
def nb (l : Str) (k : Nat) : Bool := if k = 0 then false else (piece l (k - 1)).all dig

/-- while isName goes through the labels: k are behind it, each of them a label -/
structure NI (w : World) (l : Str) (k : Nat) (W : World) : Prop where
  labs : ∀ j, j < k → lab (piece l j) = true
  res : Lies W w.heap.size 4 #[.bool false]
  num : Lies W (w.heap.size + 1) 4 #[.bool (nb l k)]
  keep : Below w.heap.size w W
/-- a label was none -/
structure NX (w : World) (l : Str) (W : World) : Prop where
  no : nameB l = false
  res : Lies W w.heap.size 4 #[.bool false]
  keep : Below w.heap.size w W

section
variable {W W' : World} {B : Nat} {row : Option Nat}
theorem lies_own {g : Nat} {t : TypeId} {cs : Array Value} (h : Lies W g t cs) (hg : W.grownBy W' row) (hr : ∀ r, row = some r → B ≤ r ∧ ∃ o : Obj, W.heap[r]? = some o ∧ o.isCells = false) : Lies W' g t cs :=
  h.grown hg (fun e => by
    obtain ⟨_, o, ho, hc⟩ := hr g e.symm
    unfold Lies at h
    rw [h] at ho
    cases ho
    cases hc)
theorem below_own {w : World} (h : Below w.heap.size w W) (hB : w.heap.size ≤ B) (hg : W.grownBy W' row) (hr : ∀ r, row = some r → B ≤ r ∧ ∃ o : Obj, W.heap[r]? = some o ∧ o.isCells = false) : Below w.heap.size w W' :=
  h.grown hg h.size (fun k e => Nat.le_trans hB (hr k e).1)
theorem ni_own {w : World} {l : Str} {k : Nat} (h : NI w l k W) (hB : w.heap.size ≤ B) (hg : W.grownBy W' row) (hr : ∀ r, row = some r → B ≤ r ∧ ∃ o : Obj, W.heap[r]? = some o ∧ o.isCells = false) : NI w l k W' :=
  ⟨h.labs, lies_own h.res hg hr, lies_own h.num hg hr, below_own h.keep hB hg hr⟩
theorem nx_own {w : World} {l : Str} (h : NX w l W) (hB : w.heap.size ≤ B) (hg : W.grownBy W' row) (hr : ∀ r, row = some r → B ≤ r ∧ ∃ o : Obj, W.heap[r]? = some o ∧ o.isCells = false) : NX w l W' :=
  ⟨h.no, lies_own h.res hg hr, below_own h.keep hB hg hr⟩
theorem sh_own {bs : Nat} {l : Str} {J : Nat → World → Prop} {k j : Nat} (h : SH bs l J k j W) (hJ : J k W → J k W') (hg : W.grownBy W' row) (hr : ∀ r, row = some r → B ≤ r ∧ ∃ o : Obj, W.heap[r]? = some o ∧ o.isCells = false) : SH bs l J k j W' :=
  ⟨hJ h.jk, lies_own h.s hg hr, lies_own h.sep hg hr, lies_own h.sv hg hr, h.le⟩
theorem keepsFrom_below {W W' : World} (h : Below W.heap.size W W') (B : Nat) : KeepsFrom B W W' := ⟨h.size, fun k o _ hk _ => (h.block k (Array.getElem?_eq_some_iff.1 hk).1).trans hk⟩
theorem ni_set {w : World} {l : Str} (k : Nat) (W : World) {bs : Nat} (hbs : w.heap.size + 1 < bs) (v : Value) (h : NI w l k W) : NI w l k (W.setCell ⟨bs, 0, none⟩ v) :=
  ⟨h.labs, h.res.far (p := ⟨bs, 0, none⟩) (by show w.heap.size ≠ bs; omega) _, h.num.far (p := ⟨bs, 0, none⟩) (by show w.heap.size + 1 ≠ bs; omega) _, h.keep.setCell (p := ⟨bs, 0, none⟩) (by show w.heap.size ≤ bs; omega) _⟩
end

theorem piece_get {l : Str} {j : Nat} (h : j < (cut 46 l).length) : (cut 46 l)[j]? = some (piece l j) := by
  unfold piece
  rw [List.getD_eq_getElem?_getD, List.getElem?_eq_getElem h]
  rfl
theorem name_no {l : Str} {j : Nat} (h : j < (cut 46 l).length) (hl : lab (piece l j) = false) : nameB l = false := by
  rcases hh : nameB l with _ | _
  · rfl
  · unfold nameB at hh
    simp only [Bool.and_eq_true, List.all_eq_true] at hh
    have := hh.1.2 _ (List.mem_of_getElem? (piece_get h))
    rw [hl] at this
    cases this
theorem name_yes {l : Str} (h40 : l.length ≤ 40) (h : ∀ j, j < (cut 46 l).length → lab (piece l j) = true) : nameB l = !(nb l (cut 46 l).length) := by
  have hpos : 0 < (cut 46 l).length := List.length_pos_iff.2 (cut_ne 46 l)
  have e1 : (cut 46 l).all lab = true := by
    rw [List.all_eq_true]
    intro x hx
    obtain ⟨j, hj⟩ := List.getElem?_of_mem hx
    have hlt := (List.getElem?_eq_some_iff.1 hj).1
    rw [piece_get hlt] at hj
    cases hj
    exact h j hlt
  have e2 : (cut 46 l).getLast?.getD [] = piece l ((cut 46 l).length - 1) := by
    rw [List.getLast?_eq_getElem?]
    rfl
  unfold nameB nb
  rw [decide_eq_true h40, e1, e2, if_neg (by omega)]
  rfl

set_option maxHeartbeats 400000 in
theorem isName_long (s : ByteArray) (h : 40 < s.size) (w : World) : Calls Tryz.prog 95 #[.string s] w (Gives (.bool (nameB s.data.toList)) w) := by
  rw [nameB_long (by rw [list_len]; omega)]
  go_enter Tryz.func95, Tryz.ntmps95
  go_wp2
  exact bodyPost_ret (v := .bool false) (by simp [results, Tryz.results95, go_sem]) rfl ⟨rfl, (Below.refl _ w).alloc (Nat.le_refl _) _⟩

theorem results_name {W : World} {h : Nat} {b : Bool} (hl : Lies W h 4 #[.bool b]) (tmps : Array Value) (h2 : tmps[2]?.getD undef = .pointer (some ⟨h, 0, none⟩)) :
    (results Tryz.f95 tmps).run Tryz.prog W = .ok (.bool b) W := by
  have c2 := hl.cell 0
  simp at c2
  simp [results, Tryz.results95, go_sem, h2, c2]

set_option maxRecDepth 100000 in
set_option maxHeartbeats 4000000 in
theorem isName_in (s : ByteArray) (h : s.size ≤ 40) (w : World) : CallsIn Fence.wide 3 Tryz.prog 95 #[.string s] w (Gives (.bool (nameB s.data.toList)) w) := by
  have H40 := Lib.hid h
  refine callsIn_of_wp_marks Tryz.func95 rfl trivial ?_ rfl
  simp only [Tryz.ntmps95, List.size_toArray, List.length_cons, List.length_nil, Nat.reduceAdd, Nat.reduceSub, Array.replicate_succ, Array.replicate_zero, List.push_toArray, List.append_toArray, List.nil_append, List.cons_append]
  gi_wp2_with fail
  refine ⟨trivial, (callsIn_wide.2 (splitSeq_any _ _ _)).mono ?_⟩
  rintro e w3 ⟨rfl, hw3⟩
  have hz3 : w3.heap.size = w.heap.size + 5 := by rw [hw3]; simp
  have h0 : SH (w.heap.size + 1 + 1) s.data.toList (NI w s.data.toList) 0 0 w3 := by
    have hbel : Below w.heap.size w w3 := by
      rw [hw3]
      exact (((((Below.refl _ w).alloc (Nat.le_refl _) _).alloc (by simp) _).alloc (by simp; omega) _).alloc (by simp; omega) _).alloc (by simp; omega) _
    have l0 := Lies.new w 4 #[.bool false]
    have l1 := Lies.new (w.alloc (.cells #[.bool false] 4)) 4 #[.bool false]
    have l2 := Lies.new ((w.alloc (.cells #[.bool false] 4)).alloc (.cells #[.bool false] 4)) 9 #[.string s]
    have l3 := Lies.new (((w.alloc (.cells #[.bool false] 4)).alloc (.cells #[.bool false] 4)).alloc (.cells #[.string s] 9)) 9 #[.string ⟨#[46]⟩]
    have l4 := Lies.new ((((w.alloc (.cells #[.bool false] 4)).alloc (.cells #[.bool false] 4)).alloc (.cells #[.string s] 9)).alloc (.cells #[.string ⟨#[46]⟩] 9)) 3 #[.int .i64 0]
    simp only [World.size_alloc] at l0 l1 l2 l3 l4
    refine ⟨⟨fun j hj => absurd hj (by omega), ?_, ?_, hbel⟩, ?_, ?_, ?_, List.length_pos_iff.2 (cut_ne 46 _)⟩
    · rw [hw3]; exact (((l0.alloc _).alloc _).alloc _).alloc _
    · rw [hw3]; exact ((l1.alloc _).alloc _).alloc _
    · rw [hw3, rest_zero, S_data]; exact (l2.alloc _).alloc _
    · rw [hw3]; exact l3.alloc _
    · rw [hw3]; exact l4
  have hl9 : s.data.toList.length ≤ 1000000000 := by rw [list_len]; omega
  have H0 := Lib.hid h0
  have HZ3 := Lib.hid hz3
  clear h0 hz3 hw3
  gi_wp2_with fail
  refine wpIn_range_w rfl (by omega) (gf := 152) (lb := #[.pointer (some ⟨w.heap.size + 1 + 1 + 1, 0, none⟩), .pointer (some ⟨w.heap.size + 1 + 1, 0, none⟩), .pointer (some ⟨w.heap.size + 1 + 1 + 1 + 1, 0, none⟩)]) rfl trivial (enters_of Tryz.func152 (by kernel_rfl) rfl)
    (split1_seq w3.heap.size (w.heap.size + 1 + 1) s.data.toList hl9 (NI w s.data.toList) (fun k W v hh => ni_set k W (by omega) v hh) (NX w s.data.toList))
    (fun _ => rfl) ?c1 ?c2 ?c3 ?c4 ?start
    (fun k => { tmps := #[.string s, undef, .pointer (some ⟨w.heap.size, 0, none⟩), .pointer (some ⟨w.heap.size + 1, 0, none⟩), .string (S (piece s.data.toList k)), .string s, .int .i64 (s.size : Int), .bool (decide (40 < (s.size : Int))), .string s,
      .func (.func 152) #[] #[.pointer (some ⟨w.heap.size + 1 + 1 + 1, 0, none⟩), .pointer (some ⟨w.heap.size + 1 + 1, 0, none⟩), .pointer (some ⟨w.heap.size + 1 + 1 + 1 + 1, 0, none⟩)],
      .string (S (piece s.data.toList k)), undef, undef, undef, undef, undef, undef, undef], defers := [] }) ?assign ?body ?done ?stop
  case c1 => exact fun k X Y row hi hg hr => sh_own hi (fun hj => ni_own hj (by rw [HZ3.out]; omega) hg hr) hg hr
  case c2 => exact fun k X Y row hi hg hr => sh_own hi (fun hj => ni_own hj (by rw [HZ3.out]; omega) hg hr) hg hr
  case c3 => exact fun k X Y row hi hg hr => nx_own hi (by rw [HZ3.out]; omega) hg hr
  case c4 => exact fun k X Y row hi hg hr => ni_own hi (by rw [HZ3.out]; omega) hg hr
  case start => exact H0.out
  case assign =>
    intro l k W K hK
    gi_wp2
    exact hK
  case body =>
    clear H0
    rintro l k W hi
    have hpl : (S (piece s.data.toList k)).size ≤ 1000000000 := by
      rw [S_size]
      have h1 := rest_len s.data.toList k
      by_cases hk : k + 1 = (cut 46 s.data.toList).length
      · rw [rest_last hk] at h1; omega
      · rw [rest_step (show k + 1 < _ by have := hi.le; omega), List.length_append] at h1; omega
    have hlab := isLabel_any (S (piece s.data.toList k)) hpl W
    have hnum := isNumber_any (S (piece s.data.toList k)) hpl W
    rw [S_list] at hlab hnum
    have f0 := hi.jk.res.frozen 0
    have c0 := hi.jk.res.cell 0
    simp at c0
    have HI := Lib.hid hi
    have HLAB := Lib.hid hlab
    have HNUM := Lib.hid hnum
    obtain ⟨b, hb⟩ : ∃ b, b = lab (piece s.data.toList k) := ⟨_, rfl⟩
    rw [← hb] at HLAB
    have HB := Lib.hid hb
    clear hi hlab hnum hb hpl
    gi_wp2_with fail
    refine ⟨trivial, (CallsIn.inRound l (callsIn_wide.2 HLAB.out)).mono ?_⟩
    rintro e w' ⟨rfl, rfl⟩
    cases b
    · have hx : NX w s.data.toList (W.setCell ⟨w.heap.size, 0, none⟩ (.bool false)) :=
        ⟨name_no HI.out.le HB.out.symm, HI.out.jk.res.set 0 _, HI.out.jk.keep.setCell (p := ⟨w.heap.size, 0, none⟩) (Nat.le_refl _) _⟩
      have HX := Lib.hid (show KeepsFrom w3.heap.size W (W.setCell ⟨w.heap.size, 0, none⟩ (.bool false)) ∧ NX w s.data.toList (W.setCell ⟨w.heap.size, 0, none⟩ (.bool false)) from ⟨(KeepsOthers.setCell _ _ _).from _, hx⟩)
      clear hx HLAB HNUM
      gi_wp2
      exact HX.out
    · gi_wp2_with fail
      refine ⟨trivial, (CallsIn.inRound l (callsIn_wide.2 HNUM.out)).mono ?_⟩
      rintro e w' ⟨rfl, hbel⟩
      have hi := HI.out
      have hlt : w.heap.size + 1 < W.heap.size := hi.jk.num.lt
      have g1 := (hi.jk.num.below hbel (by omega)).frozen 0
      have d1 := (hi.jk.num.below hbel (by omega)).cell 0
      simp at d1
      obtain ⟨v, hv⟩ : ∃ v, v = (piece s.data.toList k).all dig := ⟨_, rfl⟩
      have hx : SH (w.heap.size + 1 + 1) s.data.toList (NI w s.data.toList) (k + 1) k (w'.setCell ⟨w.heap.size + 1, 0, none⟩ (.bool v)) := by
        refine ⟨⟨fun j hj => ?_, ?_, ?_, ?_⟩, ?_, ?_, ?_, hi.le⟩
        · by_cases e : j = k
          · subst e; exact HB.out.symm
          · exact hi.jk.labs j (by omega)
        · exact (hi.jk.res.below hbel (by omega)).far (p := ⟨w.heap.size + 1, 0, none⟩) (by simp) _
        · have := (hi.jk.num.below hbel (by omega)).set 0 (.bool v)
          rw [hv] at this ⊢
          exact this
        · exact (hi.jk.keep.trans (hbel.mono hi.jk.keep.size)).setCell (p := ⟨w.heap.size + 1, 0, none⟩) (by simp) _
        · exact (hi.s.below hbel hi.s.lt).far (p := ⟨w.heap.size + 1, 0, none⟩) (by simp) _
        · exact (hi.sep.below hbel hi.sep.lt).far (p := ⟨w.heap.size + 1, 0, none⟩) (by show w.heap.size + 1 + 1 + 1 ≠ w.heap.size + 1; omega) _
        · exact (hi.sv.below hbel hi.sv.lt).far (p := ⟨w.heap.size + 1, 0, none⟩) (by show w.heap.size + 1 + 1 + 1 + 1 ≠ w.heap.size + 1; omega) _
      have HX := Lib.hid (show KeepsFrom w3.heap.size W (w'.setCell ⟨w.heap.size + 1, 0, none⟩ (.bool v)) ∧ _ from ⟨(keepsFrom_below hbel _).trans ((KeepsOthers.setCell _ _ _).from _), hx⟩)
      rw [← hv]
      clear hx hi HLAB HNUM hbel hv
      gi_wp2
      exact HX.out
  case done =>
    rintro D W hD hn hK
    have c1 := hn.num.cell 0
    have f0 := hn.res.frozen 0
    have c0 := hn.res.cell 0
    simp at c0 c1
    obtain ⟨b, hb⟩ : ∃ b, b = nameB s.data.toList := ⟨_, rfl⟩
    have hbb : (!(nb s.data.toList (cut 46 s.data.toList).length)) = b := by rw [hb, name_yes (by rw [list_len]; exact H40.out) hn.labs]
    obtain ⟨W2, hW2⟩ : ∃ W2, W2 = W.setCell ⟨w.heap.size, 0, none⟩ (.bool b) := ⟨_, rfl⟩
    have hK2 : W2.heap[D]? = some (.deferred (some [])) := by rw [hW2]; exact (KeepsOthers.setCell _ _ _).same D _ hK rfl
    have hres : Lies W2 w.heap.size 4 #[.bool b] := by rw [hW2]; exact hn.res.set 0 _
    have hrow : ∀ q, some D = some q → w3.heap.size ≤ q ∧ ∃ o : Obj, W2.heap[q]? = some o ∧ o.isCells = false := fun q e => by cases e; exact ⟨hD, _, hK2, rfl⟩
    have hk2 : Below w.heap.size w W2 := by rw [hW2]; exact hn.keep.setCell (p := ⟨w.heap.size, 0, none⟩) (Nat.le_refl _) _
    have HFIN := Lib.hid (below_own hk2 (by rw [HZ3.out]; omega) (grownBy_putObj' W2 D (.deferred none)) hrow)
    have HBX := Lib.hid (lies_own hres (grownBy_putObj' W2 D (.deferred none)) hrow)
    have HK := Lib.hid hK2
    rw [hW2] at HFIN HBX HK
    have HBB := Lib.hid hb
    generalize nb s.data.toList (cut 46 s.data.toList).length = v at c1 hbb
    clear hn hK hK2 hres hrow hk2 hW2 hb
    gi_wp2
    refine ⟨by simp, .inl ⟨_, _, rfl, run_takeDeferred HK.out, ?_⟩⟩
    exact ⟨.bool b, results_name HBX.out _ rfl, by rw [HBB.out], HFIN.out⟩
  case stop =>
    rintro D W hD hn hK
    have hrow : ∀ q, some D = some q → w3.heap.size ≤ q ∧ ∃ o : Obj, W.heap[q]? = some o ∧ o.isCells = false := fun q e => by cases e; exact ⟨hD, _, hK, rfl⟩
    have HFIN := Lib.hid (below_own hn.keep (by rw [HZ3.out]; omega) (grownBy_putObj' W D (.deferred none)) hrow)
    have HBX := Lib.hid (lies_own hn.res (grownBy_putObj' W D (.deferred none)) hrow)
    have HK := Lib.hid hK
    have HNO := Lib.hid hn.no
    clear hn hrow hK
    gi_wp2
    refine ⟨by simp, .inl ⟨_, _, rfl, run_takeDeferred HK.out, ?_⟩⟩
    exact ⟨.bool false, results_name HBX.out _ rfl, by rw [HNO.out], HFIN.out⟩

theorem isName_any (s : ByteArray) (w : World) : Calls Tryz.prog 95 #[.string s] w (Gives (.bool (nameB s.data.toList)) w) := by
  by_cases h : s.size ≤ 40
  · exact callsIn_wide.1 (isName_in s h w)
  · exact isName_long s (by omega) w

end Go.Proofs.YtghdaengkgiekaaGreatDoor.hw
