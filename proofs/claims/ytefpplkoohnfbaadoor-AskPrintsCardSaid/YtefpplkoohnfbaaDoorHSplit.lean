/-
  Given for the seat's laws: the function that SplitSeq hands back, when it is ranged over at a point: it writes what is left of the text between two rounds. No condition but those of the theorems.
-/
import Derived.Test.YtefpplkoohnfbaaDoorHRange
namespace Go.Proofs.YtefpplkoohnfbaaDoor.hw
open Go.RowKit Go.Shelf mem hostp
set_option linter.unusedVariables false
attribute [local go_sem] Oper.semAt_some

/-! ### what is left of a text behind so many pieces -/
def rest (l : Str) (j : Nat) : Str := join 46 ((cut 46 l).drop j)
def piece (l : Str) (j : Nat) : Str := (cut 46 l).getD j []
theorem rest_zero (l : Str) : rest l 0 = l := by unfold rest; rw [List.drop_zero, join_cut]
theorem piece_free {l : Str} {j : Nat} (h : j < (cut 46 l).length) : (46 : UInt8) ∉ piece l j := by
  unfold piece
  rw [List.getD_eq_getElem?_getD, List.getElem?_eq_getElem h]
  exact cut_mem 46 l _ (List.getElem_mem h)
theorem rest_last {l : Str} {j : Nat} (h : j + 1 = (cut 46 l).length) : rest l j = piece l j := by
  unfold rest piece
  rw [List.drop_eq_getElem_cons (by omega), List.drop_eq_nil_of_le (by omega), List.getD_eq_getElem?_getD, List.getElem?_eq_getElem (by omega)]
  rfl
theorem rest_step {l : Str} {j : Nat} (h : j + 1 < (cut 46 l).length) : rest l j = piece l j ++ 46 :: rest l (j + 1) := by
  unfold rest piece
  rw [List.drop_eq_getElem_cons (show j < _ by omega), List.getD_eq_getElem?_getD, List.getElem?_eq_getElem (by omega)]
  cases hd : (cut 46 l).drop (j + 1) with
  | nil => have := congrArg List.length hd; simp at this; omega
  | cons y r => rfl
theorem rest_len (l : Str) : ∀ j, (rest l j).length ≤ l.length
  | 0 => by rw [rest_zero]; exact Nat.le_refl _
  | j + 1 => by
    by_cases h : j + 1 < (cut 46 l).length
    · have h1 := rest_len l j
      rw [rest_step h, List.length_append, List.length_cons] at h1
      omega
    · unfold rest
      rw [List.drop_eq_nil_of_le (by omega)]
      simp [join]
theorem index_free {c : UInt8} : ∀ {x : Str}, c ∉ x → Lib.indexByte x c = -1
  | [], _ => rfl
  | a :: x, h => by
    simp only [List.mem_cons, not_or] at h
    unfold Lib.indexByte
    rw [index_free h.2]
    have : (a == c) = false := beq_eq_false_iff_ne.2 (fun e => h.1 e.symm)
    simp [this]
theorem index_put {c : UInt8} : ∀ {x : Str} (r : Str), c ∉ x → Lib.indexByte (x ++ c :: r) c = x.length
  | [], r, _ => by simp [Lib.indexByte]
  | a :: x, r, h => by
    simp only [List.mem_cons, not_or] at h
    rw [List.cons_append]
    unfold Lib.indexByte
    rw [index_put r h.2]
    have : (a == c) = false := beq_eq_false_iff_ne.2 (fun e => h.1 e.symm)
    simp [this]

/-- the first bytes of a text, as the program cuts them -/
theorem slice_to (W : World) (x r : Str) : (Instr.slice 9 (.string (S (x ++ r))) none (some (.int .i64 (x.length : Int))) none).run Tryd.prog W = .ok (.string (S x)) W := by
  rw [run_slice_string_to_if W 9 _ .i64 _ Tryd.underlying9, if_pos ⟨by omega, by rw [S_size, List.length_append]; omega⟩]
  congr 2
  apply ByteArray.ext
  apply Array.toList_inj.1
  simp [S]
theorem slice_from (W : World) (x : Str) (c : UInt8) (r : Str) : (Instr.slice 9 (.string (S (x ++ c :: r))) (some (.int .i64 ((x.length : Int) + 1))) none none).run Tryd.prog W = .ok (.string (S r)) W := by
  rw [run_slice_string_from_if W 9 _ .i64 _ Tryd.underlying9, if_pos ⟨by omega, by rw [S_size, List.length_append, List.length_cons]; omega⟩]
  congr 2
  apply ByteArray.ext
  apply Array.toList_inj.1
  have h1 : ((x.length : Int) + 1).toNat = x.length + 1 := by omega
  have h2 : (S (x ++ c :: r)).size - (x.length + 1) = r.length := by rw [S_size, List.length_append, List.length_cons]; omega
  unfold S at h2
  simp [S, h1, h2]

set_option maxHeartbeats 400000 in
theorem splitSeq_any (s sep : ByteArray) (w : World) : Calls Tryd.prog 17 #[.string s, .string sep] w fun e w' => e = .returned (.func (.func 22) #[] #[.pointer (some ⟨w.heap.size + 1, 0, none⟩), .pointer (some ⟨w.heap.size, 0, none⟩), .pointer (some ⟨w.heap.size + 1 + 1, 0, none⟩)]) ∧
    w' = ((w.alloc (.cells #[.string s] 9)).alloc (.cells #[.string sep] 9)).alloc (.cells #[.int .i64 0] 3) := by
  go_enter Tryd.func17, Tryd.ntmps17
  go_wp2
  go_ret
  exact ⟨rfl, rfl⟩

/-- k rounds are over; of the text what stands behind j pieces is left -/
structure SH (bs : Nat) (l : Str) (J : Nat → World → Prop) (k j : Nat) (W : World) : Prop where
  jk : J k W
  s : Lies W bs 9 #[.string (S (rest l j))]
  sep : Lies W (bs + 1) 9 #[.string (S [46])]
  sv : Lies W (bs + 1 + 1) 3 #[.int .i64 0]
  le : j < (cut 46 l).length

def strOf (bs : Nat) (W : World) : Nat := match W.cell? ⟨bs, 0, none⟩ with | some (.string t) => t.size | _ => 0
theorem strOf_eq {bs : Nat} {W : World} {t : ByteArray} (h : W.cell? ⟨bs, 0, none⟩ = some (.string t)) : strOf bs W = t.size := by unfold strOf; rw [h]

theorem firm_set {B : Nat} {R : World → Prop} (hR : Firm B R) {W : World} (hr : R W) (p : Addr) (v : Value) : R (W.setCell p v) :=
  hR W _ ((KeepsOthers.setCell W p v).from B) hr

theorem sh_set {bs : Nat} {l : Str} {J : Nat → World → Prop} (hset : ∀ k W v, J k W → J k (W.setCell ⟨bs, 0, none⟩ v)) {k j : Nat} {W : World} (h : SH bs l J k j W) (hj : j + 1 < (cut 46 l).length) :
    SH bs l J k (j + 1) (W.setCell ⟨bs, 0, none⟩ (.string (S (rest l (j + 1))))) :=
  ⟨hset _ _ _ h.jk, h.s.set 0 _, h.sep.far (p := ⟨bs, 0, none⟩) (by show bs + 1 ≠ bs; omega) _, h.sv.far (p := ⟨bs, 0, none⟩) (by show bs + 1 + 1 ≠ bs; omega) _, hj⟩

set_option maxRecDepth 100000 in
set_option maxHeartbeats 4000000 in
theorem split1_seq (B bs : Nat) (l : Str) (hl : l.length ≤ 1000000000) (J : Nat → World → Prop) (hset : ∀ k W v, J k W → J k (W.setCell ⟨bs, 0, none⟩ v)) (Ix : World → Prop) :
    SeqW Fence.wide 2 Tryd.prog 22 #[.pointer (some ⟨bs + 1, 0, none⟩), .pointer (some ⟨bs, 0, none⟩), .pointer (some ⟨bs + 1 + 1, 0, none⟩)] (fun k => #[.string (S (piece l k))]) B
      (fun k => SH bs l J k (k - 1)) (fun k => SH bs l J k k) Ix (J (cut 46 l).length) := fun b R Rx W hR hRx hBW h0 hr hY => by
  have HYY := Lib.hid hY
  have HR := Lib.hid hR
  have H0 := Lib.hid h0
  have HR0 := Lib.hid hr
  have HSET := Lib.hid hset
  have c0 := h0.s.cell 0
  have c1 := h0.sep.cell 0
  have c3 := h0.sv.cell 0
  simp at c0 c1 c3
  clear hY hR hRx h0 hr hset
  refine callsIn_of_wp Tryd.func22 rfl trivial ?_ rfl
  simp only [Tryd.ntmps22, List.size_toArray, List.length_cons, List.length_nil, Nat.reduceAdd, Nat.reduceSub, Array.replicate_succ, Array.replicate_zero, List.push_toArray, List.append_toArray, List.nil_append, List.cons_append]
  have hs1 : (S [46]).size = 1 := rfl
  gi_wp2
  clear c0 c1 c3
  gi_loopw [8] (fun s8 wr => ∃ k : Nat, Hid (SH bs l J k k wr) ∧ Hid (R wr)) (fun s8 wr => strOf bs wr)
  case atStart => exact ⟨0, H0.out, HR0.out⟩
  case round =>
    clear H0 HR0
    obtain ⟨k, hI, hRR⟩ := hrel
    have hk := hI.out.le
    have c0 := hI.out.s.cell 0
    have c1 := hI.out.sep.cell 0
    have c3 := hI.out.sv.cell 0
    have f0 := hI.out.s.frozen 0
    simp at c0 c1 c3
    have hsz := strOf_eq c0
    have hlen := rest_len l k
    rw [S_size] at hsz
    have HSZ := Lib.hid hsz
    obtain ⟨fn, tmps, assign, body, hyy, hRd⟩ := HYY.out k wr hI.out hRR.out
    have hix := Tryd.strings_Index_one (S (rest l k)) 46 wr
    rw [S_list] at hix
    by_cases hlast : k + 1 = (cut 46 l).length
    · rw [rest_last hlast] at c0 hix
      rw [index_free (piece_free hk)] at hix
      have HIX := Lib.hid hix
      have HL := Lib.hid hlast
      clear hix hlen hk hlast hsz
      generalize S (piece l k) = pc at *
      gi_wp2_with fail
      refine ⟨trivial, (callsIn_wide.2 HIX.out).mono ?_⟩
      rintro e w' ⟨rfl, rfl⟩
      gi_wp2_with fail
      refine hRd.mono ?_
      rintro e W3 (⟨rfl, hI3, hR3⟩ | ⟨rfl, hX3, hR3⟩)
      · gi_wp2
        go_end0
        exact ⟨⟨_, rfl⟩, .inl ⟨by rw [← HL.out]; exact hI3.jk, hR3⟩⟩
      · gi_wp2
        go_end0
        exact ⟨⟨_, rfl⟩, .inr ⟨hX3, hR3⟩⟩
    · have hk2 : k + 1 < (cut 46 l).length := by omega
      have hst := rest_step hk2
      have hsl : ∀ W, (Instr.slice 9 (.string (S (rest l k))) none (some (.int .i64 ((piece l k).length : Int))) none).run Tryd.prog W = .ok (.string (S (piece l k))) W := fun W => by rw [hst]; exact slice_to W _ _
      have hsf : ∀ W, (Instr.slice 9 (.string (S (rest l k))) (some (.int .i64 (((piece l k).length : Int) + 1))) none none).run Tryd.prog W = .ok (.string (S (rest l (k + 1)))) W := fun W => by rw [hst]; exact slice_from W _ _ _
      have hpl : (piece l k).length + 1 + (rest l (k + 1)).length = (rest l k).length := by rw [hst, List.length_append, List.length_cons]; omega
      rw [show Lib.indexByte (rest l k) 46 = ((piece l k).length : Int) by rw [hst]; exact index_put _ (piece_free hk)] at hix
      have HIX := Lib.hid hix
      have HK2 := Lib.hid hk2
      have HPL := Lib.hid hpl
      have HS2 : ∀ W3, SH bs l J (k + 1) k W3 → Hid (SH bs l J (k + 1) (k + 1) (W3.setCell ⟨bs, 0, none⟩ (.string (S (rest l (k + 1)))))) := fun W3 h3 => sh_set HSET.out h3 HK2.out
      have HC3 : ∀ W3, SH bs l J (k + 1) k W3 → W3.cell? ⟨bs, 0, none⟩ = some (.string (S (rest l k))) ∧ W3.cell? ⟨bs + 1, 0, none⟩ = some (.string (S [46])) ∧ W3.frozen? ⟨bs, 0, none⟩ = false := fun W3 h3 => ⟨h3.s.cell 0, h3.sep.cell 0, h3.s.frozen 0⟩
      have HZ3 : ∀ W3, SH bs l J (k + 1) (k + 1) W3 → strOf bs W3 = (rest l (k + 1)).length := fun W3 h3 => by rw [strOf_eq (h3.s.cell 0), S_size]
      have HH2 := Lib.hid HS2
      have HHC := Lib.hid HC3
      have HHZ := Lib.hid HZ3
      have hi0 : (0 : Int) ≤ ((piece l k).length : Int) := by omega
      have hi1 : ((piece l k).length : Int) ≤ 1000000000 := by omega
      clear hix hlen hk hlast hsz hst hk2 hpl HS2 HC3 HZ3
      generalize S (piece l k) = pc at *
      generalize ((piece l k).length : Int) = i at hsl hsf HIX hi0 hi1
      generalize S (rest l k) = rs at *
      generalize hrs2 : S (rest l (k + 1)) = rs2 at *
      gi_wp2_with fail
      refine ⟨trivial, (callsIn_wide.2 HIX.out).mono ?_⟩
      rintro e w' ⟨rfl, rfl⟩
      gi_wp2_with fail
      refine hRd.mono ?_
      rintro e W3 (⟨rfl, hI3, hR3⟩ | ⟨rfl, hX3, hR3⟩)
      · obtain ⟨d0, d1, g0⟩ := HHC.out W3 hI3
        have HS3 := HH2.out W3 hI3
        have HR3 := Lib.hid (firm_set HR.out hR3 ⟨bs, 0, none⟩ (.string rs2))
        clear hI3 hR3
        gi_wp2
        go_roundw
        case rel => exact ⟨k + 1, HS3, HR3⟩
        case measure => rw [HHZ.out _ HS3.out, HSZ.out]; have := HPL.out; omega
      · gi_wp2
        refine bodyPost_ret (results_none rfl _ _ _) rfl ?_
        exact ⟨⟨_, rfl⟩, .inr ⟨hX3, hR3⟩⟩

end Go.Proofs.YtefpplkoohnfbaaDoor.hw
