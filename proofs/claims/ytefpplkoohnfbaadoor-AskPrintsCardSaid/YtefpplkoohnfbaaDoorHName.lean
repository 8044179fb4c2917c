/-
  Given for the seat's laws: the contract of isName. No condition but those of the theorems.
-/
import Derived.Test.YtefpplkoohnfbaaDoorHSplit
namespace Go.Proofs.YtefpplkoohnfbaaDoor.hw
open Go.RowKit Go.Shelf mem hostp
set_option linter.unusedVariables false
attribute [local go_sem] Oper.semAt_some

/-- is the label that was looked at last made of digits alone? -/
def nb (l : Str) (k : Nat) : Bool := if k = 0 then false else (piece l (k - 1)).all dig

/-- while isName goes through the labels: k are behind it, each of them a label -/
structure NI (w : World) (l : Str) (k : Nat) (W : World) : Prop where
  labs : ∀ j, j < k → lab (piece l j) = true
  res : Lies W w.heap.size 4 #[.bool false]
  num : Lies W (w.heap.size + 1) 4 #[.bool (nb l k)]
  keep : Below w.heap.size w W
/-- a label was none -/
structure NX (w : World) (l : Str) (W : World) : Prop where
  no : nameB l = false
  res : Lies W w.heap.size 4 #[.bool false]
  keep : Below w.heap.size w W

section
variable {W W' : World} {B : Nat} {row : Option Nat}
theorem lies_own {g : Nat} {t : TypeId} {cs : Array Value} (h : Lies W g t cs) (hg : W.grownBy W' row) (hr : ∀ r, row = some r → B ≤ r ∧ ∃ o : Obj, W.heap[r]? = some o ∧ o.isCells = false) : Lies W' g t cs :=
  h.grown hg (fun e => by
    obtain ⟨_, o, ho, hc⟩ := hr g e.symm
    unfold Lies at h
    rw [h] at ho
    cases ho
    cases hc)
theorem below_own {w : World} (h : Below w.heap.size w W) (hB : w.heap.size ≤ B) (hg : W.grownBy W' row) (hr : ∀ r, row = some r → B ≤ r ∧ ∃ o : Obj, W.heap[r]? = some o ∧ o.isCells = false) : Below w.heap.size w W' :=
  h.grown hg h.size (fun k e => Nat.le_trans hB (hr k e).1)
theorem ni_own {w : World} {l : Str} {k : Nat} (h : NI w l k W) (hB : w.heap.size ≤ B) (hg : W.grownBy W' row) (hr : ∀ r, row = some r → B ≤ r ∧ ∃ o : Obj, W.heap[r]? = some o ∧ o.isCells = false) : NI w l k W' :=
  ⟨h.labs, lies_own h.res hg hr, lies_own h.num hg hr, below_own h.keep hB hg hr⟩
theorem nx_own {w : World} {l : Str} (h : NX w l W) (hB : w.heap.size ≤ B) (hg : W.grownBy W' row) (hr : ∀ r, row = some r → B ≤ r ∧ ∃ o : Obj, W.heap[r]? = some o ∧ o.isCells = false) : NX w l W' :=
  ⟨h.no, lies_own h.res hg hr, below_own h.keep hB hg hr⟩
theorem sh_own {bs : Nat} {l : Str} {J : Nat → World → Prop} {k j : Nat} (h : SH bs l J k j W) (hJ : J k W → J k W') (hg : W.grownBy W' row) (hr : ∀ r, row = some r → B ≤ r ∧ ∃ o : Obj, W.heap[r]? = some o ∧ o.isCells = false) : SH bs l J k j W' :=
  ⟨hJ h.jk, lies_own h.s hg hr, lies_own h.sep hg hr, lies_own h.sv hg hr, h.le⟩
theorem keepsFrom_below {W W' : World} (h : Below W.heap.size W W') (B : Nat) : KeepsFrom B W W' := ⟨h.size, fun k o _ hk _ => (h.block k (Array.getElem?_eq_some_iff.1 hk).1).trans hk⟩
theorem ni_set {w : World} {l : Str} (k : Nat) (W : World) {bs : Nat} (hbs : w.heap.size + 1 < bs) (v : Value) (h : NI w l k W) : NI w l k (W.setCell ⟨bs, 0, none⟩ v) :=
  ⟨h.labs, h.res.far (p := ⟨bs, 0, none⟩) (by show w.heap.size ≠ bs; omega) _, h.num.far (p := ⟨bs, 0, none⟩) (by show w.heap.size + 1 ≠ bs; omega) _, h.keep.setCell (p := ⟨bs, 0, none⟩) (by show w.heap.size ≤ bs; omega) _⟩
end

theorem piece_get {l : Str} {j : Nat} (h : j < (cut 46 l).length) : (cut 46 l)[j]? = some (piece l j) := by
  unfold piece
  rw [List.getD_eq_getElem?_getD, List.getElem?_eq_getElem h]
  rfl
theorem name_no {l : Str} {j : Nat} (h : j < (cut 46 l).length) (hl : lab (piece l j) = false) : nameB l = false := by
  rcases hh : nameB l with _ | _
  · rfl
  · unfold nameB at hh
    simp only [Bool.and_eq_true, List.all_eq_true] at hh
    have := hh.1.2 _ (List.mem_of_getElem? (piece_get h))
    rw [hl] at this
    cases this
theorem name_yes {l : Str} (h40 : l.length ≤ 40) (h : ∀ j, j < (cut 46 l).length → lab (piece l j) = true) : nameB l = !(nb l (cut 46 l).length) := by
  have hpos : 0 < (cut 46 l).length := List.length_pos_iff.2 (cut_ne 46 l)
  have e1 : (cut 46 l).all lab = true := by
    rw [List.all_eq_true]
    intro x hx
    obtain ⟨j, hj⟩ := List.getElem?_of_mem hx
    have hlt := (List.getElem?_eq_some_iff.1 hj).1
    rw [piece_get hlt] at hj
    cases hj
    exact h j hlt
  have e2 : (cut 46 l).getLast?.getD [] = piece l ((cut 46 l).length - 1) := by
    rw [List.getLast?_eq_getElem?]
    rfl
  unfold nameB nb
  rw [decide_eq_true h40, e1, e2, if_neg (by omega)]
  rfl

set_option maxHeartbeats 400000 in
theorem isName_long (s : ByteArray) (h : 40 < s.size) (w : World) : Calls Tryd.prog 15 #[.string s] w (Gives (.bool (nameB s.data.toList)) w) := by
  rw [nameB_long (by rw [list_len]; omega)]
  go_enter Tryd.func15, Tryd.ntmps15
  go_wp2
  exact bodyPost_ret (v := .bool false) (by simp [results, Tryd.results15, go_sem]) rfl ⟨rfl, (Below.refl _ w).alloc (Nat.le_refl _) _⟩

theorem results_name {W : World} {h : Nat} {b : Bool} (hl : Lies W h 4 #[.bool b]) (tmps : Array Value) (h2 : tmps[2]?.getD undef = .pointer (some ⟨h, 0, none⟩)) :
    (results Tryd.f15 tmps).run Tryd.prog W = .ok (.bool b) W := by
  have c2 := hl.cell 0
  simp at c2
  simp [results, Tryd.results15, go_sem, h2, c2]

set_option maxRecDepth 100000 in
set_option maxHeartbeats 4000000 in
theorem isName_in (s : ByteArray) (h : s.size ≤ 40) (w : World) : CallsIn Fence.wide 3 Tryd.prog 15 #[.string s] w (Gives (.bool (nameB s.data.toList)) w) := by
  have H40 := Lib.hid h
  refine callsIn_of_wp_marks Tryd.func15 rfl trivial ?_ rfl
  simp only [Tryd.ntmps15, List.size_toArray, List.length_cons, List.length_nil, Nat.reduceAdd, Nat.reduceSub, Array.replicate_succ, Array.replicate_zero, List.push_toArray, List.append_toArray, List.nil_append, List.cons_append]
  gi_wp2_with fail
  refine ⟨trivial, (callsIn_wide.2 (splitSeq_any _ _ _)).mono ?_⟩
  rintro e w3 ⟨rfl, hw3⟩
  have hz3 : w3.heap.size = w.heap.size + 5 := by rw [hw3]; simp
  have h0 : SH (w.heap.size + 1 + 1) s.data.toList (NI w s.data.toList) 0 0 w3 := by
    have hbel : Below w.heap.size w w3 := by
      rw [hw3]
      exact (((((Below.refl _ w).alloc (Nat.le_refl _) _).alloc (by simp) _).alloc (by simp; omega) _).alloc (by simp; omega) _).alloc (by simp; omega) _
    have l0 := Lies.new w 4 #[.bool false]
    have l1 := Lies.new (w.alloc (.cells #[.bool false] 4)) 4 #[.bool false]
    have l2 := Lies.new ((w.alloc (.cells #[.bool false] 4)).alloc (.cells #[.bool false] 4)) 9 #[.string s]
    have l3 := Lies.new (((w.alloc (.cells #[.bool false] 4)).alloc (.cells #[.bool false] 4)).alloc (.cells #[.string s] 9)) 9 #[.string ⟨#[46]⟩]
    have l4 := Lies.new ((((w.alloc (.cells #[.bool false] 4)).alloc (.cells #[.bool false] 4)).alloc (.cells #[.string s] 9)).alloc (.cells #[.string ⟨#[46]⟩] 9)) 3 #[.int .i64 0]
    simp only [World.size_alloc] at l0 l1 l2 l3 l4
    refine ⟨⟨fun j hj => absurd hj (by omega), ?_, ?_, hbel⟩, ?_, ?_, ?_, List.length_pos_iff.2 (cut_ne 46 _)⟩
    · rw [hw3]; exact (((l0.alloc _).alloc _).alloc _).alloc _
    · rw [hw3]; exact ((l1.alloc _).alloc _).alloc _
    · rw [hw3, rest_zero, S_data]; exact (l2.alloc _).alloc _
    · rw [hw3]; exact l3.alloc _
    · rw [hw3]; exact l4
  have hl9 : s.data.toList.length ≤ 1000000000 := by rw [list_len]; omega
  have H0 := Lib.hid h0
  have HZ3 := Lib.hid hz3
  clear h0 hz3 hw3
  gi_wp2_with fail
  refine wpIn_range_w rfl (by omega) (gf := 22) (lb := #[.pointer (some ⟨w.heap.size + 1 + 1 + 1, 0, none⟩), .pointer (some ⟨w.heap.size + 1 + 1, 0, none⟩), .pointer (some ⟨w.heap.size + 1 + 1 + 1 + 1, 0, none⟩)]) rfl trivial (enters_of Tryd.func22 (by kernel_rfl) rfl)
    (split1_seq w3.heap.size (w.heap.size + 1 + 1) s.data.toList hl9 (NI w s.data.toList) (fun k W v hh => ni_set k W (by omega) v hh) (NX w s.data.toList))
    (fun _ => rfl) ?c1 ?c2 ?c3 ?c4 ?start
    (fun k => { tmps := #[.string s, undef, .pointer (some ⟨w.heap.size, 0, none⟩), .pointer (some ⟨w.heap.size + 1, 0, none⟩), .string (S (piece s.data.toList k)), .string s, .int .i64 (s.size : Int), .bool (decide (40 < (s.size : Int))), .string s,
      .func (.func 22) #[] #[.pointer (some ⟨w.heap.size + 1 + 1 + 1, 0, none⟩), .pointer (some ⟨w.heap.size + 1 + 1, 0, none⟩), .pointer (some ⟨w.heap.size + 1 + 1 + 1 + 1, 0, none⟩)],
      .string (S (piece s.data.toList k)), undef, undef, undef, undef, undef, undef, undef], defers := [] }) ?assign ?body ?done ?stop
  case c1 => exact fun k X Y row hi hg hr => sh_own hi (fun hj => ni_own hj (by rw [HZ3.out]; omega) hg hr) hg hr
  case c2 => exact fun k X Y row hi hg hr => sh_own hi (fun hj => ni_own hj (by rw [HZ3.out]; omega) hg hr) hg hr
  case c3 => exact fun k X Y row hi hg hr => nx_own hi (by rw [HZ3.out]; omega) hg hr
  case c4 => exact fun k X Y row hi hg hr => ni_own hi (by rw [HZ3.out]; omega) hg hr
  case start => exact H0.out
  case assign =>
    intro l k W K hK
    gi_wp2
    exact hK
  case body =>
    clear H0
    rintro l k W hi
    have hpl : (S (piece s.data.toList k)).size ≤ 1000000000 := by
      rw [S_size]
      have h1 := rest_len s.data.toList k
      by_cases hk : k + 1 = (cut 46 s.data.toList).length
      · rw [rest_last hk] at h1; omega
      · rw [rest_step (show k + 1 < _ by have := hi.le; omega), List.length_append] at h1; omega
    have hlab := isLabel_any (S (piece s.data.toList k)) hpl W
    have hnum := isNumber_any (S (piece s.data.toList k)) hpl W
    rw [S_list] at hlab hnum
    have f0 := hi.jk.res.frozen 0
    have c0 := hi.jk.res.cell 0
    simp at c0
    have HI := Lib.hid hi
    have HLAB := Lib.hid hlab
    have HNUM := Lib.hid hnum
    obtain ⟨b, hb⟩ : ∃ b, b = lab (piece s.data.toList k) := ⟨_, rfl⟩
    rw [← hb] at HLAB
    have HB := Lib.hid hb
    clear hi hlab hnum hb hpl
    gi_wp2_with fail
    refine ⟨trivial, (CallsIn.inRound l (callsIn_wide.2 HLAB.out)).mono ?_⟩
    rintro e w' ⟨rfl, rfl⟩
    cases b
    · have hx : NX w s.data.toList (W.setCell ⟨w.heap.size, 0, none⟩ (.bool false)) :=
        ⟨name_no HI.out.le HB.out.symm, HI.out.jk.res.set 0 _, HI.out.jk.keep.setCell (p := ⟨w.heap.size, 0, none⟩) (Nat.le_refl _) _⟩
      have HX := Lib.hid (show KeepsFrom w3.heap.size W (W.setCell ⟨w.heap.size, 0, none⟩ (.bool false)) ∧ NX w s.data.toList (W.setCell ⟨w.heap.size, 0, none⟩ (.bool false)) from ⟨(KeepsOthers.setCell _ _ _).from _, hx⟩)
      clear hx HLAB HNUM
      gi_wp2
      exact HX.out
    · gi_wp2_with fail
      refine ⟨trivial, (CallsIn.inRound l (callsIn_wide.2 HNUM.out)).mono ?_⟩
      rintro e w' ⟨rfl, hbel⟩
      have hi := HI.out
      have hlt : w.heap.size + 1 < W.heap.size := hi.jk.num.lt
      have g1 := (hi.jk.num.below hbel (by omega)).frozen 0
      have d1 := (hi.jk.num.below hbel (by omega)).cell 0
      simp at d1
      obtain ⟨v, hv⟩ : ∃ v, v = (piece s.data.toList k).all dig := ⟨_, rfl⟩
      have hx : SH (w.heap.size + 1 + 1) s.data.toList (NI w s.data.toList) (k + 1) k (w'.setCell ⟨w.heap.size + 1, 0, none⟩ (.bool v)) := by
        refine ⟨⟨fun j hj => ?_, ?_, ?_, ?_⟩, ?_, ?_, ?_, hi.le⟩
        · by_cases e : j = k
          · subst e; exact HB.out.symm
          · exact hi.jk.labs j (by omega)
        · exact (hi.jk.res.below hbel (by omega)).far (p := ⟨w.heap.size + 1, 0, none⟩) (by simp) _
        · have := (hi.jk.num.below hbel (by omega)).set 0 (.bool v)
          rw [hv] at this ⊢
          exact this
        · exact (hi.jk.keep.trans (hbel.mono hi.jk.keep.size)).setCell (p := ⟨w.heap.size + 1, 0, none⟩) (by simp) _
        · exact (hi.s.below hbel hi.s.lt).far (p := ⟨w.heap.size + 1, 0, none⟩) (by simp) _
        · exact (hi.sep.below hbel hi.sep.lt).far (p := ⟨w.heap.size + 1, 0, none⟩) (by show w.heap.size + 1 + 1 + 1 ≠ w.heap.size + 1; omega) _
        · exact (hi.sv.below hbel hi.sv.lt).far (p := ⟨w.heap.size + 1, 0, none⟩) (by show w.heap.size + 1 + 1 + 1 + 1 ≠ w.heap.size + 1; omega) _
      have HX := Lib.hid (show KeepsFrom w3.heap.size W (w'.setCell ⟨w.heap.size + 1, 0, none⟩ (.bool v)) ∧ _ from ⟨(keepsFrom_below hbel _).trans ((KeepsOthers.setCell _ _ _).from _), hx⟩)
      rw [← hv]
      clear hx hi HLAB HNUM hbel hv
      gi_wp2
      exact HX.out
  case done =>
    rintro D W hD hn hK
    have c1 := hn.num.cell 0
    have f0 := hn.res.frozen 0
    have c0 := hn.res.cell 0
    simp at c0 c1
    obtain ⟨b, hb⟩ : ∃ b, b = nameB s.data.toList := ⟨_, rfl⟩
    have hbb : (!(nb s.data.toList (cut 46 s.data.toList).length)) = b := by rw [hb, name_yes (by rw [list_len]; exact H40.out) hn.labs]
    obtain ⟨W2, hW2⟩ : ∃ W2, W2 = W.setCell ⟨w.heap.size, 0, none⟩ (.bool b) := ⟨_, rfl⟩
    have hK2 : W2.heap[D]? = some (.deferred (some [])) := by rw [hW2]; exact (KeepsOthers.setCell _ _ _).same D _ hK rfl
    have hres : Lies W2 w.heap.size 4 #[.bool b] := by rw [hW2]; exact hn.res.set 0 _
    have hrow : ∀ q, some D = some q → w3.heap.size ≤ q ∧ ∃ o : Obj, W2.heap[q]? = some o ∧ o.isCells = false := fun q e => by cases e; exact ⟨hD, _, hK2, rfl⟩
    have hk2 : Below w.heap.size w W2 := by rw [hW2]; exact hn.keep.setCell (p := ⟨w.heap.size, 0, none⟩) (Nat.le_refl _) _
    have HFIN := Lib.hid (below_own hk2 (by rw [HZ3.out]; omega) (grownBy_putObj' W2 D (.deferred none)) hrow)
    have HBX := Lib.hid (lies_own hres (grownBy_putObj' W2 D (.deferred none)) hrow)
    have HK := Lib.hid hK2
    rw [hW2] at HFIN HBX HK
    have HBB := Lib.hid hb
    generalize nb s.data.toList (cut 46 s.data.toList).length = v at c1 hbb
    clear hn hK hK2 hres hrow hk2 hW2 hb
    gi_wp2
    refine ⟨by simp, .inl ⟨_, _, rfl, run_takeDeferred HK.out, ?_⟩⟩
    exact ⟨.bool b, results_name HBX.out _ rfl, by rw [HBB.out], HFIN.out⟩
  case stop =>
    rintro D W hD hn hK
    have hrow : ∀ q, some D = some q → w3.heap.size ≤ q ∧ ∃ o : Obj, W.heap[q]? = some o ∧ o.isCells = false := fun q e => by cases e; exact ⟨hD, _, hK, rfl⟩
    have HFIN := Lib.hid (below_own hn.keep (by rw [HZ3.out]; omega) (grownBy_putObj' W D (.deferred none)) hrow)
    have HBX := Lib.hid (lies_own hn.res (grownBy_putObj' W D (.deferred none)) hrow)
    have HK := Lib.hid hK
    have HNO := Lib.hid hn.no
    clear hn hrow hK
    gi_wp2
    refine ⟨by simp, .inl ⟨_, _, rfl, run_takeDeferred HK.out, ?_⟩⟩
    exact ⟨.bool false, results_name HBX.out _ rfl, by rw [HNO.out], HFIN.out⟩

theorem isName_any (s : ByteArray) (w : World) : Calls Tryd.prog 15 #[.string s] w (Gives (.bool (nameB s.data.toList)) w) := by
  by_cases h : s.size ≤ 40
  · exact callsIn_wide.1 (isName_in s h w)
  · exact isName_long s (by omega) w

end Go.Proofs.YtefpplkoohnfbaaDoor.hw
