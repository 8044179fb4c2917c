/-
  Given for 'Rows.RackPlaysSaid': the document's Drop, IDs, and Ints. No condition but those of the theorems.
-/
import Derived.Test.YtcecdcdnjbndiaaModel5
namespace Go.Proofs.Ytcecdcdnjbndiaa.model
open Go.RowKit mem find rack
set_option linter.unusedVariables false

theorem del_snoc (l : List (Int × Int)) (x : Int × Int) (k : Nat) (h : k ≠ l.length) : del (l ++ [x]) k = del l k ++ [x] := by
  unfold del
  rcases Nat.lt_or_gt_of_ne h with h1 | h1
  · rw [List.take_append_of_le_length (by omega), List.drop_append_of_le_length (by omega), List.append_assoc]
  · rw [List.take_of_length_le (by simp; omega), List.drop_of_length_le (by simp; omega), List.take_of_length_le (by omega), List.drop_of_length_le (by omega)]
    simp
theorem del_here (l : List (Int × Int)) (x : Int × Int) : del (l ++ [x]) l.length = del l l.length := by
  unfold del
  simp
theorem del_sub (l : List (Int × Int)) (k : Nat) : List.Sublist (del l k) l := by
  unfold del
  have : List.Sublist (l.take k ++ l.drop (k + 1)) (l.take k ++ l.drop k) := (List.Sublist.refl _).append (by
    rw [← List.drop_drop]; exact List.drop_sublist _ _)
  rwa [List.take_append_drop] at this
theorem take_snoc2 {l : List (Int × Int)} {i : Nat} {x : Int × Int} (h : l[i]? = some x) : l.take (i + 1) = l.take i ++ [x] := by rw [List.take_add_one, h]; rfl

/-- while the document's Drop copies the rows that stay -/
structure DrI (w : World) (A : Option Addr) (c : Nat) (l : List (Int × Int)) (W : World) : Prop where
  rows : RowsAt W A c l
  below : Below w.heap.size w W
  new : ∀ g, rowOf A = some g → w.heap.size ≤ g

section
variable {w w' : World} {T T' S : Nat → Prop} {q N : Nat} {nx st : Int} {M : List (Int × Int)}

theorem DrI.more {W W2 : World} {A A' : Option Addr} {c c' : Nat} {l : List (Int × Int)} {x : Int × Int} (h : DrI w A c l W) (hrow : RowsAt W2 A' c' (l ++ [x])) (hg : (W.alloc (.cells #[.int .i64 x.1, .int .i64 x.2] 65)).grownBy W2 (rowOf A))
    (hA : ∀ g, rowOf A' = some g → rowOf A = some g ∨ (W.alloc (.cells #[.int .i64 x.1, .int .i64 x.2] 65)).heap.size ≤ g) : DrI w A' c' (l ++ [x]) W2 := by
  have hs := h.below.size
  refine ⟨hrow, ((h.below.alloc hs _)).grown hg (by simp; omega) (fun g e => h.new g e), fun g e => ?_⟩
  rcases hA g e with e1 | e1
  · exact h.new g e1
  · simp at e1; omega

set_option maxRecDepth 100000 in
set_option maxHeartbeats 2000000 in
theorem mdrop_in (h : MRk w T q N nx st M) {k : Nat} {id v : Int} (hk : M[k]? = some (id, v)) : Calls Try.prog 16 #[.pointer (some ⟨q, 0, none⟩), .int .i64 id] w fun e w' => e = .returned (.int .i64 0) ∧ MDid T q N nx st (del M k) w w' := by
  have HA := Lib.hid (at_in h hk)
  have hkl := (List.getElem?_eq_some_iff.1 hk).1
  have hl64 : M.length ≤ 64 := Nat.le_trans h.len h.size
  have H := Lib.hid h
  obtain ⟨A, c, hl, hr, hAA⟩ := h.ex
  have HLI := Lib.hid hl
  have HRW := Lib.hid hr
  have hql := hl.lt
  have e0 : del (M.take 0) k = [] := by simp [del]
  have h0 : DrI w none 0 (del (M.take 0) k) w := by
    rw [e0]
    exact ⟨World.ownsRow_nil _ _ _ _, Below.refl _ _, fun g e => by cases e⟩
  have H0 := Lib.hid h0
  obtain ⟨g, hAg, hgl, hc⟩ := RowsAt.cell hr (by omega)
  subst hAg
  have HC := Lib.hid hc
  have E0 := Lib.hid e0
  clear h hk hl hr hAA h0 hc e0
  generalize hnn : M.length = n at *
  have HN := Lib.hid hnn
  clear hnn
  go_enter Try.func16, Try.ntmps16
  go_wp2_with (go_at_call 30; refine HA.out.mono ?_; rintro e w' ⟨rfl, rfl⟩)
  go_loopw [6, 7] (fun s6 s7 wr => ∃ (i : Nat) (Al : Option Addr) (cl : Nat), i ≤ n ∧ s7 = .int .i64 i ∧ s6 = .slice Al (del (M.take i) k).length cl ∧ Hid (DrI w Al cl (del (M.take i) k) wr)) (fun _ s7 _ => n - (intOf s7).toNat)
  case atStart => exact ⟨0, none, 0, Nat.zero_le _, rfl, by rw [E0.out]; rfl, H0⟩
  case round =>
    clear H0
    obtain ⟨i, Al, cl, hi, rfl, rfl, hinv⟩ := hrel
    have c3 : wr.cell? ⟨q, 3, none⟩ = some (.slice (some ⟨g, 0, none⟩) n c) := by rw [hinv.out.below.cell (p := ⟨q, 3, none⟩) hql]; have := HLI.out.cell 3; rw [this]; rfl
    by_cases hin : i < n
    · obtain ⟨x, hx⟩ : ∃ x, M[i]? = some x := ⟨_, List.getElem?_eq_getElem (by rw [HN.out]; exact hin)⟩
      obtain ⟨d1, d2⟩ := HC.out i x hx
      have e1 : wr.cell? ⟨g, i * 2, none⟩ = some (.int .i64 x.1) := (hinv.out.below.cell (p := ⟨g, i * 2, none⟩) hgl).trans d1
      have e2 : wr.cell? ⟨g, i * 2 + 1, none⟩ = some (.int .i64 x.2) := (hinv.out.below.cell (p := ⟨g, i * 2 + 1, none⟩) hgl).trans d2
      have hti := take_snoc2 hx
      have htl : (M.take i).length = i := by rw [List.length_take, HN.out]; omega
      clear d1 d2 hx
      by_cases hik : i = k
      · subst hik
        have hde : del (M.take (i + 1)) i = del (M.take i) i := by
          rw [hti]
          have := del_here (M.take i) x
          rw [htl] at this
          exact this
        have HI3 : Hid (DrI w Al cl (del (M.take (i + 1)) i) wr) := by rw [hde]; exact hinv.out
        have HDE := Lib.hid hde
        clear hde hti htl hinv
        go_wp2
        go_roundw
        case rel => exact ⟨i + 1, Al, cl, by omega, by go_num, by rw [HDE.out], HI3⟩
        case measure => simp [intOf]; omega
      · have hz : ((i : Int) != (k : Int)) = true := by simp; omega
        have hz2 : ((i : Int) == (k : Int)) = false := by simp; omega
        have hde : del (M.take (i + 1)) k = del (M.take i) k ++ [x] := by rw [hti]; exact del_snoc _ _ _ (by rw [htl]; omega)
        obtain ⟨A', c', W2, happ, hrow, hg, hA'⟩ := append_run (RowsAt.keep hinv.out.rows (Keep.of_below ((Below.refl _ wr).alloc (Nat.le_refl _) (.cells #[.int .i64 x.1, .int .i64 x.2] 65)) (fun _ => False)) (Nat.le_refl _) (fun _ _ hf => hf)) wr.heap.size x (Lies.new wr 65 _) (by
          have := (del_sub (M.take i) k).length_le
          rw [htl] at this
          omega)
        have HI3 : Hid (DrI w A' c' (del (M.take (i + 1)) k) W2) := by rw [hde]; exact hinv.out.more hrow hg hA'
        have HDE := Lib.hid hde
        have HAPP := Lib.hid happ
        obtain ⟨x1, x2⟩ := x
        dsimp only at e1 e2 HAPP
        clear hde hti htl hinv happ hrow hg hA'
        generalize del (M.take i) k = dl at *
        generalize hdl : dl.length = dn at *
        generalize hdl2 : (dl ++ [(x1, x2)]).length = dn2 at *
        have HD2 := Lib.hid hdl2
        clear hdl hdl2
        go_wp2_with (at_builtin; refine wpList_append_eq rfl _ _ 43 43 rfl rfl rfl rfl HAPP.out ?_)
        go_roundw
        case rel => exact ⟨i + 1, A', c', by omega, by go_num, by rw [HDE.out, HD2.out], HI3⟩
        case measure => simp [intOf]; omega
    · obtain rfl : i = n := by omega
      have hti : M.take i = M := List.take_of_length_le (by rw [HN.out]; exact Nat.le_refl _)
      rw [hti] at hinv ⊢
      have hsz := hinv.out.below.size
      have hlq : Lies wr q 45 #[.int .i64 (N : Int), .int .i64 nx, .int .i64 st, .slice (some ⟨g, 0, none⟩) i c] := HLI.out.below hinv.out.below hql
      have hfin : MDid T q N nx st (del M k) w (wr.setCell ⟨q, 3, none⟩ (.slice Al (del M k).length cl)) := by
        refine ⟨⟨⟨Al, cl, hlq.set 3 _, RowsAt.of_same hinv.out.rows (fun g' e => ?_), fun g' e => .inr (hinv.out.new g' e)⟩, .inl H.out.own, ?_, ?_, H.out.size⟩, (Keep.of_below hinv.out.below T).setCell (p := ⟨q, 3, none⟩) (.inr H.out.own) _⟩
        · rw [rowOf_eq] at e
          exact Below.heap_setCell _ _ _ _ (own_apart hinv.out.rows e hlq (by decide))
        · exact List.Nodup.sublist ((del_sub M k).map _) H.out.uniq
        · exact Nat.le_trans (del_sub M k).length_le H.out.len
      have HFIN := Lib.hid hfin
      have f3 := hlq.frozen 3
      clear hfin hlq hinv hti
      generalize (del M k).length = dn at *
      go_wp2
      go_ret
      exact ⟨rfl, HFIN.out⟩

set_option maxHeartbeats 400000 in
theorem mdrop_out (h : MRk w T q N nx st M) {id : Int} (hk : ¬ Has M id) : Calls Try.prog 16 #[.pointer (some ⟨q, 0, none⟩), .int .i64 id] w fun e w' => e = .returned (.int .i64 30) ∧ w = w' := by
  have HA := Lib.hid (at_out h hk)
  clear h hk
  go_enter Try.func16, Try.ntmps16
  go_wp2_with (go_at_call 30; refine HA.out.mono ?_; rintro e w' ⟨rfl, rfl⟩)
  go_ret
  exact ⟨rfl, rfl⟩
end

/-! ### IDs -/
def Least (l : List (Int × Int)) (last a : Int) : Prop := (a = 0 ∧ ∀ x ∈ l, x.1 ≤ last) ∨ (Has l a ∧ last < a ∧ ∀ x ∈ l, last < x.1 → a ≤ x.1)
theorem least_nil (last : Int) : Least [] last 0 := .inl ⟨rfl, fun x hx => by simp at hx⟩
theorem has_snoc {l : List (Int × Int)} {x : Int × Int} {a : Int} (h : Has l a) : Has (l ++ [x]) a := by
  obtain ⟨v, hv⟩ := h
  exact ⟨v, by simp [hv]⟩
theorem least_keep {l : List (Int × Int)} {last a : Int} {x : Int × Int} (h : Least l last a) (hx : x.1 ≤ last ∨ (a ≠ 0 ∧ a ≤ x.1)) : Least (l ++ [x]) last a := by
  rcases h with ⟨rfl, h⟩ | ⟨h1, h2, h3⟩
  · refine .inl ⟨rfl, fun y hy => ?_⟩
    rcases List.mem_append.1 hy with hy | hy
    · exact h y hy
    · simp at hy; subst hy; rcases hx with hx | hx; exact hx; exact absurd rfl hx.1
  · refine .inr ⟨has_snoc h1, h2, fun y hy hl => ?_⟩
    rcases List.mem_append.1 hy with hy | hy
    · exact h3 y hy hl
    · simp at hy; subst hy; rcases hx with hx | hx; omega; exact hx.2
theorem least_take {l : List (Int × Int)} {last a : Int} {x : Int × Int} (h : Least l last a) (hx : last < x.1) (hxa : a = 0 ∨ x.1 < a) (h0 : 0 ≤ last) : Least (l ++ [x]) last x.1 := by
  refine .inr ⟨⟨x.2, by simp⟩, hx, fun y hy hl => ?_⟩
  rcases List.mem_append.1 hy with hy | hy
  · rcases h with ⟨rfl, h⟩ | ⟨h1, h2, h3⟩
    · have := h y hy; omega
    · have := h3 y hy hl
      rcases hxa with e | e <;> omega
  · simp at hy; subst hy; omega

def lastOf (K : List Int) (i : Nat) : Int := if i = 0 then 0 else K.getD (i - 1) 0
theorem least_is {M R : List (Int × Int)} (hp : M.Perm R) (hs : Sorted R) (hpos : ∀ x ∈ R, 1 ≤ x.1) {i : Nat} {x : Int × Int} (hx : R[i]? = some x) {a : Int} (h : Least M (lastOf (R.map (·.1)) i) a) : a = x.1 := by
  have hlast : lastOf (R.map (·.1)) i < x.1 := by
    unfold lastOf
    split
    · have := hpos x (List.mem_of_getElem? hx); omega
    · have hil := (List.getElem?_eq_some_iff.1 hx).1
      obtain ⟨z, hz⟩ : ∃ z, R[i - 1]? = some z := ⟨_, List.getElem?_eq_getElem (by omega)⟩
      have e : (R.map (·.1)).getD (i - 1) 0 = z.1 := by rw [List.getD_eq_getElem?_getD, List.getElem?_map, hz]; rfl
      rw [e]
      exact sorted_at hs (by omega) hz hx
  have hxm : x ∈ M := hp.mem_iff.2 (List.mem_of_getElem? hx)
  rcases h with ⟨_, h⟩ | ⟨h1, h2, h3⟩
  · have := h x hxm; omega
  · have hle := h3 x hxm hlast
    obtain ⟨v, hv⟩ := h1
    obtain ⟨p, hpp⟩ := List.getElem?_of_mem (hp.mem_iff.1 hv)
    rcases Nat.lt_trichotomy p i with hl | hl | hl
    · exfalso
      unfold lastOf at h2
      rw [if_neg (by omega)] at h2
      have hil := (List.getElem?_eq_some_iff.1 hx).1
      obtain ⟨z, hz⟩ : ∃ z, R[i - 1]? = some z := ⟨_, List.getElem?_eq_getElem (by omega)⟩
      have e : (R.map (·.1)).getD (i - 1) 0 = z.1 := by rw [List.getD_eq_getElem?_getD, List.getElem?_map, hz]; rfl
      rw [e] at h2
      by_cases hpi : p = i - 1
      · subst hpi
        rw [hz] at hpp
        cases hpp
        omega
      · have := sorted_at hs (show p < i - 1 by omega) hpp hz
        dsimp only at this
        omega
    · subst hl
      rw [hx] at hpp
      cases hpp
      rfl
    · have := sorted_at hs hl hx hpp
      dsimp only at this
      omega

theorem append_int {W : World} {B : Nat} {A : Option Addr} {n c : Nat} {xs : List Int} (h : W.ownsRow B 3 1 (.slice A n c) n (I8 xs)) (b : Nat) (x : Int) (hb : Lies W b 3 #[.int .i64 x]) (hn : n ≤ 1000) (hB : B ≤ W.heap.size) :
    ∃ A' c' W', (Builtin.append_ #[40, 40] 40 #[.slice A n c, .slice (some ⟨b, 0, none⟩) 1 1]).run Try.prog W = .ok (.slice A' (n + 1) c') W' ∧ W'.ownsRow B 3 1 (.slice A' (n + 1) c') (n + 1) (I8 (xs ++ [x])) ∧ W.grownBy W' (rowOf A) := by
  obtain ⟨i0, hinf, hz0, hz1, hz2⟩ := info_parts infoInt
  obtain ⟨g, cap, w', hr, ho, hg, hat, _⟩ := run_append_lies (P := Try.prog) W 40 40 B 3 i0 (.int .i64 0) 1 8 Try.underlying40 hinf hz0 hz1 hz2 rfl (by decide) _ _ _ h ⟨b, 0, none⟩ 1 1 [.int .i64 x] rfl
    (fun j u hu => by
      rw [Addr.add_lit, Nat.zero_add, hb.cell]
      match j, hu with
      | 0, hu => simpa using hu) (by simp [Value.oneCell']) (by decide) (by unfold maxLen; omega) (by omega) hB _ rfl
  have e : I8 (xs ++ [x]) = I8 xs ++ [.int .i64 x] := by simp [I8]
  rw [rowOf_eq] at hg
  exact ⟨some ⟨g, 0, none⟩, cap, w', hr, by rw [e]; exact ho, hg⟩

/-- while the document's IDs collects -/
structure MI (w : World) (A : Option Addr) (c i : Nat) (K : List Int) (W : World) : Prop where
  own : W.ownsRow w.heap.size 3 1 (.slice A i c) i (I8 (K.take i))
  below : Below w.heap.size w W

section
variable {w w' : World} {T T' S : Nat → Prop} {q N : Nat} {nx st : Int} {M R : List (Int × Int)}

set_option maxRecDepth 100000 in
set_option maxHeartbeats 4000000 in
theorem mids_any (h : MRk w T q N nx st M) (hp : M.Perm R) (hs : Sorted R) (hpos : ∀ x ∈ R, 1 ≤ x.1) : Calls Try.prog 22 #[.pointer (some ⟨q, 0, none⟩)] w (IdsPost w (R.map (·.1))) := by
  have hl64 : M.length ≤ 64 := Nat.le_trans h.len h.size
  have hlen := hp.length_eq
  obtain ⟨A, c, hl, hr, _⟩ := h.ex
  have HLI := Lib.hid hl
  have HRW := Lib.hid hr
  have hql := hl.lt
  have h0 : MI w none 0 0 (R.map (·.1)) w := ⟨World.ownsRow_nil _ _ _ _, Below.refl _ _⟩
  have H0 := Lib.hid h0
  have HP := Lib.hid hp
  have HS := Lib.hid hs
  have HPOS := Lib.hid hpos
  have hkl : (R.map (·.1)).length = M.length := by rw [List.length_map, hlen]
  clear h hl hr h0 hp hs hpos
  generalize hnn : M.length = n at *
  have HN := Lib.hid hnn
  have HLEN := Lib.hid hlen
  have HKL := Lib.hid hkl
  clear hnn hlen hkl
  go_enter Try.func22, Try.ntmps22
  go_wp2
  go_loopw [3, 4, 5] (fun s3 s4 s5 wr => ∃ (i : Nat) (Ao : Option Addr) (co : Nat), i ≤ n ∧ s5 = .int .i64 i ∧ s4 = .int .i64 (lastOf (R.map (·.1)) i) ∧ s3 = .slice Ao i co ∧ Hid (MI w Ao co i (R.map (·.1)) wr)) (fun _ _ s5 _ => n - (intOf s5).toNat)
  case atStart => exact ⟨0, none, 0, Nat.zero_le _, rfl, rfl, rfl, H0.out⟩
  case round =>
    clear H0
    obtain ⟨i, Ao, co, hi, rfl, rfl, rfl, hinv⟩ := hrel
    have c3 : wr.cell? ⟨q, 3, none⟩ = some (.slice A n c) := by rw [hinv.out.below.cell (p := ⟨q, 3, none⟩) hql]; have := HLI.out.cell 3; rw [this]; rfl
    by_cases hin : i < n
    · obtain ⟨x, hx⟩ : ∃ x, R[i]? = some x := ⟨_, List.getElem?_eq_getElem (by rw [← HLEN.out]; exact hin)⟩
      have hxk : (R.map (·.1))[i]? = some x.1 := by rw [List.getElem?_map, hx]; rfl
      have hl0 : 0 ≤ lastOf (R.map (·.1)) i := by
        unfold lastOf
        split
        · omega
        · obtain ⟨z, hz⟩ : ∃ z, R[i - 1]? = some z := ⟨_, List.getElem?_eq_getElem (by rw [← HLEN.out]; omega)⟩
          have e : (R.map (·.1)).getD (i - 1) 0 = z.1 := by rw [List.getD_eq_getElem?_getD, List.getElem?_map, hz]; rfl
          rw [e]
          have := HPOS.out z (List.mem_of_getElem? hz)
          omega
      have HLE : Hid (∀ a, Least M (lastOf (R.map (·.1)) i) a → a = x.1) := fun a ha => least_is HP.out HS.out HPOS.out hx ha
      have hnext : lastOf (R.map (·.1)) (i + 1) = x.1 := by
        unfold lastOf
        rw [if_neg (by omega), Nat.add_sub_cancel, List.getD_eq_getElem?_getD, hxk]
        rfl
      have HNX := Lib.hid hnext
      have htk : (R.map (·.1)).take (i + 1) = (R.map (·.1)).take i ++ [x.1] := take_snoc hxk
      have HTK := Lib.hid htk
      clear hx hxk hnext htk
      generalize hlst : lastOf (R.map (·.1)) i = last at *
      clear hlst
      obtain ⟨x1, x2⟩ := x
      dsimp only at HLE HNX HTK
      go_wp2
      go_loop [6, 7] (fun s6 s7 => ∃ (j : Nat) (a : Int), j ≤ n ∧ s7 = .int .i64 j ∧ s6 = .int .i64 a ∧ Hid (Least (M.take j) last a)) (fun _ s7 => n - (intOf s7).toNat)
      case atStart => exact ⟨0, 0, Nat.zero_le _, rfl, rfl, least_nil _⟩
      case round =>
        obtain ⟨j, a, hj, rfl, rfl, hle⟩ := hrel
        by_cases hjn : j < n
        · obtain ⟨g, rfl, hgl, hc⟩ := RowsAt.cell HRW.out (by rw [HN.out]; omega)
          obtain ⟨y, hy⟩ : ∃ y, M[j]? = some y := ⟨_, List.getElem?_eq_getElem (by rw [HN.out]; exact hjn)⟩
          obtain ⟨d1, _⟩ := hc j y hy
          have e1 : wr.cell? ⟨g, j * 2, none⟩ = some (.int .i64 y.1) := (hinv.out.below.cell (p := ⟨g, j * 2, none⟩) hgl).trans d1
          have htj := take_snoc2 hy
          have HTJ := Lib.hid htj
          clear d1 hc hy htj
          by_cases h1 : last < y.1
          · by_cases h2 : a = 0
            · subst h2
              have HL2 : Hid (Least (M.take (j + 1)) last y.1) := by rw [HTJ.out]; exact least_take hle.out h1 (.inl rfl) hl0
              go_wp2
              go_round
              case rel => exact ⟨j + 1, y.1, by omega, by go_num, rfl, HL2⟩
              case measure => simp [intOf]; omega
            · have h2' : (a == 0) = false := by simpa using h2
              by_cases h3 : y.1 < a
              · have HL2 : Hid (Least (M.take (j + 1)) last y.1) := by rw [HTJ.out]; exact least_take hle.out h1 (.inr h3) hl0
                go_wp2
                go_round
                case rel => exact ⟨j + 1, y.1, by omega, by go_num, rfl, HL2⟩
                case measure => simp [intOf]; omega
              · have HL2 : Hid (Least (M.take (j + 1)) last a) := by rw [HTJ.out]; exact least_keep hle.out (.inr ⟨h2, by omega⟩)
                go_wp2
                go_round
                case rel => exact ⟨j + 1, a, by omega, by go_num, rfl, HL2⟩
                case measure => simp [intOf]; omega
          · have HL2 : Hid (Least (M.take (j + 1)) last a) := by rw [HTJ.out]; exact least_keep hle.out (.inl (by omega))
            go_wp2
            go_round
            case rel => exact ⟨j + 1, a, by omega, by go_num, rfl, HL2⟩
            case measure => simp [intOf]; omega
        · obtain rfl : j = n := by omega
          have hax : a = x1 := HLE.out a (by have := hle.out; rwa [List.take_of_length_le (by rw [HN.out]; exact Nat.le_refl _)] at this)
          subst hax
          obtain ⟨A', c', W2, happ, ho, hg⟩ := append_int (hinv.out.own.alloc (.cells #[.int .i64 a] 3)) wr.heap.size a (Lies.new wr 3 _) (by omega) (by have := hinv.out.below.size; simp; omega)
          have HI3 : Hid (MI w A' c' (i + 1) (R.map (·.1)) W2) := by
            refine ⟨by rw [HTK.out]; exact ho, ?_⟩
            have hsz := hinv.out.below.size
            exact (hinv.out.below.alloc hsz _).grown hg (by simp; omega) (fun g e => (hinv.out.own.lt g (by rw [rowOf_eq]; exact e)).1)
          have HAPP := Lib.hid happ
          clear happ ho hg hinv hle
          go_wp2_with (at_builtin; refine wpList_append_eq rfl _ _ 40 40 rfl rfl rfl rfl HAPP.out ?_)
          go_roundw
          case rel => exact ⟨i + 1, A', c', by omega, by go_num, by rw [HNX.out], rfl, HI3⟩
          case measure => simp [intOf]; omega
    · obtain rfl : i = n := by omega
      have hfin : IdsPost w (R.map (·.1)) (.returned (.slice Ao i co)) wr := by
        have ho := hinv.out.own
        rw [List.take_of_length_le (by rw [HKL.out]; exact Nat.le_refl _)] at ho
        exact ⟨Ao, co, by rw [HKL.out], by rw [HKL.out]; exact ho, hinv.out.below⟩
      have HFIN := Lib.hid hfin
      clear hfin hinv
      go_wp2
      go_ret
      exact HFIN.out
end

set_option maxHeartbeats 1000000 in
theorem ints_same {W : World} {A B : Option Addr} {n ca cb B1 B2 : Nat} {xs : List Int} (hA : W.ownsRow B1 3 1 (.slice A n ca) n (I8 xs)) (hB : W.ownsRow B2 3 1 (.slice B n cb) n (I8 xs)) (hn : n ≤ 1000) :
    Calls Try.prog 21 #[.slice A n ca, .slice B n cb] W fun e w' => e = .returned (.bool true) ∧ Still W w' := by
  have HA := Lib.hid hA
  have HB := Lib.hid hB
  have hxl : xs.length = n := by have := hA.1; simpa [I8] using this
  clear hA hB
  go_enter Try.func21, Try.ntmps21
  go_wp2
  go_loopw [5] (fun s5 wr => ∃ k : Nat, k ≤ n ∧ s5 = .int .i64 k ∧ Hid (Still W wr)) (fun s5 _ => n - (intOf s5).toNat)
  case atStart => exact ⟨0, Nat.zero_le _, rfl, Still.refl _⟩
  case round =>
    obtain ⟨k, hk, rfl, hst⟩ := hrel
    by_cases hlt : k < n
    · obtain ⟨g, rfl, _, hc⟩ := ints_cell HA.out (by omega)
      obtain ⟨g', rfl, _, hc'⟩ := ints_cell HB.out (by omega)
      obtain ⟨z, hz⟩ : ∃ z, xs[k]? = some z := ⟨_, List.getElem?_eq_getElem (by omega)⟩
      have c1 : wr.cell? ⟨g, k, none⟩ = some (.int .i64 z) := (hst.out.cell _).trans (hc k z hz)
      have c2 : wr.cell? ⟨g', k, none⟩ = some (.int .i64 z) := (hst.out.cell _).trans (hc' k z hz)
      have hlt2 : (k : Int) < (n : Int) := by omega
      have hk0 : (0 : Int) ≤ (k : Int) := by omega
      clear hc hc' hz
      go_wp2
      go_quiet (fail)
      go_wp2
      go_roundw
      case rel => exact ⟨k + 1, by omega, by go_num, hst.out.trans (Still.drewN _ _)⟩
      case measure => simp [intOf]; omega
    · go_wp2
      go_ret
      exact ⟨rfl, hst.out⟩

end Go.Proofs.Ytcecdcdnjbndiaa.model
