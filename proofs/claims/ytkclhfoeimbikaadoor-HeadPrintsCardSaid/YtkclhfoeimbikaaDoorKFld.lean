/-
  Given for the seat's laws: fields that can be read where they lie, two fields compared; the contracts of Lower, Name, slices.Equal, Same. No condition but those of the theorems.
-/
import Derived.Test.YtkclhfoeimbikaaDoorKConv
import Derived.BigQuiet
namespace Go.Proofs.YtkclhfoeimbikaaDoor.hd
open Go.RowKit mem
set_option linter.unusedVariables false

theorem beq_S (a b : Str) : ((S a).toList == (S b).toList) = decide (a = b) := by
  by_cases h : a = b
  · subst h; simp
  · rw [(str_ne h).1]; simp [h]
theorem beqS (a b : Str) : (S a == S b) = decide (a = b) := by rw [beq_toListBytes, beq_S]
theorem eq_two_d (d : Nat) (p q : Str × Str) (W : World) : (Op.equalIn (d + 2) 49 (.agg #[.string (S p.1), .string (S p.2)]) (.agg #[.string (S q.1), .string (S q.2)])).run Tryd.prog W = .ok (decide (p = q)) W := by
  obtain ⟨a, b⟩ := p
  obtain ⟨c, e⟩ := q
  obtain ⟨i0, hi, hz0, hz1, hz2⟩ := info_parts (show (Tryd.prog.info? 9).map (fun i => (i.zero, i.size, i.bytes)) = some (some (.string ⟨#[]⟩), 1, 16) by kernel_rfl)
  have hs : (sizeOf 9).run Tryd.prog W = .ok 1 W := by simp [sizeOf, typeInfo, hi, hz1]
  have hag : (isAgg 9).run Tryd.prog W = .ok false W := by simp [isAgg, run_underlying Tryd.underlying9]
  have hp : ∀ (cs : Array Value) (i : Nat) (v : Value), cs[i]? = some v → (part 9 cs i).run Tryd.prog W = .ok v W := fun cs i v h => by
    simp [part, hag, h]
  simp only [Op.equalIn, Sem.run_bind, run_underlying Tryd.underlying49, Result.andThen_ok, hs]
  rw [Std.Legacy.Range.forIn_eq_forIn_range']
  simp [List.range', hp, beqS]
  by_cases e1 : a = c
  · by_cases e2 : b = e
    · simp [e1, e2]
    · simp [e1, e2]
  · simp [e1]
theorem eq_two (p q : Str × Str) (W : World) : (binOp .eql 49 (.agg #[.string (S p.1), .string (S p.2)]) (.agg #[.string (S q.1), .string (S q.2)])).run Tryd.prog W = .ok (.bool (decide (p = q))) W := by
  rw [run_eql_struct, eq_two_d 9998]
  rfl
theorem neq_two (p q : Str × Str) (W : World) : (binOp .neq 49 (.agg #[.string (S p.1), .string (S p.2)]) (.agg #[.string (S q.1), .string (S q.2)])).run Tryd.prog W = .ok (.bool (!decide (p = q))) W := by
  rw [run_neq_struct, eq_two_d 9998]
  rfl

/-! ### fields as they lie -/
structure FAt (W : World) (ok : Nat → Prop) (A : Option Addr) (n c : Nat) (fs : Flds) : Prop where
  len : fs.length = n
  cap : n ≤ c
  max : c ≤ maxLen
  non : A = none → c = 0
  lies : 0 < n → ∃ g off, A = some ⟨g, off, none⟩ ∧ ok g ∧ ∀ j u, (flat2 fs)[j]? = some u → W.cell? ⟨g, off + j, none⟩ = some u
section
variable {W W' : World} {ok ok' : Nat → Prop} {A : Option Addr} {n c : Nat} {fs : Flds}
theorem FAt.keep (h : FAt W ok A n c fs) (hk : ∀ g, ok g → W'.heap[g]? = W.heap[g]?) : FAt W' ok A n c fs := ⟨h.len, h.cap, h.max, h.non, fun h0 => by
  obtain ⟨g, off, e, ho, hc⟩ := h.lies h0
  exact ⟨g, off, e, ho, fun j u hu => (World.cell?_of_block (hk g ho)).trans (hc j u hu)⟩⟩
theorem FAt.weak (h : FAt W ok A n c fs) (hk : ∀ g, ok g → ok' g) : FAt W ok' A n c fs := ⟨h.len, h.cap, h.max, h.non, fun h0 => by
  obtain ⟨g, off, e, ho, hc⟩ := h.lies h0
  exact ⟨g, off, e, hk g ho, hc⟩⟩
theorem FAt.below {B : Nat} (h : FAt W ok A n c fs) (hb : Below B W W') (hg : ∀ g, ok g → g < B) : FAt W' ok A n c fs := h.keep fun g hk => hb.block g (hg g hk)
theorem FAt.at (h : FAt W ok A n c fs) {i : Nat} {p : Str × Str} (hp : fs[i]? = some p) : ∃ g off, A = some ⟨g, off, none⟩ ∧ ok g ∧ W.cell? ⟨g, off + i * 2, none⟩ = some (.string (S p.1)) ∧ W.cell? ⟨g, off + i * 2 + 1, none⟩ = some (.string (S p.2)) := by
  have hi := (List.getElem?_eq_some_iff.1 hp).1
  obtain ⟨g, off, e, ho, hc⟩ := h.lies (by have := h.len; omega)
  obtain ⟨h1, h2⟩ := flat2_at hp
  refine ⟨g, off, e, ho, ?_, ?_⟩
  · rw [Nat.mul_comm]; exact hc _ _ h1
  · rw [Nat.mul_comm, Nat.add_assoc]; exact hc _ _ h2
theorem FAt.nil (W : World) (ok : Nat → Prop) : FAt W ok none 0 0 [] := ⟨rfl, Nat.le_refl _, by unfold maxLen; omega, fun _ => rfl, fun h => absurd h (by omega)⟩
end
theorem rowF_at {W : World} {B : Nat} {A : Option Addr} {n c : Nat} {fs : Flds} (h : RowF W B (.slice A n c) fs) (hn : fs.length = n) : FAt W (fun g => g < W.heap.size) A n c fs := by
  subst hn
  rcases h.2 with ⟨hv, _⟩ | ⟨g, cap, cur, hv, hb, hh, hnc, hm, hs, ht⟩
  · simp only [Value.slice.injEq] at hv
    obtain ⟨rfl, h0, rfl⟩ := hv
    have : fs = [] := List.eq_nil_of_length_eq_zero h0
    subst this
    exact FAt.nil _ _
  · simp only [Value.slice.injEq] at hv
    obtain ⟨rfl, _, rfl⟩ := hv
    refine ⟨rfl, hnc, hm, fun e => (by cases e), fun _ => ⟨g, 0, rfl, (Array.getElem?_eq_some_iff.1 hh).1, fun j u hu => ?_⟩⟩
    rw [Nat.zero_add]
    rw [← ht, List.getElem?_take] at hu
    split at hu
    · simp only [World.cell?, hh]
      simpa using hu
    · cases hu
theorem rowF_form {W : World} {B : Nat} {v : Value} {fs : Flds} (h : RowF W B v fs) : ∃ A c, v = .slice A fs.length c := rown_form h

/-! ### Lower, Name -/
theorem low_len (l : Str) : (low l).length = l.length := by simp [low]
theorem low_at {l : Str} {i : Nat} {x : UInt8} (h : l[i]? = some x) : (low (l.take i) ++ l.drop i).set i (lw x) = low (l.take (i + 1)) ++ l.drop (i + 1) := by
  obtain ⟨hi, rfl⟩ := List.getElem?_eq_some_iff.1 h
  have e : (low (l.take i)).length = i := by rw [low_len]; simp; omega
  rw [List.set_append_right _ _ (by omega), e, Nat.sub_self, List.drop_eq_getElem_cons hi, List.set_cons_zero]
  have e2 : l.take (i + 1) = l.take i ++ [l[i]] := by rw [List.take_add_one, List.getElem?_eq_getElem hi]; rfl
  rw [e2, low_app]
  simp only [low, List.map_cons, List.map_nil, List.append_assoc, List.singleton_append]
theorem low_here {l : Str} {i : Nat} {x : UInt8} (h : l[i]? = some x) : (low (l.take i) ++ l.drop i)[i]? = some x := by
  have hi := (List.getElem?_eq_some_iff.1 h).1
  have e : (low (l.take i)).length = i := by rw [low_len]; simp; omega
  rw [List.getElem?_append_right (by omega), e, Nat.sub_self]
  simpa using h
set_option maxHeartbeats 2000000 in
set_option maxRecDepth 20000 in
theorem Lower_any (l : Str) (hl : l.length ≤ 100000) (w : World) : Calls Tryd.prog 20 #[.string (S l)] w (Gives (.string (S (low l))) w) := by
  have hconv := conv_any (S l) w
  rw [S_size] at hconv
  have hr := conv_row l w (by omega)
  have hb := conv_below (S l) w
  generalize Lib.bytesWorld w 5 (S l) = W0 at *
  generalize grownCap w l.length 0 5 = c at *
  obtain ⟨n, hn⟩ : ∃ n, l.length = n := ⟨_, rfl⟩
  rw [hn] at hconv hr hl
  have HR := Bx.mk hr
  have HB := Bx.mk hb
  have HN := Bx.mk hn
  clear hr hb hn
  go_enter Tryd.func20, Tryd.ntmps20
  go_wp2_with fail
  go_loopw [10] (fun s10 wr => ∃ i : Nat, i ≤ n ∧ s10 = .int .i64 (i : Int) ∧ Bx (RowG wr w.heap.size (.slice (some ⟨w.heap.size, 0, none⟩) n c) (low (l.take i) ++ l.drop i)) ∧ Bx (Below w.heap.size w wr)) (fun s10 _ => n - (intOf s10).toNat)
  case atStart => exact ⟨0, by omega, rfl, HR, HB⟩
  case round =>
    clear HR HB
    obtain ⟨i, hi, rfl, HR, HB⟩ := hrel
    have hlen : (low (l.take i) ++ l.drop i).length = n := by
      have := HN.out
      rw [List.length_append, low_len]
      simp
      omega
    by_cases hlt : i < n
    · obtain ⟨x, hx⟩ : ∃ x, l[i]? = some x := ⟨_, List.getElem?_eq_getElem (by rw [HN.out]; exact hlt)⟩
      obtain ⟨g, off, hg, hgo, hc⟩ := spell_cell (HR.out.spell hlen) (low_here hx)
      obtain ⟨g2, old, hg2, hold, hfro, hbg, hset⟩ := HR.out.set hlen hlt (lw x)
      rw [low_at hx] at hset
      cases hg
      cases hg2
      have i0 : (0 : Int) ≤ (i : Int) := by omega
      have i1 : (i : Int) < (n : Int) := by omega
      have HL := Bx.mk (lower_any x wr)
      have HS := Bx.mk hset
      have HB2 := Bx.mk (HB.out.setCell (p := ⟨w.heap.size, i, none⟩) (Nat.le_refl _) (.int .u8 ((lw x).toNat : Int)))
      rw [Nat.zero_add] at hc
      clear hset hx hbg hgo hlen HR hold
      generalize ((lw x).toNat : Int) = y at *
      generalize (x.toNat : Int) = z at *
      go_wp2_with fail
      refine HL.out.mono ?_
      rintro e w2 ⟨rfl, rfl⟩
      go_wp2_with fail
      go_roundw
      case rel => exact ⟨i + 1, by omega, by go_num, HS, HB2⟩
      case measure => simp [intOf]; omega
    · obtain rfl : i = n := by omega
      have e : low (l.take i) ++ l.drop i = low l := by
        rw [List.take_of_length_le (by rw [HN.out]; exact Nat.le_refl _), List.drop_of_length_le (by rw [HN.out]; exact Nat.le_refl _), List.append_nil]
      rw [e] at HR hlen
      have hst := spell_str (HR.out.spell hlen)
      clear e hlen
      go_wp2_with fail
      exact bodyPost_ret (v := .string (S (low l))) (by simp [results, Tryd.results20, go_sem]) rfl ⟨rfl, HB.out⟩
/-! ### slices.Equal, Same -/
theorem take_eq_add {a b : Flds} {i : Nat} {x y : Str × Str} (h : a.take i = b.take i) (hx : a[i]? = some x) (hy : b[i]? = some y) (e : x = y) : a.take (i + 1) = b.take (i + 1) := by
  rw [List.take_add_one, List.take_add_one, h, hx, hy, e]
set_option maxHeartbeats 4000000 in
set_option maxRecDepth 100000 in
theorem equal_any {w : World} {oka okb : Nat → Prop} {A B : Option Addr} {n c m d : Nat} {a b : Flds} (ha : FAt w oka A n c a) (hka : ∀ g, oka g → g < w.heap.size) (hb : FAt w okb B m d b) (hkb : ∀ g, okb g → g < w.heap.size) (hmx : n ≤ 100000) :
    Calls Tryd.prog 30 #[.slice A n c, .slice B m d] w fun e w' => e = .returned (.bool (decide (a = b))) ∧ Below w.heap.size w w' := by
  obtain ⟨r, hr⟩ : ∃ r, decide (a = b) = r := ⟨_, rfl⟩
  rw [hr]
  have HR := Bx.mk hr
  have HN := Bx.mk ha.len
  have HM := Bx.mk hb.len
  by_cases hnm : n = m
  · subst hnm
    have HA := Bx.mk ha
    have HBB := Bx.mk hb
    have H0 := Bx.mk (Below.refl w.heap.size w)
    have HKA := Bx.mk hka
    have HKB := Bx.mk hkb
    have hnn : ((n : Int) != (n : Int)) = false := by simp
    clear ha hb hr hka hkb
    go_enter Tryd.func30, Tryd.ntmps30
    go_wp2_with fail
    go_loopw [13] (fun s13 wr => ∃ i : Nat, i ≤ n ∧ s13 = .int .i64 (i : Int) ∧ Bx (a.take i = b.take i) ∧ Bx (Below w.heap.size w wr)) (fun s13 _ => n - (intOf s13).toNat)
    case atStart => exact ⟨0, by omega, rfl, ⟨rfl⟩, H0⟩
    case round =>
      clear H0
      obtain ⟨i, hi, rfl, HT, HB⟩ := hrel
      by_cases hlt : i < n
      · obtain ⟨x, hx⟩ : ∃ x, a[i]? = some x := ⟨_, List.getElem?_eq_getElem (by rw [HN.out]; exact hlt)⟩
        obtain ⟨y, hy⟩ : ∃ y, b[i]? = some y := ⟨_, List.getElem?_eq_getElem (by rw [HM.out]; exact hlt)⟩
        obtain ⟨g1, o1, rfl, ho1, c1, c1'⟩ := (HA.out.below HB.out HKA.out).at hx
        obtain ⟨g2, o2, rfl, ho2, c2, c2'⟩ := (HBB.out.below HB.out HKB.out).at hy
        have HX := Bx.mk hx
        have HY := Bx.mk hy
        have HB1 := Bx.mk HB.out.drew
        have i0 : (0 : Int) ≤ (i : Int) := by omega
        have i1 : (i : Int) < (n : Int) := by omega
        by_cases e : x = y
        · have HT2 := Bx.mk (take_eq_add HT.out hx hy e)
          have hq := eq_two_d 9998 x y wr.drew
          rw [decide_eq_true e] at hq
          clear hx hy HB ho1 ho2 e
          go_upto_region 6 with fail
          go_region
          all_goals
            go_wp2_with fail
            go_roundw
            case rel => exact ⟨i + 1, by omega, by go_num, HT2, HB1⟩
            case measure => simp [intOf]; omega
        · have hf : r = false := by
            rw [← HR.out]
            refine decide_eq_false fun e2 => e ?_
            rw [e2, hy] at hx
            exact (Option.some.inj hx).symm
          subst hf
          have hq := eq_two_d 9998 x y wr.drew
          rw [decide_eq_false e] at hq
          clear hx hy HB ho1 ho2 e
          go_upto_region 6 with fail
          go_region
          all_goals
            go_wp2_with fail
            exact bodyPost_ret (v := .bool false) (by simp [results, Tryd.results30, go_sem]) rfl ⟨rfl, HB1.out⟩
      · obtain rfl : i = n := by omega
        have ht : r = true := by
          rw [← HR.out]
          have := HT.out
          rw [List.take_of_length_le (by rw [HN.out]; exact Nat.le_refl _), List.take_of_length_le (by rw [HM.out]; exact Nat.le_refl _)] at this
          exact decide_eq_true this
        subst ht
        go_wp2_with fail
        exact bodyPost_ret (v := .bool true) (by simp [results, Tryd.results30, go_sem]) rfl ⟨rfl, HB.out⟩
  · have hf : r = false := by
      rw [← hr]
      refine decide_eq_false fun e => hnm ?_
      rw [← HN.out, ← HM.out, e]
    subst hf
    have hnn : ((n : Int) != (m : Int)) = true := by simp; omega
    clear hr ha hb hnm hka hkb
    go_enter Tryd.func30, Tryd.ntmps30
    go_wp2_with fail
    exact bodyPost_ret (v := .bool false) (by simp [results, Tryd.results30, go_sem]) rfl ⟨rfl, Below.refl _ _⟩
/-! ### heads as values -/
/-- a head as it is handed: the line, the fields readable in what lay below B -/
structure Hd (W : World) (ok : Nat → Prop) (v : Value) (l : Str) (fs : Flds) : Prop where
  ex : ∃ A n c, v = .agg #[.string (S l), .slice A n c] ∧ FAt W ok A n c fs
theorem Hd.keep {W W' : World} {ok : Nat → Prop} {v : Value} {l : Str} {fs : Flds} (h : Hd W ok v l fs) (hk : ∀ g, ok g → W'.heap[g]? = W.heap[g]?) : Hd W' ok v l fs := by
  obtain ⟨A, n, c, e, h⟩ := h.ex
  exact ⟨A, n, c, e, h.keep hk⟩
theorem Hd.weak {W : World} {ok ok' : Nat → Prop} {v : Value} {l : Str} {fs : Flds} (h : Hd W ok v l fs) (hk : ∀ g, ok g → ok' g) : Hd W ok' v l fs := by
  obtain ⟨A, n, c, e, h⟩ := h.ex
  exact ⟨A, n, c, e, h.weak hk⟩
set_option maxHeartbeats 2000000 in
theorem Same_any {w : World} {oka okb : Nat → Prop} {va vb : Value} {la lb : Str} {a b : Flds} (ha : Hd w oka va la a) (hka : ∀ g, oka g → g < w.heap.size) (hb : Hd w okb vb lb b) (hkb : ∀ g, okb g → g < w.heap.size) (hmx : a.length ≤ 100000) :
    Calls Tryd.prog 17 #[va, vb] w fun e w' => e = .returned (.bool (decide (la = lb ∧ a = b))) ∧ Below w.heap.size w w' := by
  obtain ⟨A, n, c, rfl, ha2⟩ := ha.ex
  obtain ⟨B, m, d, rfl, hb2⟩ := hb.ex
  clear ha hb
  have ha := ha2
  have hb := hb2
  clear ha2 hb2
  have hn := ha.len
  by_cases e : la = lb
  · have heq : ((S la).toList == (S lb).toList) = true := by rw [beq_S, decide_eq_true e]
    have e2 : decide (la = lb ∧ a = b) = decide (a = b) := by simp [e]
    rw [e2]
    have hal : Below w.heap.size w ((w.alloc (.cells #[.string (S la), .slice A n c] 25)).alloc (.cells #[.string (S lb), .slice B m d] 25)) := ((Below.refl _ _).alloc (Nat.le_refl _) _).alloc (by simp) _
    have HAL := Bx.mk hal
    have HE := Bx.mk (@equal_any ((w.alloc (.cells #[.string (S la), .slice A n c] 25)).alloc (.cells #[.string (S lb), .slice B m d] 25)) oka okb A B n c m d a b (ha.below hal hka) (fun g hg => Nat.lt_of_lt_of_le (hka g hg) hal.size) (hb.below hal hkb) (fun g hg => Nat.lt_of_lt_of_le (hkb g hg) hal.size) (by omega))
    generalize decide (a = b) = r at *
    clear hal ha hb hka hkb e e2
    go_enter Tryd.func17, Tryd.ntmps17
    go_wp2_with fail
    refine HE.out.mono ?_
    rintro e w2 ⟨rfl, h2⟩
    have HB := Bx.mk (HAL.out.trans (h2.mono HAL.out.size))
    clear h2 HAL HE
    go_wp2_with fail
    exact bodyPost_ret (v := .bool r) (by simp [results, Tryd.results17, go_sem]) rfl ⟨rfl, HB.out⟩
  · have heq : ((S la).toList == (S lb).toList) = false := by rw [beq_S, decide_eq_false e]
    have e2 : decide (la = lb ∧ a = b) = false := by simp [e]
    rw [e2]
    have HB : Bx (Below w.heap.size w ((w.alloc (.cells #[.string (S la), .slice A n c] 25)).alloc (.cells #[.string (S lb), .slice B m d] 25))) := ⟨((Below.refl _ _).alloc (Nat.le_refl _) _).alloc (by simp) _⟩
    clear ha hb hka hkb e e2
    go_enter Tryd.func17, Tryd.ntmps17
    go_wp2_with fail
    exact bodyPost_ret (v := .bool false) (by simp [results, Tryd.results17, go_sem]) rfl ⟨rfl, HB.out⟩
end Go.Proofs.YtkclhfoeimbikaaDoor.hd
