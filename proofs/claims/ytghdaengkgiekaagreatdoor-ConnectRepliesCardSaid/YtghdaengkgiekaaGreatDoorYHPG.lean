/-
  Given for the seat's laws: the contract of parseGroups. No condition but those of the theorems.
-/
import Derived.Test.YtghdaengkgiekaaGreatDoorYHPU2
import Derived.Test.YtghdaengkgiekaaGreatDoorYHGrp
namespace Go.Proofs.YtghdaengkgiekaaGreatDoor.hw
open Go.RowKit mem hostp
set_option linter.unusedVariables false

/-- a fact kept shut: the walk can't look into it -/
structure Bx (p : Prop) : Prop where
  out : p

/-- groups with noughts behind, eight of them -/
def pad8 (a : List Nat) : List Nat := a ++ List.replicate (8 - a.length) 0
theorem pad8_len {a : List Nat} (h : a.length ≤ 8) : (pad8 a).length = 8 := by unfold pad8; simp; omega
theorem pad8_set {a : List Nat} (h : a.length < 8) (v : Nat) : (pad8 a).set a.length v = pad8 (a ++ [v]) := by
  unfold pad8
  rw [List.set_append, if_neg (by omega), Nat.sub_self, show 8 - a.length = (8 - (a.length + 1)) + 1 by omega, List.replicate_succ]
  simp
theorem pad8_nil : gc (pad8 []) = #[.int .u16 0, .int .u16 0, .int .u16 0, .int .u16 0, .int .u16 0, .int .u16 0, .int .u16 0, .int .u16 0] := by
  unfold pad8
  simp [gc, List.replicate]

theorem gc_again {W : World} {h : Nat} {g : List Nat} (hl : Lies W h 122 (gc g)) {a b' c d e f i j : Int} (hg : gc g = #[.int .u16 a, .int .u16 b', .int .u16 c, .int .u16 d, .int .u16 e, .int .u16 f, .int .u16 i, .int .u16 j]) :
    Lies ((((((((W.setCell ⟨h, 0, none⟩ (.int .u16 a)).setCell ⟨h, 1, none⟩ (.int .u16 b')).setCell ⟨h, 2, none⟩ (.int .u16 c)).setCell ⟨h, 3, none⟩ (.int .u16 d)).setCell ⟨h, 4, none⟩ (.int .u16 e)).setCell ⟨h, 5, none⟩ (.int .u16 f)).setCell ⟨h, 6, none⟩ (.int .u16 i)).setCell ⟨h, 7, none⟩ (.int .u16 j)) h 122 (gc g) := by
  rw [hg] at hl ⊢
  have h8 := (((((((hl.set 0 (.int .u16 a)).set 1 (.int .u16 b')).set 2 (.int .u16 c)).set 3 (.int .u16 d)).set 4 (.int .u16 e)).set 5 (.int .u16 f)).set 6 (.int .u16 i)).set 7 (.int .u16 j)
  simp only [List.setIfInBounds_toArray, List.set_cons_zero, List.set_cons_succ] at h8
  exact h8
theorem below_again {B h : Nat} {w W : World} (hb : Below B w W) (hh : B ≤ h) (a b' c d e f i j : Value) :
    Below B w ((((((((W.setCell ⟨h, 0, none⟩ a).setCell ⟨h, 1, none⟩ b').setCell ⟨h, 2, none⟩ c).setCell ⟨h, 3, none⟩ d).setCell ⟨h, 4, none⟩ e).setCell ⟨h, 5, none⟩ f).setCell ⟨h, 6, none⟩ i).setCell ⟨h, 7, none⟩ j) :=
  (((((((hb.setCell (p := ⟨h, 0, none⟩) hh a).setCell (p := ⟨h, 1, none⟩) hh b').setCell (p := ⟨h, 2, none⟩) hh c).setCell (p := ⟨h, 3, none⟩) hh d).setCell (p := ⟨h, 4, none⟩) hh e).setCell (p := ⟨h, 5, none⟩) hh f).setCell (p := ⟨h, 6, none⟩) hh i).setCell (p := ⟨h, 7, none⟩) hh j

theorem results_pg {W : World} {h : Nat} {g : List Nat} (hl : Lies W h 122 (gc g)) (h8 : g.length = 8) (tmps : Array Value) (h2 : tmps[2]?.getD undef = .pointer (some ⟨h, 0, none⟩)) {v3 v4 : Value} (h3 : tmps[3]?.getD undef = v3) (h4 : tmps[4]?.getD undef = v4) :
    (results Tryz.f148 tmps).run Tryz.prog W = .ok (.tuple #[gv g, v3, v4]) W := by
  obtain ⟨a, b', c, d, e, f, i, j, hg, c0, c1, c2, c3, c4, c5, c6, c7⟩ := gc_cells hl h8
  unfold gv
  rw [hg]
  simp [results, Tryz.results148, go_sem, h2, h3, h4, c0, c1, c2, c3, c4, c5, c6, c7]

theorem err_under : Tryz.prog.underlying 100 = some (.interface (Tryz.prog.methodsAt 100)) := by kernel_rfl
theorem ne_nil (W : World) : (binOp .neq 100 .nilIface .nilIface).run Tryz.prog W = .ok (.bool false) W := run_neq_nil_nil W 100 err_under
theorem ne_err (te : TypeId) (pe : Value) (W : World) : (binOp .neq 100 (.iface te pe) .nilIface).run Tryz.prog W = .ok (.bool true) W := run_neq_held_nil W 100 te pe err_under

/-- what parseGroups gives -/
def PG (s : Str) (w : World) (e : Ending) (w' : World) : Prop :=
  Below w.heap.size w w' ∧ ((∃ a, g8 s = some a ∧ e = .returned (.tuple #[gv (pad8 a), .int .i64 ((a.length : Nat) : Int), .bool true])) ∨ (g8 s = none ∧ ∃ g : List Nat, g.length = 8 ∧ e = .returned (.tuple #[gv g, .int .i64 0, .bool false])))

theorem grp_low_nil : grp (low []) = none := by decide
theorem low_len (x : Str) : (low x).length = x.length := by simp [low]
theorem grp_long {x : Str} (h : 4 < x.length) : grp (low x) = none := by
  unfold grp
  rw [if_neg]
  rw [low_len]
  omega

set_option maxRecDepth 100000 in
set_option maxHeartbeats 1600000 in
theorem parseGroups_any (s : ByteArray) (hs : s.size ≤ 3000) (w : World) (he : Env w) : Calls Tryz.prog 148 #[.string s] w (PG s.data.toList w) := by
  obtain ⟨w0, hw0⟩ : ∃ w0, w0 = w.alloc (.cells #[.int .u16 0, .int .u16 0, .int .u16 0, .int .u16 0, .int .u16 0, .int .u16 0, .int .u16 0, .int .u16 0] 122) := ⟨_, rfl⟩
  have l0 : Lies w0 w.heap.size 122 (gc (pad8 [])) := by rw [hw0, pad8_nil]; exact Lies.new _ _ _
  have hb0 : Below w.heap.size w w0 := by rw [hw0]; exact (Below.refl _ w).alloc (Nat.le_refl _) _
  have hz0 : w0.heap.size = w.heap.size + 1 := by rw [hw0]; simp
  have he0 : Env w0 := he.below hb0
  by_cases h0 : s.size = 0
  · have hl0 := list_nil.2 h0
    have ht : s = ⟨#[]⟩ := by
      apply ByteArray.ext
      apply Array.toList_inj.1
      simpa using hl0
    subst ht
    obtain ⟨a, b', c, d, e, f, i, j, hg, c0, c1, c2, c3, c4, c5, c6, c7⟩ := gc_cells l0 (pad8_len (by simp))
    have hf := fun q => l0.frozen q
    have HL := Bx.mk (gc_again l0 hg)
    have HB := Bx.mk (below_again hb0 (Nat.le_refl _) (.int .u16 a) (.int .u16 b') (.int .u16 c) (.int .u16 d) (.int .u16 e) (.int .u16 f) (.int .u16 i) (.int .u16 j))
    clear l0 hb0 hz0 he he0 hg
    go_enter Tryz.func148, Tryz.ntmps148
    go_upto_region 2 with fail
    rw [← hw0]
    clear hw0
    go_wp2
    exact bodyPost_ret (v := .tuple #[gv (pad8 []), .int .i64 0, .bool true]) (results_pg HL.out (pad8_len (by simp)) _ rfl rfl rfl) rfl ⟨HB.out, .inl ⟨[], rfl, rfl⟩⟩
  · have hne : s.data.toList ≠ [] := fun e => h0 (list_nil.1 e)
    have hsp := splitN_any s hs 58 8 (by omega) (by omega) w0 he0
    have hf := g8_upto hne
    have hul : (upto 58 8 s.data.toList).length ≤ 8 := by rw [upto_len 58 (by omega)]; omega
    have hsz : ∀ x ∈ upto 58 8 s.data.toList, x.length ≤ 3000 := fun x hx => by have := piece_size x hx; rw [list_len] at this; omega
    generalize hL : upto 58 8 s.data.toList = L at hsp hf hsz hul
    have hemp : (s.toList == ([] : List UInt8)) = false := by
      rw [Lib.toList_data]
      exact beq_eq_false_iff_ne.2 hne
    have hemp2 : s.toList.isEmpty = false := by rw [empty_iff]; simpa using hne
    have HSP := Bx.mk hsp
    have HF := Bx.mk hf
    have HSZ := Bx.mk hsz
    have HE0 := Bx.mk he0
    have HEW := Bx.mk he
    have L0 := Bx.mk l0
    have HB0 := Bx.mk hb0
    have HZ0 := Bx.mk hz0
    obtain ⟨n, hn⟩ : ∃ n, L.length = n := ⟨_, rfl⟩
    rw [hn] at hul
    have HN := Bx.mk hn
    have h0p : 0 < s.size := by omega
    clear hsp hf hsz hL he he0 l0 hb0 hz0 hn hne h0
    go_enter Tryz.func148, Tryz.ntmps148
    go_upto_region 3 with fail
    rw [← hw0]
    clear hw0
    go_wp2_with fail
    refine HSP.out.mono ?_
    rintro e w1 ⟨g0, cap, rfl, hb1, hg1, hg2, hcap, hcell⟩
    have hl1 := L0.out.below hb1 (by rw [HZ0.out]; omega)
    have HB1 := Bx.mk (HB0.out.trans (hb1.mono HB0.out.size))
    have HE1 := Bx.mk (HE0.out.below hb1)
    have HC := Bx.mk hcell
    have HG2 := Bx.mk hg2
    have L1 := Bx.mk hl1
    have hgne : w.heap.size < g0 := by rw [HZ0.out] at hg1; omega
    have HGN := Bx.mk hgne
    rw [HN.out]
    clear hb1 hcell hg1 hg2 hcap hl1 hgne
    go_wp2_with fail
    go_loopw [16] (fun s16 wr => ∃ k : Nat, ∃ a : List Nat, k ≤ n ∧ s16 = .int .i64 (k : Int) ∧ Bx (grps ((L.take k).map low) = some a) ∧ Bx (Lies wr w.heap.size 122 (gc (pad8 a))) ∧ Bx (Below w1.heap.size w1 wr ∨ True) ∧ Bx (Below w.heap.size w wr) ∧ Bx (∀ j x, L[j]? = some x → wr.cell? ⟨g0, j, none⟩ = some (.string (S x))) ∧ Bx (Env wr) ∧ Bx (w.heap.size < wr.heap.size ∧ g0 < wr.heap.size)) (fun s16 _ => n - (intOf s16).toNat)
    case atStart => exact ⟨0, [], by omega, rfl, Bx.mk rfl, L1, Bx.mk (.inr trivial), HB1, HC, HE1, Bx.mk ⟨L1.out.lt, HG2.out⟩⟩
    case round =>
      clear HB1 HC HE1 L1
      obtain ⟨k, a, hk, rfl, HA, HL, _, HB, HC, HE, HSI⟩ := hrel
      have hal : a.length = k := by have := grps_len HA.out; rw [List.length_map, List.length_take, HN.out] at this; omega
      by_cases hlt : k < n
      · obtain ⟨x, hx⟩ : ∃ x, L[k]? = some x := ⟨_, List.getElem?_eq_getElem (by rw [HN.out]; exact hlt)⟩
        have hld := HC.out k x hx
        have hxs : (S x).size ≤ 3000 := by rw [S_size]; exact HSZ.out x (List.mem_of_getElem? hx)
        have hpu := parseUint_any (S x) (by omega) wr HE.out
        rw [S_list] at hpu
        have htk : (L.take (k + 1)).map low = (L.take k).map low ++ [low x] := by rw [List.take_add_one, hx]; simp
        have hdead : grp (low x) = none → g8 s.data.toList = none := fun hg => by
          rw [HF.out, ← List.take_append_drop (k + 1) L, List.map_append, htk]
          apply grps_dead
          rw [grps_snoc, HA.out]
          show (match grp (low x) with | none => none | some v => some (a ++ [v])) = none
          rw [hg]
        have hlive : ∀ v, grp (low x) = some v → grps ((L.take (k + 1)).map low) = some (a ++ [v]) := fun v hg => by
          rw [htk, grps_snoc, HA.out]
          show (match grp (low x) with | none => none | some v => some (a ++ [v])) = _
          rw [hg]
        obtain ⟨q0, b', c, d, e, f, i, j, hg, c0, c1, c2, c3, c4, c5, c6, c7⟩ := gc_cells HL.out (pad8_len (by omega))
        have HX := Bx.mk hx
        have HPU := Bx.mk hpu
        have HD := Bx.mk hdead
        have HLV := Bx.mk hlive
        have HGC := Bx.mk hg
        have HLD := Bx.mk hld
        have HXS := Bx.mk hxs
        clear hx hpu hdead hlive htk hg c0 c1 c2 c3 c4 c5 c6 c7
        obtain ⟨y, hy⟩ : ∃ y, y = S x := ⟨_, rfl⟩
        have hys : y.size = x.length := by rw [hy, S_size]
        have HY := Bx.mk hy
        rw [← hy] at hld hxs
        rw [← hy] at HPU
        clear hy
        go_wp2_with fail
        (with_reducible refine HPU.out.mono ?_)
        rintro e w3 ⟨v, er, rfl, hb3, hcase⟩
        have hb3' := HB.out.trans (hb3.mono HB.out.size)
        have L3 := HL.out.below hb3 HSI.out.1
        obtain ⟨q0, b', c, d, e, f, i, j, hg, c0, c1, c2, c3, c4, c5, c6, c7⟩ := gc_cells L3 (pad8_len (by omega))
        have hf := fun q => L3.frozen q
        have hld3 := cell_kept hld hb3
        rcases hcase with ⟨rfl, hok, hxne, hvb⟩ | ⟨⟨te, pe, rfl⟩, hbad⟩
        · by_cases hx4 : 4 < x.length
          · have hen := ne_nil
            have HLx := Bx.mk (gc_again L3 hg)
            have HBx := Bx.mk (below_again hb3' (Nat.le_refl _) (.int .u16 q0) (.int .u16 b') (.int .u16 c) (.int .u16 d) (.int .u16 e) (.int .u16 f) (.int .u16 i) (.int .u16 j))
            have HNO := Bx.mk (HD.out (grp_long hx4))
            clear L3 hb3' hb3 hg hok hxne hld
            go_wp2
            exact bodyPost_ret (v := .tuple #[gv (pad8 a), .int .i64 0, .bool false]) (results_pg HLx.out (pad8_len (by omega)) _ rfl rfl rfl) rfl ⟨HBx.out, .inr ⟨HNO.out, _, pad8_len (by omega), rfl⟩⟩
          · have hgx : grp (low x) = some v := by
              have h1 := pu_grp hxne (by omega)
              rw [hok] at h1
              cases hgr : grp (low x) with
              | none => rw [hgr] at h1; cases h1
              | some u =>
                rw [hgr] at h1
                injection h1 with h2
                rw [h2]
            have HLV2 := Bx.mk (HLV.out v hgx)
            have hw : IntKind.u16.wrap (v : Int) = (v : Int) := IntWalk.u16_in _ (by omega)
            have hx4n : x.length ≤ 4 := by omega
            clear hx4
            have hset := L3.set k (.int .u16 (v : Int))
            rw [gc_set, ← hal, pad8_set (by omega), hal] at hset
            obtain ⟨x0, hx0⟩ : ∃ x0, w3.cell? ⟨w.heap.size, k, none⟩ = some x0 := by rw [L3.cell k]; exact ⟨_, Array.getElem?_eq_getElem (by rw [gc_size, pad8_len (by omega)]; omega)⟩
            have HST := Bx.mk hset
            have HB4 := Bx.mk (hb3'.setCell (p := ⟨w.heap.size, k, none⟩) (Nat.le_refl _) (.int .u16 (v : Int)))
            have HC4 := Bx.mk (show ∀ j x, L[j]? = some x → (w3.setCell ⟨w.heap.size, k, none⟩ (.int .u16 (v : Int))).cell? ⟨g0, j, none⟩ = some (.string (S x)) from fun j x hx => by
              rw [World.cell?_of_block (Below.heap_setCell _ _ _ _ (by show g0 ≠ w.heap.size; have := HGN.out; omega))]
              exact cell_kept (HC.out j x hx) hb3)
            have HE4 := Bx.mk (HEW.out.below HB4.out)
            have HSI4 := Bx.mk (show w.heap.size < (w3.setCell ⟨w.heap.size, k, none⟩ (.int .u16 (v : Int))).heap.size ∧ g0 < (w3.setCell ⟨w.heap.size, k, none⟩ (.int .u16 (v : Int))).heap.size from by
              have h1 := HSI.out
              have h2 := hb3.size
              simp only [World.setCell, Array.size_modify]
              omega)
            have hf3 := L3.frozen k
            have hen := ne_nil
            clear hset hb3' hb3 hgx hok hxne hld hg hf c0 c1 c2 c3 c4 c5 c6 c7 L3
            go_wp2
            go_roundw
            case rel => exact ⟨k + 1, a ++ [v], by omega, by go_num, HLV2, HST, Bx.mk (.inr trivial), HB4, HC4, HE4, HSI4⟩
            case measure => simp [intOf]; omega
        · have HLx := Bx.mk (gc_again L3 hg)
          have HBx := Bx.mk (below_again hb3' (Nat.le_refl _) (.int .u16 q0) (.int .u16 b') (.int .u16 c) (.int .u16 d) (.int .u16 e) (.int .u16 f) (.int .u16 i) (.int .u16 j))
          have HNO := Bx.mk (HD.out (by
            by_cases hx4 : 4 < x.length
            · exact grp_long hx4
            · by_cases hx0 : x = []
              · subst hx0; exact grp_low_nil
              · rcases hbad with h | h
                · exact absurd h hx0
                · have h1 := pu_grp hx0 (by omega)
                  cases hgr : grp (low x) with
                  | none => rfl
                  | some u => rw [hgr] at h1; exact absurd h1 (h u)))
          have hen := ne_err te pe
          clear L3 hb3' hb3 hg hbad hld hld3
          go_wp2
          exact bodyPost_ret (v := .tuple #[gv (pad8 a), .int .i64 0, .bool false]) (results_pg HLx.out (pad8_len (by omega)) _ rfl rfl rfl) rfl ⟨HBx.out, .inr ⟨HNO.out, _, pad8_len (by omega), rfl⟩⟩
      · obtain rfl : k = n := by omega
        have hend : g8 s.data.toList = some a := by
          rw [HF.out]
          have := HA.out
          rwa [List.take_of_length_le (by rw [HN.out]; omega)] at this
        obtain ⟨q0, b', c, d, e, f, i, j, hg, c0, c1, c2, c3, c4, c5, c6, c7⟩ := gc_cells HL.out (pad8_len (by omega))
        have hf := fun q => HL.out.frozen q
        have HLx := Bx.mk (gc_again HL.out hg)
        have HBx := Bx.mk (below_again HB.out (Nat.le_refl _) (.int .u16 q0) (.int .u16 b') (.int .u16 c) (.int .u16 d) (.int .u16 e) (.int .u16 f) (.int .u16 i) (.int .u16 j))
        have HEND := Bx.mk hend
        have HAL := Bx.mk hal
        clear hg hend hal
        go_wp2
        exact bodyPost_ret (v := .tuple #[gv (pad8 a), .int .i64 ((a.length : Nat) : Int), .bool true]) (results_pg HLx.out (pad8_len (by rw [HAL.out]; omega)) _ rfl (by rw [HAL.out]; rfl) rfl) rfl ⟨HBx.out, .inl ⟨a, HEND.out, rfl⟩⟩
end Go.Proofs.YtghdaengkgiekaaGreatDoor.hw
