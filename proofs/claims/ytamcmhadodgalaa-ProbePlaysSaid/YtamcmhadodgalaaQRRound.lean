/-
  Given for 'Rows.ProbePlaysSaid': the contracts of the document's Round and Keys, and of Ints. No condition but those of the theorems.
-/
import Derived.Test.YtamcmhadodgalaaQRef
import Derived.Deep.CutBlock
import Derived.Deep.DeepCutAuto
namespace Go.Proofs.Ytamcmhadodgalaa.model
open Go.RowKit mem find pb pl
set_option linter.unusedVariables false

section
variable {w w' : World} {T T' S : Nat → Prop} {q : Nat} {ev : Int} {M : List (Int × Int)}

set_option maxHeartbeats 1000000 in
theorem mround_out (p : Option Addr) (w : World) (now : Int) (ho : now < 0 ∨ 1099511626775 < now) (A : Option Addr) (n c : Nat) :
    Calls Try.prog 18 #[.pointer p, .int .i64 now, .slice A n c] w fun e w' => e = .returned (.slice none 0 0) ∧ w = w' := by
  by_cases h1 : now < 0
  · clear ho
    go_enter Try.func18, Try.ntmps18
    go_wp2
    go_ret
    exact ⟨rfl, rfl⟩
  · have h2 : 1099511626775 < now := by omega
    clear ho
    go_enter Try.func18, Try.ntmps18
    go_wp2
    go_ret
    exact ⟨rfl, rfl⟩

/-- while the document's round is made -/
structure MJ (w : World) (T : Nat → Prop) (q : Nat) (ev : Int) (A : Option Addr) (n c : Nat) (M : List (Int × Int)) (D : List Int) (v : Value) (W : World) : Prop where
  hl : Lies W q 53 (mhead ev A n c)
  rows : model.RowsAt W A c M
  own : ∀ g, rowOf A = some g → T g
  mine : T q
  len : M.length = n
  due : W.ownsRow w.heap.size 3 1 v D.length (I8 D)
  keep : Keep w.heap.size T w W
theorem MJ.below {W W' : World} {A : Option Addr} {n c : Nat} {D : List Int} {v : Value} (h : MJ w T q ev A n c M D v W) (hb : Below W.heap.size W W') : MJ w T q ev A n c M D v W' :=
  ⟨h.hl.below hb h.hl.lt, model.RowsAt.keep h.rows (Keep.of_below hb (fun _ => False)) (Nat.le_refl _) (fun _ _ hf => hf), h.own, h.mine, h.len, own_below h.due hb, h.keep.trans (Keep.of_below (hb.mono h.keep.size) T)⟩
theorem MJ.turn {W : World} {A : Option Addr} {n c : Nat} {D : List Int} {v0 : Value} (h : MJ w T q ev A n c M D v0 W) (hT : ∀ g, T g → g < w.heap.size) {g k : Nat} (hA : A = some ⟨g, 0, none⟩) {x : Int × Int} (hk : M[k]? = some x) (v : Int) :
    W.frozen? ⟨g, k * 2 + 1, none⟩ = false ∧ MJ w T q ev A n c (M.set k (x.1, v)) D v0 (W.setCell ⟨g, k * 2 + 1, none⟩ (.int .i64 v)) := by
  subst hA
  have hgT := h.own g rfl
  have hgl := hT g hgT
  have hne : q ≠ g := Ne.symm (model.own_apart h.rows rfl h.hl (by decide))
  exact ⟨World.ownsRow.frozenAt h.rows _, h.hl.far (p := ⟨g, k * 2 + 1, none⟩) hne _, model.RowsAt.set h.rows hk v, h.own, h.mine, by rw [List.length_set]; exact h.len, own_far h.due _ (by show g < _; omega) _, h.keep.setCell (p := ⟨g, k * 2 + 1, none⟩) (.inr hgT) _⟩
theorem MJ.more {W : World} {A : Option Addr} {n c : Nat} {D : List Int} {v : Value} (h : MJ w T q ev A n c M D v W) (hT : ∀ g, T g → g < w.heap.size) (hD : D.length ≤ 100) (key : Int) :
    ∃ A' c' W2, (Builtin.append_ #[31, 31] 31 #[v, .slice (some ⟨W.heap.size, 0, none⟩) 1 1]).run Try.prog (W.alloc (.cells #[.int .i64 key] 3)) = .ok (.slice A' (D.length + 1) c') W2 ∧ MJ w T q ev A n c M (D ++ [key]) (.slice A' (D.length + 1) c') W2 := by
  have hb : Below W.heap.size W (W.alloc (.cells #[.int .i64 key] 3)) := (Below.refl _ W).alloc (Nat.le_refl _) _
  have hs := h.keep.size
  obtain ⟨A', c', W2, hr, ho, hg⟩ := append_int (own_below h.due hb) W.heap.size key (Lies.new W _ _) (by omega) (by simp; omega)
  have hW1 := h.below hb
  have hrow : ∀ g, v.ownBlock = some g → w.heap.size ≤ g := fun g e => (own_cell h.due e).1
  refine ⟨A', c', W2, hr, hW1.hl.grown hg (fun e => by have := hrow _ e.symm; have := hT q h.mine; omega), model.RowsAt.of_same hW1.rows (fun g e => ?_), h.own, h.mine, h.len, by simpa using ho, hW1.keep.grown hg hW1.keep.size (fun k e => .inl (hrow k e))⟩
  rw [rowOf_eq] at e
  exact hg.block g (model.own_lt hW1.rows e) (fun e' => by have := hrow g e'.symm; have := hT g (h.own g e); omega)

/-- what the document's Round leaves -/
structure MRoundPost (T : Nat → Prop) (q : Nat) (ev now : Int) (ws : List Int) (M : List (Int × Int)) (w : World) (e : Ending) (w' : World) : Prop where
  ex : ∃ A c, e = .returned (.slice A (dues now ws M).length c) ∧ w'.ownsRow w.heap.size 3 1 (.slice A (dues now ws M).length c) (dues now ws M).length (I8 (dues now ws M)) ∧
    MPn w' T q ev (pb.round now ev ws M) ∧ Keep w.heap.size T w w'

set_option maxRecDepth 100000 in
set_option maxHeartbeats 8000000 in
theorem mround_in (h : MPn w T q ev M) (hT : ∀ g, T g → g < w.heap.size) (ev1 : 1 ≤ ev) (ev2 : ev ≤ 1000) {Aw : Option Addr} {cw : Nat} {ws : List Int} (ha : RowAt w (fun g => g < w.heap.size ∧ ¬ T g) Aw (I8 ws)) (hwl : ws.length ≤ 1000)
    {now : Int} (n1 : 0 ≤ now) (n2 : now ≤ 1099511626775) :
    Calls Try.prog 18 #[.pointer (some ⟨q, 0, none⟩), .int .i64 now, .slice Aw ws.length cw] w (MRoundPost T q ev now ws M w) := by
  obtain ⟨A, c, hl, hr, hAA⟩ := h.ex
  have hlen := h.len
  obtain ⟨n, hn⟩ : ∃ n, M.length = n := ⟨_, rfl⟩
  obtain ⟨nw, hnw⟩ : ∃ nw, ws.length = nw := ⟨_, rfl⟩
  have h0 : MJ w T q ev A n c (mix now ev ws M 0) (dues now ws (M.take 0)) (.slice none 0 0) w := by
    rw [mix_zero]
    rw [hn] at hl
    exact ⟨hl, hr, hAA, h.own, hn, World.ownsRow_nil _ _ _ _, Keep.refl _ _ _⟩
  have H0 := Bx.mk h0
  have HT := Bx.mk hT
  have HW := Bx.mk ha
  have HN := Bx.mk hn
  have HNW := Bx.mk hnw
  rw [hn] at hlen
  rw [hnw] at hwl ⊢
  have x1 : ¬ now < 0 := by omega
  have x2 : ¬ 1099511626775 < now := by omega
  clear h hT ha hl hr hAA hn hnw h0
  go_enter Try.func18, Try.ntmps18
  go_wp2
  go_loopw [7, 8] (fun s7 s8 wr => ∃ (i nl : Nat) (Al : Option Addr) (cl : Nat), i ≤ n ∧ s8 = .int .i64 (i : Int) ∧ s7 = .slice Al nl cl ∧ Bx ((dues now ws (M.take i)).length = nl) ∧ Bx (MJ w T q ev A n c (mix now ev ws M i) (dues now ws (M.take i)) (.slice Al nl cl) wr)) (fun _ s8 _ => n - (intOf s8).toNat)
  case atStart => exact ⟨0, 0, none, 0, by omega, rfl, rfl, ⟨rfl⟩, H0⟩
  case round =>
    clear H0
    obtain ⟨i, nl, Al, cl, hi, rfl, rfl, hnl, hinv⟩ := hrel
    have c1 : wr.cell? ⟨q, 1, none⟩ = some (.slice A n c) := hinv.out.hl.cell 1
    have c0 : wr.cell? ⟨q, 0, none⟩ = some (.int .i64 ev) := hinv.out.hl.cell 0
    by_cases hin : i < n
    · obtain ⟨x, hx⟩ : ∃ x, M[i]? = some x := ⟨_, List.getElem?_eq_getElem (by rw [HN.out]; exact hin)⟩
      have hM : (mix now ev ws M i)[i]? = some x := mix_at hx
      obtain ⟨g, rfl, hgl, hc⟩ := model.RowsAt.cell hinv.out.rows (by rw [hinv.out.len]; omega)
      obtain ⟨d1, d2⟩ := hc _ _ hM
      have hww : RowAt wr (fun g => g < w.heap.size ∧ ¬ T g) Aw (I8 ws) := HW.out.keep fun g' hg' => hinv.out.keep.block g' hg'.1 hg'.2
      have HWW := Bx.mk hww
      have HX := Bx.mk hx
      have HMX := Bx.mk hM
      have htk := take_snocR hx
      have HTK := Bx.mk htk
      have hdl : nl ≤ 64 := by have := dues_len now ws (M.take i); rw [hnl.out, List.length_take, HN.out] at this; omega
      have hii : (i : Int) < (n : Int) := by omega
      have hi0 : (0 : Int) ≤ (i : Int) := by omega
      clear hx hM hc hww htk
      obtain ⟨key, nx⟩ := x
      dsimp only at d1 d2
      go_wp2
      go_loopw [9, 10] (fun s9 s10 W => ∃ (j : Nat) (b : Bool), j ≤ nw ∧ s10 = .int .i64 (j : Int) ∧ s9 = .bool b ∧ Bx (b = wants (ws.take j) key) ∧ Bx (Still wr W)) (fun _ s10 _ => nw - (intOf s10).toNat)
      case atStart => exact ⟨0, false, by omega, rfl, rfl, ⟨rfl⟩, ⟨Still.refl _⟩⟩
      case round =>
        obtain ⟨j, b, hj, rfl, rfl, hb, hst⟩ := hrel
        have hsb : True := trivial
        have e1 : wr.cell? ⟨q, 1, none⟩ = some (.slice (some ⟨g, 0, none⟩) n c) := (hst.out.cell _).trans c1
        have e0 : wr.cell? ⟨q, 0, none⟩ = some (.int .i64 ev) := (hst.out.cell _).trans c0
        have k1 : wr.cell? ⟨g, i * 2, none⟩ = some (.int .i64 key) := (hst.out.cell _).trans d1
        have k2 : wr.cell? ⟨g, i * 2 + 1, none⟩ = some (.int .i64 nx) := (hst.out.cell _).trans d2
        by_cases hjn : j < nw
        · obtain ⟨z, hz⟩ : ∃ z, ws[j]? = some z := ⟨_, List.getElem?_eq_getElem (by rw [HNW.out]; exact hjn)⟩
          obtain ⟨gw, off, rfl, hok, cz0⟩ := HWW.out.cell (I8_get hz)
          have cz : wr.cell? ⟨gw, off + j, none⟩ = some (.int .i64 z) := (hst.out.cell _).trans cz0
          have hjj : (j : Int) < (nw : Int) := by omega
          have hj0 : (0 : Int) ≤ (j : Int) := by omega
          have hnext : wants (ws.take (j + 1)) key = (wants (ws.take j) key || z == key) := by
            rw [List.take_add_one, hz]
            simp [wants]
          cases b with
          | true =>
            have HB2 : Bx (true = wants (ws.take (j + 1)) key) := ⟨by rw [hnext, ← hb.out]; rfl⟩
            clear hz hok cz0 hnext hb hsb
            go_wp2
            go_quiet (fail)
            go_wp2
            go_roundw
            case rel => exact ⟨j + 1, true, by omega, by go_num, rfl, HB2, ⟨hst.out.trans (Still.drewN _ _)⟩⟩
            case measure => simp [intOf]; omega
          | false =>
            have HB2 : Bx ((z == key) = wants (ws.take (j + 1)) key) := ⟨by rw [hnext, ← hb.out]; rfl⟩
            clear hz hok cz0 hnext hb hsb
            go_wp2
            go_quiet (fail)
            go_wp2
            go_roundw
            case rel => exact ⟨j + 1, z == key, by omega, by go_num, rfl, HB2, ⟨hst.out.trans (Still.drewN _ _)⟩⟩
            case measure => simp [intOf]; omega
        · obtain rfl : j = nw := by omega
          have htw : ws.take j = ws := List.take_of_length_le (by rw [HNW.out]; exact Nat.le_refl _)
          rw [htw] at hb
          have hmj := hinv.out.below (hst.out.below _)
          cases b with
          | false =>
            obtain ⟨hfz, hturn⟩ := hmj.turn HT.out rfl HMX.out 0
            have hmx : (mix now ev ws M i).set i (key, 0) = mix now ev ws M (i + 1) := by
              rw [mix_succ HX.out]
              congr 1
              simp [after, ← hb.out]
            have hds : dues now ws (M.take (i + 1)) = dues now ws (M.take i) := by
              rw [HTK.out, dues_snoc]
              simp [isDue, ← hb.out]
            rw [hmx, ← hds] at hturn
            have HL2 : Bx ((dues now ws (M.take (i + 1))).length = nl) := ⟨by rw [hds]; exact hnl.out⟩
            have HT2 := Bx.mk hturn
            clear hturn hmx hds hmj hinv hnl hb htw hsb
            go_wp2
            go_roundw
            case rel => exact ⟨i + 1, nl, Al, cl, by omega, by go_num, rfl, HL2, HT2⟩
            case measure => simp [intOf]; omega
          | true =>
            by_cases hdue : nx ≤ now
            · obtain ⟨hfz, hturn⟩ := (hmj.below (Below.refl _ _).drew).turn HT.out rfl HMX.out (now + ev)
              have hmx : (mix now ev ws M i).set i (key, now + ev) = mix now ev ws M (i + 1) := by
                rw [mix_succ HX.out]
                congr 1
                simp [after, ← hb.out, hdue]
              rw [hmx] at hturn
              change MJ w T q ev _ n c _ _ _ (wr.drew.setCell ⟨g, i * 2 + 1, none⟩ (.int .i64 (now + ev))) at hturn
              obtain ⟨WT, hWT⟩ : ∃ WT, WT = wr.drew.setCell ⟨g, i * 2 + 1, none⟩ (.int .i64 (now + ev)) := ⟨_, rfl⟩
              rw [← hWT] at hturn
              have m1 : WT.cell? ⟨q, 1, none⟩ = some (.slice (some ⟨g, 0, none⟩) n c) := hturn.hl.cell 1
              obtain ⟨g', hg', _, hc'⟩ := model.RowsAt.cell hturn.rows (by rw [hturn.len]; omega)
              cases hg'
              have m2 : WT.cell? ⟨g, i * 2, none⟩ = some (.int .i64 key) := (hc' i (after now ev ws (key, nx)) (by rw [mix_get, if_pos (by omega), HX.out]; rfl)).1.trans (by rw [after_key])
              obtain ⟨A', c', W2, happ, hmore⟩ := hturn.more HT.out (by rw [hnl.out]; omega) key
              have hds : dues now ws (M.take (i + 1)) = dues now ws (M.take i) ++ [key] := by
                rw [HTK.out, dues_snoc]
                simp [isDue, ← hb.out, hdue]
              rw [← hds] at hmore
              rw [hnl.out] at happ hmore
              have HL2 : Bx ((dues now ws (M.take (i + 1))).length = nl + 1) := ⟨by rw [hds, List.length_append, hnl.out]; rfl⟩
              have HM2 := Bx.mk hmore
              have HAPP := Bx.mk happ
              have HWT := Bx.mk hWT
              have hw : IntKind.i64.wrap (now + ev) = now + ev := IntWalk.i64_in _ (by omega)
              clear hturn hmx hds hmj hinv hnl hb htw hsb hmore happ hWT hc'
              go_wp2
              go_still_tail 11, (by kernel_rfl)
              change wpList _ _ _ _ _ wr.drew
              go_upto_region 16 with fail
              change Code.wp _ _ _ _ (wr.drew.setCell ⟨g, i * 2 + 1, none⟩ (.int .i64 (now + ev)))
              rw [← HWT.out]
              clear HWT e1 e0 k1 k2 c0 c1 d1 d2 hfz
              go_wp2_with (at_builtin; refine wpList_append_eq rfl _ _ 31 31 rfl rfl rfl rfl HAPP.out ?_)
              go_roundw
              case rel => exact ⟨i + 1, nl + 1, A', c', by omega, by go_num, rfl, HL2, HM2⟩
              case measure => simp [intOf]; omega
            · have hmx : mix now ev ws M (i + 1) = mix now ev ws M i := by
                rw [mix_succ HX.out]
                have : after now ev ws (key, nx) = (key, nx) := by simp [after, ← hb.out, hdue]
                rw [this]
                exact set_same HMX.out
              have hds : dues now ws (M.take (i + 1)) = dues now ws (M.take i) := by
                rw [HTK.out, dues_snoc]
                simp [isDue, ← hb.out, hdue]
              rw [← hmx, ← hds] at hmj
              have HL2 : Bx ((dues now ws (M.take (i + 1))).length = nl) := ⟨by rw [hds]; exact hnl.out⟩
              have HT2 := Bx.mk hmj
              clear hmx hds hmj hinv hnl hb htw hsb
              go_wp2
              go_roundw
              case rel => exact ⟨i + 1, nl, Al, cl, by omega, by go_num, rfl, HL2, HT2⟩
              case measure => simp [intOf]; omega
    · obtain rfl : i = n := by omega
      have htn : M.take i = M := List.take_of_length_le (by rw [HN.out]; exact Nat.le_refl _)
      have hmn : mix now ev ws M i = pb.round now ev ws M := by rw [← HN.out]; exact mix_all _ _ _ _
      have hfin : MRoundPost T q ev now ws M w (.returned (.slice Al nl cl)) wr := by
        have hh := hinv.out
        rw [htn, hmn] at hh
        have hnn := hnl.out
        rw [htn] at hnn
        have hln := hh.len
        refine ⟨Al, cl, by rw [hnn], ?_, ⟨⟨A, c, ?_, hh.rows, hh.own⟩, hh.mine, by rw [hln]; exact hlen⟩, hh.keep⟩
        · have := hh.due
          rw [hnn] at this ⊢
          exact this
        · rw [hln]; exact hh.hl
      have HFIN := Bx.mk hfin
      clear hfin hinv hnl
      go_wp2
      go_ret
      exact HFIN.out
end
end Go.Proofs.Ytamcmhadodgalaa.model
