/-
  Given for the seat's laws: the contract of Round over a plan that New made. No condition but those of the theorem.
-/
import Derived.Test.YtpidjekabnnmcaaQRow
import Derived.Scope
import Derived.WalkMore
namespace Go.Proofs.Ytpidjekabnnmcaa.pl
open Go.RowKit Go.Shelf mem find pb reg
set_option linter.unusedVariables false
attribute [local go_sem] Oper.semAt_some

/-- what Round leaves: the keys that are due, in a row of the call's own; the plan, turned -/
structure RoundPost (S : Nat → Prop) (r : Nat) (ev now : Int) (ws : List Int) (R : List (Int × Int)) (w : World) (e : Ending) (w' : World) : Prop where
  ex : ∃ A c, e = .returned (.slice A (dues now ws R).length c) ∧ w'.ownsRow w.heap.size 3 1 (.slice A (dues now ws R).length c) (dues now ws R).length (I8 (dues now ws R)) ∧
    Pn w' S r ev (pb.round now ev ws R) ∧ Keep w.heap.size S w w'

set_option maxRecDepth 100000 in
set_option maxHeartbeats 8000000 in
theorem round_in {w : World} {S : Nat → Prop} {r : Nat} {ev : Int} {R : List (Int × Int)} (h : Pn w S r ev R) (hS : ∀ g, S g → g < w.heap.size) {Aw : Option Addr} {cw : Nat} {ws : List Int} (ha : RowAt w (fun g => g < w.heap.size ∧ ¬ S g) Aw (I8 ws)) (hwl : ws.length ≤ 1000)
    {now : Int} (n1 : 0 ≤ now) (n2 : now ≤ 1099511626775) :
    CallsIn Fence.wide 3 Try.prog 30 #[.pointer (some ⟨r, 0, none⟩), .int .i64 now, .slice Aw ws.length cw] w (RoundPost S r ev now ws R w) := by
  have hlen := h.len
  have HEV := Bx.mk h.lo
  have HEV2 := Bx.mk h.hi
  have hA : ∃ g A c, w.cell? ⟨r, 2, none⟩ = some (.slice A R.length c) ∧ (0 < R.length → A = some ⟨g, 0, none⟩) := by
    obtain ⟨A, c, h1, h2, h3⟩ := h.ex
    by_cases hp : 0 < R.length
    · obtain ⟨g, a1, a2, a3⟩ := RowsAt.cell h2 hp
      exact ⟨g, A, c, h1.cell 2, fun _ => a1⟩
    · exact ⟨0, A, c, h1.cell 2, fun hq => absurd hq hp⟩
  obtain ⟨g, A, c, hhd, hA⟩ := hA
  have HHD := Bx.mk hhd
  have HA := Bx.mk hA
  have H := Bx.mk h
  have HS := Bx.mk hS
  have HW := Bx.mk ha
  have b3 : Below w.heap.size w (((w.alloc (.cells #[.pointer (some ⟨r, 0, none⟩)] 33)).alloc (.cells #[.int .i64 now] 3)).alloc (.cells #[.slice Aw ws.length cw] 47)) :=
    (((Below.refl _ w).alloc (Nat.le_refl _) _).alloc (by simp) _).alloc (by simp; omega) _
  have HM := Bx.mk (made_yes (h.below b3))
  obtain ⟨nw, hnw⟩ : ∃ nw, ws.length = nw := ⟨_, rfl⟩
  obtain ⟨n, hn⟩ : ∃ n, R.length = n := ⟨_, rfl⟩
  have HNW := Bx.mk hnw
  have HN := Bx.mk hn
  rw [hnw] at hwl HM ⊢
  rw [hn] at hlen HHD HA
  clear h hS ha hhd hA hn hnw b3
  refine callsIn_of_wp_marks Try.func30 rfl trivial ?_ rfl
  simp only [Try.ntmps30, List.size_toArray, List.length_cons, List.length_nil, Nat.reduceAdd, Nat.reduceSub, Array.replicate_succ, Array.replicate_zero, List.push_toArray, List.append_toArray, List.nil_append, List.cons_append]
  gi_wp2_with fail
  refine (wpIn_wide (n := 3)).2 (wp_scope_straight ((wpIn_wide (n := 3)).1 ?_))
  gi_wp2_with fail
  refine ⟨trivial, (callsIn_wide.2 HM.out).mono ?_⟩
  rintro e w' ⟨rfl, rfl⟩
  gi_wp2_with fail
  refine ⟨trivial, (callsIn_wide.2 (tick_yes now _ n1 n2)).mono ?_⟩
  rintro e w' ⟨rfl, rfl⟩
  clear HM
  gi_wp2_with fail
  refine wpIn_label ?_
  gi_wp2_with fail
  refine ⟨trivial, (callsIn_wide.2 (keys_fn _ _)).mono ?_⟩
  rintro e w3 ⟨rfl, hw3⟩
  have h0 : RJ w S r ev now A n c Aw nw cw (mix now ev ws R 0) (dues now ws (R.take 0)) w3 := by
    have hbel : Below w.heap.size w w3 := by
      rw [hw3]
      exact (((((Below.refl _ w).alloc (Nat.le_refl _) _).alloc (by simp) _).alloc (by simp; omega) _).alloc (by simp; omega) _).alloc (by simp; omega) _
    rw [mix_zero]
    refine ⟨H.out.below hbel, (hbel.cell (p := ⟨r, 2, none⟩) H.out.lt).trans HHD.out, ?_, ?_, ?_, ⟨.slice none 0 0, ?_, World.ownsRow_nil _ _ _ _⟩, ?_, Keep.of_below hbel S⟩
    all_goals rw [hw3]
    · exact ((((Lies.new w _ _).alloc _).alloc _).alloc _).alloc _
    · have := Lies.new (w.alloc (.cells #[.pointer (some ⟨r, 0, none⟩)] 33)) 3 #[.int .i64 now]
      rw [World.size_alloc] at this
      exact ((this.alloc _).alloc _).alloc _
    · have := Lies.new ((w.alloc (.cells #[.pointer (some ⟨r, 0, none⟩)] 33)).alloc (.cells #[.int .i64 now] 3)) 47 #[.slice Aw nw cw]
      rw [World.size_alloc, World.size_alloc] at this
      exact (this.alloc _).alloc _
    · have := Lies.new (((w.alloc (.cells #[.pointer (some ⟨r, 0, none⟩)] 33)).alloc (.cells #[.int .i64 now] 3)).alloc (.cells #[.slice Aw nw cw] 47)) 47 #[.slice none 0 0]
      rw [World.size_alloc, World.size_alloc, World.size_alloc] at this
      exact this.alloc _
    · have := Lies.new ((((w.alloc (.cells #[.pointer (some ⟨r, 0, none⟩)] 33)).alloc (.cells #[.int .i64 now] 3)).alloc (.cells #[.slice Aw nw cw] 47)).alloc (.cells #[.slice none 0 0] 47)) 33 #[.pointer (some ⟨r, 0, none⟩)]
      rw [World.size_alloc, World.size_alloc, World.size_alloc, World.size_alloc] at this
      exact this
  have hz3 : w.heap.size + 5 ≤ w3.heap.size := by have := h0.bo.lt; omega
  have hzz : w.heap.size ≤ w3.heap.size := by omega
  have H0 := Bx.mk h0
  clear h0 hw3
  gi_wp2_with fail
  refine wpIn_range_w rfl (by omega) (gf := 67) (lb := #[.pointer (some ⟨w.heap.size + 1 + 1 + 1 + 1, 0, none⟩)]) rfl trivial (enters_of Try.func67 (by kernel_rfl) rfl)
    (keys1_seq Fence.wide 2 trivial rfl (by omega) w3.heap.size (w.heap.size + 1 + 1 + 1 + 1) r A n c g hlen HA.out (R.map (·.1)) (fun k W => RJ w S r ev now A n c Aw nw cw (mix now ev ws R k) (dues now ws (R.take k)) W)
      (fun k W => RJ w S r ev now A n c Aw nw cw (mix now ev ws R k) (dues now ws (R.take k)) W ∧ k < n) (fun _ => False) (fun W => RJ w S r ev now A n c Aw nw cw (mix now ev ws R n) (dues now ws (R.take n)) W) ?head ?row (fun _ h => h))
    (fun _ => rfl) ?c1 ?c2 ?c3 ?c4 ?start
    (fun k => { tmps := #[.pointer (some ⟨r, 0, none⟩), .int .i64 now, .slice Aw nw cw, .pointer (some ⟨w.heap.size, 0, none⟩), .pointer (some ⟨w.heap.size + 1, 0, none⟩), .pointer (some ⟨w.heap.size + 1 + 1, 0, none⟩), .slice none 0 0, .pointer (some ⟨w.heap.size + 1 + 1 + 1, 0, none⟩),
      .int .i64 (k : Int), .int .i64 (kat (R.map (·.1)) k), undef, undef, .pointer (some ⟨r, 0, none⟩), .bool true, .bool false, .bool false, .int .i64 now, .bool true, .bool false, .bool false, .pointer (some ⟨r, 0, none⟩),
      .func (.func 67) #[] #[.pointer (some ⟨w.heap.size + 1 + 1 + 1 + 1, 0, none⟩)], .int .i64 (k : Int), .int .i64 (kat (R.map (·.1)) k), undef, undef, undef, undef, undef, undef, undef, undef, undef, undef, undef, undef, undef, undef, undef, undef, undef, undef, undef, undef, undef, undef, undef, undef, undef, undef, undef, undef, undef, undef, undef, undef, undef, undef], defers := [] }) ?assign ?body ?done ?stop
  case head =>
    intro W hi
    exact ⟨hi.bo.cell 0, hi.hd⟩
  case row =>
    intro k W hi hk
    obtain ⟨x, hx⟩ : ∃ x, R[k]? = some x := ⟨_, List.getElem?_eq_getElem (by rw [HN.out]; exact hk)⟩
    obtain ⟨q1, q2, q3, q4⟩ := hi.rows
    obtain ⟨g', e', _, hc⟩ := RowsAt.cell q2 (by omega)
    rw [HA.out (by omega)] at e'
    cases e'
    obtain ⟨d1, d2⟩ := hc k x (mix_at hx)
    rw [kat_get hx]
    exact ⟨x.2, d1, d2, hi.below ((Below.refl _ W).alloc (Nat.le_refl _) _), hk⟩
  case c1 => exact fun k X Y row hi hg hr => hi.own hzz hg hr
  case c2 => exact fun k X Y row hi hg hr => ⟨hi.1.own hzz hg hr, hi.2⟩
  case c3 => exact fun k X Y row hi hg hr => hi
  case c4 => exact fun k X Y row hi hg hr => hi.own hzz hg hr
  case start => exact H0.out
  case assign =>
    intro l k W K hK
    gi_wp2
    exact hK
  case body =>
    clear H0 H HHD
    rintro l k W ⟨hi, hk⟩
    obtain ⟨x, hx⟩ : ∃ x, R[k]? = some x := ⟨_, List.getElem?_eq_getElem (by rw [HN.out]; exact hk)⟩
    rw [kat_get hx]
    obtain ⟨q1, q2, q3, q4⟩ := hi.rows
    obtain rfl := HA.out (by omega)
    have hM : (mix now ev ws R k)[k]? = some x := mix_at hx
    obtain ⟨g', e', hgl, hc⟩ := RowsAt.cell q2 (by omega)
    cases e'
    obtain ⟨d1, d2⟩ := hc k _ hM
    have c3 := hi.b3.cell 0
    have c4 := hi.b4.cell 0
    have c5 := hi.b5.cell 0
    have cr := hi.hd
    have ce := q1.cell 1
    have hgS := q3 g rfl
    have hgb := HS.out g hgS
    have hrb := HS.out r hi.pn.own
    have hww : RowAt W (fun g => g < w.heap.size ∧ ¬ S g) Aw (I8 ws) := HW.out.keep fun g' hg' => hi.keep.block g' hg'.1 hg'.2
    simp at c3 c4 c5 ce
    have HI := Bx.mk hi
    have HX := Bx.mk hx
    have HMX := Bx.mk hM
    have HWW := Bx.mk hww
    have htk := take_snocR hx
    have hdl : (dues now ws (R.take k)).length ≤ 64 := by have := dues_len now ws (R.take k); rw [List.length_take, HN.out] at this; omega
    have HTK := Bx.mk htk
    have HDL := Bx.mk hdl
    clear hi hx hM hww hc q1 q2 q3 q4 htk hdl
    obtain ⟨key, nx⟩ := x
    dsimp only at d1 d2 ⊢
    have hev1 := HEV.out
    have hev2 := HEV2.out
    have hkk : (k : Int) < (n : Int) := by omega
    have hk0 : (0 : Int) ≤ (k : Int) := by omega
    have hnext : ∀ (D' : List Int) (W' : World), W' = W → False → True := fun _ _ _ _ => trivial
    clear hnext
    gi_wp2_with fail
    gi_loopw [26] (fun s wr => ∃ i : Nat, i ≤ nw ∧ s = .int .i64 (i : Int) ∧ wr = W ∧ Bx (∀ (j : Nat) (z : Int), j < i → ws[j]? = some z → z ≠ key)) (fun s _ => nw - (intOf s).toNat)
    case atStart => exact ⟨0, by omega, rfl, rfl, ⟨fun j z hj => absurd hj (by omega)⟩⟩
    case round =>
      obtain ⟨i, hil, rfl, rfl, hno⟩ := hrel
      by_cases hlt : i < nw
      · obtain ⟨z, hz⟩ : ∃ z, ws[i]? = some z := ⟨_, List.getElem?_eq_getElem (by rw [HNW.out]; exact hlt)⟩
        obtain ⟨gw, off, rfl, hok, cz⟩ := HWW.out.cell (I8_get hz)
        have hii : (i : Int) < (nw : Int) := by omega
        have hi0 : (0 : Int) ≤ (i : Int) := by omega
        by_cases hzk : z = key
        · subst hzk
          have hwant : wants ws z = true := wants_yes hz
          have HWANT := Bx.mk hwant
          clear hz hwant hno
          by_cases hdue : nx ≤ now
          · have hd2 : wr.drew.cell? ⟨g, k * 2 + 1, none⟩ = some (.int .i64 nx) := d2
            obtain ⟨hfz, hturn⟩ := (HI.out.below (Below.refl _ _).drew).turn HS.out rfl HMX.out (now + ev)
            have HAS := Bx.mk (asked_yes hd2 hfz hdue n1 n2 hev1 hev2)
            obtain ⟨WT, hWT⟩ : ∃ WT, WT = wr.drew.setCell ⟨g, k * 2 + 1, none⟩ (.int .i64 (now + ev)) := ⟨_, rfl⟩
            have hmx : (mix now ev ws R k).set k (z, now + ev) = mix now ev ws R (k + 1) := by
              rw [mix_succ HX.out]
              congr 1
              simp [after, HWANT.out, hdue]
            rw [hmx] at hturn
            change RJ w S r ev now (some ⟨g, 0, none⟩) n c (some ⟨gw, off, none⟩) nw cw _ _ (wr.drew.setCell ⟨g, k * 2 + 1, none⟩ (.int .i64 (now + ev))) at hturn
            have hk1 : KeepsOthers wr WT := by rw [hWT]; exact (KeepsOthers.drew wr).trans (KeepsOthers.setCell _ _ _)
            rw [← hWT] at hturn
            obtain ⟨v, A', c', W2, m1, happ, m2, m3, hmore, hko⟩ := hturn.more HS.out HDL.out z
            have hds : dues now ws (R.take (k + 1)) = dues now ws (R.take k) ++ [z] := by
              rw [HTK.out, dues_snoc]
              simp [isDue, HWANT.out, hdue]
            rw [← hds] at hmore
            have hfin : KeepsFrom w3.heap.size wr (W2.setCell ⟨w.heap.size + 1 + 1 + 1, 0, none⟩ (.slice A' ((dues now ws (R.take k)).length + 1) c')) ∧ RJ w S r ev now (some ⟨g, 0, none⟩) n c (some ⟨gw, off, none⟩) nw cw (mix now ev ws R (k + 1)) (dues now ws (R.take (k + 1))) (W2.setCell ⟨w.heap.size + 1 + 1 + 1, 0, none⟩ (.slice A' ((dues now ws (R.take k)).length + 1) c')) :=
              ⟨(hk1.trans hko).from _, hmore⟩
            have HFIN := Bx.mk hfin
            have HAPP := Bx.mk happ
            have HWT := Bx.mk hWT
            clear hturn hmore hko happ hmx hds hfin HWANT hk1 hWT
            generalize (dues now ws (R.take k)).length = dn at *
            gi_wp2_with fail
            refine wpIn_region_last 11 (by kernel_rfl) (by kernel_rfl) rfl rfl rfl (by decide +kernel) ?_
            simp only [List.take_succ_cons, List.take_zero]
            repeat still_step
            refine wpStill_nil ?_
            go_simp
            refine ⟨trivial, (CallsIn.inRound l (callsIn_wide.2 HAS.out)).mono ?_⟩
            rintro e w' ⟨rfl, hw'⟩
            have hw2 : w' = WT := hw'.trans HWT.out.symm
            clear HWT hw' HAS hd2 hfz
            subst hw2
            gi_wp2_with (gi_at_builtin; refine wpListIn_append_eq rfl _ _ 47 47 rfl rfl rfl rfl HAPP.out ?_)
            exact HFIN.out
          · have hd2 : wr.drew.cell? ⟨g, k * 2 + 1, none⟩ = some (.int .i64 nx) := d2
            have HAS := Bx.mk (asked_no (ev := ev) hd2 (show now < nx by omega))
            have hmx : mix now ev ws R (k + 1) = mix now ev ws R k := by
              rw [mix_succ HX.out]
              have : after now ev ws (z, nx) = (z, nx) := by simp [after, HWANT.out, hdue]
              rw [this]
              exact set_same HMX.out
            have hds : dues now ws (R.take (k + 1)) = dues now ws (R.take k) := by
              rw [HTK.out, dues_snoc]
              simp [isDue, HWANT.out, hdue]
            have hfin : KeepsFrom w3.heap.size wr wr.drew ∧ RJ w S r ev now (some ⟨g, 0, none⟩) n c (some ⟨gw, off, none⟩) nw cw (mix now ev ws R (k + 1)) (dues now ws (R.take (k + 1))) wr.drew :=
              ⟨(KeepsOthers.drew wr).from _, by rw [hmx, hds]; exact HI.out.below (Below.refl _ _).drew⟩
            have HFIN := Bx.mk hfin
            clear hmx hds hfin HWANT
            gi_wp2_with fail
            refine wpIn_region_last 11 (by kernel_rfl) (by kernel_rfl) rfl rfl rfl (by decide +kernel) ?_
            simp only [List.take_succ_cons, List.take_zero]
            repeat still_step
            refine wpStill_nil ?_
            go_simp
            refine ⟨trivial, (CallsIn.inRound l (callsIn_wide.2 HAS.out)).mono ?_⟩
            rintro e w' ⟨rfl, hw'⟩
            have HW2 : Bx (wr.drew = w') := ⟨hw'⟩
            clear hw' HAS hd2
            gi_wp2_with fail
            rw [← HW2.out]
            exact HFIN.out
        · have hno2 : Bx (∀ (j : Nat) (z : Int), j < i + 1 → ws[j]? = some z → z ≠ key) := ⟨fun j y hj hy => by
            by_cases e : j = i
            · subst e; rw [hz] at hy; cases hy; exact hzk
            · exact hno.out j y (by omega) hy⟩
          have hzk2 : (z == key) = false := by simpa using hzk
          have hzk3 : (z != key) = true := by simpa using hzk
          clear hno hz
          gi_wp2_with fail
          go_roundw
          case rel => exact ⟨i + 1, by omega, by go_num, by first | rfl | trivial, hno2⟩
          case measure => (simp [intOf]) <;> omega
      · obtain rfl : i = nw := by omega
        have hwant : wants ws key = false := wants_no fun j z hz => hno.out j z (by have := (List.getElem?_eq_some_iff.1 hz).1; rw [HNW.out] at this; exact this) hz
        obtain ⟨hfz, hturn⟩ := HI.out.turn HS.out rfl HMX.out 0
        have hmx : (mix now ev ws R k).set k (key, 0) = mix now ev ws R (k + 1) := by
          rw [mix_succ HX.out]
          congr 1
          simp [after, hwant]
        have hds : dues now ws (R.take (k + 1)) = dues now ws (R.take k) := by
          rw [HTK.out, dues_snoc]
          simp [isDue, hwant]
        rw [hmx, ← hds] at hturn
        have hfin : KeepsFrom w3.heap.size wr (wr.setCell ⟨g, k * 2 + 1, none⟩ (.int .i64 0)) ∧ RJ w S r ev now (some ⟨g, 0, none⟩) n c Aw i cw (mix now ev ws R (k + 1)) (dues now ws (R.take (k + 1))) (wr.setCell ⟨g, k * 2 + 1, none⟩ (.int .i64 0)) :=
          ⟨(KeepsOthers.setCell _ _ _).from _, hturn⟩
        have HFIN := Bx.mk hfin
        clear hturn hmx hds hfin hno hwant
        gi_wp2_with fail
        exact HFIN.out
  case done =>
    rintro D W hD hi hK
    obtain ⟨v, h1, h2⟩ := hi.due
    obtain ⟨A', c', rfl⟩ := own_form h2
    have hc := h1.cell 0
    simp at hc
    have htn : R.take n = R := List.take_of_length_le (by rw [HN.out]; exact Nat.le_refl _)
    have hmn : mix now ev ws R n = pb.round now ev ws R := by rw [← HN.out]; exact mix_all _ _ _ _
    have hrow : ∀ q, some D = some q → w3.heap.size ≤ q ∧ ∃ o : Obj, W.heap[q]? = some o ∧ o.isCells = false := fun q e => by cases e; exact ⟨hD, _, hK, rfl⟩
    have hfin : RoundPost S r ev now ws R w (.returned (.slice A' (dues now ws (R.take n)).length c')) (W.putObj D (.deferred none)) := by
      have hi2 := hi.own hzz (grownBy_putObj' W D (.deferred none)) hrow
      have h3 := row_own h2 (grownBy_putObj' W D (.deferred none)) hrow
      rw [htn] at h3 ⊢
      have hp := hi2.pn
      rw [hmn] at hp
      exact ⟨A', c', rfl, own_base h3 (by omega), hp, hi2.keep⟩
    have HFIN := Bx.mk hfin
    have HK := Bx.mk hK
    clear hfin h1 h2 hi hK hrow htn hmn
    generalize (dues now ws (R.take n)).length = dn at *
    gi_wp2
    refine ⟨by simp, .inl ⟨_, _, rfl, run_takeDeferred HK.out, ?_⟩⟩
    refine ⟨_, results_tmp rfl _ _ _, ?_⟩
    exact HFIN.out
  case stop => exact fun D W hD hx hK => hx.elim
end Go.Proofs.Ytpidjekabnnmcaa.pl
