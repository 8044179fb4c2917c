/-
  Given for the seat's laws: the contract of Round over any plan that New made, and of Keys. No condition but those of the theorems.
-/
import Derived.Test.YtamcmhadodgalaaQRound
namespace Go.Proofs.Ytamcmhadodgalaa.pl
open Go.RowKit Go.Shelf mem find pb reg
set_option linter.unusedVariables false
attribute [local go_sem] Oper.semAt_some

/-- **Round**, at a tick that may be -/
theorem round_any {w : World} {S : Nat → Prop} {r : Nat} {ev : Int} {R : List (Int × Int)} (h : Pn w S r ev R) {Aw : Option Addr} {cw : Nat} {ws : List Int} (ha : RowAt w (fun g => g < w.heap.size ∧ ¬ S g) Aw (I8 ws)) (hwl : ws.length ≤ 1000)
    {now : Int} (n1 : 0 ≤ now) (n2 : now ≤ 1099511626775) :
    Calls Try.prog 16 #[.pointer (some ⟨r, 0, none⟩), .int .i64 now, .slice Aw ws.length cw] w (RoundPost S r ev now ws R w) := by
  refine (callsIn_wide.1 (round_in (S := fun g => S g ∧ g < w.heap.size) h.bounded (fun g hg => hg.2) (ha.weak fun g hg => ⟨hg.1, fun hs => hg.2 hs.1⟩) hwl n1 n2)).mono ?_
  rintro e w' ⟨A, c, rfl, h2, h3, h4⟩
  exact ⟨A, c, rfl, h2, h3.mono (fun g e => e.1), h4.mono (Nat.le_refl _) (fun g _ e => e.1)⟩

set_option maxHeartbeats 1000000 in
theorem round_out {w : World} {S : Nat → Prop} {r : Nat} {ev : Int} {R : List (Int × Int)} (h : Pn w S r ev R) (now : Int) (ho : now < 0 ∨ 1099511626775 < now) (A : Option Addr) (n c : Nat) :
    Calls Try.prog 16 #[.pointer (some ⟨r, 0, none⟩), .int .i64 now, .slice A n c] w fun e w' => e = .returned (.slice none 0 0) ∧ Below w.heap.size w w' := by
  have b4 : Below w.heap.size w (((w.alloc (.cells #[.pointer (some ⟨r, 0, none⟩)] 24)).alloc (.cells #[.int .i64 now] 3)).alloc (.cells #[.slice A n c] 31)) :=
    (((Below.refl _ w).alloc (Nat.le_refl _) _).alloc (by simp) _).alloc (by simp; omega) _
  have HM := Bx.mk (made_yes (h.below b4))
  have HB := Bx.mk b4
  have HO := Bx.mk ho
  clear h b4 ho
  go_enter Try.func16, Try.ntmps16
  go_wp2_with fail
  go_step3
  go_wp2_with (first
    | (go_at_call 24; refine HM.out.mono ?_; rintro e w' ⟨rfl, rfl⟩)
    | (go_at_call 30; refine (tick_no _ _ HO.out).mono ?_; rintro e w' ⟨rfl, rfl⟩))
  try rw [Exit.noGoto_ret]
  go_ret
  exact ⟨rfl, HB.out⟩

/-- while Keys collects -/
structure KJ (w : World) (S : Nat → Prop) (r : Nat) (ev : Int) (R : List (Int × Int)) (D : List Int) (W : World) : Prop where
  below : Below w.heap.size w W
  due : ∃ v, Lies W w.heap.size 31 #[v] ∧ W.ownsRow (w.heap.size + 2) 3 1 v D.length (I8 D)
  bo : Lies W (w.heap.size + 1) 24 #[.pointer (some ⟨r, 0, none⟩)]

theorem KJ.own {w W W' : World} {S : Nat → Prop} {r B : Nat} {ev : Int} {R : List (Int × Int)} {D : List Int} {row : Option Nat} (h : KJ w S r ev R D W) (hB : w.heap.size ≤ B) (hg : W.grownBy W' row) (hr : ∀ r, row = some r → B ≤ r ∧ ∃ o : Obj, W.heap[r]? = some o ∧ o.isCells = false) : KJ w S r ev R D W' := by
  obtain ⟨v, h1, h2⟩ := h.due
  exact ⟨below_own h.below hB hg hr, ⟨v, lies_own h1 hg hr, row_own h2 hg hr⟩, lies_own h.bo hg hr⟩

theorem KJ.more {w W : World} {S : Nat → Prop} {r : Nat} {ev : Int} {R : List (Int × Int)} {D : List Int} (h : KJ w S r ev R D W) (hD : D.length ≤ 64) (key : Int) :
    ∃ (v : Value) (A' : Option Addr) (c' : Nat) (W2 : World), W.cell? ⟨w.heap.size, 0, none⟩ = some v ∧ (Builtin.append_ #[31, 31] 31 #[v, .slice (some ⟨W.heap.size, 0, none⟩) 1 1]).run Try.prog (W.alloc (.cells #[.int .i64 key] 3)) = .ok (.slice A' (D.length + 1) c') W2 ∧
      W2.cell? ⟨w.heap.size, 0, none⟩ = some v ∧ W2.frozen? ⟨w.heap.size, 0, none⟩ = false ∧ KJ w S r ev R (D ++ [key]) (W2.setCell ⟨w.heap.size, 0, none⟩ (.slice A' (D.length + 1) c')) ∧
      KeepsOthers W (W2.setCell ⟨w.heap.size, 0, none⟩ (.slice A' (D.length + 1) c')) := by
  obtain ⟨v, h1, h2⟩ := h.due
  have hbo := h.bo.lt
  have hb : Below W.heap.size W (W.alloc (.cells #[.int .i64 key] 3)) := (Below.refl _ W).alloc (Nat.le_refl _) _
  obtain ⟨A', c', W2, hr, ho, hg⟩ := append_int (own_below h2 hb) W.heap.size key (Lies.new W _ _) (by omega) (by simp; omega)
  have hrow : ∀ g, v.ownBlock = some g → w.heap.size + 2 ≤ g := fun g e => (own_cell h2 e).1
  have lk : ∀ {g : Nat} {t : TypeId} {cs : Array Value}, Lies (W.alloc (.cells #[.int .i64 key] 3)) g t cs → g < w.heap.size + 2 → Lies W2 g t cs := fun hl hlt => hl.grown hg (fun e => by have := hrow _ e.symm; omega)
  have g1' := lk (h1.alloc _) (by omega)
  have hbel : Below w.heap.size w W2 := (h.below.alloc h.below.size _).grown hg (by simp; omega) (fun k e => by have := hrow k e; omega)
  refine ⟨v, A', c', W2, h1.cell 0, hr, g1'.cell 0, g1'.frozen 0, ⟨hbel.setCell (p := ⟨w.heap.size, 0, none⟩) (Nat.le_refl _) _, ⟨_, g1'.set 0 _, ?_⟩, (lk (h.bo.alloc _) (by omega)).far (p := ⟨w.heap.size, 0, none⟩) (by show w.heap.size + 1 ≠ w.heap.size; omega) _⟩, ?_⟩
  · have := own_far ho ⟨w.heap.size, 0, none⟩ (by show w.heap.size < _; omega) (.slice A' (D.length + 1) c')
    simpa using this
  · refine ((KeepsOthers.alloc W _).trans (KeepsOthers.of_grownBy hg fun j o ej hj => ?_)).trans (KeepsOthers.setCell _ _ _)
    obtain ⟨_, cur, hc⟩ := own_cell (own_below h2 hb) ej
    rw [hc] at hj
    cases hj
    rfl

/-- what Keys leaves: the keys, in a row of the call's own -/
structure KeysPost (xs : List Int) (w : World) (e : Ending) (w' : World) : Prop where
  ex : ∃ A c, e = .returned (.slice A xs.length c) ∧ w'.ownsRow w.heap.size 3 1 (.slice A xs.length c) xs.length (I8 xs) ∧ Below w.heap.size w w'

set_option maxRecDepth 100000 in
set_option maxHeartbeats 4000000 in
theorem keys_in {w : World} {S : Nat → Prop} {r : Nat} {ev : Int} {R : List (Int × Int)} (h : Pn w S r ev R) :
    CallsIn Fence.wide 3 Try.prog 19 #[.pointer (some ⟨r, 0, none⟩)] w (KeysPost (R.map (·.1)) w) := by
  have hlen := h.len
  have hrl := h.lt
  have HM := Bx.mk (made_yes h)
  have hA : ∃ g A c, w.cell? ⟨r, 2, none⟩ = some (.slice A R.length c) ∧ (0 < R.length → A = some ⟨g, 0, none⟩) ∧ (0 < R.length → g < w.heap.size) ∧ ∀ (i : Nat) (x : Int × Int), R[i]? = some x → w.cell? ⟨g, i * 2, none⟩ = some (.int .i64 x.1) ∧ w.cell? ⟨g, i * 2 + 1, none⟩ = some (.int .i64 x.2) := by
    obtain ⟨A, c, h1, h2, h3⟩ := h.ex
    by_cases hp : 0 < R.length
    · obtain ⟨g, a1, a2, a3⟩ := RowsAt.cell h2 hp
      exact ⟨g, A, c, h1.cell 2, fun _ => a1, fun _ => a2, a3⟩
    · exact ⟨0, A, c, h1.cell 2, fun hq => absurd hq hp, fun hq => absurd hq hp, fun i x hx => absurd (List.getElem?_eq_some_iff.1 hx).1 (by omega)⟩
  obtain ⟨g, A, c, hhd, hA, hgl, hcell⟩ := hA
  have HHD := Bx.mk hhd
  have HA := Bx.mk hA
  have HG := Bx.mk hgl
  have HC := Bx.mk hcell
  obtain ⟨n, hn⟩ : ∃ n, R.length = n := ⟨_, rfl⟩
  have HN := Bx.mk hn
  rw [hn] at hlen HHD HA HG
  clear h hhd hA hgl hcell hn
  refine callsIn_of_wp_marks Try.func19 rfl trivial ?_ rfl
  simp only [Try.ntmps19, List.size_toArray, List.length_cons, List.length_nil, Nat.reduceAdd, Nat.reduceSub, Array.replicate_succ, Array.replicate_zero, List.push_toArray, List.append_toArray, List.nil_append, List.cons_append]
  gi_wp2_with (refine ⟨trivial, ?_⟩; gi_at_call 24; refine (callsIn_wide.2 HM.out).mono ?_; rintro e w' ⟨rfl, rfl⟩)
  refine ⟨trivial, (callsIn_wide.2 (keys_fn _ _)).mono ?_⟩
  rintro e w3 ⟨rfl, hw3⟩
  have h0 : KJ w S r ev R ((R.map (·.1)).take 0) w3 := by
    have hbel : Below w.heap.size w w3 := by
      rw [hw3]
      exact ((Below.refl _ w).alloc (Nat.le_refl _) _).alloc (by simp) _
    refine ⟨hbel, ⟨.slice none 0 0, ?_, World.ownsRow_nil _ _ _ _⟩, ?_⟩
    all_goals rw [hw3]
    · exact (Lies.new w _ _).alloc _
    · have := Lies.new (w.alloc (.cells #[.slice none 0 0] 31)) 24 #[.pointer (some ⟨r, 0, none⟩)]
      rw [World.size_alloc] at this
      exact this
  have hzz : w.heap.size ≤ w3.heap.size := h0.below.size
  have H0 := Bx.mk h0
  clear h0 hw3 HM
  gi_wp2_with fail
  refine wpIn_range_w rfl (by omega) (gf := 35) (lb := #[.pointer (some ⟨w.heap.size + 1, 0, none⟩)]) rfl trivial (enters_of Try.func35 (by kernel_rfl) rfl)
    (keys1_seq Fence.wide 2 trivial rfl (by omega) w3.heap.size (w.heap.size + 1) r A n c g hlen HA.out (R.map (·.1)) (fun k W => KJ w S r ev R ((R.map (·.1)).take k) W)
      (fun k W => KJ w S r ev R ((R.map (·.1)).take k) W ∧ k < n) (fun _ => False) (fun W => KJ w S r ev R ((R.map (·.1)).take n) W) ?head ?row (fun _ h => h))
    (fun _ => rfl) ?c1 ?c2 ?c3 ?c4 ?start
    (fun k => { tmps := #[.pointer (some ⟨r, 0, none⟩), undef, .slice none 0 0, .pointer (some ⟨w.heap.size, 0, none⟩), undef, .int .i64 (kat (R.map (·.1)) k), .pointer (some ⟨r, 0, none⟩), .bool true, .bool false, .pointer (some ⟨r, 0, none⟩),
      .func (.func 35) #[] #[.pointer (some ⟨w.heap.size + 1, 0, none⟩)], .int .i64 (k : Int), .int .i64 (kat (R.map (·.1)) k), undef, undef, undef, undef, undef], defers := [] }) ?assign ?body ?done ?stop
  case head =>
    intro W hi
    exact ⟨hi.bo.cell 0, (hi.below.cell (p := ⟨r, 2, none⟩) hrl).trans HHD.out⟩
  case row =>
    intro k W hi hk
    obtain ⟨x, hx⟩ : ∃ x, R[k]? = some x := ⟨_, List.getElem?_eq_getElem (by rw [HN.out]; exact hk)⟩
    obtain ⟨d1, d2⟩ := HC.out k x hx
    have hgg := HG.out (by omega)
    obtain ⟨v, h1, h2⟩ := hi.due
    rw [kat_get hx]
    exact ⟨x.2, (hi.below.cell (p := ⟨g, k * 2, none⟩) hgg).trans d1, (hi.below.cell (p := ⟨g, k * 2 + 1, none⟩) hgg).trans d2, ⟨hi.below.alloc hi.below.size _, ⟨v, h1.alloc _, own_below h2 ((Below.refl _ W).alloc (Nat.le_refl _) _)⟩, hi.bo.alloc _⟩, hk⟩
  case c1 => exact fun k X Y row hi hg hr => hi.own hzz hg hr
  case c2 => exact fun k X Y row hi hg hr => ⟨hi.1.own hzz hg hr, hi.2⟩
  case c3 => exact fun k X Y row hi hg hr => hi
  case c4 => exact fun k X Y row hi hg hr => hi.own hzz hg hr
  case start => exact H0.out
  case assign =>
    intro l k W K hK
    gi_wp2
    exact hK
  case body =>
    clear H0
    rintro l k W ⟨hi, hk⟩
    obtain ⟨x, hx⟩ : ∃ x, R[k]? = some x := ⟨_, List.getElem?_eq_getElem (by rw [HN.out]; exact hk)⟩
    have hxk : (R.map (·.1))[k]? = some x.1 := by rw [List.getElem?_map, hx]; rfl
    have htk : (R.map (·.1)).take (k + 1) = (R.map (·.1)).take k ++ [x.1] := by rw [List.take_add_one, hxk]; rfl
    have hdl : ((R.map (·.1)).take k).length ≤ 64 := by rw [List.length_take]; omega
    rw [kat_get hx]
    obtain ⟨v, A', c', W2, m1, happ, m2, m3, hmore, hko⟩ := hi.more hdl x.1
    rw [← htk] at hmore
    have hfin : KeepsFrom w3.heap.size W (W2.setCell ⟨w.heap.size, 0, none⟩ (.slice A' (((R.map (·.1)).take k).length + 1) c')) ∧ KJ w S r ev R ((R.map (·.1)).take (k + 1)) (W2.setCell ⟨w.heap.size, 0, none⟩ (.slice A' (((R.map (·.1)).take k).length + 1) c')) := ⟨hko.from _, hmore⟩
    have HFIN := Bx.mk hfin
    have HAPP := Bx.mk happ
    clear hi hx hxk htk hdl hmore hko happ hfin
    generalize ((R.map (·.1)).take k).length = dn at *
    gi_wp2_with (gi_at_builtin; refine wpListIn_append_eq rfl _ _ 31 31 rfl rfl rfl rfl HAPP.out ?_)
    exact HFIN.out
  case done =>
    rintro D W hD hi hK
    obtain ⟨v, h1, h2⟩ := hi.due
    obtain ⟨A', c', rfl⟩ := own_form h2
    have hc : W.cell? ⟨w.heap.size, 0, none⟩ = some (.slice A' ((R.map (·.1)).take n).length c') := h1.cell 0
    have htn : (R.map (·.1)).take n = R.map (·.1) := List.take_of_length_le (by rw [List.length_map, HN.out]; exact Nat.le_refl _)
    have hrow : ∀ q, some D = some q → w3.heap.size ≤ q ∧ ∃ o : Obj, W.heap[q]? = some o ∧ o.isCells = false := fun q e => by cases e; exact ⟨hD, _, hK, rfl⟩
    have hfin : KeysPost (R.map (·.1)) w (.returned (.slice A' ((R.map (·.1)).take n).length c')) (W.putObj D (.deferred none)) := by
      have hi2 := hi.own hzz (grownBy_putObj' W D (.deferred none)) hrow
      have h3 := row_own h2 (grownBy_putObj' W D (.deferred none)) hrow
      rw [htn] at h3 ⊢
      exact ⟨A', c', rfl, own_base h3 (by omega), hi2.below⟩
    have HFIN := Bx.mk hfin
    have HK := Bx.mk hK
    clear hfin h1 h2 hi hK hrow htn
    generalize ((R.map (·.1)).take n).length = dn at *
    gi_wp2
    refine ⟨by simp, .inl ⟨_, _, rfl, run_takeDeferred HK.out, ?_⟩⟩
    refine ⟨_, results_tmp rfl _ _ _, ?_⟩
    exact HFIN.out
  case stop => exact fun D W hD hx hK => hx.elim

/-- **Keys** -/
theorem keys_any {w : World} {S : Nat → Prop} {r : Nat} {ev : Int} {R : List (Int × Int)} (h : Pn w S r ev R) :
    Calls Try.prog 19 #[.pointer (some ⟨r, 0, none⟩)] w (KeysPost (R.map (·.1)) w) := callsIn_wide.1 (keys_in h)
end Go.Proofs.Ytamcmhadodgalaa.pl
