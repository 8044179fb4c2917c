/-
  Given for the seat's laws: the first record with a key, with a parent: keyOf, parentOf, find, slices.IndexFunc. No condition but those of the theorems.
-/
import Derived.Test.YtpidjekabnnmcaaHRead
namespace Go.Proofs.Ytpidjekabnnmcaa.hp
open Go.RowKit mem find pb
set_option linter.unusedVariables false

set_option maxHeartbeats 400000 in
theorem keyOf_any {w : World} {b : Nat} {x : RD} (hl : Lies w b 79 (rcs x)) : Calls Try.prog 33 #[bp b] w fun e w' => e = .returned (.int .i64 x.key) ∧ w = w' := by
  have c0 := hl.cell 0
  simp at c0
  clear hl
  go_enter Try.func33, Try.ntmps33
  go_wp2_with fail
  go_ret
  exact ⟨rfl, rfl⟩
set_option maxHeartbeats 1000000 in
theorem keyIs_any {w : World} {b g4 g5 : Nat} {x : RD} {key : Int} (hl : Lies w b 79 (rcs x)) (h4 : w.cell? ⟨g4, 0, none⟩ = some (.func (.func 33) #[] #[])) (h5 : w.cell? ⟨g5, 0, none⟩ = some (.int .i64 key)) :
    Calls Try.prog 56 #[bp b, bp g4, bp g5] w fun e w' => e = .returned (.bool (decide (x.key = key))) ∧ Below w.heap.size w w' := by
  have hmix : Try.prog.follows .mixedOrders = true := by kernel_rfl
  have HK := bk.Bx.mk (fun u : qt.Bel w => keyOf_any (hl.below u.b hl.lt))
  have e4 := fun u => qt.bel_cell h4 u
  have e5 := fun u => qt.bel_cell h5 u
  clear hl h4 h5
  go_enter Try.func56, Try.ntmps56
  go_wp2_with fail
  refine qt.region_bel hmix (by kernel_rfl) ?_
  repeat (go_big_quiet_step (first | (go_at_call 33; exact qt.bel_call' _ ((HK.out _).mono fun e w' ⟨he, hw⟩ => ⟨he, by rw [← hw]; exact Below.refl _ _⟩))))
  refine wpQuiet_nil ?_
  rintro w2 ⟨u, rfl⟩
  have hu := u.b
  go_wp2_with fail
  go_ret
  exact ⟨rfl, hu⟩

theorem fnd_first {ok : Nat → Bool} {j n : Nat} (hb : ∀ i, i < j → ok i = false) (h : ok j = true) (hn : j < n) : fnd ok n = (j : Int) := by
  rcases fnd_cases ok n with h1 | ⟨m, h1⟩
  · rw [fnd_none.1 h1 j hn] at h; cases h
  · obtain ⟨h2, h3, h4⟩ := fnd_some h1
    rw [h1]
    rcases Nat.lt_trichotomy m j with e | e | e
    · rw [hb m e] at h3; cases h3
    · rw [e]
    · rw [h4 j e] at h; cases h

set_option maxRecDepth 100000 in
set_option maxHeartbeats 2000000 in
theorem index_int {w : World} {A : Option Addr} {c g4 g5 : Nat} {bs : List Nat} (hrow : PRow w A c bs) (hn : bs.length ≤ 1000) (ok : Nat → Bool)
    (HF : ∀ (i b : Nat) (W : World), bs[i]? = some b → Below w.heap.size w W → Calls Try.prog 56 #[bp b, bp g4, bp g5] W fun e w' => e = .returned (.bool (ok i)) ∧ Below W.heap.size W w') :
    Calls Try.prog 55 #[.slice A bs.length c, .func (.func 56) #[] #[bp g4, bp g5]] w fun e w' => e = .returned (.int .i64 (fnd ok bs.length)) ∧ Below w.heap.size w w' := by
  have HH := bk.Bx.mk HF
  have HR := bk.Bx.mk hrow
  have HNN := bk.Bx.mk hn
  clear HF hrow
  obtain ⟨n, hn'⟩ : ∃ n, bs.length = n := ⟨_, rfl⟩
  have HL := bk.Bx.mk hn'
  rw [hn'] at hn ⊢
  clear hn'
  go_enter Try.func55, Try.ntmps55
  go_wp2_with fail
  go_loopw [8] (fun s8 wr => ∃ j : Nat, j ≤ n ∧ s8 = .int .i64 j ∧ bk.Bx (fnd ok j = -1) ∧ bk.Bx (Below w.heap.size w wr)) (fun s8 _ => n - (intOf s8).toNat)
  case atStart => exact ⟨0, by omega, rfl, ⟨rfl⟩, ⟨Below.refl _ _⟩⟩
  case round =>
    obtain ⟨j, hj, rfl, hf, hb⟩ := hrel
    by_cases hjn : j < n
    · obtain ⟨g, hA, hg, _, hc⟩ := HR.out.cell (by rw [HL.out]; omega)
      obtain ⟨b, hbj⟩ : ∃ b, bs[j]? = some b := ⟨_, List.getElem?_eq_getElem (by rw [HL.out]; exact hjn)⟩
      have cj : wr.cell? ⟨g, j, none⟩ = some (bp b) := (hb.out.cell (p := ⟨g, j, none⟩) hg).trans (hc j b hbj)
      have HC := bk.Bx.mk (HH.out j b wr hbj hb.out)
      subst hA
      clear hc hg hbj
      go_wp2_with fail
      refine HC.out.mono ?_
      rintro e w2 ⟨rfl, hb2⟩
      have HB2 := bk.Bx.mk (hb.out.trans (hb2.mono hb.out.size))
      clear hb2 HC
      have hff : fnd ok (j + 1) = if fnd ok j < 0 ∧ ok j = true then (j : Int) else fnd ok j := rfl
      cases hok : ok j with
      | true =>
        have HE : bk.Bx (fnd ok n = (j : Int)) := ⟨by
          refine fnd_first ?_ hok hjn
          exact fnd_none.1 hf.out⟩
        clear hff
        go_wp2_with fail
        go_ret
        exact ⟨by rw [HE.out]; rfl, HB2.out⟩
      | false =>
        have HE : bk.Bx (fnd ok (j + 1) = -1) := ⟨by rw [hff, hok]; simp; exact hf.out⟩
        clear hff
        go_wp2_with fail
        go_roundw
        case rel => exact ⟨j + 1, by omega, by first | rfl | simp, HE, HB2⟩
        case measure => simp [intOf]; omega
    · obtain rfl : j = n := by omega
      go_wp2_with fail
      go_ret
      exact ⟨by rw [hf.out]; rfl, hb.out⟩

def HD.placeOk (D : HD) (key : Int) (i : Nat) : Bool := match D.R[i]? with | some x => decide (x.key = key) | none => false
/-- Place -/
def HD.place (D : HD) (key : Int) : Int := fnd (D.placeOk key) D.R.length
/-- two blocks more -/
abbrev two (w : World) (t u : TypeId) (cs ds : Array Value) : World := (w.alloc (.cells cs t)).alloc (.cells ds u)
theorem two_facts (w : World) (t u : TypeId) (cs ds : Array Value) : Lies (two w t u cs ds) w.heap.size t cs ∧ Lies (two w t u cs ds) (w.heap.size + 1) u ds ∧ Below w.heap.size w (two w t u cs ds) := by
  have h0 := Lies.new w t cs
  have h1 := Lies.new (w.alloc (.cells cs t)) u ds
  rw [World.size_alloc] at h1
  exact ⟨h0.alloc _, h1, ((Below.refl _ w).alloc (Nat.le_refl _) _).alloc (by simp) _⟩
theorem findI_row {w : World} {S : Nat → Prop} {A : Option Addr} {c : Nat} {bs : List Nat} {R : List RD} (hrow : PRow w A c bs) (hrec : Recs w S bs R) (hs : R.length ≤ 1000) (key : Int) :
    Calls Try.prog 32 #[.slice A R.length c, .func (.func 33) #[] #[], .int .i64 key] w fun e w' => e = .returned (.int .i64 (fnd (fun i => match R[i]? with | some x => decide (x.key = key) | none => false) R.length)) ∧ Below w.heap.size w w' := by
  have hlen := hrec.len
  obtain ⟨f1, f2, f3⟩ := two_facts w 85 3 #[.func (.func 33) #[] #[]] #[.int .i64 key]
  have hrow2 : PRow (two w 85 3 #[.func (.func 33) #[] #[]] #[.int .i64 key]) A c bs := hrow.same fun g e => f3.block g (prow_lt hrow e)
  have HI := bk.Bx.mk (index_int (g4 := w.heap.size) (g5 := w.heap.size + 1) hrow2 (by omega) (fun i => match R[i]? with | some x => decide (x.key = key) | none => false) (fun i b W hb hW => by
    obtain ⟨x, hx⟩ : ∃ x, R[i]? = some x := ⟨_, List.getElem?_eq_getElem (by rw [← hlen]; exact (List.getElem?_eq_some_iff.1 hb).1)⟩
    have hl := hrec.at_ i b x hb hx
    have hl2 := (hl.below f3 hl.lt).below hW (Nat.lt_of_lt_of_le hl.lt f3.size)
    simp only [hx]
    exact keyIs_any hl2 ((f1.below hW f1.lt).cell 0) ((f2.below hW f2.lt).cell 0)))
  have HB := bk.Bx.mk f3
  rw [hlen] at HI
  clear hrow2 f1 f2 f3 hlen hrow hrec hs
  generalize fnd (fun i => match R[i]? with | some x => decide (x.key = key) | none => false) R.length = z at *
  generalize R.length = n at *
  go_enter Try.func32, Try.ntmps32
  go_wp2_with fail
  refine HI.out.mono ?_
  rintro e w2 ⟨rfl, hb⟩
  have hb2 := HB.out.trans (hb.mono HB.out.size)
  clear hb HI
  go_wp2_with fail
  go_ret
  exact ⟨rfl, hb2⟩
section
variable {w : World} {S : Nat → Prop} {r c q : Nat} {D : HD} {A : Option Addr} {bs : List Nat}
theorem findI_any (h : Hx w S r D A c q bs) (hs : D.R.length ≤ 1000) (key : Int) : Calls Try.prog 32 #[.slice A D.R.length c, .func (.func 33) #[] #[], .int .i64 key] w fun e w' => e = .returned (.int .i64 (D.place key)) ∧ Below w.heap.size w w' :=
  findI_row h.row h.recs hs key
set_option maxHeartbeats 1000000 in
theorem place_any (h : Hx w S r D A c q bs) (hs : D.R.length ≤ 1000) (key : Int) : Calls Try.prog 14 #[bp r, .int .i64 key] w fun e w' => e = .returned (.int .i64 (D.place key)) ∧ Below w.heap.size w w' := by
  have HM := Lib.hid (hmade_yes h)
  have HF := bk.Bx.mk (findI_any h hs key)
  have c4 := h.hd.cell 4
  simp at c4
  clear h hs
  generalize D.place key = z at *
  generalize D.R.length = n at *
  go_enter Try.func14, Try.ntmps14
  go_wp2_with (go_at_call 24; refine HM.out.mono ?_; rintro e w' ⟨rfl, rfl⟩)
  refine HF.out.mono ?_
  rintro e w2 ⟨rfl, hb⟩
  clear HF
  go_wp2_with fail
  go_ret
  exact ⟨rfl, hb⟩
theorem place_bound (D : HD) (key : Int) : -1 ≤ D.place key ∧ D.place key < (D.R.length : Int) := fnd_bound _ _
theorem place_some {D : HD} {key : Int} (h : ¬ D.place key < 0) : ∃ (k : Nat) (x : RD), D.place key = (k : Int) ∧ D.R[k]? = some x ∧ x.key = key := by
  obtain ⟨k, hk⟩ : ∃ k : Nat, D.place key = (k : Int) := ⟨(D.place key).toNat, by omega⟩
  obtain ⟨h1, h2, _⟩ := fnd_some (ok := D.placeOk key) hk
  unfold HD.placeOk at h2
  split at h2
  · rename_i x hx; exact ⟨k, x, hk, hx, of_decide_eq_true h2⟩
  · cases h2
end
end Go.Proofs.Ytpidjekabnnmcaa.hp
