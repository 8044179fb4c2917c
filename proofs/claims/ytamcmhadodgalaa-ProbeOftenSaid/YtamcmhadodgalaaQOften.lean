/-
  Given for 'Rows.ProbeOftenSaid': the law's walk: it returns true at every input, and turns nothing that was there. No condition.
-/
import Derived.Test.YtamcmhadodgalaaQAwake
namespace Go.Proofs.Ytamcmhadodgalaa.pl
open Go.RowKit Go.Shelf mem find pb
set_option linter.unusedVariables false

abbrev Tr (w : World) (e : Ending) (w' : World) : Prop := e = .returned (.bool true) ∧ Below w.heap.size w w'

set_option maxRecDepth 100000 in
set_option maxHeartbeats 4000000 in
theorem often_no (ev key fr : Int) (A : Option Addr) (n c : Nat) (w : World) (hm : n ≤ maxLen) (h : (ev < 1 ∨ 1000 < ev) ∨ (key < 1 ∨ 1099511627775 < key) ∨ (fr < 0 ∨ 1073741824 < fr) ∨ 300 < n) :
    Calls Try.prog 5 #[.int .i64 ev, .int .i64 key, .int .i64 fr, .slice A n c] w (Tr w) := by
  have HAW := Bx.mk (awake_any w)
  unfold maxLen at hm
  by_cases h1 : ev < 1
  · clear h
    go_enter Try.func5, Try.ntmps5
    go_wp2_with (go_at_call 21; refine HAW.out.mono ?_; rintro e w1 ⟨rfl, hb⟩)
    go_ret
    exact ⟨rfl, hb⟩
  by_cases h2 : 1000 < ev
  · clear h
    go_enter Try.func5, Try.ntmps5
    go_wp2_with (go_at_call 21; refine HAW.out.mono ?_; rintro e w1 ⟨rfl, hb⟩)
    go_ret
    exact ⟨rfl, hb⟩
  by_cases h3 : key < 1
  · clear h
    go_enter Try.func5, Try.ntmps5
    go_wp2_with (go_at_call 21; refine HAW.out.mono ?_; rintro e w1 ⟨rfl, hb⟩)
    go_ret
    exact ⟨rfl, hb⟩
  by_cases h4 : 1099511627775 < key
  · clear h
    go_enter Try.func5, Try.ntmps5
    go_wp2_with (go_at_call 21; refine HAW.out.mono ?_; rintro e w1 ⟨rfl, hb⟩)
    go_ret
    exact ⟨rfl, hb⟩
  by_cases h5 : fr < 0
  · clear h
    go_enter Try.func5, Try.ntmps5
    go_wp2_with (go_at_call 21; refine HAW.out.mono ?_; rintro e w1 ⟨rfl, hb⟩)
    go_ret
    exact ⟨rfl, hb⟩
  by_cases h6 : 1073741824 < fr
  · clear h
    go_enter Try.func5, Try.ntmps5
    go_wp2_with (go_at_call 21; refine HAW.out.mono ?_; rintro e w1 ⟨rfl, hb⟩)
    go_ret
    exact ⟨rfl, hb⟩
  have h7 : 300 < n := by omega
  have h8 : (300 : Int) < (n : Int) := by omega
  clear h
  go_enter Try.func5, Try.ntmps5
  go_wp2_with (go_at_call 21; refine HAW.out.mono ?_; rintro e w1 ⟨rfl, hb⟩)
  go_ret
  exact ⟨rfl, hb⟩

/-- between two ticks: s ticks long the row has been wanted -/
structure OfI (w : World) (r E : Nat) (key : Int) (fr i s : Nat) (W : World) : Prop where
  ex : ∃ S, St w S r (E : Int) [(key, (nextAt (fr + i - s) E s : Int))] W

theorem one_dues (now key nx : Int) : dues now [key] [(key, nx)] = if nx ≤ now then [key] else [] := by
  by_cases h : nx ≤ now <;> simp [dues, isDue, wants, h]
theorem one_round (now ev key nx : Int) : pb.round now ev [key] [(key, nx)] = [(key, if nx ≤ now then now + ev else nx)] := by
  by_cases h : nx ≤ now <;> simp [pb.round, after, wants, h]
theorem none_dues (now key nx : Int) : dues now [] [(key, nx)] = [] := by simp [dues, isDue, wants]
theorem none_round (now ev key nx : Int) : pb.round now ev [] [(key, nx)] = [(key, 0)] := by simp [pb.round, after, wants]

/-- a tick at which it is not wanted -/
theorem OfI.off {w W : World} {r E fr i s : Nat} {key : Int} (h : OfI w r E key fr i s W) (hf : fr + i ≤ 1073742124) :
    Calls Try.prog 22 #[.pointer (some ⟨r, 0, none⟩), .int .i64 ((fr : Int) + (i : Int)), .slice none 0 0, .slice none 0 0] W fun e W' => e = .returned (.bool true) ∧ OfI w r E key fr (i + 1) 0 W' := by
  obtain ⟨S, hS⟩ := h.ex
  refine (hS.due (ws := []) (qs := []) (nw := 0) (nq := 0) RowAt.nil rfl (by decide) RowAt.nil rfl (by omega) (by omega) (none_dues _ _ _) _ (none_round _ _ _ _)).mono ?_
  rintro e W' ⟨rfl, h1, _⟩
  exact ⟨rfl, S, h1⟩
/-- a tick at which it is, and is due -/
theorem OfI.on {w W : World} {r E fr i s : Nat} {key : Int} (h : OfI w r E key fr i s W) (hs : s ≤ i) (hE : 1 ≤ E) (hf : fr + i ≤ 1073742124) (hr : s % E = 0) :
    Calls Try.prog 22 #[.pointer (some ⟨r, 0, none⟩), .int .i64 ((fr : Int) + (i : Int)), .slice (some ⟨W.heap.size + 1, 0, none⟩) 1 1, .slice (some ⟨W.heap.size, 0, none⟩) 1 1] ((W.alloc (.cells #[.int .i64 key] 3)).alloc (.cells #[.int .i64 key] 3))
      fun e W' => e = .returned (.bool true) ∧ OfI w r E key fr (i + 1) (s + 1) W' := by
  obtain ⟨S, hS⟩ := h.ex
  obtain ⟨Ha, ba⟩ := hS.lit [key]
  obtain ⟨Hb, bb⟩ := Ha.lit [key]
  simp only [World.size_alloc] at bb
  have bal := ba.later ((Below.refl _ _).alloc (Nat.le_refl _) (.cells (I8 [key]).toArray 3))
  have hd : ((nextAt (fr + i - s) E s : Nat) : Int) ≤ (fr : Int) + (i : Int) := by
    have := (due_often (t := fr + i - s) (s := s) hE).2 hr
    omega
  refine (Hb.due (ws := [key]) (qs := [key]) (nw := 1) (nq := 1) bb rfl (by decide) bal rfl (by omega) (by omega) (by rw [one_dues, if_pos hd]) _ (one_round _ _ _ _)).mono ?_
  rintro e W' ⟨rfl, h1, _⟩
  refine ⟨rfl, S, ?_⟩
  rw [if_pos hd] at h1
  have hn := next_due (t := fr + i - s) hE hr
  rw [show fr + (i + 1) - (s + 1) = fr + i - s by omega, hn, show ((fr + i - s + s + E : Nat) : Int) = (fr : Int) + (i : Int) + (E : Int) by omega]
  exact h1
/-- a tick at which it is, and is not due yet -/
theorem OfI.wait {w W : World} {r E fr i s : Nat} {key : Int} (h : OfI w r E key fr i s W) (hs : s ≤ i) (hE : 1 ≤ E) (hf : fr + i ≤ 1073742124) (hr : s % E ≠ 0) :
    Calls Try.prog 22 #[.pointer (some ⟨r, 0, none⟩), .int .i64 ((fr : Int) + (i : Int)), .slice (some ⟨W.heap.size + 1, 0, none⟩) 1 1, .slice none 0 0] ((W.alloc (.cells #[.int .i64 key] 3)).alloc (.cells #[.int .i64 key] 3))
      fun e W' => e = .returned (.bool true) ∧ OfI w r E key fr (i + 1) (s + 1) W' := by
  obtain ⟨S, hS⟩ := h.ex
  obtain ⟨Ha, ba⟩ := hS.lit [key]
  obtain ⟨Hb, bb⟩ := Ha.lit [key]
  simp only [World.size_alloc] at bb
  have hd : ¬ ((nextAt (fr + i - s) E s : Nat) : Int) ≤ (fr : Int) + (i : Int) := by
    intro hle
    exact hr ((due_often (t := fr + i - s) (s := s) hE).1 (by omega))
  refine (Hb.due (ws := [key]) (qs := []) (nw := 1) (nq := 0) bb rfl (by decide) RowAt.nil rfl (by omega) (by omega) (by rw [one_dues, if_neg hd]) _ (one_round _ _ _ _)).mono ?_
  rintro e W' ⟨rfl, h1, _⟩
  refine ⟨rfl, S, ?_⟩
  rw [if_neg hd] at h1
  have hn := next_not (t := fr + i - s) hE hr
  rw [show fr + (i + 1) - (s + 1) = fr + i - s by omega, hn]
  exact h1

set_option maxRecDepth 100000 in
set_option maxHeartbeats 8000000 in
theorem often_in (E fr : Nat) (key : Int) (A : Option Addr) (c : Nat) (l : List Bool) (w : World) (hl : l.length ≤ 300) (hr : RowAt w (fun g => g < w.heap.size) A (BV l)) (e1 : 1 ≤ E) (e2 : E ≤ 1000) (k1 : 1 ≤ key) (k2 : key ≤ 1099511627775) (f2 : fr ≤ 1073741824) :
    Calls Try.prog 5 #[.int .i64 (E : Int), .int .i64 key, .int .i64 (fr : Int), .slice A l.length c] w (Tr w) := by
  have HAW := Bx.mk (awake_any w)
  have HL := Bx.mk hr
  obtain ⟨n, hn⟩ : ∃ n, l.length = n := ⟨_, rfl⟩
  rw [hn] at hl ⊢
  have HN := Bx.mk hn
  clear hn hr
  have E1 : (1 : Int) ≤ (E : Int) := by omega
  have E2 : (E : Int) ≤ 1000 := by omega
  have F1 : (0 : Int) ≤ (fr : Int) := by omega
  have F2 : (fr : Int) ≤ 1073741824 := by omega
  go_enter Try.func5, Try.ntmps5
  go_wp2_with (go_at_call 21; refine HAW.out.mono ?_; rintro e w1 ⟨rfl, hb⟩)
  have HNEW := Bx.mk (new_ok (E : Int) w1 E1 E2)
  have HB := Bx.mk hb
  have hst : ∀ w2, News w1 w1.heap.size (E : Int) w2 → St w (fun g => w1.heap.size ≤ g ∧ g < w2.heap.size) w1.heap.size (E : Int) [] w2 := fun w2 hn => St.made hb hn
  have HST := Bx.mk hst
  clear hb hst HAW
  generalize w1.heap.size = r at HNEW HST
  refine HNEW.out.mono ?_
  rintro e w2 ⟨rfl, hn⟩
  obtain ⟨S1, H1⟩ : ∃ S1, Bx (St w S1 r (E : Int) [] w2) := ⟨_, ⟨HST.out w2 hn⟩⟩
  clear hn HST HNEW
  go_wp2_with fail
  refine (add_ok H1.out.pn (key := key) (by simp) k1 k2 (by simp)).mono ?_
  rintro e w3 ⟨rfl, hd⟩
  have h0 : OfI w r E key fr 0 0 w3 := ⟨_, H1.out.did hd⟩
  have H0 := Bx.mk h0
  clear hd H1 h0
  go_wp2_with fail
  go_loopw [11, 12] (fun s11 s12 wr => ∃ i s : Nat, i ≤ n ∧ s ≤ i ∧ s11 = .int .i64 (s : Int) ∧ s12 = .int .i64 (i : Int) ∧ Bx (OfI w r E key fr i s wr)) (fun _ s12 _ => n - (intOf s12).toNat)
  case atStart => exact ⟨0, 0, by omega, by omega, rfl, rfl, H0⟩
  case round =>
    clear H0
    obtain ⟨i, s, hi, hs, rfl, rfl, hinv⟩ := hrel
    by_cases hlt : i < n
    · obtain ⟨b, hb⟩ : ∃ b, l[i]? = some b := ⟨_, List.getElem?_eq_getElem (by rw [HN.out]; exact hlt)⟩
      have hbel : Below w.heap.size w wr := by obtain ⟨S, hS⟩ := hinv.out.ex; exact hS.below
      obtain ⟨g, off, rfl, hg, hc⟩ := HL.out.cell (BV_get hb)
      have cb : wr.cell? ⟨g, off + i, none⟩ = some (.bool b) := (hbel.cell (p := ⟨g, off + i, none⟩) hg).trans hc
      have hii : (i : Int) < (n : Int) := by omega
      have hi0 : (0 : Int) ≤ (i : Int) := by omega
      have hw : IntKind.i64.wrap ((fr : Int) + (i : Int)) = (fr : Int) + (i : Int) := IntWalk.i64_in _ (by omega)
      clear hb hbel hc hg
      cases b with
      | false =>
        have HD := Bx.mk (hinv.out.off (by omega))
        clear hinv
        go_wp2_with fail
        refine HD.out.mono ?_
        rintro e W' ⟨rfl, hx⟩
        have HX := Bx.mk hx
        clear hx HD
        go_wp2_with fail
        go_roundw
        case rel => exact ⟨i + 1, 0, by omega, by omega, rfl, by go_num, HX⟩
        case measure => simp [intOf]; omega
      | true =>
        by_cases hrm : s % E = 0
        · have HD := Bx.mk (hinv.out.on hs e1 (by omega) hrm)
          clear hinv
          go_wp2_with fail
          refine HD.out.mono ?_
          rintro e W' ⟨rfl, hx⟩
          have HX := Bx.mk hx
          clear hx HD
          have hws : IntKind.i64.wrap ((s : Int) + 1) = (s : Int) + 1 := IntWalk.i64_in _ (by omega)
          go_wp2_with fail
          go_roundw
          case rel => exact ⟨i + 1, s + 1, by omega, by omega, by go_num, by go_num, HX⟩
          case measure => simp [intOf]; omega
        · have hrm2 : ¬ (s : Int) % (E : Int) = 0 := by omega
          have HD := Bx.mk (hinv.out.wait hs e1 (by omega) hrm)
          clear hinv
          go_wp2_with fail
          refine HD.out.mono ?_
          rintro e W' ⟨rfl, hx⟩
          have HX := Bx.mk hx
          clear hx HD
          have hws : IntKind.i64.wrap ((s : Int) + 1) = (s : Int) + 1 := IntWalk.i64_in _ (by omega)
          go_wp2_with fail
          go_roundw
          case rel => exact ⟨i + 1, s + 1, by omega, by omega, by go_num, by go_num, HX⟩
          case measure => simp [intOf]; omega
    · obtain ⟨S, hS⟩ := hinv.out.ex
      have HB := Bx.mk hS.below
      clear hinv hS
      go_wp2_with fail
      go_ret
      exact ⟨rfl, HB.out⟩

theorem often_any (ev key fr : Int) (A : Option Addr) (c : Nat) (l : List Bool) (w : World) (hm : l.length ≤ maxLen) (hr : RowAt w (fun g => g < w.heap.size) A (BV l)) :
    Calls Try.prog 5 #[.int .i64 ev, .int .i64 key, .int .i64 fr, .slice A l.length c] w (Tr w) := by
  by_cases h : (ev < 1 ∨ 1000 < ev) ∨ (key < 1 ∨ 1099511627775 < key) ∨ (fr < 0 ∨ 1073741824 < fr) ∨ 300 < l.length
  · exact often_no ev key fr A l.length c w hm h
  · obtain ⟨E, rfl⟩ : ∃ E : Nat, ev = (E : Int) := ⟨ev.toNat, by omega⟩
    obtain ⟨f, rfl⟩ : ∃ f : Nat, fr = (f : Int) := ⟨fr.toNat, by omega⟩
    exact often_in E f key A c l w (by omega) hr (by omega) (by omega) (by omega) (by omega) (by omega)
end Go.Proofs.Ytamcmhadodgalaa.pl
