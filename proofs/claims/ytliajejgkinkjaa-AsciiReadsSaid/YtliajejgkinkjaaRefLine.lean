/-
  Given for the seat's laws: the contract of Line of the document's reader. No condition but those of the theorems.
-/
import Derived.Test.YtliajejgkinkjaaModel
import Derived.Test.YtliajejgkinkjaaPure
import Derived.Test.YtliajejgkinkjaaLine2
import Derived.Deep.LoopGhost
namespace Go.Proofs.Ytliajejgkinkjaa.model
open Go.RowKit mem reader plain
set_option linter.unusedVariables false

theorem f_here {ys : List Int} {t : Nat} {most : Int} (h : endAt ys t) (hb : ∀ s, s < t → ¬ endAt ys s) (ht : (t : Int) ≤ most) : lineF ys most = ((t : Int), 0) := by
  unfold lineF
  rw [nEnd_of h hb]
  exact if_neg (by omega)

theorem bare_ge {ys : List Int} {t : Nat} (ht : t < ys.length) (hm : ¬ (ys[t]? = some 13 ∧ t + 1 = ys.length)) : t + 1 ≤ bare ys := by
  unfold bare
  split
  · rename_i hl
    rcases Nat.lt_or_ge (t + 1) ys.length with h1 | h1
    · omega
    · exfalso
      apply hm
      have : t = ys.length - 1 := by omega
      refine ⟨?_, by omega⟩
      rw [List.getLast?_eq_getElem?] at hl
      rw [this]
      exact hl
  · omega

theorem f_over {ys : List Int} {t : Nat} {most : Int} (hb : ∀ s, s < t + 1 → ¬ endAt ys s) (ht : t < ys.length) (hm : ¬ (ys[t]? = some 13 ∧ t + 1 = ys.length)) (hmost : most ≤ (t : Int)) : lineF ys most = (0, 6) := by
  unfold lineF
  cases hn : nEnd ys with
  | some i =>
    have hi := nEnd_some hn
    have : t + 1 ≤ i := by
      rcases Nat.lt_or_ge i (t + 1) with h1 | h1
      · exact absurd hi.1 (hb i h1)
      · exact h1
    exact if_pos (by omega)
  | none =>
    have := bare_ge ht hm
    exact if_pos (by omega)

theorem f_more {ys : List Int} {most : Int} (hb : ∀ s, s < ys.length → ¬ endAt ys s) (hm : (ys.length : Int) ≤ most ∨ (ys.getLast? = some 13 ∧ (ys.length : Int) = most + 1)) : lineF ys most = (0, 5) := by
  unfold lineF
  cases hn : nEnd ys with
  | some i =>
    have hi := nEnd_some hn
    have := nEnd_lt hn
    exact absurd hi.1 (hb i (by omega))
  | none =>
    refine if_neg ?_
    rcases hm with h | ⟨h, h2⟩
    · have := bare_le ys
      omega
    · have hbr : bare ys = ys.length - 1 := by unfold bare; exact if_pos h
      have hp : 0 < ys.length := by
        rcases ys with _ | ⟨y, l⟩
        · cases h
        · simp
      omega

theorem cut_lh (W : World) (A : Option Addr) (n c k p : Nat) (h : k ≤ p) (hp : p < n) (hc : n ≤ c) :
    (Instr.slice 25 (.slice A n c) (some (.int .i64 (k : Int))) (some (.int .i64 (p : Int))) none).run Try.prog W = .ok (.slice (cutA A c k) (p - k) (c - k)) W := by
  have := cut_run W A n c k (p - k) (by omega)
  rw [show (k : Int) + ((p - k : Nat) : Int) = (p : Int) by omega] at this
  exact this

/-- where the loop stands: j bytes behind those read -/
structure Seen (xs : List Int) (k n : Nat) (most : Int) (j : Nat) : Prop where
  le : k + j ≤ n
  none : ∀ s, s < j → ¬ endAt (xs.drop k) s
  room : (j : Int) ≤ most ∨ (k + j = n ∧ (xs.drop k).getLast? = some 13 ∧ (j : Int) = most + 1)

section
variable {w : World} {B m : Nat} {A : Option Addr} {n c : Nat} {xs : List Int} {k : Nat}

set_option maxHeartbeats 400000 in
theorem mline_neg (h : Mod w B m A n c xs k) (j : Int) (hj : j < 0) : Calls Try.prog 25 #[.pointer (some ⟨m, 0, none⟩), .int .i64 j] w (MReads (.tuple #[.string ⟨#[]⟩, .int .i64 2]) w B m A n c xs k) := by
  have HH := Lib.hid h
  clear h
  go_enter Try.func25, Try.ntmps25
  go_wp2
  go_ret2
  exact ⟨rfl, MLeft.stay HH.out (Below.refl _ _)⟩

/-- what Line returns, where as many bytes are asked for as can be -/
def MLine (w : World) (B m : Nat) (A : Option Addr) (n c : Nat) (xs : List Int) (k : Nat) (most : Int) (e : Ending) (w' : World) : Prop :=
  (∀ i : Nat, lineF (xs.drop k) most = ((i : Int), 0) → MReads (.tuple #[.string (strOfNums ((xs.drop k).take i)), .int .i64 0]) w B m A n c xs (k + (i + 2)) e w') ∧
  (∀ v er : Int, lineF (xs.drop k) most = (v, er) → er = 5 ∨ er = 6 → MReads (.tuple #[.string ⟨#[]⟩, .int .i64 er]) w B m A n c xs k e w')

theorem mline_here {most : Int} {i : Nat} {e : Ending} {w' : World} (hf : lineF (xs.drop k) most = ((i : Int), 0)) (h : MReads (.tuple #[.string (strOfNums ((xs.drop k).take i)), .int .i64 0]) w B m A n c xs (k + (i + 2)) e w') : MLine w B m A n c xs k most e w' := by
  refine ⟨fun i' hi' => ?_, fun v er he h0 => ?_⟩
  · rw [hf] at hi'
    have : i = i' := by have := congrArg Prod.fst hi'; simp at this; omega
    subst this
    exact h
  · rw [hf] at he
    have := congrArg Prod.snd he
    simp at this
    omega

theorem mline_err {most v er : Int} {e : Ending} {w' : World} (hf : lineF (xs.drop k) most = (v, er)) (h0 : er = 5 ∨ er = 6) (h : MReads (.tuple #[.string ⟨#[]⟩, .int .i64 er]) w B m A n c xs k e w') : MLine w B m A n c xs k most e w' := by
  refine ⟨fun i' hi' => ?_, fun v' er' he h0' => ?_⟩
  · rw [hf] at hi'
    have := congrArg Prod.snd hi'
    simp at this
    omega
  · rw [hf] at he
    have := congrArg Prod.snd he
    simp at this
    subst this
    exact h

theorem seen_next {most : Int} {j : Nat} (hl : xs.length = n) (hs : Seen xs k n most j) (hj : k + j < n) (hne : ¬ endAt (xs.drop k) j) (hm : (j : Int) < most ∨ (k + j + 1 = n ∧ (xs.drop k)[j]? = some 13)) : Seen xs k n most (j + 1) := by
  refine ⟨by omega, fun s hs' => ?_, ?_⟩
  · by_cases e : s = j
    · subst e; exact hne
    · exact hs.none s (by omega)
  · rcases hm with h | ⟨h, h13⟩
    · exact .inl (by omega)
    · rcases hs.room with hr | hr
      · by_cases hq : (j : Int) + 1 ≤ most
        · exact .inl (by omega)
        · refine .inr ⟨by omega, ?_, by omega⟩
          rw [List.getLast?_eq_getElem?, List.length_drop, hl, show n - k - 1 = j by omega]
          exact h13
      · omega

theorem seen_end {most : Int} {j : Nat} (hl : xs.length = n) (hs : Seen xs k n most j) (hj : ¬ k + j < n) : lineF (xs.drop k) most = (0, 5) := by
  have h1 := hs.le
  have hlen : (xs.drop k).length = j := by rw [List.length_drop, hl]; omega
  refine f_more (fun s hs' => hs.none s (by omega)) ?_
  rcases hs.room with h | ⟨_, h2, h3⟩
  · exact .inl (by omega)
  · exact .inr ⟨h2, by omega⟩

theorem seen_room {most : Int} {j : Nat} (hs : Seen xs k n most j) (hj : k + j < n) : (j : Int) ≤ most := by
  rcases hs.room with h | ⟨h, _⟩
  · exact h
  · omega

set_option maxRecDepth 20000 in
set_option maxHeartbeats 4000000 in
theorem mline_any (h : Mod w B m A n c xs k) (most : Int) (h0 : 0 ≤ most) : Calls Try.prog 25 #[.pointer (some ⟨m, 0, none⟩), .int .i64 most] w (MLine w B m A n c xs k most) := by
  have HH := Lib.hid h
  have hle := h.le
  have hsm := h.small
  have hlen := h.len
  have c0 := h.head.cell 0
  have c1 := h.head.cell 1
  have f1 := h.head.frozen 1
  have HL := Lib.hid h.src
  have HLEN := Lib.hid hlen
  have hstart : Seen xs k n most 0 := ⟨by omega, fun s hs => absurd hs (by omega), .inl h0⟩
  have HST := Lib.hid hstart
  clear h hlen hstart
  go_enter Try.func25, Try.ntmps25
  go_wp2_with fail
  go_loopg [6] (n - k) (fun g s6 wr => ∃ p : Nat, p + g = n ∧ k ≤ p ∧ s6 = .int .i64 (p : Int) ∧ wr = w ∧ Hid (Seen xs k n most (p - k)))
  case atStart => exact ⟨k, by omega, Nat.le_refl _, rfl, rfl, Lib.hid (by rw [Nat.sub_self]; exact HST.out)⟩
  case round =>
    clear HST
    obtain ⟨p, hpg, hkp, rfl, rfl, HS⟩ := hrel
    by_cases hpn : p < n
    · obtain ⟨ga, off, x, hA, _, hx, hcx⟩ := HL.out.cell hpn
      subst hA
      have hdx : (xs.drop k)[p - k]? = some x := by rw [List.getElem?_drop, show k + (p - k) = p by omega]; exact hx
      have hroom : (p : Int) - (k : Int) ≤ most := by have := seen_room HS.out (by omega); omega
      have hpi : (p : Int) < (n : Int) := by omega
      have HDX := Lib.hid hdx
      clear hx hdx
      by_cases h1 : p + 1 < n
      · obtain ⟨ga2, off2, y, hA2, _, hy, hcy⟩ := HL.out.cell h1
        cases hA2
        have hdy : (xs.drop k)[p - k + 1]? = some y := by rw [List.getElem?_drop, show k + (p - k + 1) = p + 1 by omega]; exact hy
        have HDY := Lib.hid hdy
        have h1i : (p : Int) + 1 < (n : Int) := by omega
        have h1n : ((p : Int) + 1 == (n : Int)) = false := beq_eq_false_iff_ne.2 (by omega)
        clear hy hdy
        by_cases h13 : x = 13
        · have hx13 : (x == 13) = true := beq_iff_eq.2 h13
          by_cases h10 : y = 10
          · have hy10 : (y == 10) = true := beq_iff_eq.2 h10
            have hf := f_here (ys := xs.drop k) (t := p - k) (most := most) ⟨by rw [HDX.out, h13], by rw [HDY.out, h10]⟩ HS.out.none (by omega)
            have HF := Lib.hid hf
            have hcut := fun W => cut_lh W (some ⟨ga, off, none⟩) n c k p hkp hpn HL.out.cap
            have hstr : ∀ W, Still wr W → (convert 25 9 (.slice (cutA (some ⟨ga, off, none⟩) c k) (p - k) (c - k))).run Try.prog W = .ok (.string (strOfNums ((xs.drop k).take (p - k)))) W := fun W hW => by
              have := str_run ((HL.out.still hW).cut k (p - k) (by omega)) (p - k) (c - k) (Nat.le_refl _)
              rw [List.take_take, Nat.min_self] at this
              exact this
            clear h13 h10 hf
            generalize hss : strOfNums ((xs.drop k).take (p - k)) = s at *
            have HSS := Lib.hid hss
            clear hss
            go_wp2_with fail
            go_still_tail 10, (by kernel_rfl)
            change wpList _ _ _ _ _ wr.drew
            have hst : Still wr wr.drew := Still.drew1 _
            generalize wr.drew = w2 at *
            have hs2 := hstr w2 hst
            have d1 : w2.cell? ⟨m, 1, none⟩ = some (.int .i64 (k : Int)) := (hst.cell _).trans c1
            have d2 : w2.frozen? ⟨m, 1, none⟩ = false := (HH.out.head.of_same (by rw [hst.heap])).frozen 1
            have HW := Lib.hid hst
            clear hst c0 c1 f1 hcut hstr hcx hcy
            go_wp2
            go_ret2
            have ep : (p : Int) + 2 = ((k + (p - k + 2) : Nat) : Int) := by omega
            rw [ep]
            refine mline_here (i := p - k) HF.out ⟨?_, MLeft.moved HH.out (HW.out.below _) _ (by omega)⟩
            rw [HSS.out]
            rfl
          · have hy10 : (y == 10) = false := beq_eq_false_iff_ne.2 h10
            have hne : ¬ endAt (xs.drop k) (p - k) := fun he => h10 (by have := he.2; rw [HDY.out] at this; exact Option.some.inj this)
            have HNE := Lib.hid hne
            clear h13 h10 hne
            by_cases hm : most ≤ (p : Int) - (k : Int)
            · have hf := f_over (ys := xs.drop k) (t := p - k) (most := most) (fun s hs => by
                by_cases e : s = p - k
                · subst e; exact HNE.out
                · exact HS.out.none s (by omega)) (by rw [List.length_drop, HLEN.out]; omega) (by rw [List.length_drop, HLEN.out]; omega) (by omega)
              have HF := Lib.hid hf
              clear hf
              go_wp2_with fail
              go_ret2
              exact mline_err HF.out (.inr rfl) ⟨rfl, MLeft.stay HH.out (Below.refl _ _)⟩
            · have hn := seen_next (most := most) (j := p - k) HLEN.out HS.out (by omega) HNE.out (.inl (by omega))
              have HN := Lib.hid hn
              clear hn
              go_wp2_with fail
              go_roundg (n - (p + 1))
              case measure => omega
              case rel => exact ⟨p + 1, by omega, by omega, by go_num, rfl, Lib.hid (by rw [show p + 1 - k = p - k + 1 by omega]; exact HN.out)⟩
        · have h13 := h13
          have hx13 : (x == 13) = false := beq_eq_false_iff_ne.2 h13
          have HNE := Lib.hid (show ¬ endAt (xs.drop k) (p - k) from fun he => h13 (by have := he.1; rw [HDX.out] at this; exact Option.some.inj this))
          have H13 := Lib.hid h13
          clear h13
          by_cases hm : most ≤ (p : Int) - (k : Int)
          · have hf := f_over (ys := xs.drop k) (t := p - k) (most := most) (fun s hs => by
              by_cases e : s = p - k
              · subst e; exact HNE.out
              · exact HS.out.none s (by omega)) (by rw [List.length_drop, HLEN.out]; omega) (fun he => H13.out (by have := he.1; rw [HDX.out] at this; exact Option.some.inj this)) (by omega)
            have HF := Lib.hid hf
            clear hf
            go_wp2_with fail
            go_ret2
            exact mline_err HF.out (.inr rfl) ⟨rfl, MLeft.stay HH.out (Below.refl _ _)⟩
          · have hn := seen_next (most := most) (j := p - k) HLEN.out HS.out (by omega) HNE.out (.inl (by omega))
            have HN := Lib.hid hn
            clear hn
            go_wp2_with fail
            go_roundg (n - (p + 1))
            case measure => omega
            case rel => exact ⟨p + 1, by omega, by omega, by go_num, rfl, Lib.hid (by rw [show p + 1 - k = p - k + 1 by omega]; exact HN.out)⟩
      · have h1e : p + 1 = n := by omega
        have h1i : ¬ (p : Int) + 1 < (n : Int) := by omega
        have h1n : ((p : Int) + 1 == (n : Int)) = true := beq_iff_eq.2 (by omega)
        have H1E := Lib.hid h1e
        clear h1 h1e
        by_cases h13 : x = 13
        · have hx13 : (x == 13) = true := beq_iff_eq.2 h13
          have HNE := Lib.hid (show ¬ endAt (xs.drop k) (p - k) from fun he => by
            have := (List.getElem?_eq_some_iff.1 he.2).1
            have := H1E.out
            rw [List.length_drop, HLEN.out] at *
            omega)
          have hn := seen_next (most := most) (j := p - k) HLEN.out HS.out (by omega) HNE.out (.inr ⟨by have := H1E.out; omega, by rw [HDX.out, h13]⟩)
          have HN := Lib.hid hn
          clear hn h13
          by_cases hm : most ≤ (p : Int) - (k : Int)
          · go_wp2_with fail
            go_roundg (n - (p + 1))
            case measure => omega
            case rel => exact ⟨p + 1, by omega, by omega, by go_num, rfl, Lib.hid (by rw [show p + 1 - k = p - k + 1 by omega]; exact HN.out)⟩
          · go_wp2_with fail
            go_roundg (n - (p + 1))
            case measure => omega
            case rel => exact ⟨p + 1, by omega, by omega, by go_num, rfl, Lib.hid (by rw [show p + 1 - k = p - k + 1 by omega]; exact HN.out)⟩
        · have h13 := h13
          have hx13 : (x == 13) = false := beq_eq_false_iff_ne.2 h13
          have HNE := Lib.hid (show ¬ endAt (xs.drop k) (p - k) from fun he => h13 (by have := he.1; rw [HDX.out] at this; exact Option.some.inj this))
          have H13 := Lib.hid h13
          clear h13
          by_cases hm : most ≤ (p : Int) - (k : Int)
          · have hf := f_over (ys := xs.drop k) (t := p - k) (most := most) (fun s hs => by
              by_cases e : s = p - k
              · subst e; exact HNE.out
              · exact HS.out.none s (by omega)) (by rw [List.length_drop, HLEN.out]; omega) (fun he => H13.out (by have := he.1; rw [HDX.out] at this; exact Option.some.inj this)) (by omega)
            have HF := Lib.hid hf
            clear hf
            go_wp2_with fail
            go_ret2
            exact mline_err HF.out (.inr rfl) ⟨rfl, MLeft.stay HH.out (Below.refl _ _)⟩
          · have hn := seen_next (most := most) (j := p - k) HLEN.out HS.out (by omega) HNE.out (.inl (by omega))
            have HN := Lib.hid hn
            clear hn
            go_wp2_with fail
            go_roundg (n - (p + 1))
            case measure => omega
            case rel => exact ⟨p + 1, by omega, by omega, by go_num, rfl, Lib.hid (by rw [show p + 1 - k = p - k + 1 by omega]; exact HN.out)⟩
    · have hf := seen_end HLEN.out HS.out (by omega)
      have HF := Lib.hid hf
      clear hf
      have hpe : p = n := by omega
      subst hpe
      go_wp2_with fail
      go_ret2
      exact mline_err HF.out (.inl rfl) ⟨rfl, MLeft.stay HH.out (Below.refl _ _)⟩

end
end Go.Proofs.Ytliajejgkinkjaa.model
