/-
  Given for the seat's laws: the contracts of the document's own Word and Lower. No condition but those of the theorems.
-/
import Derived.Test.YtliajejgkinkjaaWord
import Derived.Test.YtliajejgkinkjaaLower
import Derived.Test.YtliajejgkinkjaaReader
import Derived.Laws.AppendOwn
import Derived.Laws.BytesArg
namespace Go.Proofs.Ytliajejgkinkjaa.refWords
open Go.RowKit mem word lower reader parse
set_option linter.unusedVariables false

set_option maxHeartbeats 1000000 in
theorem rword_any (s : ByteArray) (hs : s.size ≤ 1000) (w : World) : Calls Try.prog 8 #[.string s] w (Says (wordB s.data.toList) w) := by
  have hl : s.data.toList.length = s.size := by simp
  have HL := Lib.hid hl
  clear hl
  go_enter Try.func8, Try.ntmps8
  go_wp2
  go_loop [3] (fun i => ∃ k : Nat, k ≤ s.size ∧ i = .int .i64 (k : Int) ∧ Hid (∀ j, (hj : j < s.size) → j < k → okc s[j] = true)) (fun i => s.size - (intOf i).toNat)
  case atStart => exact ⟨0, by omega, rfl, fun j _ hj => absurd hj (by omega)⟩
  case round =>
    obtain ⟨k, hk, rfl, HR⟩ := hrel
    by_cases hlt : k < s.size
    · have HC := Lib.hid (show (s[k].toNat : Int) = (s[k].toNat : Int) from rfl)
      obtain ⟨c, hc⟩ : ∃ c : Int, (s[k].toNat : Int) = c := ⟨_, rfl⟩
      have HCC := Lib.hid hc
      by_cases ha : 97 ≤ c ∧ c ≤ 122
      · obtain ⟨ha1, ha2⟩ := ha
        have HN := Lib.hid (show ∀ j, (hj : j < s.size) → j < k + 1 → okc s[j] = true from fun j hj hjk => by
          by_cases e : j = k
          · subst e
            have := HCC.out
            unfold okc
            rw [decide_eq_true (show 97 ≤ s[j].toNat ∧ s[j].toNat ≤ 122 by omega)]
            rfl
          · exact HR.out j hj (by omega))
        have hd : ¬ c ≤ 57 := by omega
        have hd0 : 48 ≤ c := by omega
        clear HC
        go_wp2
        go_round
        case rel => exact ⟨k + 1, by omega, by go_num, HN⟩
        case measure => simp [intOf]; omega
      · by_cases hb : 48 ≤ c ∧ c ≤ 57
        · obtain ⟨hb1, hb2⟩ := hb
          have ha0 : ¬ 97 ≤ c := by omega
          have HN := Lib.hid (show ∀ j, (hj : j < s.size) → j < k + 1 → okc s[j] = true from fun j hj hjk => by
            by_cases e : j = k
            · subst e
              have := HCC.out
              unfold okc
              rw [decide_eq_true (show 48 ≤ s[j].toNat ∧ s[j].toNat ≤ 57 by omega), Bool.or_true]
            · exact HR.out j hj (by omega))
          clear ha HC
          go_wp2
          go_round
          case rel => exact ⟨k + 1, by omega, by go_num, HN⟩
          case measure => simp [intOf]; omega
        · have HF := Lib.hid (word_bad hlt (by
            have := HCC.out
            unfold okc
            rw [decide_eq_false (by omega), decide_eq_false (by omega)]
            rfl))
          have hcase : (c < 48) ∨ (57 < c ∧ c < 97) ∨ 122 < c := by omega
          clear ha hb HC
          rcases hcase with h | ⟨h, h'⟩ | h
          · have h2 : ¬ 97 ≤ c := by omega
            have h3 : ¬ 48 ≤ c := by omega
            go_wp2
            go_ret
            exact ⟨by rw [HF.out]; rfl, rfl⟩
          · have h2 : ¬ 97 ≤ c := by omega
            have h3 : 48 ≤ c := by omega
            have h4 : ¬ c ≤ 57 := by omega
            go_wp2
            go_ret
            exact ⟨by rw [HF.out]; rfl, rfl⟩
          · have h2 : 97 ≤ c := by omega
            have h3 : 48 ≤ c := by omega
            have h4 : ¬ c ≤ 57 := by omega
            have h5 : ¬ c ≤ 122 := by omega
            go_wp2
            go_ret
            exact ⟨by rw [HF.out]; rfl, rfl⟩
    · obtain rfl : k = s.size := by omega
      have hall := word_all (fun j hj => HR.out j hj hj)
      by_cases h1 : 1 ≤ s.size
      · by_cases h8 : s.size ≤ 8
        · have HF := Lib.hid (show wordB s.data.toList = true by unfold wordB; rw [HL.out, decide_eq_true ⟨h1, h8⟩, hall]; rfl)
          have hd8 : decide ((s.size : Int) ≤ 8) = true := decide_eq_true (by omega)
          clear hall
          go_wp2
          go_ret
          exact ⟨by rw [HF.out]; rfl, rfl⟩
        · have HF := Lib.hid (show wordB s.data.toList = false by unfold wordB; rw [HL.out, decide_eq_false (by omega)]; rfl)
          have hd8 : decide ((s.size : Int) ≤ 8) = false := decide_eq_false (by omega)
          clear hall
          go_wp2
          go_ret
          exact ⟨by rw [HF.out]; rfl, rfl⟩
      · have HF := Lib.hid (show wordB s.data.toList = false by unfold wordB; rw [HL.out, decide_eq_false (by omega)]; rfl)
        clear hall
        go_wp2
        go_ret
        exact ⟨by rw [HF.out]; rfl, rfl⟩

theorem own_string {w : World} {B n : Nat} {v : Value} {m : List UInt8} (h : w.ownsRow B 5 1 v n (B8u m)) : (convert 25 9 v).run Try.prog w = .ok (.string ⟨m.toArray⟩) w := by
  have hl : m.length = n := by
    have := h.1
    simp [B8u] at this
    omega
  rcases h.2 with ⟨rfl, hn⟩ | ⟨g, cap, cur, rfl, hb, hh, hnc, hm, hs, ht⟩
  · subst hn
    obtain rfl : m = [] := List.eq_nil_of_length_eq_zero hl
    rw [run_convert_bytes_nil w 25 5 Try.underlying25 Try.underlying5 0 0 9 Try.underlying9]
    rfl
  · have := run_convert_bytes_back (P := Try.prog) w 25 9 5 ⟨g, 0, none⟩ cap m Try.underlying25 Try.underlying5 Try.underlying9 (fun j hj => by
      have hz' : (B8u m)[j]? = some (.int .u8 (m[j].toNat : Int)) := by simp [B8u, hj]
      rw [← ht, Nat.mul_one, List.getElem?_take] at hz'
      split at hz'
      · have e : (Addr.add ⟨g, 0, none⟩ j) = ⟨g, j, none⟩ := by by_cases h0 : j = 0 <;> simp [Addr.add, h0]
        rw [e]
        simp [World.cell?, hh]
        simpa using hz'
      · cases hz')
    rw [hl] at this
    exact this

theorem own_ge {w : World} {B : Nat} {e : TypeId} {v : Value} {n : Nat} {xs : List Value} (h : w.ownsRow B e 1 v n xs) {j : Nat} (e' : v.ownBlock = some j) : B ≤ j := (own_lt h e').1

theorem low_snoc {l : List UInt8} {k : Nat} {b : UInt8} (h : l[k]? = some b) {u : Int} (hu : u = ((lowc b).toNat : Int)) : B8u (lowL (l.take k)) ++ [.int .u8 u] = B8u (lowL (l.take (k + 1))) := by
  subst hu
  rw [List.take_add_one, h]
  simp [B8u, lowL]

/-- what holds between two rounds -/
structure Low (w wr : World) (v : Value) (l : List UInt8) (k : Nat) : Prop where
  own : wr.ownsRow w.heap.size 5 1 v k (B8u (lowL (l.take k)))
  below : Below w.heap.size w wr

theorem low_next {w wr w1 : World} {v v' : Value} {l : List UInt8} {k : Nat} {b : UInt8} {u : Int} (h : Low w wr v l k) (hk : l[k]? = some b) (hu : u = ((lowc b).toNat : Int)) (ho : w1.ownsRow w.heap.size 5 1 v' (k + 1) (B8u (lowL (l.take k)) ++ [.int .u8 u]))
    (hg : (wr.alloc (.cells #[.int .u8 u] 5)).grownBy w1 v.ownBlock) : Low w w1 v' l (k + 1) := by
  rw [low_snoc hk hu] at ho
  exact ⟨ho, (h.below.alloc h.below.size _).grown hg (h.below.alloc h.below.size _).size (fun j hj => own_ge h.own hj)⟩

set_option maxHeartbeats 1000000 in
theorem rlower_any (s : ByteArray) (hs : s.size ≤ 1000) (w : World) : Calls Try.prog 10 #[.string s] w (Lowered s w) := by
  obtain ⟨i0, hi, hz0, hz1, hz2⟩ := info_parts (show (Try.prog.info? 5).map (fun i => (i.zero, i.size, i.bytes)) = some (some (.int .u8 0), 1, 1) by kernel_rfl)
  have hl : s.data.toList.length = s.size := by simp
  have HL := Lib.hid hl
  have H0 := Lib.hid (show Low w w (.slice none 0 0) s.data.toList 0 from ⟨⟨rfl, .inl ⟨rfl, rfl⟩⟩, Below.refl _ _⟩)
  clear hl
  go_enter Try.func10, Try.ntmps10
  go_wp2
  go_loopw [3, 4] (fun v i wr => ∃ k : Nat, k ≤ s.size ∧ i = .int .i64 (k : Int) ∧ Hid (Low w wr v s.data.toList k)) (fun _ i _ => s.size - (intOf i).toNat)
  case atStart => exact ⟨0, by omega, rfl, H0⟩
  case round =>
    clear H0
    obtain ⟨k, hk, rfl, HR⟩ := hrel
    by_cases hlt : k < s.size
    · obtain ⟨b, hb⟩ : ∃ b : UInt8, b = s[k] := ⟨_, rfl⟩
      have HK := Lib.hid (show s.data.toList[k]? = some b by rw [sbyte hlt, hb])
      have hc0 : (s[k].toNat : Int) = (b.toNat : Int) := by rw [hb]
      obtain ⟨c, hcc⟩ : ∃ c : Int, (b.toNat : Int) = c := ⟨_, rfl⟩
      rw [hcc] at hc0
      have HC := Lib.hid hcc
      clear hb hcc
      by_cases hg : 65 ≤ c ∧ c ≤ 90
      · obtain ⟨hg1, hg2⟩ := hg
        have e2 : IntKind.u8.wrap (c + 32) = c + 32 := IntWalk.u8_in _ (by omega)
        have HU := Lib.hid (show c + 32 = ((lowc b).toNat : Int) by have := HC.out; rw [lowc_great (by omega)]; omega)
        go_wp2_with (at_builtin; refine wpList_append_own _ rfl _ _ 25 rfl w.heap.size 5 i0 (.int .u8 0) 1 1 Try.underlying25 hi hz0 hz1 hz2 rfl (by decide) _ k (B8u (lowL (s.data.toList.take k))) rfl (HR.out.own.alloc _) ⟨wr.heap.size, 0, none⟩ 1 1 [.int .u8 (c + 32)] rfl rfl ?c1 ?c2 ?c3 ?c4 ?c5 ?_)
        case c1 =>
          intro j u hj
          match j, hj with
          | 0, hj => simp at hj; subst hj; exact (Lies.new wr 5 #[.int .u8 (c + 32)]).cell 0
        case c2 => intro u hu; simp at hu; subst hu; rfl
        case c3 => unfold maxLen; omega
        case c4 => omega
        case c5 => have := HR.out.below.size; simp; omega
        intro v' w1 hown' hgrow _
        have HN := Lib.hid (low_next HR.out HK.out HU.out hown' hgrow)
        clear hown' hgrow
        go_wp2
        go_roundw
        case rel => exact ⟨k + 1, by omega, by go_num, HN⟩
        case measure => simp [intOf]; omega
      · have HU := Lib.hid (show c = ((lowc b).toNat : Int) by have := HC.out; rw [lowc_else (by omega)]; omega)
        have hcase : c < 65 ∨ 90 < c := by omega
        clear hg
        rcases hcase with hg | hg
        · have hg0 : ¬ 65 ≤ c := by omega
          go_wp2_with (at_builtin; refine wpList_append_own _ rfl _ _ 25 rfl w.heap.size 5 i0 (.int .u8 0) 1 1 Try.underlying25 hi hz0 hz1 hz2 rfl (by decide) _ k (B8u (lowL (s.data.toList.take k))) rfl (HR.out.own.alloc _) ⟨wr.heap.size, 0, none⟩ 1 1 [.int .u8 c] rfl rfl ?d1 ?d2 ?d3 ?d4 ?d5 ?_)
          case d2 => rfl
          case d3 => unfold maxLen; omega
          case d4 => omega
          case d5 => have := HR.out.below.size; simp; omega
          intro v' w1 hown' hgrow _
          have HN := Lib.hid (low_next HR.out HK.out HU.out hown' hgrow)
          clear hown' hgrow
          go_wp2
          go_roundw
          case rel => exact ⟨k + 1, by omega, by go_num, HN⟩
          case measure => simp [intOf]; omega
        · have hg0 : 65 ≤ c := by omega
          have hg1 : ¬ c ≤ 90 := by omega
          go_wp2_with (at_builtin; refine wpList_append_own _ rfl _ _ 25 rfl w.heap.size 5 i0 (.int .u8 0) 1 1 Try.underlying25 hi hz0 hz1 hz2 rfl (by decide) _ k (B8u (lowL (s.data.toList.take k))) rfl (HR.out.own.alloc _) ⟨wr.heap.size, 0, none⟩ 1 1 [.int .u8 c] rfl rfl ?e1 ?e2 ?e3 ?e4 ?e5 ?_)
          case e2 => rfl
          case e3 => unfold maxLen; omega
          case e4 => omega
          case e5 => have := HR.out.below.size; simp; omega
          intro v' w1 hown' hgrow _
          have HN := Lib.hid (low_next HR.out HK.out HU.out hown' hgrow)
          clear hown' hgrow
          go_wp2
          go_roundw
          case rel => exact ⟨k + 1, by omega, by go_num, HN⟩
          case measure => simp [intOf]; omega
    · obtain rfl : k = s.size := by omega
      have hst := own_string HR.out.own
      rw [List.take_of_length_le (by rw [HL.out]; exact Nat.le_refl _)] at hst
      obtain ⟨t, ht⟩ : ∃ t : ByteArray, t = lowS s := ⟨_, rfl⟩
      change Sem.run Try.prog _ wr = Result.ok (Value.string (lowS s)) wr at hst
      rw [← ht] at hst
      have HT := Lib.hid ht
      clear ht
      go_wp2
      go_ret
      exact ⟨by rw [← HT.out]; rfl, HR.out.below⟩

end Go.Proofs.Ytliajejgkinkjaa.refWords
