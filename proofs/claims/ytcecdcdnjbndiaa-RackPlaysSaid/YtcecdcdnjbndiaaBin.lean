/-
  Given for the seat's laws: the contracts of the binary search and of the table's find. No condition but those of the theorems.
-/
import Derived.Test.YtcecdcdnjbndiaaFind
namespace Go.Proofs.Ytcecdcdnjbndiaa.find
open Go.RowKit mem
set_option linter.unusedVariables false

abbrev Sorted (l : List (Int × Int)) : Prop := l.Pairwise fun a b => a.1 < b.1

/-- where an id stands, or would stand -/
structure Finds (l : List (Int × Int)) (id : Int) (k : Nat) (u : Bool) : Prop where
  le : k ≤ l.length
  lo : ∀ (j : Nat) (x : Int × Int), j < k → l[j]? = some x → x.1 < id
  hi : ∀ (j : Nat) (x : Int × Int), k ≤ j → l[j]? = some x → id ≤ x.1
  used : u = true ↔ ∃ x, l[k]? = some x ∧ x.1 = id

theorem sorted_at {l : List (Int × Int)} (h : Sorted l) {i j : Nat} {x y : Int × Int} (hij : i < j) (hx : l[i]? = some x) (hy : l[j]? = some y) : x.1 < y.1 := by
  obtain ⟨hi, rfl⟩ := List.getElem?_eq_some_iff.1 hx
  obtain ⟨hj, rfl⟩ := List.getElem?_eq_some_iff.1 hy
  exact List.pairwise_iff_getElem.1 h i j hi hj hij

/-- what holds between two rounds of the search -/
structure BinInv (w W : World) (l : List (Int × Int)) (id : Int) (i j : Nat) : Prop where
  below : Below w.heap.size w W
  lo : ∀ (t : Nat) (x : Int × Int), t < i → l[t]? = some x → x.1 < id
  hi : ∀ (t : Nat) (x : Int × Int), j ≤ t → l[t]? = some x → id ≤ x.1

structure BinPost (w : World) (l : List (Int × Int)) (id : Int) (e : Ending) (w' : World) : Prop where
  ex : ∃ k u, e = .returned (.tuple #[.int .i64 ((k : Nat) : Int), .bool u]) ∧ Finds l id k u ∧ Below w.heap.size w w'

theorem cmpI_neg {a b : Int} : cmpI a b < 0 ↔ a < b := by unfold cmpI; split <;> (try split) <;> omega
theorem cmpI_zero {a b : Int} : cmpI a b = 0 ↔ a = b := by unfold cmpI; split <;> (try split) <;> omega

set_option maxRecDepth 100000 in
set_option maxHeartbeats 1000000 in
theorem bin_any {w : World} {A : Option Addr} {c : Nat} {l : List (Int × Int)} (h : RowsAt w A c l) (hs : Sorted l) (hl : l.length ≤ 1000) (id : Int) :
    Calls Try.prog 37 #[.slice A l.length c, .int .i64 id, .func (.func 38) #[] #[]] w (BinPost w l id) := by
  have HR := Lib.hid h
  have HS := Lib.hid hs
  clear h hs
  obtain ⟨n, hn⟩ : ∃ n, l.length = n := ⟨_, rfl⟩
  rw [hn] at hl ⊢
  have HN := Lib.hid hn
  clear hn
  have H0 : Hid (BinInv w w l id 0 n) := ⟨Below.refl _ _, fun t x ht => absurd ht (by omega), fun t x ht hx => by have := (List.getElem?_eq_some_iff.1 hx).1; rw [HN.out] at this; omega⟩
  go_enter Try.func37, Try.ntmps37
  go_wp2
  go_loopw [9, 10] (fun s9 s10 wr => ∃ i j : Nat, s9 = .int .i64 i ∧ s10 = .int .i64 j ∧ i ≤ j ∧ j ≤ n ∧ Hid (BinInv w wr l id i j)) (fun s9 s10 _ => (intOf s10).toNat - (intOf s9).toNat)
  case atStart => exact ⟨0, n, rfl, rfl, by omega, by omega, H0⟩
  case round =>
    clear H0
    obtain ⟨i, j, rfl, rfl, hij, hjn, hinv⟩ := hrel
    by_cases hlt : i < j
    · obtain ⟨g, rfl, hgl, hc⟩ := HR.out.cell (by rw [HN.out]; omega)
      obtain ⟨x, hx⟩ : ∃ x, l[(i + j) / 2]? = some x := ⟨_, List.getElem?_eq_getElem (by rw [HN.out]; omega)⟩
      obtain ⟨c1, c2⟩ := hc _ x hx
      have d1 : wr.cell? ⟨g, (i + j) / 2 * 2, none⟩ = some (.int .i64 x.1) := (hinv.out.below.cell (p := ⟨g, (i + j) / 2 * 2, none⟩) hgl).trans c1
      have d2 : wr.cell? ⟨g, (i + j) / 2 * 2 + 1, none⟩ = some (.int .i64 x.2) := (hinv.out.below.cell (p := ⟨g, (i + j) / 2 * 2 + 1, none⟩) hgl).trans c2
      have HX := Lib.hid hx
      clear c1 c2 hc hx
      obtain ⟨x1, x2⟩ := x
      dsimp only at d1 d2
      by_cases hyx : x1 < id
      · have hneg : cmpI x1 id < 0 := cmpI_neg.2 hyx
        go_wp2_with (go_at_call 38; refine (find1_any _ _ _ _).mono ?_; rintro e w' ⟨rfl, hb⟩)
        have HI : Hid (BinInv w w' l id ((i + j) / 2 + 1) j) := ⟨hinv.out.below.trans (hb.mono hinv.out.below.size), fun t x ht hx => by
          by_cases he : t = (i + j) / 2
          · subst he
            have := HX.out
            rw [hx] at this
            cases this
            exact hyx
          · have := sorted_at HS.out (show t < (i + j) / 2 by omega) hx HX.out
            dsimp only at this
            omega, hinv.out.hi⟩
        go_roundw
        case rel => exact ⟨(i + j) / 2 + 1, j, by go_num, rfl, by omega, hjn, HI⟩
        case measure => simp [intOf]; omega
      · have hneg : 0 ≤ cmpI x1 id := by have := mt cmpI_neg.1 hyx; omega
        go_wp2_with (go_at_call 38; refine (find1_any _ _ _ _).mono ?_; rintro e w' ⟨rfl, hb⟩)
        have HI : Hid (BinInv w w' l id i ((i + j) / 2)) := ⟨hinv.out.below.trans (hb.mono hinv.out.below.size), hinv.out.lo, fun t x ht hx => by
          by_cases he : t = (i + j) / 2
          · subst he
            have := HX.out
            rw [hx] at this
            cases this
            show id ≤ x1
            omega
          · have := sorted_at HS.out (show (i + j) / 2 < t by omega) HX.out hx
            dsimp only at this
            omega⟩
        go_roundw
        case rel => exact ⟨i, (i + j) / 2, rfl, by go_num, by omega, by omega, HI⟩
        case measure => simp [intOf]; omega
    · obtain rfl : i = j := by omega
      have HF : ∀ u, (u = true ↔ ∃ x, l[i]? = some x ∧ x.1 = id) → Finds l id i u := fun u hu => ⟨by rw [HN.out]; exact hjn, hinv.out.lo, hinv.out.hi, hu⟩
      have HFF := Lib.hid HF
      clear HF
      by_cases hin : i < n
      · obtain ⟨g, rfl, hgl, hc⟩ := HR.out.cell (by rw [HN.out]; omega)
        obtain ⟨x, hx⟩ : ∃ x, l[i]? = some x := ⟨_, List.getElem?_eq_getElem (by rw [HN.out]; omega)⟩
        obtain ⟨c1, c2⟩ := hc _ x hx
        have d1 : wr.cell? ⟨g, i * 2, none⟩ = some (.int .i64 x.1) := (hinv.out.below.cell (p := ⟨g, i * 2, none⟩) hgl).trans c1
        have d2 : wr.cell? ⟨g, i * 2 + 1, none⟩ = some (.int .i64 x.2) := (hinv.out.below.cell (p := ⟨g, i * 2 + 1, none⟩) hgl).trans c2
        have HX := Lib.hid hx
        clear c1 c2 hc hx
        obtain ⟨x1, x2⟩ := x
        dsimp only at d1 d2
        by_cases hyx : x1 = id
        · subst hyx
          have hz : (cmpI x1 x1 == 0) = true := by rw [cmpI_zero.2 rfl]; rfl
          go_wp2_with (go_at_call 38; refine (find1_any _ _ _ _).mono ?_; rintro e w' ⟨rfl, hb⟩)
          go_ret2
          exact ⟨i, true, rfl, HFF.out true (by simpa using ⟨x2, HX.out⟩), hinv.out.below.trans (hb.mono hinv.out.below.size)⟩
        · have hz : (cmpI x1 id == 0) = false := by have := mt cmpI_zero.1 hyx; simpa using this
          go_wp2_with (go_at_call 38; refine (find1_any _ _ _ _).mono ?_; rintro e w' ⟨rfl, hb⟩)
          go_ret2
          exact ⟨i, false, rfl, HFF.out false (by
            constructor
            · intro e; cases e
            · rintro ⟨x, hx, hxi⟩
              have := HX.out
              rw [hx] at this
              cases this
              exact absurd hxi hyx), hinv.out.below.trans (hb.mono hinv.out.below.size)⟩
      · go_wp2
        go_ret2
        exact ⟨i, false, rfl, HFF.out false (by
            constructor
            · intro e; cases e
            · rintro ⟨x, hx, hxi⟩
              have := (List.getElem?_eq_some_iff.1 hx).1
              rw [HN.out] at this
              omega), hinv.out.below⟩

set_option maxHeartbeats 400000 in
theorem find_any {w : World} {r : Nat} {A : Option Addr} {c : Nat} {l : List (Int × Int)} (hc : w.cell? ⟨r, 2, none⟩ = some (.slice A l.length c)) (h : RowsAt w A c l) (hs : Sorted l) (hl : l.length ≤ 1000) (id : Int) :
    Calls Try.prog 31 #[.pointer (some ⟨r, 1, none⟩), .int .i64 id] w (BinPost w l id) := by
  have HB := Lib.hid (bin_any h hs hl id)
  clear h hs
  go_enter Try.func31, Try.ntmps31
  go_wp2_with (go_at_call 37; refine HB.out.mono ?_; rintro e w' ⟨k, u, rfl, hf, hb⟩)
  go_ret2
  exact ⟨k, u, rfl, hf, hb⟩

end Go.Proofs.Ytcecdcdnjbndiaa.find
