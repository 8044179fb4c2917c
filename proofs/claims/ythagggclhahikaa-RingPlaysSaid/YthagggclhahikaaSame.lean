/-
  Given for the seat's laws: the contracts of the document's Same and Copy. No condition but those of the theorems.
-/
import Derived.Test.YthagggclhahikaaPeek
import Derived.Deep.QuietTactic
import Derived.BigQuiet
namespace Go.Proofs.Ythagggclhahikaa.same
open Go.RowKit mem ring plain put peek
set_option linter.unusedVariables false

/-- nothing has turned but draws -/
def Still (w w' : World) : Prop := ∃ m, w' = w.drewN m
theorem Still.refl (w : World) : Still w w := ⟨0, rfl⟩
theorem Still.heap {w w' : World} (h : Still w w') : w'.heap = w.heap := by obtain ⟨m, rfl⟩ := h; rfl
theorem Still.below {w w' : World} (h : Still w w') (B : Nat) : Below B w w' := by
  obtain ⟨m, rfl⟩ := h
  exact ⟨rfl, rfl, rfl, Nat.le_refl _, fun _ _ => rfl⟩
theorem Still.trans {a b c : World} (h : Still a b) (k : Still b c) : Still a c := by
  obtain ⟨m, rfl⟩ := h
  obtain ⟨n, rfl⟩ := k
  exact ⟨m + n, by simp [World.drewN, Nat.add_assoc]⟩

def sameB (xs ys : List Int) : Bool := decide (xs = ys)
theorem sameB_refl (xs : List Int) : sameB xs xs = true := by simp [sameB]

set_option maxHeartbeats 1000000 in
theorem same_any (w : World) (okA okB : Nat → Prop) (A B : Option Addr) (la ca lb cb : Nat) (xs ys : List Int) (hla : xs.length = la) (hlb : ys.length = lb) (hm : la ≤ maxLen)
    (hA : BytesAt w okA A xs) (hB : BytesAt w okB B ys) :
    Calls Try.prog 14 #[.slice A la ca, .slice B lb cb] w fun e w' => e = .returned (.bool (sameB xs ys)) ∧ Still w w' := by
  unfold maxLen at hm
  by_cases hl : la = lb
  · subst hl
    have HLA := Lib.hid hla
    have HLB := Lib.hid hlb
    have HA := Lib.hid hA
    have HB := Lib.hid hB
    clear hla hlb hA hB
    go_enter Try.func14, Try.ntmps14
    go_wp2
    go_loopw [5] (fun i wr => ∃ k : Nat, k ≤ la ∧ i = .int .i64 k ∧ Hid (∀ j, j < k → xs[j]? = ys[j]?) ∧ Still w wr) (fun i _ => la - (intOf i).toNat)
    case atStart => exact ⟨0, Nat.zero_le _, rfl, fun j hj => absurd hj (by omega), Still.refl _⟩
    case round =>
      obtain ⟨k, hk, rfl, hbelow, hst⟩ := hrel
      have HST := Lib.hid hst
      clear hst
      by_cases hlt : k < la
      · obtain ⟨g, off, rfl, _, hc⟩ := HA.out (by rw [HLA.out]; omega)
        obtain ⟨g', off', rfl, _, hc'⟩ := HB.out (by rw [HLB.out]; omega)
        obtain ⟨x, hx⟩ : ∃ x, xs[k]? = some x := ⟨_, List.getElem?_eq_getElem (by rw [HLA.out]; exact hlt)⟩
        obtain ⟨y, hy⟩ : ∃ y, ys[k]? = some y := ⟨_, List.getElem?_eq_getElem (by rw [HLB.out]; exact hlt)⟩
        have c1 : wr.cell? ⟨g, off + k, none⟩ = some (.int .u8 x) := (World.cell?_of_block (by rw [HST.out.heap])).trans (hc k x hx)
        have c2 : wr.cell? ⟨g', off' + k, none⟩ = some (.int .u8 y) := (World.cell?_of_block (by rw [HST.out.heap])).trans (hc' k y hy)
        have HX := Lib.hid hx
        have HY := Lib.hid hy
        clear hx hy hc hc'
        have hlt2 : (k : Int) < (la : Int) := by omega
        have hk0 : (0 : Int) ≤ (k : Int) := by omega
        by_cases hxy : x = y
        · subst hxy
          go_wp2
          go_quiet (fail)
          go_wp2
          go_roundw
          case rel =>
            refine ⟨k + 1, by omega, by go_num, fun j hj => ?_, HST.out.trans ⟨_, rfl⟩⟩
            by_cases hjk : j = k
            · subst hjk
              rw [HX.out, HY.out]
            · exact hbelow.out j (by omega)
          case measure => simp [intOf]; omega
        · have hne : (x == y) = false := by simpa using hxy
          have hne' : (x != y) = true := by simpa using hxy
          have HF : sameB xs ys = false := by
            unfold sameB
            rw [decide_eq_false_iff_not]
            rintro rfl
            exact hxy (Option.some.inj (HX.out.symm.trans HY.out))
          have HFF := Lib.hid HF
          clear HF hxy
          go_wp2
          go_quiet (fail)
          go_wp2
          go_ret
          exact ⟨by rw [HFF.out]; rfl, HST.out.trans ⟨_, rfl⟩⟩
      · obtain rfl : k = la := by omega
        go_wp2
        go_ret
        have HF : sameB xs ys = true := by
          unfold sameB
          rw [decide_eq_true_iff]
          apply List.ext_getElem?
          intro j
          by_cases hj : j < k
          · exact hbelow.out j hj
          · rw [List.getElem?_eq_none (by rw [HLA.out]; omega), List.getElem?_eq_none (by rw [HLB.out]; omega)]
        exact ⟨by rw [HF]; rfl, HST.out⟩
  · have HF : sameB xs ys = false := by
      unfold sameB
      rw [decide_eq_false_iff_not]
      rintro rfl
      exact hl (hla.symm.trans hlb)
    have HFF := Lib.hid HF
    have h1 : ((la : Int) == (lb : Int)) = false := by simp; omega
    have h2 : ((la : Int) != (lb : Int)) = true := by simp; omega
    have h3 : (la == lb) = false := by simpa using hl
    clear HF hl hla hlb hA hB
    go_enter Try.func14, Try.ntmps14
    go_wp2
    go_ret
    exact ⟨by rw [HFF.out]; rfl, Still.refl _⟩

end Go.Proofs.Ythagggclhahikaa.same
