/-
  Given for the seat's laws: the contract of the law's Great. No condition but those of the theorem.
-/
import Derived.Test.YtkclhfoeimbikaaDoorKLow
namespace Go.Proofs.YtkclhfoeimbikaaDoor.hd
open Go.RowKit mem
set_option linter.unusedVariables false

def GreatTo (l : Str) (fs : Flds) (w : World) (e : Ending) (w' : World) : Prop := ∃ r, e = .returned (.bool r) ∧ (r = false → Small l fs) ∧ Below w.heap.size w w'
theorem great_yes {l : Str} {fs : Flds} {w w' : World} (hb : Below w.heap.size w w') : GreatTo l fs w (.returned (.bool true)) w' := ⟨true, rfl, (fun h => by cases h), hb⟩
theorem great_no {l : Str} {fs : Flds} {w w' : World} (h : Small l fs) (hb : Below w.heap.size w w') : GreatTo l fs w (.returned (.bool false)) w' := ⟨false, rfl, fun _ => h, hb⟩
set_option maxHeartbeats 4000000 in
set_option maxRecDepth 100000 in
theorem great_any {w : World} {ok : Nat → Prop} {A : Option Addr} {n c : Nat} {l : Str} {fs : Flds} (hf : FAt w ok A n c fs) (hok : ∀ g, ok g → g < w.heap.size) : Calls Tryd.prog 12 #[.agg #[.string (S l), .slice A n c]] w (GreatTo l fs w) := by
  have HN := Bx.mk hf.len
  have b0 : Below w.heap.size w (w.alloc (.cells #[.string (S l), .slice A n c] 25)) := (Below.refl _ _).alloc (Nat.le_refl _) _
  have HF := Bx.mk (hf.below b0 hok)
  have L := Lies.new w 25 #[.string (S l), .slice A n c]
  have HB := Bx.mk b0
  have z0 : (w.alloc (.cells #[.string (S l), .slice A n c] 25)).cell? ⟨w.heap.size, 0, none⟩ = some (.string (S l)) := L.cell 0
  have z1 : (w.alloc (.cells #[.string (S l), .slice A n c] 25)).cell? ⟨w.heap.size, 1, none⟩ = some (.slice A n c) := L.cell 1
  have hsz := S_size l
  clear hf hok b0 L
  go_enter Tryd.func12, Tryd.ntmps12
  go_upto_region 1 with fail
  generalize w.alloc (.cells #[.string (S l), .slice A n c] 25) = W0 at *
  by_cases h30 : 30 < n
  · have q : (30 : Int) < (n : Int) := by omega
    clear h30
    go_wp2_with fail
    exact bodyPost_ret (v := .bool true) (by simp [results, Tryd.results12, go_sem]) rfl (great_yes HB.out)
  have q : ¬ (30 : Int) < (n : Int) := by omega
  by_cases hl : 1000 < l.length
  · have q2 : (1000 : Int) < (l.length : Int) := by omega
    clear h30 hl
    go_wp2_with fail
    exact bodyPost_ret (v := .bool true) (by simp [results, Tryd.results12, go_sem]) rfl (great_yes HB.out)
  have q2 : ¬ (1000 : Int) < (l.length : Int) := by omega
  have HZ : Bx (l.length ≤ 1000) := ⟨by omega⟩
  have H0 : Bx (∀ p ∈ fs.take 0, p.1.length ≤ 1000 ∧ p.2.length ≤ 1000) := ⟨by simp⟩
  have hn : n ≤ 30 := by omega
  clear hl h30
  go_wp2_with fail
  clear hsz
  go_loopw [3] (fun s3 wr => ∃ i : Nat, i ≤ n ∧ s3 = .int .i64 (i : Int) ∧ wr = W0 ∧ Bx (∀ p ∈ fs.take i, p.1.length ≤ 1000 ∧ p.2.length ≤ 1000)) (fun s3 _ => n - (intOf s3).toNat)
  case atStart => exact ⟨0, by omega, rfl, rfl, H0⟩
  case round =>
    clear H0
    obtain ⟨i, hi, rfl, rfl, H⟩ := hrel
    by_cases hlt : i < n
    · obtain ⟨p, hp⟩ : ∃ p, fs[i]? = some p := ⟨_, List.getElem?_eq_getElem (by rw [HN.out]; exact hlt)⟩
      obtain ⟨g, off, rfl, hg, y0, y1⟩ := HF.out.at hp
      have i0 : (0 : Int) ≤ (i : Int) := by omega
      have i1 : (i : Int) < (n : Int) := by omega
      have s0 := S_size p.1
      have s1 := S_size p.2
      have HX : Bx (p.1.length ≤ 1000 → p.2.length ≤ 1000 → ∀ q ∈ fs.take (i + 1), q.1.length ≤ 1000 ∧ q.2.length ≤ 1000) := ⟨fun h1 h2 q hq => by
        rw [List.take_add_one, hp] at hq
        rcases List.mem_append.1 hq with h | h
        · exact H.out q h
        · simp at h
          subst h
          exact ⟨h1, h2⟩⟩
      clear hp hg
      by_cases a1 : 1000 < p.1.length
      · have r1 : (1000 : Int) < (p.1.length : Int) := by omega
        clear a1
        go_wp2_with fail
        exact bodyPost_ret (v := .bool true) (by simp [results, Tryd.results12, go_sem]) rfl (great_yes HB.out)
      · have r1 : ¬ (1000 : Int) < (p.1.length : Int) := by omega
        by_cases a2 : 1000 < p.2.length
        · have r2 : (1000 : Int) < (p.2.length : Int) := by omega
          clear a1 a2
          go_wp2_with fail
          exact bodyPost_ret (v := .bool true) (by simp [results, Tryd.results12, go_sem]) rfl (great_yes HB.out)
        · have r2 : ¬ (1000 : Int) < (p.2.length : Int) := by omega
          have HQ := Bx.mk (HX.out (by omega) (by omega))
          clear a1 a2
          go_wp2_with fail
          go_roundw
          case rel => exact ⟨i + 1, by omega, by go_num, by first | rfl | trivial, HQ⟩
          case measure => simp [intOf]; omega
    · obtain rfl : i = n := by omega
      have e : fs.take i = fs := List.take_of_length_le (by rw [HN.out]; exact Nat.le_refl _)
      rw [e] at H
      have HE : Bx (Small l fs) := ⟨⟨HZ.out, by rw [HN.out]; exact hn, H.out⟩⟩
      clear e H
      go_wp2_with fail
      exact bodyPost_ret (v := .bool false) (by simp [results, Tryd.results12, go_sem]) rfl (great_no HE.out HB.out)
end Go.Proofs.YtkclhfoeimbikaaDoor.hd
