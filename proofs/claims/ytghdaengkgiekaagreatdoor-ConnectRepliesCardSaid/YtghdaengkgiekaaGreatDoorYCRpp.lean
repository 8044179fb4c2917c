/-
  Given for the seat's laws: what is told of each code, plain. No condition but those of the theorems.
-/
import Derived.Test.YtghdaengkgiekaaGreatDoorYCRpw
namespace Go.Proofs.YtghdaengkgiekaaGreatDoor.cn
open Go.RowKit mem hd
set_option linter.unusedVariables false

def kC : Str := [99, 111, 110, 116, 101, 110, 116, 45, 108, 101, 110, 103, 116, 104]
def kP : Str := [112, 114, 111, 120, 121, 45, 97, 117, 116, 104, 101, 110, 116, 105, 99, 97, 116, 101]
def kA : Str := [97, 108, 108, 111, 119]
theorem nm3 {n : Nat} (h : 100 ≤ n) (h2 : n < 1000) : hostp.nm 10 n = [hostp.dg (n / 10 / 10), hostp.dg (n / 10 % 10), hostp.dg (n % 10)] := by
  rw [hostp.nm_step (by omega) (by omega), hostp.nm_step (by omega) (by omega), hostp.nm_small (by omega)]
  rfl
def rl (c : Nat) : Str := H9 ++ [hostp.dg ((rsn c).1 / 10 / 10), hostp.dg ((rsn c).1 / 10 % 10), hostp.dg ((rsn c).1 % 10)] ++ [32] ++ (rsn c).2
def chk (l : Str) (fs : Flds) (st : Nat) (z : Bool) : Bool :=
  decide (take (pr l fs) = (l, lowF fs, (pr l fs).length, 0)) && (decide ((pr l fs).length ≤ 512) && (decide (stat l = some st) && ((decide (200 ≤ st) && decide (st < 300)) == z && (decide (200 ≤ st) && (decide ((vals (lowF fs) kC).length = 0) == z && (decide ((vals (lowF fs) kP).length = 1) == decide (st = 407) && (decide ((vals (lowF fs) kA).length = 1) == decide (st = 405) && (decide (l.length ≤ 100) && (decide (fs.length ≤ 3) && fs.all fun p => decide (p.1.length ≤ 100) && decide (p.2.length ≤ 100))))))))))
theorem chk_all : ∀ c, c < 15 → chk (rl c) (rflds c) (rsn c).1 (decide (c = 0)) = true := by decide +kernel
theorem st_all : ∀ c, c < 15 → 100 ≤ (rsn c).1 ∧ (rsn c).1 < 1000 := by decide +kernel
theorem cut15 (c : Nat) : ∃ k, k < 15 ∧ rsn c = rsn k ∧ rflds c = rflds k ∧ (c = 0 ↔ k = 0) := by
  by_cases h : c < 15
  · exact ⟨c, h, rfl, rfl, Iff.rfl⟩
  · refine ⟨14, by omega, ?_, ?_, by omega⟩
    · unfold rsn
      rw [List.getElem?_eq_none (by simp [rs]; omega)]
      rfl
    · unfold rflds
      rw [if_neg (by omega), if_neg (by omega), if_neg (by omega)]
      rfl
structure RF (c : Nat) : Prop where
  pts : prints (rline c) (rflds c)
  len : (pr (rline c) (rflds c)).length ≤ 512
  sm : Small (rline c) (rflds c)
  st : stat (rline c) = some (rsn c).1
  ge : 200 ≤ (rsn c).1
  ok : (decide (200 ≤ (rsn c).1) && decide ((rsn c).1 < 300)) = decide (c = 0)
  v1 : decide ((vals (lowF (rflds c)) kC).length = 0) = decide (c = 0)
  v2 : decide ((vals (lowF (rflds c)) kP).length = 1) = decide ((rsn c).1 = 407)
  v3 : decide ((vals (lowF (rflds c)) kA).length = 1) = decide ((rsn c).1 = 405)
theorem rf (c : Nat) : RF c := by
  obtain ⟨k, hk, e1, e2, e3⟩ := cut15 c
  have e0 : rline c = rl k := by
    obtain ⟨h1, h2⟩ := st_all k hk
    unfold rline rl
    rw [e1, nm3 h1 h2]
  have ez : decide (c = 0) = decide (k = 0) := by
    by_cases h : c = 0
    · rw [decide_eq_true h, decide_eq_true (e3.1 h)]
    · rw [decide_eq_false h, decide_eq_false (fun h' => h (e3.2 h'))]
  have h := chk_all k hk
  unfold chk at h
  simp only [Bool.and_eq_true, decide_eq_true_eq, beq_iff_eq, List.all_eq_true] at h
  obtain ⟨a1, a2, a3, a4, a5, a6, a7, a8, a9, a10, a11⟩ := h
  constructor
  · rw [e0, e2]; exact a1
  · rw [e0, e2]; exact a2
  · rw [e0, e2]; exact ⟨by omega, by omega, fun p hp => by have := a11 p hp; omega⟩
  · rw [e0, e1]; exact a3
  · rw [e1]; exact a5
  · rw [e1, ez]; exact a4
  · rw [e2, ez]; exact a6
  · rw [e1, e2]; exact a7
  · rw [e1, e2]; exact a8
theorem rtake_pr (c : Nat) (m : Str) : rtake (pr (rline c) (rflds c) ++ m) = ((rsn c).1, (pr (rline c) (rflds c)).length, 0) := by
  have h := rf c
  have h2 := (prints_iff _ _).1 h.pts
  unfold rtake
  rw [take_pr h2.1 h2.2 m]
  dsimp only
  rw [if_neg (by simp), h.st]
end Go.Proofs.YtghdaengkgiekaaGreatDoor.cn
