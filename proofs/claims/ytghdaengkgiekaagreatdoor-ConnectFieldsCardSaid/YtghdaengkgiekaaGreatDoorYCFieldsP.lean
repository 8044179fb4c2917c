/-
  Given for the seat's laws: ConnectFields at any ask, name and value. No condition but those of the theorems.
-/
import Derived.Test.YtghdaengkgiekaaGreatDoorYCMethod
namespace Go.Proofs.YtghdaengkgiekaaGreatDoor.cn
open Go.RowKit mem hd
set_option linter.unusedVariables false

theorem pr_one (p : Str × Str) : (pr [120] [p]).drop 3 = prF p ++ [13, 10] := by
  unfold pr
  simp
theorem pr_two (l : Str) (fs : Flds) (p : Str × Str) : (pr l fs).take ((pr l fs).length - 2) ++ (pr [120] [p]).drop 3 = pr l (fs ++ [p]) := by
  rw [pr_one]
  have e : pr l fs = (l ++ [13, 10] ++ fs.flatMap prF) ++ [13, 10] := rfl
  have h : (pr l fs).take ((pr l fs).length - 2) = l ++ [13, 10] ++ fs.flatMap prF := by
    rw [e, List.length_append]
    exact List.take_left' (by simp)
  rw [h]
  unfold pr
  simp
theorem vs_snoc (fs : Flds) (p : Str × Str) (n : Str) : vs (lowF (fs ++ [p])) n = vs (lowF fs) n ++ (if low p.1 = low n then [p.2] else []) := by
  unfold vs vals lowF
  by_cases h : low p.1 = low n <;> simp [h]
structure VsP (a : A) : Prop where
  host : (vs (lowF (fldsOf a)) sHost).length = 1
  sign : vs (lowF (fldsOf a)) sSign = if a.sg then [signOf a] else []
  hops : vs (lowF (fldsOf a)) sHops = if a.hp then [a.tk] else []
  size : vs (lowF (fldsOf a)) sSize = []
  coded : vs (lowF (fldsOf a)) sCoded = []
theorem vsP (a : A) : VsP a := by
  have hd : low sHost ≠ low sSign ∧ low sHost ≠ low sHops ∧ low sHost ≠ low sSize ∧ low sHost ≠ low sCoded ∧ low sSign ≠ low sHost ∧ low sSign ≠ low sHops ∧ low sSign ≠ low sSize ∧ low sSign ≠ low sCoded ∧ low sHops ≠ low sHost ∧ low sHops ≠ low sSign ∧ low sHops ≠ low sSize ∧ low sHops ≠ low sCoded := by decide
  obtain ⟨d1, d2, d3, d4, d5, d6, d7, d8, d9, d10, d11, d12⟩ := hd
  constructor
  all_goals
    unfold fldsOf
    cases a.sg <;> cases a.hp <;> simp [vs_cons, vs_nil, d1, d2, d3, d4, d5, d6, d7, d8, d9, d10, d11, d12]
theorem asked_more {a : A} (hm : mayA a = true) (p : Str × Str) :
    (low p.1 = low sHost → asked (lineOf a) (lowF (fldsOf a ++ [p])) = (zero, 6)) ∧ (low p.1 = low sSize ∨ low p.1 = low sCoded → asked (lineOf a) (lowF (fldsOf a ++ [p])) = (zero, 6)) ∧
    (low p.1 = low sSign → a.sg = true → asked (lineOf a) (lowF (fldsOf a ++ [p])) = (zero, 6)) ∧ (low p.1 = low sHops → a.hp = true → asked (lineOf a) (lowF (fldsOf a ++ [p])) = (zero, 6)) ∧
    (low p.1 = low sSign → a.sg = false → (asked (lineOf a) (lowF (fldsOf a ++ [p]))).2 = 0) ∧ (low p.1 = low sHops → a.hp = false → (asked (lineOf a) (lowF (fldsOf a ++ [p]))).2 = 0) ∧
    (low p.1 ≠ low sHost → low p.1 ≠ low sSize → low p.1 ≠ low sCoded → low p.1 ≠ low sSign → low p.1 ≠ low sHops → asked (lineOf a) (lowF (fldsOf a ++ [p])) = (a, 0)) := by
  have hm1 := hm
  unfold mayA at hm1
  simp only [Bool.and_eq_true] at hm1
  have ht := tgt_line hm1.1.1.1
  have V := vsP a
  have hok := asked_ok (fs := lowF (fldsOf a ++ [p])) ht
  have h0 := asked_ok (fs := lowF (fldsOf a)) ht
  rw [asked_print hm] at h0
  simp only [vs_snoc] at hok
  have hd : low sHost ≠ low sSign ∧ low sHost ≠ low sHops ∧ low sHost ≠ low sSize ∧ low sHost ≠ low sCoded ∧ low sSign ≠ low sHost ∧ low sSign ≠ low sHops ∧ low sSign ≠ low sSize ∧ low sSign ≠ low sCoded ∧ low sHops ≠ low sHost ∧ low sHops ≠ low sSign ∧ low sHops ≠ low sSize ∧ low sHops ≠ low sCoded := by decide
  obtain ⟨d1, d2, d3, d4, d5, d6, d7, d8, d9, d10, d11, d12⟩ := hd
  refine ⟨fun h => ?_, fun h => ?_, fun h hs => ?_, fun h hs => ?_, fun h hs => ?_, fun h hs => ?_, fun e1 e2 e3 e4 e5 => ?_⟩
  · rw [hok, if_pos (.inl (by rw [if_pos h, List.length_append, V.host]; simp))]
  · rw [hok, if_pos (.inr (.inr (.inr (by
      rcases h with h | h
      · rw [if_pos h]; simp; omega
      · rw [if_pos h]; simp; omega))))]
  · rw [hok, if_pos (.inr (.inl (by rw [if_pos h, V.sign, hs]; simp)))]
  · rw [hok, if_pos (.inr (.inr (.inl (by rw [if_pos h, V.hops, hs]; simp))))]
  · rw [hok, if_neg]
    rw [h, if_neg d5, if_pos rfl, if_neg d6, if_neg d7, if_neg d8, V.sign, hs, V.hops, V.size, V.coded, List.append_nil, V.host]
    cases a.hp <;> simp
  · rw [hok, if_neg]
    rw [h, if_neg d9, if_neg d10, if_pos rfl, if_neg d11, if_neg d12, V.sign, V.hops, hs, V.size, V.coded, List.append_nil, V.host]
    cases a.sg <;> simp
  · rw [hok, if_neg e1, if_neg e2, if_neg e3, if_neg e4, if_neg e5]
    simp only [List.append_nil]
    exact h0.symm
theorem ctake_more {a : A} (hm : mayA a = true) (hp : prints (lineOf a) (fldsOf a)) {p : Str × Str} (hq : prints [120] [p]) (hlen : (pr (lineOf a) (fldsOf a)).length + (pr [120] [p]).length - 5 ≤ 512) :
    ctake (pr (lineOf a) (fldsOf a ++ [p])) = match asked (lineOf a) (lowF (fldsOf a ++ [p])) with
      | (x, f) => if f ≠ 0 then (zero, 0, f) else (x, (pr (lineOf a) (fldsOf a ++ [p])).length, 0) := by
  have h := (prints_iff _ _).1 hp
  have h' := (prints_iff _ _).1 hq
  have hok : Ok (lineOf a) (fldsOf a ++ [p]) := by
    refine ⟨h.1.line, ?_, fun x hx => ?_⟩
    · have : (fldsOf a).length ≤ 3 := by unfold fldsOf; cases a.sg <;> cases a.hp <;> simp
      rw [List.length_append]
      show _ + 1 ≤ _
      omega
    · rcases List.mem_append.1 hx with hx | hx
      · exact h.1.flds x hx
      · exact h'.1.flds x hx
  have hle : (pr (lineOf a) (fldsOf a ++ [p])).length ≤ 512 := by
    have e := congrArg List.length (pr_two (lineOf a) (fldsOf a) p)
    have h3 : 3 ≤ (pr [120] [p]).length := by unfold pr; simp
    have h2 := pr_ge a (fldsOf a)
    rw [List.length_append, List.length_take, List.length_drop] at e
    omega
  have ht := take_pr hok hle []
  rw [List.append_nil] at ht
  rw [show ctake (pr (lineOf a) (fldsOf a ++ [p])) = _ from by unfold ctake; rw [ht]]
  dsimp only
  rw [if_neg (by simp)]
def lH : Str := [104, 111, 115, 116]
def lC : Str := [99, 111, 110, 116, 101, 110, 116, 45, 108, 101, 110, 103, 116, 104]
def lT : Str := [116, 114, 97, 110, 115, 102, 101, 114, 45, 101, 110, 99, 111, 100, 105, 110, 103]
def lP : Str := [112, 114, 111, 120, 121, 45, 97, 117, 116, 104, 111, 114, 105, 122, 97, 116, 105, 111, 110]
def lO : Str := [104, 111, 112, 45, 116, 111, 107, 101, 110]
theorem lows : low sHost = lH ∧ low sSize = lC ∧ low sCoded = lT ∧ low sSign = lP ∧ low sHops = lO := by decide
abbrev is (x : Str) (k : Str) (b : Bool) : Prop := ((S x).toList == k) = b
theorem is_t {x k : Str} (h : x = k) : is x k true := by unfold is; rw [S_toList, h]; simp
theorem is_f {x k : Str} (h : x ≠ k) : is x k false := by unfold is; rw [S_toList]; exact beq_eq_false_iff_ne.2 h
/-- how the law's last tests come out -/
theorem ways {a : A} (hm : mayA a = true) (hp : prints (lineOf a) (fldsOf a)) {p : Str × Str} (hq : prints [120] [p]) (hlen : (pr (lineOf a) (fldsOf a)).length + (pr [120] [p]).length - 5 ≤ 512) :
    (ctake (pr (lineOf a) (fldsOf a ++ [p])) = (zero, 0, 6) ∧ (is (low p.1) lH true ∨ (is (low p.1) lH false ∧ is (low p.1) lC true) ∨ (is (low p.1) lH false ∧ is (low p.1) lC false ∧ is (low p.1) lT true) ∨ (is (low p.1) lH false ∧ is (low p.1) lC false ∧ is (low p.1) lT false ∧ is (low p.1) lP true ∧ a.sg = true) ∨ (is (low p.1) lH false ∧ is (low p.1) lC false ∧ is (low p.1) lT false ∧ is (low p.1) lP false ∧ is (low p.1) lO true ∧ a.hp = true))) ∨
    (∃ x n, ctake (pr (lineOf a) (fldsOf a ++ [p])) = (x, n, 0) ∧ ((is (low p.1) lH false ∧ is (low p.1) lC false ∧ is (low p.1) lT false ∧ is (low p.1) lP true ∧ a.sg = false ∧ is (low p.1) lO false) ∨ (is (low p.1) lH false ∧ is (low p.1) lC false ∧ is (low p.1) lT false ∧ is (low p.1) lP false ∧ is (low p.1) lO true ∧ a.hp = false))) ∨
    (ctake (pr (lineOf a) (fldsOf a ++ [p])) = (a, (pr (lineOf a) (fldsOf a ++ [p])).length, 0) ∧ is (low p.1) lH false ∧ is (low p.1) lC false ∧ is (low p.1) lT false ∧ is (low p.1) lP false ∧ is (low p.1) lO false) := by
  obtain ⟨m1, m2, m3, m4, m5, m6, m7⟩ := asked_more hm p
  obtain ⟨l1, l2, l3, l4, l5⟩ := lows
  have hc := ctake_more hm hp hq hlen
  rw [l1] at m1 m7
  rw [l2, l3] at m2 m7
  rw [l4] at m3 m5 m7
  rw [l5] at m4 m6 m7
  have n1 : lP ≠ lO := by decide
  have bad : asked (lineOf a) (lowF (fldsOf a ++ [p])) = (zero, 6) → ctake (pr (lineOf a) (fldsOf a ++ [p])) = (zero, 0, 6) := fun h => by rw [hc, h]; rfl
  have ok : (asked (lineOf a) (lowF (fldsOf a ++ [p]))).2 = 0 → ∃ x n, ctake (pr (lineOf a) (fldsOf a ++ [p])) = (x, n, 0) := fun h => by
    obtain ⟨x, f, hx⟩ : ∃ x f, asked (lineOf a) (lowF (fldsOf a ++ [p])) = (x, f) := ⟨_, _, rfl⟩
    rw [hx] at h
    have h' : f = 0 := h
    subst h'
    rw [hc, hx]
    exact ⟨_, _, rfl⟩
  by_cases e1 : low p.1 = lH
  · exact .inl ⟨bad (m1 e1), .inl (is_t e1)⟩
  by_cases e2 : low p.1 = lC
  · exact .inl ⟨bad (m2 (.inl e2)), .inr (.inl ⟨is_f e1, is_t e2⟩)⟩
  by_cases e3 : low p.1 = lT
  · exact .inl ⟨bad (m2 (.inr e3)), .inr (.inr (.inl ⟨is_f e1, is_f e2, is_t e3⟩))⟩
  by_cases e4 : low p.1 = lP
  · cases hs : a.sg with
    | true => exact .inl ⟨bad (m3 e4 hs), .inr (.inr (.inr (.inl ⟨is_f e1, is_f e2, is_f e3, is_t e4, rfl⟩)))⟩
    | false =>
      obtain ⟨x, n, h⟩ := ok (m5 e4 hs)
      exact .inr (.inl ⟨x, n, h, .inl ⟨is_f e1, is_f e2, is_f e3, is_t e4, rfl, is_f (by rw [e4]; exact n1)⟩⟩)
  by_cases e5 : low p.1 = lO
  · cases hs : a.hp with
    | true => exact .inl ⟨bad (m4 e5 hs), .inr (.inr (.inr (.inr ⟨is_f e1, is_f e2, is_f e3, is_f e4, is_t e5, rfl⟩)))⟩
    | false =>
      obtain ⟨x, n, h⟩ := ok (m6 e5 hs)
      exact .inr (.inl ⟨x, n, h, .inr ⟨is_f e1, is_f e2, is_f e3, is_f e4, is_t e5, rfl⟩⟩)
  · refine .inr (.inr ⟨?_, is_f e1, is_f e2, is_f e3, is_f e4, is_f e5⟩)
    rw [hc, m7 e1 e2 e3 e4 e5]
    rfl
end Go.Proofs.YtghdaengkgiekaaGreatDoor.cn
