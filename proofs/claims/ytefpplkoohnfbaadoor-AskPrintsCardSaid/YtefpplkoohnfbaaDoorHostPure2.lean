/-
  Given for the seat's laws: groups, addresses, names, hosts and targets as plain lists of bytes; what is written is read as it was. No program, no memory.
-/
import Derived.Test.YtefpplkoohnfbaaDoorHostPure
namespace Go.Proofs.YtefpplkoohnfbaaDoor.hostp
set_option linter.unusedVariables false

theorem vl_mem {b : Nat} : ∀ {x : Str} {a v : Nat}, vl b x a = some v → ∀ c ∈ x, ∃ d, dv c = some d ∧ d < b
  | [], _, _, _, c, hc => by simp at hc
  | e :: x, a, v, h, c, hc => by
    rw [vl_cons] at h
    cases he : dv e with
    | none => rw [he] at h; cases h
    | some d =>
      rw [he] at h
      dsimp only at h
      split at h
      · rename_i hd
        rcases List.mem_cons.1 hc with rfl | hc
        · exact ⟨d, he, hd⟩
        · exact vl_mem h c hc
      · cases h
theorem vl_lt {b : Nat} : ∀ {x : Str} {a v : Nat}, vl b x a = some v → v < (a + 1) * b ^ x.length
  | [], a, v, h => by
    cases h
    simp
  | e :: x, a, v, h => by
    rw [vl_cons] at h
    cases he : dv e with
    | none => rw [he] at h; cases h
    | some d =>
      rw [he] at h
      dsimp only at h
      split at h
      · rename_i hd
        have h1 := vl_lt h
        have h2 : a * b + d + 1 ≤ (a + 1) * b := by rw [Nat.add_mul]; omega
        have h3 : (a * b + d + 1) * b ^ x.length ≤ (a + 1) * b * b ^ x.length := Nat.mul_le_mul_right _ h2
        rw [List.length_cons, Nat.pow_succ, Nat.mul_comm (b ^ x.length) b, ← Nat.mul_assoc]
        omega
      · cases h
theorem dv_58 : dv 58 = none := by decide
theorem dv_46 : dv 46 = none := by decide

/-! ### groups -/
def grp (s : Str) : Option Nat := if s ≠ [] ∧ s.length ≤ 4 then vl 16 s 0 else none
def grps : List Str → Option (List Nat)
  | [] => some []
  | x :: r => match grp x with
    | none => none
    | some v => match grps r with
      | none => none
      | some t => some (v :: t)
def groups (s : Str) : Option (List Nat) := if s = [] then some [] else grps (cut 58 s)
theorem grp_some {x : Str} {v : Nat} (h : grp x = some v) : x ≠ [] ∧ (58 : UInt8) ∉ x ∧ v < 65536 := by
  unfold grp at h
  split at h
  · rename_i hx
    refine ⟨hx.1, fun h58 => ?_, ?_⟩
    · obtain ⟨d, hd, _⟩ := vl_mem h 58 h58
      rw [dv_58] at hd
      cases hd
    · have h1 := vl_lt h
      have h2 : (16 : Nat) ^ x.length ≤ 16 ^ 4 := Nat.pow_le_pow_right (by omega) hx.2
      simp at h1
      omega
  · cases h
theorem grp_nm {v : Nat} (h : v < 65536) : grp (nm 16 v) = some v := by
  unfold grp
  rw [if_pos ⟨nm_ne (by omega) v, nm_len (by omega) 3 v (by omega)⟩]
  exact vl_nm (by omega) (by omega) v
/-- texts that are those groups' -/
def AllGrp : List Str → List Nat → Prop
  | [], [] => True
  | x :: l, v :: g => grp x = some v ∧ AllGrp l g
  | _, _ => False
theorem AllGrp.len : ∀ {l : List Str} {g : List Nat}, AllGrp l g → l.length = g.length
  | [], [], _ => rfl
  | x :: l, v :: g, h => by simp [AllGrp.len h.2]
  | [], v :: g, h => h.elim
  | x :: l, [], h => h.elim
theorem AllGrp.piece : ∀ {l : List Str} {g : List Nat}, AllGrp l g → ∀ x ∈ l, (58 : UInt8) ∉ x ∧ x ≠ []
  | [], [], _, x, hx => by simp at hx
  | y :: l, v :: g, h, x, hx => by
    rcases List.mem_cons.1 hx with rfl | hx
    · exact ⟨(grp_some h.1).2.1, (grp_some h.1).1⟩
    · exact AllGrp.piece h.2 x hx
  | [], v :: g, h, _, _ => h.elim
  | y :: l, [], h, _, _ => h.elim
theorem AllGrp.small : ∀ {l : List Str} {g : List Nat}, AllGrp l g → ∀ v ∈ g, v < 65536
  | [], [], _, x, hx => by simp at hx
  | y :: l, v :: g, h, x, hx => by
    rcases List.mem_cons.1 hx with rfl | hx
    · exact (grp_some h.1).2.2
    · exact AllGrp.small h.2 x hx
  | [], v :: g, h, _, _ => h.elim
  | y :: l, [], h, _, _ => h.elim
theorem grps_iff : ∀ {l : List Str} {g : List Nat}, grps l = some g ↔ AllGrp l g
  | [], [] => by simp [grps, AllGrp]
  | [], v :: g => by simp [grps, AllGrp]
  | x :: l, [] => by
    unfold grps
    cases grp x with
    | none => simp [AllGrp]
    | some v => cases grps l <;> simp [AllGrp]
  | x :: l, v :: g => by
    unfold grps
    cases hx : grp x with
    | none => simp [AllGrp, hx]
    | some u =>
      cases hl : grps l with
      | none =>
        have : ¬ AllGrp l g := fun e => by
          have := grps_iff.2 e
          rw [hl] at this
          cases this
        simp [AllGrp, this]
      | some t =>
        have := grps_iff (l := l) (g := g)
        rw [hl] at this
        simp only [AllGrp, hx, Option.some.injEq, List.cons.injEq] at this ⊢
        rw [this]
theorem AllGrp.nm : ∀ {g : List Nat}, (∀ v ∈ g, v < 65536) → AllGrp (g.map (nm 16)) g
  | [], _ => trivial
  | v :: g, h => ⟨grp_nm (h v (by simp)), AllGrp.nm (fun u hu => h u (by simp [hu]))⟩
theorem AllGrp.take : ∀ {l : List Str} {g : List Nat} (k : Nat), AllGrp l g → AllGrp (l.take k) (g.take k)
  | _, _, 0, _ => by simp [AllGrp]
  | [], [], k + 1, _ => by simp [AllGrp]
  | x :: l, v :: g, k + 1, h => ⟨h.1, AllGrp.take k h.2⟩
  | [], v :: g, k + 1, h => h.elim
  | x :: l, [], k + 1, h => h.elim
theorem AllGrp.drop : ∀ {l : List Str} {g : List Nat} (k : Nat), AllGrp l g → AllGrp (l.drop k) (g.drop k)
  | _, _, 0, h => by simpa using h
  | [], [], k + 1, _ => by simp [AllGrp]
  | x :: l, v :: g, k + 1, h => AllGrp.drop k h.2
  | [], v :: g, k + 1, h => h.elim
  | x :: l, [], k + 1, h => h.elim
theorem join_ne {a : UInt8} {l : List Str} (hl : l ≠ []) (h : ∀ x ∈ l, x ≠ []) : join a l ≠ [] := by
  cases l with
  | nil => exact absurd rfl hl
  | cons x l =>
    have := h x (by simp)
    cases l with
    | nil => exact this
    | cons y l => show x ++ _ ≠ []; simp [this]
theorem groups_join {l : List Str} {g : List Nat} (h : AllGrp l g) : groups (join 58 l) = some g := by
  unfold groups
  by_cases hl : l = []
  · subst hl
    have := h.len
    cases g with
    | nil => rfl
    | cons v g => exact h.elim
  · rw [if_neg (join_ne hl fun x hx => (h.piece x hx).2), cut_join hl fun x hx => (h.piece x hx).1]
    exact grps_iff.2 h

/-! ### addresses of eight groups -/
def six (s : Str) : Option (List Nat) := match cutDC s with
  | some (p, r) => match groups p, groups r with
    | some a, some b => if a.length + b.length > 7 then none else some (a ++ (List.replicate (8 - a.length - b.length) 0 ++ b))
    | _, _ => none
  | none => match groups s with
    | some a => if a.length = 8 then some a else none
    | none => none
theorem six_full {l : List Str} {g : List Nat} (h : AllGrp l g) (h8 : g.length = 8) : six (join 58 l) = some g := by
  unfold six
  rw [cutDC_pieces h.piece, groups_join h]
  dsimp only
  rw [if_pos h8]
theorem six_short {l m : List Str} {a b : List Nat} (h : AllGrp l a) (k : AllGrp m b) (h7 : a.length + b.length ≤ 7) : six (join 58 l ++ 58 :: 58 :: join 58 m) = some (a ++ (List.replicate (8 - a.length - b.length) 0 ++ b)) := by
  unfold six
  rw [cutDC_join _ h.piece]
  dsimp only
  rw [groups_join h, groups_join k]
  dsimp only
  rw [if_neg (by omega)]
theorem six_some {s : Str} {g : List Nat} (h : six s = some g) : g.length = 8 ∧ ∀ v ∈ g, v < 65536 := by
  have small : ∀ {t : Str} {a : List Nat}, groups t = some a → ∀ v ∈ a, v < 65536 := fun {t a} ht => by
    unfold groups at ht
    split at ht
    · cases ht; simp
    · exact (grps_iff.1 ht).small
  unfold six at h
  split at h
  · rename_i p r _
    cases hp : groups p with
    | none => rw [hp] at h; simp at h
    | some a =>
      cases hr : groups r with
      | none => rw [hp, hr] at h; simp at h
      | some b =>
        rw [hp, hr] at h
        dsimp only at h
        split at h
        · cases h
        · cases h
          refine ⟨by simp; omega, fun v hv => ?_⟩
          rcases List.mem_append.1 hv with hv | hv
          · exact small hp v hv
          · rcases List.mem_append.1 hv with hv | hv
            · have := List.eq_of_mem_replicate hv; omega
            · exact small hr v hv
  · cases hs : groups s with
    | none => rw [hs] at h; cases h
    | some a =>
      rw [hs] at h
      dsimp only at h
      split at h
      · cases h
        rename_i h8
        exact ⟨h8, small hs⟩
      · cases h

/-- groups, with one row of noughts left out, or none -/
def tx6 (l : List Str) (at_ many : Nat) : Str := if many = 0 then join 58 l else join 58 (l.take at_) ++ 58 :: 58 :: join 58 (l.drop (at_ + many))
theorem fill {g : List Nat} (h8 : g.length = 8) {k m : Nat} (hk : k + m ≤ 8) (hz : ∀ i, k ≤ i → i < k + m → g[i]? = some 0) : g.take k ++ (List.replicate (8 - (g.take k).length - (g.drop (k + m)).length) 0 ++ g.drop (k + m)) = g := by
  have e1 : (g.take k).length = k := by simp; omega
  have e2 : (g.drop (k + m)).length = 8 - (k + m) := by simp; omega
  have e3 : 8 - k - (8 - (k + m)) = m := by omega
  rw [e1, e2, e3]
  apply List.ext_getElem?
  intro i
  by_cases h1 : i < k
  · rw [List.getElem?_append_left (by rw [e1]; exact h1), List.getElem?_take, if_pos h1]
  · rw [List.getElem?_append_right (by rw [e1]; omega), e1]
    by_cases h2 : i < k + m
    · rw [List.getElem?_append_left (by simp; omega), List.getElem?_replicate, if_pos (by omega), hz i (by omega) h2]
    · rw [List.getElem?_append_right (by simp; omega), List.length_replicate, List.getElem?_drop]
      congr 1
      omega
/-- an address that is written with any groups' digits, and with any row of its noughts left out, is read as it -/
theorem six_tx6 {l : List Str} {g : List Nat} (h : AllGrp l g) (h8 : g.length = 8) {k m : Nat} (hz : m = 0 ∨ k + m ≤ 8 ∧ ∀ i, k ≤ i → i < k + m → g[i]? = some 0) : six (tx6 l k m) = some g := by
  unfold tx6
  by_cases hm : m = 0
  · rw [if_pos hm]
    exact six_full h h8
  · obtain ⟨hk, hz⟩ := hz.resolve_left hm
    rw [if_neg hm, six_short (h.take k) (h.drop (k + m)) (by simp; omega), fill h8 hk hz]

/-! ### decimals, and addresses of four bytes -/
def dec (s : Str) (most : Nat) : Option Nat := if s ≠ [] ∧ s.length ≤ 6 then match vl 10 s 0 with
  | some n => if n ≤ most ∧ nm 10 n = s then some n else none
  | none => none
  else none
theorem dec_iff {s : Str} {most n : Nat} (hm : most ≤ 999999) : dec s most = some n ↔ n ≤ most ∧ s = nm 10 n := by
  constructor
  · intro h
    unfold dec at h
    split at h
    · split at h
      · split at h
        · rename_i hc
          cases h
          exact ⟨hc.1, hc.2.symm⟩
        · cases h
      · cases h
    · cases h
  · rintro ⟨h, rfl⟩
    unfold dec
    rw [if_pos ⟨nm_ne (by omega) n, nm_len (by omega) 5 n (by omega)⟩, vl_nm (by omega) (by omega)]
    dsimp only
    rw [if_pos ⟨h, rfl⟩]
def decs : List Str → Option (List Nat)
  | [] => some []
  | x :: r => match dec x 255 with
    | none => none
    | some v => match decs r with
      | none => none
      | some t => some (v :: t)
theorem decs_iff : ∀ {l : List Str} {b : List Nat}, decs l = some b ↔ (∀ n ∈ b, n ≤ 255) ∧ l = b.map (nm 10)
  | [], [] => by simp [decs]
  | [], v :: g => by simp [decs]
  | x :: l, [] => by
    unfold decs
    cases dec x 255 with
    | none => simp
    | some v => cases decs l <;> simp
  | x :: l, v :: b => by
    have ih := decs_iff (l := l) (b := b)
    have hd := dec_iff (s := x) (most := 255) (n := v) (by omega)
    constructor
    · intro h
      unfold decs at h
      split at h
      · cases h
      · split at h
        · cases h
        · rename_i u hu _ t ht
          cases h
          obtain ⟨h1, h2⟩ := hd.1 hu
          obtain ⟨h3, h4⟩ := ih.1 ht
          refine ⟨fun n hn => ?_, by rw [h4, h2]; rfl⟩
          rcases List.mem_cons.1 hn with rfl | hn
          · exact h1
          · exact h3 n hn
    · rintro ⟨h1, h2⟩
      simp only [List.map_cons, List.cons.injEq] at h2
      unfold decs
      rw [hd.2 ⟨h1 v (by simp), h2.1⟩, ih.2 ⟨fun n hn => h1 n (by simp [hn]), h2.2⟩]
def four (s : Str) : Option (List Nat) := if (cut 46 s).length = 4 then decs (cut 46 s) else none
theorem nm10_free (n : Nat) : ∀ c ∈ nm 10 n, 48 ≤ c.toNat ∧ c.toNat ≤ 57 := fun c hc => by
  obtain ⟨d, hd, rfl⟩ := nm_mem (by omega) n c hc
  rw [dg_low hd]
  omega
theorem not_mem_nm10 (n : Nat) {c : UInt8} (h : c.toNat < 48 ∨ 57 < c.toNat) : c ∉ nm 10 n := fun hc => by
  have := nm10_free n c hc
  omega
theorem four_iff {s : Str} {b : List Nat} : four s = some b ↔ b.length = 4 ∧ (∀ n ∈ b, n ≤ 255) ∧ s = join 46 (b.map (nm 10)) := by
  constructor
  · intro h
    unfold four at h
    split at h
    · rename_i h4
      obtain ⟨h1, h2⟩ := decs_iff.1 h
      refine ⟨by rw [h2] at h4; simpa using h4, h1, ?_⟩
      rw [← h2, join_cut]
    · cases h
  · rintro ⟨h4, h1, rfl⟩
    have hc : cut 46 (join 46 (b.map (nm 10))) = b.map (nm 10) := cut_join (by intro e; have := congrArg List.length e; simp at this; simp [this] at h4) (fun x hx => by
      obtain ⟨n, _, rfl⟩ := List.mem_map.1 hx
      exact not_mem_nm10 n (by decide))
    unfold four
    rw [hc, if_pos (by simpa using h4)]
    exact decs_iff.2 ⟨h1, rfl⟩

end Go.Proofs.YtefpplkoohnfbaaDoor.hostp
