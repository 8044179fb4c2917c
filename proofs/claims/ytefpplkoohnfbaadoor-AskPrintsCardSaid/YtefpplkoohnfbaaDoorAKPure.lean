/-
  Given for the seat's laws: SOCKS5's requests and replies as lists of bytes. Plain: nothing of the program. No condition.
-/
import Derived.Test.YtefpplkoohnfbaaDoorHostPure5
namespace Go.Proofs.YtefpplkoohnfbaaDoor.ak
open hostp
set_option linter.unusedVariables false

/-! ### a reader, and what it reads -/
structure R where
  l : Str
  k : Nat
  f : Nat
def R.fail (r : R) (e : Nat) : R := if r.f = 0 then ⟨r.l, r.k, e⟩ else r
def R.text (r : R) (n : Nat) : Str × R := if r.f ≠ 0 then ([], r) else if r.l.length < n then ([], ⟨r.l, r.k, 5⟩) else (r.l.take n, ⟨r.l.drop n, r.k + n, 0⟩)
def hd : Str → UInt8
  | [] => 0
  | c :: _ => c
def R.next (r : R) : UInt8 × R := (hd (r.text 1).1, (r.text 1).2)
def R.only (r : R) (c : UInt8) (e : Nat) : R := if r.next.1 = c then r.next.2 else r.next.2.fail e
def R.addr (r : R) (e : Nat) : (Nat × Nat) × R :=
  if r.next.1 = 1 then ((1, 4), r.next.2) else if r.next.1 = 4 then ((2, 16), r.next.2) else if r.next.1 = 3 then ((3, r.next.2.next.1.toNat), r.next.2.next.2) else ((0, 0), r.next.2.fail e)
def R.port (r : R) : Nat × R := (256 * r.next.1.toNat + r.next.2.next.1.toNat, r.next.2.next.2)
def is3 : Option H → Bool
  | some h => decide (h.kind = 3)
  | none => false
def txt : Option H → Str
  | some h => h.text
  | none => []
/-- what is there of a name, and letters in place of the rest -/
def pad (l : Str) (n : Nat) : Str := l.take n ++ List.replicate (n - l.length) 97
def R.name (r : R) (n : Nat) : Str × R := (txt (parse (pad r.l n)), ((if is3 (parse (pad r.l n)) = true then r else r.fail 6).text n).2)
structure TK where
  kind : Nat
  text : Str
  port : Nat
  n : Nat
  e : Nat
deriving DecidableEq
def none_ (e : Nat) : TK := ⟨0, [], 0, 0, e⟩
def R.host (a : (Nat × Nat) × R) : Str × R := if a.1.1 = 3 then a.2.name a.1.2 else if a.1.1 = 0 then ([], a.2) else a.2.text a.1.2
def R.lastF (r : R) : R := if r.port.1 = 0 then r.port.2.fail 6 else r.port.2
def R.fin (k : Nat) (x : Str) (r : R) : TK := if r.lastF.f ≠ 0 then none_ r.lastF.f else ⟨k, x, r.port.1, r.lastF.k, 0⟩
def R.mid (a : (Nat × Nat) × R) : TK := R.fin a.1.1 (R.host a).1 (R.host a).2
def R.head (b : Str) : R := (((⟨b, 0, 0⟩ : R).only 5 6).only 1 140).only 0 6
def R.take (b : Str) : TK := R.mid ((R.head b).addr 141)

/-! ### what the chapter says -/
def begins (x : Str) (n : Nat) : Bool := if x.length = n then nameB x else nameB (x ++ [97])
def tkP (kind : Nat) (x : Str) (n : Nat) : Str → TK
  | h :: l :: _ => if 256 * h.toNat + l.toNat = 0 then none_ 6 else ⟨kind, x, 256 * h.toNat + l.toNat, n + 2, 0⟩
  | _ => none_ 5
def tkA (kind size : Nat) (b : Str) : TK := if b.length < size then none_ 5 else tkP kind (b.take size) (4 + size) (b.drop size)
def tkN : Str → TK
  | [] => none_ 5
  | k :: b => if k.toNat < 1 ∨ 40 < k.toNat then none_ 6 else if begins (low (b.take k.toNat)) k.toNat = false then none_ 6 else if b.length < k.toNat then none_ 5 else tkP 3 (low (b.take k.toNat)) (5 + k.toNat) (b.drop k.toNat)
def tk3 : Str → TK
  | [] => none_ 5
  | c :: b => if c = 1 then tkA 1 4 b else if c = 4 then tkA 2 16 b else if c = 3 then tkN b else none_ 141
def tk2 : Str → TK
  | [] => none_ 5
  | c :: b => if c = 0 then tk3 b else none_ 6
def tk1 : Str → TK
  | [] => none_ 5
  | c :: b => if c = 1 then tk2 b else none_ 140
def tk : Str → TK
  | [] => none_ 5
  | c :: b => if c = 5 then tk1 b else none_ 6

/-! ### names that go on -/
theorem nmGo_pad : ∀ (x : Str) (m long : Nat) (nums : Bool) (last : UInt8), nmGo (x ++ List.replicate (m + 1) 97) long nums last = nmGo (x ++ [97]) long nums last
  | [], m, long, nums, last => by
    have key : ∀ (m long : Nat) (nums : Bool) (last : UInt8), nmGo (List.replicate (m + 1) 97) long nums last = true := by
      intro m
      induction m with
      | zero =>
        intro long nums last
        simp [nmGo, okc, dig]
      | succ m ih =>
        intro long nums last
        rw [List.replicate_succ, nmGo]
        rw [if_neg (by decide), if_neg (by simp [okc, dig])]
        exact ih _ _ _
    rw [List.nil_append, List.nil_append, key m, ← key 0 long nums last]
    rfl
  | c :: x, m, long, nums, last => by
    show nmGo (c :: (x ++ List.replicate (m + 1) 97)) long nums last = nmGo (c :: (x ++ [97])) long nums last
    unfold nmGo
    split
    · split
      · rfl
      · exact nmGo_pad x m _ _ _
    · split
      · rfl
      · exact nmGo_pad x m _ _ _
theorem name_pad {x : Str} {m : Nat} (h : x.length + m + 1 ≤ 40) : nameB (x ++ List.replicate (m + 1) 97) = nameB (x ++ [97]) := by
  rw [← nmGo_name (by simp; omega) 0, ← nmGo_name (by simp; omega) 0]
  exact nmGo_pad _ _ _ _ _
theorem is3_parse (s : Str) : is3 (parse s) = nameB (low s) := by
  unfold parse
  by_cases h1 : (58 : UInt8) ∈ low s
  · rw [if_pos h1]
    have h2 : nameB (low s) = false := by
      cases hn : nameB (low s) with
      | false => rfl
      | true => exact absurd h1 (name_colon hn)
    rw [h2]
    cases six (low s) <;> simp [is3]
  · rw [if_neg h1]
    by_cases h2 : low s ≠ [] ∧ (low s).all dd = true
    · rw [if_pos h2]
      have h3 : nameB (low s) = false := by
        cases hn : nameB (low s) with
        | false => rfl
        | true => have := name_plain hn; rw [h2.2] at this; cases this
      rw [h3]
      cases four (low s) <;> simp [is3]
    · rw [if_neg h2]
      cases hn : nameB (low s) <;> simp [is3]
theorem txt_parse {s : Str} (h : nameB (low s) = true) : txt (parse s) = low s := by
  unfold parse
  rw [if_neg (name_colon h), if_neg (fun e => by have := name_plain h; rw [e.2] at this; cases this), if_pos h]
  rfl
theorem low_len (s : Str) : (low s).length = s.length := by simp [low]
theorem low_rep (m : Nat) : low (List.replicate m 97) = List.replicate m 97 := by simp [low, lc]
theorem low_pad (l : Str) (n : Nat) : low (pad l n) = low (l.take n) ++ List.replicate (n - l.length) 97 := by rw [pad, low_append, low_rep]
theorem pad_len (l : Str) (n : Nat) : (pad l n).length = n := by simp [pad]; omega
theorem pad_begins {l : Str} {n : Nat} (h : n ≤ 40) : nameB (low (pad l n)) = begins (low (l.take n)) n := by
  rw [low_pad]
  unfold begins
  by_cases hl : n ≤ l.length
  · rw [Nat.sub_eq_zero_of_le hl, if_pos (by rw [low_len]; simp; omega)]
    simp
  · rw [if_neg (by rw [low_len]; simp; omega)]
    obtain ⟨m, hm⟩ : ∃ m, n - l.length = m + 1 := ⟨n - l.length - 1, by omega⟩
    rw [hm]
    exact name_pad (by rw [low_len]; simp; omega)
theorem pad_out {l : Str} {n : Nat} (h : n < 1 ∨ 40 < n) : nameB (low (pad l n)) = false := by
  have hl := pad_len l n
  rcases h with h | h
  · have : pad l n = [] := List.eq_nil_of_length_eq_zero (by omega)
    rw [this]
    exact nameB_nil
  · exact nameB_long (by rw [low_len, hl]; omega)

/-! ### the reader comes to it -/
theorem text_bad {r : R} (h : r.f ≠ 0) (n : Nat) : r.text n = ([], r) := by unfold R.text; rw [if_pos h]
theorem next_bad {r : R} (h : r.f ≠ 0) : r.next = (0, r) := by unfold R.next; rw [text_bad h]; rfl
theorem fail_bad {r : R} (h : r.f ≠ 0) (e : Nat) : r.fail e = r := by unfold R.fail; rw [if_neg h]
theorem only_bad {r : R} (h : r.f ≠ 0) (c : UInt8) (e : Nat) : r.only c e = r := by unfold R.only; rw [next_bad h, fail_bad h]; split <;> rfl
theorem addr_bad {r : R} (h : r.f ≠ 0) (e : Nat) : r.addr e = ((0, 0), r) := by
  unfold R.addr
  rw [next_bad h, fail_bad h, if_neg (by first | decide | (simp; done) | simp [R.fail]), if_neg (by first | decide | (simp; done) | simp [R.fail]), if_neg (by first | decide | (simp; done) | simp [R.fail])]
theorem port_bad {r : R} (h : r.f ≠ 0) : r.port = (0, r) := by unfold R.port; rw [next_bad h]; dsimp only; rw [next_bad h]; rfl
theorem name_bad {r : R} (h : r.f ≠ 0) (n : Nat) : (r.name n).2 = r := by unfold R.name; rw [fail_bad h]; dsimp only; rw [ite_self, text_bad h]
theorem fin_bad {r : R} (h : r.f ≠ 0) (k : Nat) (x : Str) : R.fin k x r = none_ r.f := by
  have e : r.lastF = r := by unfold R.lastF; rw [port_bad h, if_pos rfl, fail_bad h]
  unfold R.fin
  rw [e, if_pos h]
theorem host_bad {a : (Nat × Nat) × R} (h : a.2.f ≠ 0) : (R.host a).2 = a.2 := by
  unfold R.host
  split
  · exact name_bad h _
  · split
    · rfl
    · rw [text_bad h]
theorem mid_bad {a : (Nat × Nat) × R} (h : a.2.f ≠ 0) : R.mid a = none_ a.2.f := by
  unfold R.mid
  rw [fin_bad (by rw [host_bad h]; exact h), host_bad h]
theorem next_nil (k : Nat) : (⟨[], k, 0⟩ : R).next = (0, ⟨[], k, 5⟩) := rfl
theorem next_cons (c : UInt8) (l : Str) (k : Nat) : (⟨c :: l, k, 0⟩ : R).next = (c, ⟨l, k + 1, 0⟩) := by simp [R.next, R.text, hd]
theorem only_nil (k : Nat) (c : UInt8) (e : Nat) : (⟨[], k, 0⟩ : R).only c e = ⟨[], k, 5⟩ := by
  unfold R.only
  rw [next_nil]
  dsimp only
  split
  · rfl
  · exact fail_bad (by first | decide | (simp; done) | simp [R.fail]) e
theorem only_same (c : UInt8) (l : Str) (k e : Nat) : (⟨c :: l, k, 0⟩ : R).only c e = ⟨l, k + 1, 0⟩ := by
  unfold R.only
  rw [next_cons, if_pos rfl]
theorem only_else {c d : UInt8} (h : d ≠ c) (l : Str) (k e : Nat) : (⟨d :: l, k, 0⟩ : R).only c e = ⟨l, k + 1, e⟩ := by
  unfold R.only
  rw [next_cons, if_neg h]
  rfl
theorem fin_tkP (kind : Nat) (x l : Str) (k : Nat) : R.fin kind x ⟨l, k, 0⟩ = tkP kind x k l := by
  match l with
  | [] =>
    have e : (⟨[], k, 0⟩ : R).port = (0, ⟨[], k, 5⟩) := by
      unfold R.port
      rw [next_nil]
      dsimp only
      rw [next_bad (by first | decide | (simp; done) | simp [R.fail])]
      rfl
    unfold R.fin R.lastF
    rw [e, if_pos rfl, fail_bad (by first | decide | (simp; done) | simp [R.fail]), if_pos (by first | decide | (simp; done) | simp [R.fail])]
    rfl
  | [h] =>
    have e : (⟨[h], k, 0⟩ : R).port = (256 * h.toNat, ⟨[], k + 1, 5⟩) := by
      unfold R.port
      rw [next_cons]
      dsimp only
      rw [next_nil]
      rfl
    have e2 : (⟨[h], k, 0⟩ : R).lastF = ⟨[], k + 1, 5⟩ := by
      unfold R.lastF
      rw [e]
      split
      · exact fail_bad (by first | decide | (simp; done) | simp [R.fail]) _
      · rfl
    unfold R.fin
    rw [e2, if_pos (by first | decide | (simp; done) | simp [R.fail])]
    rfl
  | h :: l :: r =>
    have e : (⟨h :: l :: r, k, 0⟩ : R).port = (256 * h.toNat + l.toNat, ⟨r, k + 2, 0⟩) := by
      unfold R.port
      rw [next_cons]
      dsimp only
      rw [next_cons]
    unfold R.fin R.lastF tkP
    rw [e]
    dsimp only
    by_cases h0 : 256 * h.toNat + l.toNat = 0
    · rw [if_pos h0, if_pos h0]; rfl
    · rw [if_neg h0, if_neg h0]; rfl
theorem mid_tkA {kind size : Nat} (h3 : kind ≠ 3) (h0 : kind ≠ 0) (l : Str) (k : Nat) (hk : k = 4) : R.mid ((kind, size), ⟨l, k, 0⟩) = tkA kind size l := by
  subst hk
  unfold R.mid R.host tkA
  dsimp only
  rw [if_neg h3, if_neg h0]
  by_cases h : l.length < size
  · rw [if_pos h]
    have e : (⟨l, 4, 0⟩ : R).text size = ([], ⟨l, 4, 5⟩) := by simp [R.text, h]
    rw [e, fin_bad (by first | decide | (simp; done) | simp [R.fail])]
  · rw [if_neg h]
    have e : (⟨l, 4, 0⟩ : R).text size = (l.take size, ⟨l.drop size, 4 + size, 0⟩) := by simp [R.text, h]
    rw [e]
    exact fin_tkP _ _ _ _
theorem mid_name {l : Str} {n : Nat} : R.mid ((3, n), ⟨l, 5, 0⟩) = if n < 1 ∨ 40 < n then none_ 6 else if begins (low (l.take n)) n = false then none_ 6 else if l.length < n then none_ 5 else tkP 3 (low (l.take n)) (5 + n) (l.drop n) := by
  unfold R.mid R.host
  dsimp only
  rw [if_pos rfl]
  unfold R.name
  dsimp only
  rw [is3_parse]
  by_cases h : n < 1 ∨ 40 < n
  · rw [if_pos h, pad_out h]
    rw [if_neg (by first | decide | (simp; done) | simp [R.fail]), text_bad (by first | decide | (simp; done) | simp [R.fail]), fin_bad (by first | decide | (simp; done) | simp [R.fail])]
    rfl
  · rw [if_neg h, pad_begins (by omega)]
    cases hb : begins (low (l.take n)) n with
    | false =>
      rw [if_neg (by first | decide | (simp; done) | simp [R.fail]), text_bad (by first | decide | (simp; done) | simp [R.fail]), fin_bad (by first | decide | (simp; done) | simp [R.fail])]
      rfl
    | true =>
      rw [if_pos rfl, if_neg (by first | decide | (simp; done) | simp [R.fail])]
      by_cases hl : l.length < n
      · rw [if_pos hl]
        have e : (⟨l, 5, 0⟩ : R).text n = ([], ⟨l, 5, 5⟩) := by simp [R.text, hl]
        rw [e, fin_bad (by first | decide | (simp; done) | simp [R.fail])]
      · rw [if_neg hl]
        have e : (⟨l, 5, 0⟩ : R).text n = (l.take n, ⟨l.drop n, 5 + n, 0⟩) := by simp [R.text, hl]
        have e2 : pad l n = l.take n := by
          unfold pad
          rw [Nat.sub_eq_zero_of_le (by omega)]
          simp
        have hn : nameB (low (l.take n)) = true := by
          rw [← e2, pad_begins (by omega)]
          exact hb
        rw [e, e2, txt_parse hn]
        exact fin_tkP _ _ _ _
theorem addr_nil (k e : Nat) : (⟨[], k, 0⟩ : R).addr e = ((0, 0), ⟨[], k, 5⟩) := by
  unfold R.addr
  rw [next_nil, if_neg (by first | decide | (simp; done) | simp [R.fail]), if_neg (by first | decide | (simp; done) | simp [R.fail]), if_neg (by first | decide | (simp; done) | simp [R.fail]), fail_bad (by first | decide | (simp; done) | simp [R.fail])]
theorem tk_cons (c : UInt8) (b : Str) : tk (c :: b) = if c = 5 then tk1 b else none_ 6 := rfl
theorem tk1_cons (c : UInt8) (b : Str) : tk1 (c :: b) = if c = 1 then tk2 b else none_ 140 := rfl
theorem tk2_cons (c : UInt8) (b : Str) : tk2 (c :: b) = if c = 0 then tk3 b else none_ 6 := rfl
theorem tk3_cons (c : UInt8) (b : Str) : tk3 (c :: b) = if c = 1 then tkA 1 4 b else if c = 4 then tkA 2 16 b else if c = 3 then tkN b else none_ 141 := rfl
theorem take_tk (b : Str) : R.take b = tk b := by
  unfold R.take R.head
  match b with
  | [] => rw [only_nil, only_bad (by first | decide | (simp; done) | simp [R.fail]), only_bad (by first | decide | (simp; done) | simp [R.fail]), addr_bad (by first | decide | (simp; done) | simp [R.fail]), mid_bad (by first | decide | (simp; done) | simp [R.fail])]; rfl
  | a :: b =>
    rw [tk_cons]
    by_cases ha : a = 5
    · subst ha
      rw [only_same, if_pos rfl]
      match b with
      | [] => rw [only_nil, only_bad (by first | decide | (simp; done) | simp [R.fail]), addr_bad (by first | decide | (simp; done) | simp [R.fail]), mid_bad (by first | decide | (simp; done) | simp [R.fail])]; rfl
      | a :: b =>
        rw [tk1_cons]
        by_cases ha : a = 1
        · subst ha
          rw [only_same, if_pos rfl]
          match b with
          | [] => rw [only_nil, addr_bad (by first | decide | (simp; done) | simp [R.fail]), mid_bad (by first | decide | (simp; done) | simp [R.fail])]; rfl
          | a :: b =>
            rw [tk2_cons]
            by_cases ha : a = 0
            · subst ha
              rw [only_same, if_pos rfl]
              match b with
              | [] => rw [addr_nil, mid_bad (by first | decide | (simp; done) | simp [R.fail])]; rfl
              | c :: b =>
                rw [tk3_cons]
                unfold R.addr
                rw [next_cons]
                dsimp only
                by_cases h1 : c = 1
                · rw [if_pos h1, if_pos h1]; exact mid_tkA (by first | decide | (simp; done) | simp [R.fail]) (by first | decide | (simp; done) | simp [R.fail]) _ _ rfl
                · rw [if_neg h1, if_neg h1]
                  by_cases h4 : c = 4
                  · rw [if_pos h4, if_pos h4]; exact mid_tkA (by first | decide | (simp; done) | simp [R.fail]) (by first | decide | (simp; done) | simp [R.fail]) _ _ rfl
                  · rw [if_neg h4, if_neg h4]
                    by_cases h3 : c = 3
                    · rw [if_pos h3, if_pos h3]
                      match b with
                      | [] => rw [next_nil]; rw [mid_bad (by first | decide | (simp; done) | simp [R.fail])]; rfl
                      | k :: b =>
                        rw [next_cons]
                        exact mid_name
                    · rw [if_neg h3, if_neg h3, mid_bad (by first | decide | (simp; done) | simp [R.fail])]
                      rfl
            · rw [only_else ha, if_neg ha, addr_bad (by first | decide | (simp; done) | simp [R.fail]), mid_bad (by first | decide | (simp; done) | simp [R.fail])]
        · rw [only_else ha, if_neg ha, only_bad (by first | decide | (simp; done) | simp [R.fail]), addr_bad (by first | decide | (simp; done) | simp [R.fail]), mid_bad (by first | decide | (simp; done) | simp [R.fail])]
    · have hb : ∀ c e, (⟨b, 0 + 1, 6⟩ : R).only c e = ⟨b, 0 + 1, 6⟩ := fun c e => only_bad (by simp) c e
      rw [only_else ha, if_neg ha, hb, only_bad (by first | decide | (simp; done) | simp [R.fail]), addr_bad (by first | decide | (simp; done) | simp [R.fail]), mid_bad (by first | decide | (simp; done) | simp [R.fail])]

/-! ### replies -/
structure CH where
  num : Nat
  n : Nat
  e : Nat
deriving DecidableEq
def noneC (e : Nat) : CH := ⟨0, 0, e⟩
def R.finC (m : Nat) (r : R) : CH := if r.f ≠ 0 then noneC r.f else ⟨m, r.k, 0⟩
def R.midC (m : Nat) (a : (Nat × Nat) × R) : CH := R.finC m (a.2.text a.1.2).2.port.2
def R.reply (b : Str) : CH := R.midC ((⟨b, 0, 0⟩ : R).only 5 6).next.1.toNat ((((⟨b, 0, 0⟩ : R).only 5 6).next.2.only 0 6).addr 6)
def chA (m size from_ : Nat) (b : Str) : CH := if b.length < size + 2 then noneC 5 else ⟨m, from_ + size + 2, 0⟩
def ch3 (m : Nat) : Str → CH
  | [] => noneC 5
  | c :: b => if c = 1 then chA m 4 4 b else if c = 4 then chA m 16 4 b else if c = 3 then chN m b else noneC 6
where
  chN (m : Nat) : Str → CH
  | [] => noneC 5
  | k :: b => chA m k.toNat 5 b
def ch2 (m : Nat) : Str → CH
  | [] => noneC 5
  | c :: b => if c = 0 then ch3 m b else noneC 6
def ch1 : Str → CH
  | [] => noneC 5
  | c :: b => ch2 c.toNat b
def ch : Str → CH
  | [] => noneC 5
  | c :: b => if c = 5 then ch1 b else noneC 6
theorem finC_bad {r : R} (h : r.f ≠ 0) (m : Nat) : R.finC m r = noneC r.f := by unfold R.finC; rw [if_pos h]
theorem midC_bad {a : (Nat × Nat) × R} (h : a.2.f ≠ 0) (m : Nat) : R.midC m a = noneC a.2.f := by
  unfold R.midC
  rw [text_bad h]
  dsimp only
  rw [port_bad h]
  exact finC_bad h m
theorem midC_chA (m size k : Nat) (j : Nat) (l : Str) : R.midC m ((j, size), ⟨l, k, 0⟩) = chA m size k l := by
  unfold R.midC chA
  dsimp only
  by_cases h : l.length < size
  · rw [if_pos (by omega)]
    have e : (⟨l, k, 0⟩ : R).text size = ([], ⟨l, k, 5⟩) := by simp [R.text, h]
    rw [e]
    dsimp only
    rw [port_bad (by first | decide | (simp; done) | simp [R.fail])]
    rfl
  · have e : (⟨l, k, 0⟩ : R).text size = (l.take size, ⟨l.drop size, k + size, 0⟩) := by simp [R.text, h]
    rw [e]
    dsimp only
    have hl : (l.drop size).length = l.length - size := by simp
    match hd : l.drop size with
    | [] =>
      rw [hd] at hl
      rw [if_pos (by simp at hl; omega)]
      unfold R.port
      rw [next_nil]
      dsimp only
      rw [next_bad (by first | decide | (simp; done) | simp [R.fail])]
      rfl
    | [a] =>
      rw [hd] at hl
      rw [if_pos (by simp at hl; omega)]
      unfold R.port
      rw [next_cons]
      dsimp only
      rw [next_nil]
      rfl
    | a :: b :: r =>
      rw [hd] at hl
      rw [if_neg (by simp at hl; omega)]
      unfold R.port
      rw [next_cons]
      dsimp only
      rw [next_cons]
      rfl
theorem ch_cons (c : UInt8) (b : Str) : ch (c :: b) = if c = 5 then ch1 b else noneC 6 := rfl
theorem ch1_cons (c : UInt8) (b : Str) : ch1 (c :: b) = ch2 c.toNat b := rfl
theorem ch2_cons (m : Nat) (c : UInt8) (b : Str) : ch2 m (c :: b) = if c = 0 then ch3 m b else noneC 6 := rfl
theorem ch3_cons (m : Nat) (c : UInt8) (b : Str) : ch3 m (c :: b) = if c = 1 then chA m 4 4 b else if c = 4 then chA m 16 4 b else if c = 3 then ch3.chN m b else noneC 6 := rfl
theorem reply_ch (b : Str) : R.reply b = ch b := by
  unfold R.reply
  match b with
  | [] => rw [only_nil, next_bad (by first | decide | (simp; done) | simp [R.fail])]; dsimp only; rw [only_bad (by first | decide | (simp; done) | simp [R.fail]), addr_bad (by first | decide | (simp; done) | simp [R.fail]), midC_bad (by first | decide | (simp; done) | simp [R.fail])]; rfl
  | a :: b =>
    rw [ch_cons]
    by_cases ha : a = 5
    · subst ha
      rw [only_same, if_pos rfl]
      match b with
      | [] => rw [next_nil]; dsimp only; rw [only_bad (by first | decide | (simp; done) | simp [R.fail]), addr_bad (by first | decide | (simp; done) | simp [R.fail]), midC_bad (by first | decide | (simp; done) | simp [R.fail])]; rfl
      | m :: b =>
        rw [ch1_cons]
        rw [next_cons]
        dsimp only
        match b with
        | [] => rw [only_nil, addr_bad (by first | decide | (simp; done) | simp [R.fail]), midC_bad (by first | decide | (simp; done) | simp [R.fail])]; rfl
        | a :: b =>
          rw [ch2_cons]
          by_cases ha : a = 0
          · subst ha
            rw [only_same, if_pos rfl]
            match b with
            | [] => rw [addr_nil, midC_bad (by first | decide | (simp; done) | simp [R.fail])]; rfl
            | c :: b =>
              rw [ch3_cons]
              unfold R.addr
              rw [next_cons]
              dsimp only
              by_cases h1 : c = 1
              · rw [if_pos h1, if_pos h1]; exact midC_chA _ _ _ _ _
              · rw [if_neg h1, if_neg h1]
                by_cases h4 : c = 4
                · rw [if_pos h4, if_pos h4]; exact midC_chA _ _ _ _ _
                · rw [if_neg h4, if_neg h4]
                  by_cases h3 : c = 3
                  · rw [if_pos h3, if_pos h3]
                    match b with
                    | [] => rw [next_nil]; rw [midC_bad (by first | decide | (simp; done) | simp [R.fail])]; rfl
                    | k :: b =>
                      rw [next_cons]
                      exact midC_chA _ _ _ _ _
                  · rw [if_neg h3, if_neg h3, midC_bad (by first | decide | (simp; done) | simp [R.fail])]
                    rfl
          · rw [only_else ha, if_neg ha, addr_bad (by first | decide | (simp; done) | simp [R.fail]), midC_bad (by first | decide | (simp; done) | simp [R.fail])]
    · rw [only_else ha, if_neg ha, next_bad (by first | decide | (simp; done) | simp [R.fail])]
      dsimp only
      rw [only_bad (by first | decide | (simp; done) | simp [R.fail]), addr_bad (by first | decide | (simp; done) | simp [R.fail]), midC_bad (by first | decide | (simp; done) | simp [R.fail])]
end Go.Proofs.YtefpplkoohnfbaaDoor.ak
