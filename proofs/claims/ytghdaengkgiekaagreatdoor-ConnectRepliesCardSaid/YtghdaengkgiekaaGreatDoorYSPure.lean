/-
  Given for the seat's laws: base64 as plain lists of bytes: the encoding, the decoding, and what they have to do with one another. No program, no memory.
-/
import Derived.Lib.Bytealg
import Derived.Lib.Strings
namespace Go.Proofs.YtghdaengkgiekaaGreatDoor.sx
set_option linter.unusedVariables false
set_option linter.unusedSimpArgs false

abbrev Str := List UInt8

/-- the alphabet -/
def alpha : Str := [65, 66, 67, 68, 69, 70, 71, 72, 73, 74, 75, 76, 77, 78, 79, 80, 81, 82, 83, 84, 85, 86, 87, 88, 89, 90, 97, 98, 99, 100, 101, 102, 103, 104, 105, 106, 107, 108, 109, 110, 111, 112, 113, 114, 115, 116, 117, 118, 119, 120, 121, 122, 48, 49, 50, 51, 52, 53, 54, 55, 56, 57, 43, 47]
/-- the letter of a number -/
def lt (n : Nat) : UInt8 := alpha.getD n 0
/-- the number of a letter: -1 where it is none -/
def vl (c : UInt8) : Int := Lib.indexByte alpha c

theorem vl_lt_all : ∀ n : Fin 64, vl (lt n.1) = (n.1 : Int) := by decide +kernel
theorem vl_lt {n : Nat} (h : n < 64) : vl (lt n) = (n : Int) := vl_lt_all ⟨n, h⟩
theorem vl_range_all : ∀ c : Fin 256, (vl (UInt8.ofNat c.1) = -1 ∨ (0 ≤ vl (UInt8.ofNat c.1) ∧ vl (UInt8.ofNat c.1) < 64 ∧ lt (vl (UInt8.ofNat c.1)).toNat = UInt8.ofNat c.1)) := by decide +kernel
theorem vl_range (c : UInt8) : vl c = -1 ∨ (0 ≤ vl c ∧ vl c < 64 ∧ lt (vl c).toNat = c) := by
  have h := vl_range_all ⟨c.toNat, c.toNat_lt⟩
  simpa using h
theorem vl_pad : vl 61 = -1 := by decide +kernel
theorem vl_low (c : UInt8) : -1 ≤ vl c := by rcases vl_range c with h | h <;> omega
theorem vl_some {c : UInt8} (h : 0 ≤ vl c) : ∃ n : Nat, n < 64 ∧ vl c = (n : Int) ∧ lt n = c := by
  rcases vl_range c with h1 | ⟨h1, h2, h3⟩
  · omega
  · exact ⟨(vl c).toNat, by omega, by omega, h3⟩
theorem vl_none {c : UInt8} (h : vl c < 0) : vl c = -1 := by rcases vl_range c with h1 | h1 <;> omega
theorem lt_ne_pad {n : Nat} (h : n < 64) : lt n ≠ 61 := fun e => by
  have h1 := vl_lt h
  rw [e, vl_pad] at h1
  omega
theorem lt_inj {a b : Nat} (ha : a < 64) (hb : b < 64) (h : lt a = lt b) : a = b := by
  have h1 := vl_lt ha
  rw [h, vl_lt hb] at h1
  omega

/-! ### the encoding -/
/-- the length of the encoding of so many bytes -/
def size (n : Nat) : Nat := (n + 2) / 3 * 4
def enc : Str → Str
  | [] => []
  | [a] => [lt (a.toNat / 4), lt (a.toNat % 4 * 16), 61, 61]
  | [a, b] => [lt (a.toNat / 4), lt (a.toNat % 4 * 16 + b.toNat / 16), lt (b.toNat % 16 * 4), 61]
  | a :: b :: c :: r => lt (a.toNat / 4) :: lt (a.toNat % 4 * 16 + b.toNat / 16) :: lt (b.toNat % 16 * 4 + c.toNat / 64) :: lt (c.toNat % 64) :: enc r
/-- the encoding without the padding -/
def bare : Str → Str
  | [] => []
  | [a] => [lt (a.toNat / 4), lt (a.toNat % 4 * 16)]
  | [a, b] => [lt (a.toNat / 4), lt (a.toNat % 4 * 16 + b.toNat / 16), lt (b.toNat % 16 * 4)]
  | a :: b :: c :: r => lt (a.toNat / 4) :: lt (a.toNat % 4 * 16 + b.toNat / 16) :: lt (b.toNat % 16 * 4 + c.toNat / 64) :: lt (c.toNat % 64) :: bare r

theorem enc_bare : ∀ l : Str, enc l = bare l ++ List.replicate ((3 - l.length % 3) % 3) 61
  | [] => rfl
  | [a] => rfl
  | [a, b] => rfl
  | a :: b :: c :: r => by
    rw [enc, bare, enc_bare r]
    have : (a :: b :: c :: r).length % 3 = r.length % 3 := by simp only [List.length_cons]; omega
    rw [this]
    simp
theorem bare_len : ∀ l : Str, (bare l).length = (l.length * 4 + 2) / 3
  | [] => rfl
  | [a] => by simp [bare]
  | [a, b] => by simp [bare]
  | a :: b :: c :: r => by
    rw [bare]
    simp only [List.length_cons, bare_len r]
    omega
theorem enc_len : ∀ l : Str, (enc l).length = size l.length
  | [] => rfl
  | [a] => by simp [enc, size]
  | [a, b] => by simp [enc, size]
  | a :: b :: c :: r => by
    rw [enc]
    simp only [List.length_cons, enc_len r, size]
    omega
theorem bare_letters : ∀ (l : Str) (x : UInt8), x ∈ bare l → ∃ n, n < 64 ∧ x = lt n
  | [], x, h => by simp [bare] at h
  | [a], x, h => by
    have ha := a.toNat_lt
    simp only [bare, List.mem_cons, List.not_mem_nil, or_false] at h
    rcases h with rfl | rfl <;> exact ⟨_, by omega, rfl⟩
  | [a, b], x, h => by
    have ha := a.toNat_lt; have hb := b.toNat_lt
    simp only [bare, List.mem_cons, List.not_mem_nil, or_false] at h
    rcases h with rfl | rfl | rfl <;> exact ⟨_, by omega, rfl⟩
  | a :: b :: c :: r, x, h => by
    have ha := a.toNat_lt; have hb := b.toNat_lt; have hc := c.toNat_lt
    simp only [bare, List.mem_cons] at h
    rcases h with rfl | rfl | rfl | rfl | h
    · exact ⟨_, by omega, rfl⟩
    · exact ⟨_, by omega, rfl⟩
    · exact ⟨_, by omega, rfl⟩
    · exact ⟨_, by omega, rfl⟩
    · exact bare_letters r x h
theorem bare_no_pad (l : Str) : (61 : UInt8) ∉ bare l := fun h => by
  obtain ⟨n, hn, e⟩ := bare_letters l 61 h
  exact lt_ne_pad hn e.symm

theorem enc_append : ∀ (a b : Str), a.length % 3 = 0 → enc (a ++ b) = enc a ++ enc b
  | [], b, _ => rfl
  | [x], b, h => by simp at h
  | [x, y], b, h => by simp at h
  | x :: y :: z :: r, b, h => by
    have h1 : r.length % 3 = 0 := by simp only [List.length_cons] at h; omega
    show enc (x :: y :: z :: (r ++ b)) = _
    rw [enc, enc, enc_append r b h1]
    rfl

/-! ### what is left to write: h bits held of value r -/
/-- one step of what writes: a letter, and what is held behind it -/
def nxt (h r : Nat) (l : Str) : Option (Nat × Nat × Nat × Str) :=
  if h < 6 then
    match l with
    | a :: t => some ((r * 256 + a.toNat) / 2 ^ (h + 2), h + 2, (r * 256 + a.toNat) % 2 ^ (h + 2), t)
    | [] => if h = 0 then none else some (r * 2 ^ (6 - h), 0, 0, [])
  else some (r / 2 ^ (h - 6), h - 6, r % 2 ^ (h - 6), l)
/-- what is still to be written, where m bytes are written, but for whole groups -/
def tl : Nat → Nat → Str → Str
  | 0, _, l => enc l
  | 2, r, [] => [lt (r * 16), 61, 61]
  | 2, r, [b] => [lt (r * 16 + b.toNat / 16), lt (b.toNat % 16 * 4), 61]
  | 2, r, b :: c :: t => lt (r * 16 + b.toNat / 16) :: lt (b.toNat % 16 * 4 + c.toNat / 64) :: lt (c.toNat % 64) :: enc t
  | 4, r, [] => [lt (r * 4), 61]
  | 4, r, c :: t => lt (r * 4 + c.toNat / 64) :: lt (c.toNat % 64) :: enc t
  | 6, r, l => lt r :: enc l
  | _, _, _ => []

theorem enc_cons (a : UInt8) : ∀ t : Str, enc (a :: t) = lt (a.toNat / 4) :: tl 2 (a.toNat % 4) t
  | [] => rfl
  | [b] => rfl
  | b :: c :: t => rfl
theorem tl2_cons (r : Nat) (b : UInt8) : ∀ t : Str, tl 2 r (b :: t) = lt (r * 16 + b.toNat / 16) :: tl 4 (b.toNat % 16) t
  | [] => rfl
  | c :: t => rfl
theorem tl4_cons (r : Nat) (c : UInt8) (t : Str) : tl 4 r (c :: t) = lt (r * 4 + c.toNat / 64) :: tl 6 (c.toNat % 64) t := rfl
theorem tl6 (r : Nat) (t : Str) : tl 6 r t = lt r :: enc t := rfl

/-- what is written, and what is held, on the way to the encoding of b -/
structure St (b t : Str) (h r : Nat) (l : Str) : Prop where
  small : r < 2 ^ h
  le : l.length ≤ b.length
  held : h = 0 ∨ h = 2 ∨ h = 4 ∨ h = 6
  way : (t.length % 4 = h / 2 ∧ t ++ tl h r l = enc b) ∨ (h = 0 ∧ l = [] ∧ t ++ List.replicate ((4 - t.length % 4) % 4) 61 = enc b)

theorem St.start (b : Str) : St b [] 0 0 b := ⟨by simp, Nat.le_refl _, .inl rfl, .inl ⟨rfl, rfl⟩⟩
theorem St.len {b t l : Str} {h r : Nat} (s : St b t h r l) : t.length ≤ size b.length := by
  rw [← enc_len]
  rcases s.way with ⟨_, e⟩ | ⟨_, _, e⟩ <;> rw [← e] <;> simp
theorem St.zero {b t : Str} {r : Nat} {l : Str} (s : St b t 0 r l) : r = 0 := by have := s.small; omega
theorem St.over {b t : Str} {r : Nat} (s : St b t 0 r []) (h4 : t.length % 4 = 0) : t = enc b := by
  rcases s.way with ⟨_, e⟩ | ⟨_, _, e⟩
  · simpa [tl, enc] using e
  · simpa [h4] using e
theorem St.pad {b t : Str} {r : Nat} (s : St b t 0 r []) (h4 : t.length % 4 ≠ 0) : St b (t ++ [61]) 0 0 [] ∧ t.length + 1 ≤ size b.length := by
  have e : t ++ List.replicate ((4 - t.length % 4) % 4) 61 = enc b := by
    rcases s.way with ⟨h, _⟩ | ⟨_, _, e⟩
    · omega
    · exact e
  have h1 : (4 - t.length % 4) % 4 = (4 - (t ++ [(61 : UInt8)]).length % 4) % 4 + 1 := by simp only [List.length_append, List.length_cons, List.length_nil]; omega
  have e2 : t ++ [61] ++ List.replicate ((4 - (t ++ [(61 : UInt8)]).length % 4) % 4) 61 = enc b := by
    rw [← e, h1, List.replicate_succ, List.append_assoc]
    rfl
  refine ⟨⟨by simp, by simp, .inl rfl, .inr ⟨rfl, rfl, e2⟩⟩, ?_⟩
  rw [← enc_len, ← e2]
  simp

theorem St.next {b t l : Str} {h r : Nat} (s : St b t h r l) {c h' r' : Nat} {l' : Str} (hn : nxt h r l = some (c, h', r', l')) : c < 64 ∧ St b (t ++ [lt c]) h' r' l' ∧ t.length + 1 ≤ size b.length := by
  have hway : ∀ {d : Nat} {q : Str}, t ++ lt d :: q = enc b → t.length + 1 ≤ size b.length := fun {d q} e => by
    rw [← enc_len, ← e]; simp
  have happ : ∀ (d : Nat) (q : Str), t ++ lt d :: q = t ++ [lt d] ++ q := fun d q => by simp
  have hlen : ∀ d : Nat, (t ++ [lt d]).length = t.length + 1 := fun d => by simp
  have hs := s.small
  have hle := s.le
  rcases s.held with rfl | rfl | rfl | rfl
  · cases l with
    | nil => simp [nxt] at hn
    | cons a q =>
      have ha := a.toNat_lt
      simp [nxt] at hn
      obtain ⟨rfl, rfl, rfl, rfl⟩ := hn
      have hr : r = 0 := by omega
      subst hr
      rcases s.way with ⟨hm, e⟩ | ⟨_, h0, _⟩
      · have e1 : t ++ lt (a.toNat / 4) :: tl 2 (a.toNat % 4) q = enc b := by rw [← enc_cons]; exact e
        simp only [Nat.zero_mul, Nat.zero_add]
        refine ⟨by omega, ⟨by omega, by simp at hle; omega, by simp, .inl ⟨by rw [hlen]; omega, ?_⟩⟩, hway e1⟩
        rw [← happ]; exact e1
      · cases h0
  · cases l with
    | nil =>
      simp [nxt] at hn
      obtain ⟨rfl, rfl, rfl, rfl⟩ := hn
      rcases s.way with ⟨hm, e⟩ | ⟨h0, _, _⟩
      · have e1 : t ++ lt (r * 16) :: [61, 61] = enc b := e
        refine ⟨by omega, ⟨by simp, by simp, by simp, .inr ⟨rfl, rfl, ?_⟩⟩, hway e1⟩
        rw [hlen, show (4 - (t.length + 1) % 4) % 4 = 2 by omega, ← e1]
        simp
      · cases h0
    | cons a q =>
      have ha := a.toNat_lt
      simp [nxt] at hn
      obtain ⟨rfl, rfl, rfl, rfl⟩ := hn
      rcases s.way with ⟨hm, e⟩ | ⟨_, h0, _⟩
      · have e1 : t ++ lt ((r * 256 + a.toNat) / 16) :: tl 4 ((r * 256 + a.toNat) % 16) q = enc b := by
          rw [show (r * 256 + a.toNat) / 16 = r * 16 + a.toNat / 16 by omega, show (r * 256 + a.toNat) % 16 = a.toNat % 16 by omega, ← tl2_cons]; exact e
        refine ⟨by omega, ⟨by omega, by simp at hle; omega, by simp, .inl ⟨by rw [hlen]; omega, ?_⟩⟩, hway e1⟩
        rw [← happ]; exact e1
      · cases h0
  · cases l with
    | nil =>
      simp [nxt] at hn
      obtain ⟨rfl, rfl, rfl, rfl⟩ := hn
      rcases s.way with ⟨hm, e⟩ | ⟨h0, _, _⟩
      · have e1 : t ++ lt (r * 4) :: [61] = enc b := e
        refine ⟨by omega, ⟨by simp, by simp, by simp, .inr ⟨rfl, rfl, ?_⟩⟩, hway e1⟩
        rw [hlen, show (4 - (t.length + 1) % 4) % 4 = 1 by omega, ← e1]
        simp
      · cases h0
    | cons a q =>
      have ha := a.toNat_lt
      simp [nxt] at hn
      obtain ⟨rfl, rfl, rfl, rfl⟩ := hn
      rcases s.way with ⟨hm, e⟩ | ⟨_, h0, _⟩
      · have e1 : t ++ lt ((r * 256 + a.toNat) / 64) :: tl 6 ((r * 256 + a.toNat) % 64) q = enc b := by
          rw [show (r * 256 + a.toNat) / 64 = r * 4 + a.toNat / 64 by omega, show (r * 256 + a.toNat) % 64 = a.toNat % 64 by omega, ← tl4_cons]; exact e
        refine ⟨by omega, ⟨by omega, by simp at hle; omega, by simp, .inl ⟨by rw [hlen]; omega, ?_⟩⟩, hway e1⟩
        rw [← happ]; exact e1
      · cases h0
  · simp [nxt] at hn
    obtain ⟨rfl, rfl, rfl, rfl⟩ := hn
    rcases s.way with ⟨hm, e⟩ | ⟨h0, _, _⟩
    · have e1 : t ++ lt r :: enc l = enc b := e
      refine ⟨by omega, ⟨by omega, hle, by simp, .inl ⟨by rw [hlen]; omega, ?_⟩⟩, hway e1⟩
      rw [happ] at e1
      rw [Nat.mod_one]
      exact e1
    · cases h0

/-! ### the decoding, letter by letter: h bits held of value r -/
def dgo : Nat → Nat → Str → Option (Nat × Str)
  | _, r, [] => some (r, [])
  | h, r, c :: cs =>
    if vl c < 0 then none
    else if 2 ≤ h then (dgo (h - 2) ((r * 64 + (vl c).toNat) % 2 ^ (h - 2)) cs).map fun x => (x.1, UInt8.ofNat ((r * 64 + (vl c).toNat) / 2 ^ (h - 2)) :: x.2)
    else dgo (h + 6) (r * 64 + (vl c).toNat) cs

/-- with what was decoded ahead -/
def ahead (acc : Str) (o : Option (Nat × Str)) : Option (Nat × Str) := o.map fun x => (x.1, acc ++ x.2)
theorem ahead_nil (o : Option (Nat × Str)) : ahead [] o = o := by cases o <;> rfl
theorem ahead_one (acc : Str) (y : UInt8) (o : Option (Nat × Str)) : ahead acc (o.map fun x => (x.1, y :: x.2)) = ahead (acc ++ [y]) o := by cases o <;> simp [ahead]

theorem dgo_bad {h r : Nat} {c : UInt8} {cs : Str} (hc : vl c < 0) : dgo h r (c :: cs) = none := by rw [dgo, if_pos hc]
theorem dgo_more {h r v : Nat} {c : UInt8} {cs : Str} (hc : vl c = (v : Int)) (hh : h < 2) : dgo h r (c :: cs) = dgo (h + 6) (r * 64 + v) cs := by
  rw [dgo, if_neg (by omega), if_neg (by omega), hc]; rfl
theorem dgo_byte {h r v : Nat} {c : UInt8} {cs : Str} (hc : vl c = (v : Int)) (hh : 2 ≤ h) : dgo h r (c :: cs) = (dgo (h - 2) ((r * 64 + v) % 2 ^ (h - 2)) cs).map fun x => (x.1, UInt8.ofNat ((r * 64 + v) / 2 ^ (h - 2)) :: x.2) := by
  rw [dgo, if_neg (by omega), if_pos hh, hc]; rfl

/-- four letters at once -/
theorem dgo_four {p q u v : Nat} {cs : Str} (hp : p < 64) (hq : q < 64) (hu : u < 64) (hv : v < 64) :
    dgo 0 0 (lt p :: lt q :: lt u :: lt v :: cs) = ahead [UInt8.ofNat (p * 4 + q / 16), UInt8.ofNat (q % 16 * 16 + u / 4), UInt8.ofNat (u % 4 * 64 + v)] (dgo 0 0 cs) := by
  rw [dgo_more (vl_lt hp) (by omega), dgo_byte (vl_lt hq) (by omega), dgo_byte (vl_lt hu) (by omega), dgo_byte (vl_lt hv) (by omega)]
  have e1 : ((0 * 64 + p) * 64 + q) / 2 ^ (0 + 6 - 2) = p * 4 + q / 16 := by show (_ : Nat) / 16 = _; omega
  have e2 : ((0 * 64 + p) * 64 + q) % 2 ^ (0 + 6 - 2) = q % 16 := by show (_ : Nat) % 16 = _; omega
  rw [e1, e2]
  have e3 : (q % 16 * 64 + u) / 2 ^ (0 + 6 - 2 - 2) = q % 16 * 16 + u / 4 := by show (_ : Nat) / 4 = _; omega
  have e4 : (q % 16 * 64 + u) % 2 ^ (0 + 6 - 2 - 2) = u % 4 := by show (_ : Nat) % 4 = _; omega
  rw [e3, e4]
  have e5 : (u % 4 * 64 + v) / 2 ^ (0 + 6 - 2 - 2 - 2) = u % 4 * 64 + v := by show (_ : Nat) / 1 = _; omega
  have e6 : (u % 4 * 64 + v) % 2 ^ (0 + 6 - 2 - 2 - 2) = 0 := by show (_ : Nat) % 1 = _; omega
  rw [e5, e6]
  show _ = ahead _ (dgo 0 0 cs)
  cases h : dgo 0 0 cs <;> simp [ahead, h]
theorem dgo_two {p q : Nat} (hp : p < 64) (hq : q < 64) : dgo 0 0 [lt p, lt q] = some (q % 16, [UInt8.ofNat (p * 4 + q / 16)]) := by
  rw [dgo_more (vl_lt hp) (by omega), dgo_byte (vl_lt hq) (by omega)]
  have e1 : ((0 * 64 + p) * 64 + q) / 2 ^ (0 + 6 - 2) = p * 4 + q / 16 := by show (_ : Nat) / 16 = _; omega
  have e2 : ((0 * 64 + p) * 64 + q) % 2 ^ (0 + 6 - 2) = q % 16 := by show (_ : Nat) % 16 = _; omega
  rw [e1, e2]
  rfl
theorem dgo_three {p q u : Nat} (hp : p < 64) (hq : q < 64) (hu : u < 64) : dgo 0 0 [lt p, lt q, lt u] = some (u % 4, [UInt8.ofNat (p * 4 + q / 16), UInt8.ofNat (q % 16 * 16 + u / 4)]) := by
  rw [dgo_more (vl_lt hp) (by omega), dgo_byte (vl_lt hq) (by omega), dgo_byte (vl_lt hu) (by omega)]
  have e1 : ((0 * 64 + p) * 64 + q) / 2 ^ (0 + 6 - 2) = p * 4 + q / 16 := by show (_ : Nat) / 16 = _; omega
  have e2 : ((0 * 64 + p) * 64 + q) % 2 ^ (0 + 6 - 2) = q % 16 := by show (_ : Nat) % 16 = _; omega
  rw [e1, e2]
  have e3 : (q % 16 * 64 + u) / 2 ^ (0 + 6 - 2 - 2) = q % 16 * 16 + u / 4 := by show (_ : Nat) / 4 = _; omega
  have e4 : (q % 16 * 64 + u) % 2 ^ (0 + 6 - 2 - 2) = u % 4 := by show (_ : Nat) % 4 = _; omega
  rw [e3, e4]
  rfl

theorem u8_of (a : UInt8) : UInt8.ofNat a.toNat = a := by simp
theorem dgo_bare : ∀ l : Str, dgo 0 0 (bare l) = some (0, l)
  | [] => rfl
  | [a] => by
    have ha := a.toNat_lt
    rw [bare, dgo_two (by omega) (by omega), show a.toNat / 4 * 4 + a.toNat % 4 * 16 / 16 = a.toNat by omega, show a.toNat % 4 * 16 % 16 = 0 by omega, u8_of]
  | [a, b] => by
    have ha := a.toNat_lt; have hb := b.toNat_lt
    rw [bare, dgo_three (by omega) (by omega) (by omega), show a.toNat / 4 * 4 + (a.toNat % 4 * 16 + b.toNat / 16) / 16 = a.toNat by omega, show (a.toNat % 4 * 16 + b.toNat / 16) % 16 * 16 + b.toNat % 16 * 4 / 4 = b.toNat by omega, show b.toNat % 16 * 4 % 4 = 0 by omega, u8_of, u8_of]
  | a :: b :: c :: r => by
    have ha := a.toNat_lt; have hb := b.toNat_lt; have hc := c.toNat_lt
    rw [bare, dgo_four (by omega) (by omega) (by omega) (by omega), dgo_bare r, show a.toNat / 4 * 4 + (a.toNat % 4 * 16 + b.toNat / 16) / 16 = a.toNat by omega,
      show (a.toNat % 4 * 16 + b.toNat / 16) % 16 * 16 + (b.toNat % 16 * 4 + c.toNat / 64) / 4 = b.toNat by omega, show (b.toNat % 16 * 4 + c.toNat / 64) % 4 * 64 + c.toNat % 64 = c.toNat by omega, u8_of, u8_of, u8_of]
    rfl
theorem enc_inj {a b : Str} (h : enc a = enc b) : a = b := by
  have hl : ∀ l : Str, (enc l).filter (fun x => x != 61) = bare l := fun l => by
    rw [enc_bare, List.filter_append]
    have h1 : (bare l).filter (fun x => x != 61) = bare l := List.filter_eq_self.2 fun x hx => by
      have := bare_no_pad l
      simp only [bne_iff_ne, ne_eq]
      rintro rfl
      exact this hx
    rw [h1, List.filter_replicate]
    simp
  have h1 : bare a = bare b := by rw [← hl, ← hl, h]
  have h2 := dgo_bare a
  rw [h1, dgo_bare b] at h2
  simpa using h2.symm

/-- what is decoded has, encoded, those letters -/
theorem dgo_back : ∀ (cs l : Str), cs.length % 4 ≠ 1 → dgo 0 0 cs = some (0, l) → bare l = cs ∧ l.length % 3 = (cs.length % 4 + 3) % 4 % 3 ∧ (cs.length % 4 = 0 → l.length % 3 = 0)
  | [], l, _, h => by
    simp [dgo] at h
    subst h
    simp [bare]
  | [c], l, h1, h => by simp at h1
  | [c, d], l, _, h => by
    by_cases hc : vl c < 0
    · rw [dgo_bad hc] at h; cases h
    obtain ⟨p, hp, hpv, rfl⟩ := vl_some (c := c) (by omega)
    by_cases hd : vl d < 0
    · rw [dgo_more (vl_lt hp) (by omega), dgo_bad hd] at h; cases h
    obtain ⟨q, hq, hqv, rfl⟩ := vl_some (c := d) (by omega)
    rw [dgo_two hp hq] at h
    simp only [Option.some.injEq, Prod.mk.injEq] at h
    obtain ⟨h0, rfl⟩ := h
    have e : (UInt8.ofNat (p * 4 + q / 16)).toNat = p * 4 + q / 16 := by simp; omega
    refine ⟨?_, by simp, by simp⟩
    rw [bare, e, show (p * 4 + q / 16) / 4 = p by omega, show (p * 4 + q / 16) % 4 * 16 = q by omega]
  | [c, d, f], l, _, h => by
    by_cases hc : vl c < 0
    · rw [dgo_bad hc] at h; cases h
    obtain ⟨p, hp, hpv, rfl⟩ := vl_some (c := c) (by omega)
    by_cases hd : vl d < 0
    · rw [dgo_more (vl_lt hp) (by omega), dgo_bad hd] at h; cases h
    obtain ⟨q, hq, hqv, rfl⟩ := vl_some (c := d) (by omega)
    by_cases hf : vl f < 0
    · rw [dgo_more (vl_lt hp) (by omega), dgo_byte (vl_lt hq) (by omega), dgo_bad hf] at h; cases h
    obtain ⟨u, hu, huv, rfl⟩ := vl_some (c := f) (by omega)
    rw [dgo_three hp hq hu] at h
    simp only [Option.some.injEq, Prod.mk.injEq] at h
    obtain ⟨h0, rfl⟩ := h
    have e : (UInt8.ofNat (p * 4 + q / 16)).toNat = p * 4 + q / 16 := by simp; omega
    have e2 : (UInt8.ofNat (q % 16 * 16 + u / 4)).toNat = q % 16 * 16 + u / 4 := by simp; omega
    refine ⟨?_, by simp, by simp⟩
    rw [bare, e, e2, show (p * 4 + q / 16) / 4 = p by omega, show (p * 4 + q / 16) % 4 * 16 + (q % 16 * 16 + u / 4) / 16 = q by omega, show (q % 16 * 16 + u / 4) % 16 * 4 = u by omega]
  | c :: d :: f :: g :: cs, l, h1, h => by
    by_cases hc : vl c < 0
    · rw [dgo_bad hc] at h; cases h
    obtain ⟨p, hp, hpv, rfl⟩ := vl_some (c := c) (by omega)
    by_cases hd : vl d < 0
    · rw [dgo_more (vl_lt hp) (by omega), dgo_bad hd] at h; cases h
    obtain ⟨q, hq, hqv, rfl⟩ := vl_some (c := d) (by omega)
    by_cases hf : vl f < 0
    · rw [dgo_more (vl_lt hp) (by omega), dgo_byte (vl_lt hq) (by omega), dgo_bad hf] at h; cases h
    obtain ⟨u, hu, huv, rfl⟩ := vl_some (c := f) (by omega)
    by_cases hg : vl g < 0
    · rw [dgo_more (vl_lt hp) (by omega), dgo_byte (vl_lt hq) (by omega), dgo_byte (vl_lt hu) (by omega), dgo_bad hg] at h; cases h
    obtain ⟨v, hv, hvv, rfl⟩ := vl_some (c := g) (by omega)
    rw [dgo_four hp hq hu hv] at h
    cases hr : dgo 0 0 cs with
    | none => rw [hr] at h; cases h
    | some x =>
      obtain ⟨z, m⟩ := x
      rw [hr] at h
      simp only [ahead, Option.map_some, Option.some.injEq, Prod.mk.injEq] at h
      obtain ⟨rfl, rfl⟩ := h
      have hlen : (lt p :: lt q :: lt u :: lt v :: cs).length % 4 = cs.length % 4 := by simp only [List.length_cons]; omega
      rw [hlen] at h1
      obtain ⟨e1, e2, e3⟩ := dgo_back cs m h1 hr
      have e : (UInt8.ofNat (p * 4 + q / 16)).toNat = p * 4 + q / 16 := by simp; omega
      have e4 : (UInt8.ofNat (q % 16 * 16 + u / 4)).toNat = q % 16 * 16 + u / 4 := by simp; omega
      have e5 : (UInt8.ofNat (u % 4 * 64 + v)).toNat = u % 4 * 64 + v := by simp; omega
      rw [hlen]
      refine ⟨?_, ?_, ?_⟩
      · show bare (_ :: _ :: _ :: m) = _
        rw [bare, e1, e, e4, e5, show (p * 4 + q / 16) / 4 = p by omega, show (p * 4 + q / 16) % 4 * 16 + (q % 16 * 16 + u / 4) / 16 = q by omega, show (q % 16 * 16 + u / 4) % 16 * 4 + (u % 4 * 64 + v) / 64 = u by omega, show (u % 4 * 64 + v) % 64 = v by omega]
      · rw [← e2]; simp only [List.length_append, List.length_cons, List.length_nil]; omega
      · intro h4; have := e3 h4; simp only [List.length_append, List.length_cons, List.length_nil]; omega
end Go.Proofs.YtghdaengkgiekaaGreatDoor.sx

/-
  Given for the seat's laws: base64 as plain lists of bytes: the padding taken off, groups of four, and what is decoded. No program, no memory.
-/
namespace Go.Proofs.YtghdaengkgiekaaGreatDoor.sx
set_option linter.unusedVariables false
set_option linter.unusedSimpArgs false

/-! ### without the padding -/
def trim (l : Str) : Str := Lib.trimSuffix l [61]
def strip (l : Str) : Str := trim (trim l)
theorem trim_snoc (x : Str) : trim (x ++ [61]) = x := by
  unfold trim Lib.trimSuffix Lib.hasSuffix
  have h : ([61] : Str).isSuffixOf (x ++ [61]) = true := List.isSuffixOf_iff_suffix.2 ⟨x, rfl⟩
  rw [if_pos h]
  simp
theorem trim_else {x : Str} (h : ∀ y, x ≠ y ++ [61]) : trim x = x := by
  unfold trim Lib.trimSuffix Lib.hasSuffix
  rw [if_neg]
  intro h1
  obtain ⟨y, hy⟩ := List.isSuffixOf_iff_suffix.1 h1
  exact h y hy.symm
theorem trim_cases (x : Str) : trim x = x ∨ x = trim x ++ [61] := by
  by_cases h : ∃ y, x = y ++ [61]
  · obtain ⟨y, rfl⟩ := h
    exact .inr (by rw [trim_snoc])
  · exact .inl (trim_else fun y e => h ⟨y, e⟩)
theorem trim_free {x : Str} (h : (61 : UInt8) ∉ x) : trim x = x := trim_else fun y e => h (by rw [e]; simp)
theorem strip_cases (x : Str) : x = strip x ∨ x = strip x ++ [61] ∨ x = strip x ++ [61, 61] := by
  unfold strip
  rcases trim_cases x with h | h
  · rw [h]
    rcases trim_cases x with h1 | h1
    · exact .inl (by rw [h1])
    · exact .inr (.inl h1)
  · rcases trim_cases (trim x) with h1 | h1
    · exact .inr (.inl (by rw [h1]; exact h))
    · refine .inr (.inr ?_)
      rw [h1] at h
      simpa using h
theorem strip_len (x : Str) : (strip x).length ≤ x.length := by
  rcases strip_cases x with h | h | h <;> (have := congrArg List.length h; (try simp at this); omega)
theorem strip_bare {x : Str} (h : (61 : UInt8) ∉ x) : ∀ k, k ≤ 2 → strip (x ++ List.replicate k 61) = x
  | 0, _ => by simp [strip, trim_free h]
  | 1, _ => by
    show trim (trim (x ++ [61])) = x
    rw [trim_snoc, trim_free h]
  | 2, _ => by
    show trim (trim (x ++ [61, 61])) = x
    rw [show x ++ [(61 : UInt8), 61] = (x ++ [61]) ++ [61] by simp, trim_snoc, trim_snoc]
  | k + 3, hk => by omega
theorem strip_enc (b : Str) : strip (enc b) = bare b := by rw [enc_bare]; exact strip_bare (bare_no_pad b) _ (by omega)

theorem dgo_enc (b : Str) : dgo 0 0 (strip (enc b)) = some (0, b) := by rw [strip_enc, dgo_bare]
theorem dgo_yes {s l : Str} (h4 : s.length % 4 = 0) (h : dgo 0 0 (strip s) = some (0, l)) : enc l = s := by
  have hc := strip_cases s
  generalize hcs : strip s = cs at *
  have h1 : cs.length % 4 ≠ 1 := by
    rcases hc with e | e | e <;> (have := congrArg List.length e; (try simp at this); omega)
  obtain ⟨e1, e2, e3⟩ := dgo_back cs l h1 h
  rw [enc_bare, e1]
  rcases hc with e | e | e
  · have hl := congrArg List.length e
    have : l.length % 3 = 0 := e3 (by omega)
    rw [this]
    simpa using e.symm
  · have hl := congrArg List.length e
    simp at hl
    have : l.length % 3 = 2 := by rw [e2, show cs.length % 4 = 3 by omega]
    rw [this]
    exact e.symm
  · have hl := congrArg List.length e
    simp at hl
    have : l.length % 3 = 1 := by rw [e2, show cs.length % 4 = 2 by omega]
    rw [this]
    exact e.symm

/-- what a text is of: the bytes, or nothing -/
def Is (s : Str) (o : Option Str) : Prop := match o with
  | some b => enc b = s
  | none => ∀ b, enc b ≠ s
theorem Is.uniq {s : Str} {o p : Option Str} (ho : Is s o) (hp : Is s p) : o = p := by
  cases o with
  | none =>
    cases p with
    | none => rfl
    | some b => exact absurd hp (ho b)
  | some a =>
    cases p with
    | none => exact absurd ho (hp a)
    | some b =>
      have h1 : enc a = s := ho
      have h2 : enc b = s := hp
      rw [enc_inj (h1.trans h2.symm)]
theorem is_enc (b : Str) : Is (enc b) (some b) := rfl
theorem is_odd {s : Str} (h : s.length % 4 ≠ 0) : Is s none := fun b e => by
  rw [← e, enc_len] at h
  unfold size at h
  omega
theorem is_none {s : Str} (h : dgo 0 0 (strip s) = none) : Is s none := fun b e => by rw [← e, dgo_enc] at h; cases h
theorem is_left {s : Str} {r : Nat} {l : Str} (h : dgo 0 0 (strip s) = some (r, l)) (hr : r ≠ 0) : Is s none := fun b e => by
  rw [← e, dgo_enc] at h
  simp only [Option.some.injEq, Prod.mk.injEq] at h
  exact hr h.1.symm

/-! ### the document's way: groups of four -/
def gs (x : Nat × Nat) (c : UInt8) : Nat × Nat := if vl c < 0 then (64 * x.1, x.2) else (64 * x.1 + (vl c).toNat, x.2 + 1)
def grp (l : Str) : Nat × Nat := l.foldl gs (0, 0)
theorem grp_snoc (l : Str) (c : UInt8) : grp (l ++ [c]) = gs (grp l) c := by simp [grp]
theorem gs_lt {x : Nat × Nat} {j : Nat} (h1 : x.1 < 64 ^ j) (h2 : x.2 ≤ j) (c : UInt8) : (gs x c).1 < 64 ^ (j + 1) ∧ (gs x c).2 ≤ j + 1 := by
  unfold gs
  have e : 64 ^ (j + 1) = 64 * 64 ^ j := by rw [Nat.pow_succ, Nat.mul_comm]
  rw [e]
  rcases vl_range c with h | ⟨h, h', _⟩
  · rw [if_pos (by omega)]; exact ⟨by show 64 * x.1 < _; omega, by show x.2 ≤ _; omega⟩
  · rw [if_neg (by omega)]; exact ⟨by show 64 * x.1 + (vl c).toNat < _; omega, by show x.2 + 1 ≤ _; omega⟩
theorem foldl_lt : ∀ (l : Str) (x : Nat × Nat) (j : Nat), x.1 < 64 ^ j → x.2 ≤ j → (l.foldl gs x).1 < 64 ^ (j + l.length) ∧ (l.foldl gs x).2 ≤ j + l.length
  | [], x, j, h1, h2 => ⟨h1, h2⟩
  | c :: l, x, j, h1, h2 => by
    obtain ⟨a, b⟩ := gs_lt h1 h2 c
    have := foldl_lt l (gs x c) (j + 1) a b
    rw [show j + (c :: l).length = j + 1 + l.length by simp only [List.length_cons]; omega]
    exact this
theorem grp_lt (l : Str) : (grp l).1 < 64 ^ l.length ∧ (grp l).2 ≤ l.length := by
  have := foldl_lt l (0, 0) 0 (by simp) (Nat.le_refl _)
  rwa [Nat.zero_add] at this

def three (n : Nat) : Str := [UInt8.ofNat (n / 65536), UInt8.ofNat (n / 256 % 256), UInt8.ofNat (n % 256)]
def raw : Str → Option Str
  | p :: q :: u :: v :: cs => if (grp [p, q, u, v]).2 < 2 then none else (raw cs).map fun x => (three (grp [p, q, u, v]).1).take ((grp [p, q, u, v]).2 - 1) ++ x
  | _ => some []
def before (acc : Str) (o : Option Str) : Option Str := o.map fun x => acc ++ x
theorem before_nil (o : Option Str) : before [] o = o := by cases o <;> rfl
theorem before_more (acc y : Str) (o : Option Str) : before acc (o.map fun x => y ++ x) = before (acc ++ y) o := by cases o <;> simp [before]

theorem take_four {s : Str} {i : Nat} (h : i + 4 ≤ s.length) : ∃ p q u v, (s.drop i).take 4 = [p, q, u, v] ∧ s.drop i = p :: q :: u :: v :: s.drop (i + 4) := by
  have h1 : ∀ k (hk : k < 4), s.drop (i + k) = s[i + k]'(by omega) :: s.drop (i + k + 1) := fun k hk => List.drop_eq_getElem_cons (by omega)
  have e0 : s.drop i = s[i]'(by omega) :: s.drop (i + 1) := List.drop_eq_getElem_cons (by omega); have e1 := h1 1 (by omega); have e2 := h1 2 (by omega); have e3 := h1 3 (by omega)
  have e : s.drop i = s[i]'(by omega) :: s[i + 1]'(by omega) :: s[i + 2]'(by omega) :: s[i + 3]'(by omega) :: s.drop (i + 4) := by
    rw [e0, e1, e2, e3]
  exact ⟨_, _, _, _, by rw [e]; rfl, e⟩
theorem raw_bad {s : Str} {i : Nat} (h : i + 4 ≤ s.length) (hm : (grp ((s.drop i).take 4)).2 < 2) : raw (s.drop i) = none := by
  obtain ⟨p, q, u, v, e, e'⟩ := take_four h
  rw [e] at hm
  rw [e', raw, if_pos hm]
theorem raw_more {s : Str} {i : Nat} (h : i + 4 ≤ s.length) (hm : ¬ (grp ((s.drop i).take 4)).2 < 2) : raw (s.drop i) = (raw (s.drop (i + 4))).map fun x => (three (grp ((s.drop i).take 4)).1).take ((grp ((s.drop i).take 4)).2 - 1) ++ x := by
  obtain ⟨p, q, u, v, e, e'⟩ := take_four h
  rw [e] at hm ⊢
  rw [e', raw, if_neg hm]
theorem gs_lt64 {n m p : Nat} (h : p < 64) : gs (n, m) (lt p) = (64 * n + p, m + 1) := by
  unfold gs
  rw [vl_lt h, if_neg (by omega)]
  rfl
theorem gs_pad (n m : Nat) : gs (n, m) 61 = (64 * n, m) := by
  unfold gs
  rw [vl_pad, if_pos (by omega)]
theorem raw_enc : ∀ b : Str, raw (enc b) = some b
  | [] => rfl
  | [a] => by
    have ha := a.toNat_lt
    have e : grp [lt (a.toNat / 4), lt (a.toNat % 4 * 16), 61, 61] = (64 * (64 * (64 * (a.toNat / 4) + a.toNat % 4 * 16)), 2) := by
      simp only [grp, List.foldl, gs_pad]
      rw [gs_lt64 (by omega), gs_lt64 (by omega), gs_pad, gs_pad]
      simp
    rw [enc, raw, e, if_neg (by omega), show 64 * (64 * (64 * (a.toNat / 4) + a.toNat % 4 * 16)) = a.toNat * 65536 by omega]
    simp [raw, three]
  | [a, b] => by
    have ha := a.toNat_lt; have hb := b.toNat_lt
    have e : grp [lt (a.toNat / 4), lt (a.toNat % 4 * 16 + b.toNat / 16), lt (b.toNat % 16 * 4), 61] = (64 * (64 * (64 * (a.toNat / 4) + (a.toNat % 4 * 16 + b.toNat / 16)) + b.toNat % 16 * 4), 3) := by
      simp only [grp, List.foldl]
      rw [gs_lt64 (by omega), gs_lt64 (by omega), gs_lt64 (by omega), gs_pad]
      simp
    rw [enc, raw, e, if_neg (by omega), show 64 * (64 * (64 * (a.toNat / 4) + (a.toNat % 4 * 16 + b.toNat / 16)) + b.toNat % 16 * 4) = a.toNat * 65536 + b.toNat * 256 by omega]
    have e1 : (a.toNat * 65536 + b.toNat * 256) / 65536 = a.toNat := by omega
    have e2 : (a.toNat * 65536 + b.toNat * 256) / 256 % 256 = b.toNat := by omega
    simp [raw, three, e1, e2]
  | a :: b :: c :: r => by
    have ha := a.toNat_lt; have hb := b.toNat_lt; have hc := c.toNat_lt
    have e : grp [lt (a.toNat / 4), lt (a.toNat % 4 * 16 + b.toNat / 16), lt (b.toNat % 16 * 4 + c.toNat / 64), lt (c.toNat % 64)] = (64 * (64 * (64 * (a.toNat / 4) + (a.toNat % 4 * 16 + b.toNat / 16)) + (b.toNat % 16 * 4 + c.toNat / 64)) + c.toNat % 64, 4) := by
      simp only [grp, List.foldl]
      rw [gs_lt64 (by omega), gs_lt64 (by omega), gs_lt64 (by omega), gs_lt64 (by omega)]
      simp
    rw [enc, raw, e, if_neg (by omega), raw_enc r, show 64 * (64 * (64 * (a.toNat / 4) + (a.toNat % 4 * 16 + b.toNat / 16)) + (b.toNat % 16 * 4 + c.toNat / 64)) + c.toNat % 64 = a.toNat * 65536 + b.toNat * 256 + c.toNat by omega]
    have e1 : (a.toNat * 65536 + b.toNat * 256 + c.toNat) / 65536 = a.toNat := by omega
    have e2 : (a.toNat * 65536 + b.toNat * 256 + c.toNat) / 256 % 256 = b.toNat := by omega
    have e3 : (a.toNat * 65536 + b.toNat * 256 + c.toNat) % 256 = c.toNat := by omega
    simp [three, e1, e2, e3]
theorem is_raw {s l : Str} (h : raw s = some l) (he : enc l ≠ s) : Is s none := fun b e => by
  rw [← e, raw_enc] at h
  simp only [Option.some.injEq] at h
  exact he (by rw [← h]; exact e)
theorem is_raw_none {s : Str} (h : raw s = none) : Is s none := fun b e => by rw [← e, raw_enc] at h; cases h

/-! ### the document's encoding, three by three -/
def at3 (a b c : Nat) : Nat := 65536 * a + 256 * b + c
theorem enc_drop3 {b : Str} {i : Nat} (h : i + 3 ≤ b.length) : ∃ x y z, b[i]? = some x ∧ b[i + 1]? = some y ∧ b[i + 2]? = some z ∧
    enc (b.drop i) = [lt (at3 x.toNat y.toNat z.toNat / 262144), lt (at3 x.toNat y.toNat z.toNat / 4096 % 64), lt (at3 x.toNat y.toNat z.toNat / 64 % 64), lt (at3 x.toNat y.toNat z.toNat % 64)] ++ enc (b.drop (i + 3)) := by
  have h1 : ∀ k (hk : k < 3), b.drop (i + k) = b[i + k]'(by omega) :: b.drop (i + k + 1) := fun k hk => List.drop_eq_getElem_cons (by omega)
  have e0 : b.drop i = b[i]'(by omega) :: b.drop (i + 1) := List.drop_eq_getElem_cons (by omega); have e1 := h1 1 (by omega); have e2 := h1 2 (by omega)
  refine ⟨b[i]'(by omega), b[i + 1]'(by omega), b[i + 2]'(by omega), List.getElem?_eq_getElem _, List.getElem?_eq_getElem _, List.getElem?_eq_getElem _, ?_⟩
  rw [e0, e1, e2]
  have hx := (b[i]'(by omega)).toNat_lt; have hy := (b[i + 1]'(by omega)).toNat_lt; have hz := (b[i + 2]'(by omega)).toNat_lt
  generalize (b[i]'(by omega)) = x at *
  generalize (b[i + 1]'(by omega)) = y at *
  generalize (b[i + 2]'(by omega)) = z at *
  unfold at3
  rw [enc, show (65536 * x.toNat + 256 * y.toNat + z.toNat) / 262144 = x.toNat / 4 by omega, show (65536 * x.toNat + 256 * y.toNat + z.toNat) / 4096 % 64 = x.toNat % 4 * 16 + y.toNat / 16 by omega,
    show (65536 * x.toNat + 256 * y.toNat + z.toNat) / 64 % 64 = y.toNat % 16 * 4 + z.toNat / 64 by omega, show (65536 * x.toNat + 256 * y.toNat + z.toNat) % 64 = z.toNat % 64 by omega]
  rfl
theorem enc_drop2 {b : Str} {i : Nat} (h : i + 2 = b.length) : ∃ x y, b[i]? = some x ∧ b[i + 1]? = some y ∧
    enc (b.drop i) = [lt (at3 x.toNat y.toNat 0 / 262144), lt (at3 x.toNat y.toNat 0 / 4096 % 64), lt (at3 x.toNat y.toNat 0 / 64 % 64), 61] := by
  have h1 : ∀ k (hk : k < 2), b.drop (i + k) = b[i + k]'(by omega) :: b.drop (i + k + 1) := fun k hk => List.drop_eq_getElem_cons (by omega)
  have e0 : b.drop i = b[i]'(by omega) :: b.drop (i + 1) := List.drop_eq_getElem_cons (by omega); have e1 := h1 1 (by omega)
  refine ⟨b[i]'(by omega), b[i + 1]'(by omega), List.getElem?_eq_getElem _, List.getElem?_eq_getElem _, ?_⟩
  rw [e0, e1, List.drop_eq_nil_of_le (by omega)]
  have hx := (b[i]'(by omega)).toNat_lt; have hy := (b[i + 1]'(by omega)).toNat_lt
  generalize (b[i]'(by omega)) = x at *
  generalize (b[i + 1]'(by omega)) = y at *
  unfold at3
  rw [enc, show (65536 * x.toNat + 256 * y.toNat + 0) / 262144 = x.toNat / 4 by omega, show (65536 * x.toNat + 256 * y.toNat + 0) / 4096 % 64 = x.toNat % 4 * 16 + y.toNat / 16 by omega,
    show (65536 * x.toNat + 256 * y.toNat + 0) / 64 % 64 = y.toNat % 16 * 4 by omega]
theorem enc_drop1 {b : Str} {i : Nat} (h : i + 1 = b.length) : ∃ x, b[i]? = some x ∧
    enc (b.drop i) = [lt (at3 x.toNat 0 0 / 262144), lt (at3 x.toNat 0 0 / 4096 % 64), 61, 61] := by
  have e0 : b.drop i = b[i]'(by omega) :: b.drop (i + 1) := List.drop_eq_getElem_cons (by omega)
  refine ⟨b[i]'(by omega), List.getElem?_eq_getElem _, ?_⟩
  rw [e0, List.drop_eq_nil_of_le (by omega)]
  have hx := (b[i]'(by omega)).toNat_lt
  generalize (b[i]'(by omega)) = x at *
  unfold at3
  rw [enc, show (65536 * x.toNat + 256 * 0 + 0) / 262144 = x.toNat / 4 by omega, show (65536 * x.toNat + 256 * 0 + 0) / 4096 % 64 = x.toNat % 4 * 16 by omega]
end Go.Proofs.YtghdaengkgiekaaGreatDoor.sx
