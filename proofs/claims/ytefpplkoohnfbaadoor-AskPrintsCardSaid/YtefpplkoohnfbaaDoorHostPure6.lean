/-
  Given for the seat's laws: addresses whose groups are written with noughts ahead, and with a row of noughts left out. No program, no memory.
-/
import Derived.Test.YtefpplkoohnfbaaDoorHostPure5
namespace Go.Proofs.YtefpplkoohnfbaaDoor.hostp
set_option linter.unusedVariables false

def smallC (c : UInt8) : Prop := ¬ (65 ≤ c.toNat ∧ c.toNat ≤ 90)
theorem tx6_small {l : List Str} (h : ∀ x ∈ l, ∀ c ∈ x, smallC c) (k m : Nat) : low (tx6 l k m) = tx6 l k m := by
  have hc : smallC 58 := by unfold smallC; decide
  have key : ∀ {l' : List Str}, (∀ x ∈ l', x ∈ l) → ∀ c ∈ join 58 l', smallC c := fun {l'} hl c hm => by
    rcases join_mem hm with rfl | ⟨x, hx, hcx⟩
    · exact hc
    · exact h x (hl x hx) c hcx
  refine low_id fun c hm => ?_
  unfold tx6 at hm
  split at hm
  · exact key (fun x hx => hx) c hm
  · rcases List.mem_append.1 hm with hm | hm
    · exact key (fun x hx => List.mem_of_mem_take hx) c hm
    · rcases List.mem_cons.1 hm with rfl | hm
      · exact hc
      · rcases List.mem_cons.1 hm with rfl | hm
        · exact hc
        · exact key (fun x hx => List.mem_of_mem_drop hx) c hm

/-- a number's digits; none for 0 -/
def nz (n : Nat) : Str := if n = 0 then [] else nm 16 n
theorem nz_zero : nz 0 = [] := rfl
theorem nz_step {n : Nat} (h : 0 < n) : nz n = nz (n / 16) ++ [dg (n % 16)] := by
  unfold nz
  rw [if_neg (by omega)]
  by_cases h1 : n < 16
  · rw [if_pos (by omega), nm_small h1, Nat.mod_eq_of_lt h1]
    rfl
  · rw [if_neg (by omega), nm_step (by omega) h1]
/-- a group as the law writes it: at least so many digits -/
def word (v wide : Nat) : Str := List.replicate (wide - (nz v).length) 48 ++ nz v
theorem nz_len {v : Nat} (hv : v < 65536) : (nz v).length ≤ 4 := by
  unfold nz
  split
  · simp
  · exact nm_len (by omega) 3 v (by omega)
theorem word_grp {v wide : Nat} (hv : v < 65536) (h1 : 1 ≤ wide) (h4 : wide ≤ 4) : grp (word v wide) = some v := by
  unfold word
  by_cases h0 : v = 0
  · subst h0
    rw [nz_zero, List.append_nil, List.length_nil]
    exact grp_zero h1 h4
  · have e : nz v = nm 16 v := by unfold nz; rw [if_neg h0]
    have hl := nz_len hv
    rw [e] at hl ⊢
    exact grp_noughts hv (by simp; omega)
theorem word_small {v wide : Nat} : ∀ c ∈ word v wide, smallC c := fun c hc => by
  unfold word at hc
  rcases List.mem_append.1 hc with hc | hc
  · obtain rfl := List.eq_of_mem_replicate hc
    unfold smallC
    decide
  · unfold nz at hc
    split at hc
    · simp at hc
    · obtain ⟨d, hd, rfl⟩ := nm_mem (by omega) v c hc
      exact (dg_small hd).1
/-- one nought more ahead -/
theorem word_pad {v wide : Nat} {k : Nat} : (48 : UInt8) :: (List.replicate k 48 ++ nz v) = List.replicate (k + 1) 48 ++ nz v := rfl

def words : List Nat → List Nat → List Str
  | v :: g, n :: w => word v n :: words g w
  | _, _ => []
theorem words_all : ∀ {g w : List Nat}, g.length = w.length → (∀ v ∈ g, v < 65536) → (∀ n ∈ w, 1 ≤ n ∧ n ≤ 4) → AllGrp (words g w) g
  | [], [], _, _, _ => trivial
  | v :: g, n :: w, hl, hg, hw => ⟨word_grp (hg v (by simp)) (hw n (by simp)).1 (hw n (by simp)).2, words_all (by simpa using hl) (fun u hu => hg u (by simp [hu])) (fun u hu => hw u (by simp [hu]))⟩
  | [], n :: w, hl, _, _ => by simp at hl
  | v :: g, [], hl, _, _ => by simp at hl
theorem words_small : ∀ {g w : List Nat}, ∀ x ∈ words g w, ∀ c ∈ x, smallC c
  | [], [], x, hx => by simp [words] at hx
  | [], n :: w, x, hx => by simp [words] at hx
  | v :: g, [], x, hx => by simp [words] at hx
  | v :: g, n :: w, x, hx => by
    rcases List.mem_cons.1 (show x ∈ word v n :: words g w from hx) with rfl | hx
    · exact word_small
    · exact words_small x hx
theorem words_get : ∀ {g w : List Nat} {i v n : Nat}, g[i]? = some v → w[i]? = some n → (words g w)[i]? = some (word v n)
  | [], w, i, v, n, h, _ => by simp at h
  | v :: g, [], i, _, _, _, h => by simp at h
  | v :: g, n :: w, 0, u, m, h1, h2 => by
    simp at h1 h2
    subst h1 h2
    rfl
  | v :: g, n :: w, i + 1, u, m, h1, h2 => by
    show (words g w)[i]? = _
    exact words_get (by simpa using h1) (by simpa using h2)
/-- written out, each group with noughts ahead, or with one row of its noughts left out: the same address -/
theorem parse_words {g w : List Nat} (h8 : g.length = 8) (hw8 : w.length = 8) (hg : ∀ v ∈ g, v < 65536) (hw : ∀ n ∈ w, 1 ≤ n ∧ n ≤ 4) {k m : Nat} (hz : m = 0 ∨ k + m ≤ 8 ∧ ∀ i, k ≤ i → i < k + m → g[i]? = some 0) :
    parse (tx6 (words g w) k m) = some ⟨2, by2 g⟩ :=
  parse_tx6 (words_all (by omega) hg hw) h8 hz (tx6_small (fun x hx => words_small x hx) k m)

/-! ### the chapter's examples -/
def bs (l : List Nat) : Str := l.map UInt8.ofNat
/-- 'A.Example' is 'a.example' -/
theorem ex_name : parse (bs [65, 46, 69, 120, 97, 109, 112, 108, 101]) = some ⟨3, bs [97, 46, 101, 120, 97, 109, 112, 108, 101]⟩ := by decide
/-- '0:0::0' -/
theorem ex_six : parse (bs [48, 58, 48, 58, 58, 48]) = some ⟨2, by2 [0, 0, 0, 0, 0, 0, 0, 0]⟩ := by decide
/-- '10.0.0.255' -/
theorem ex_v4 : text ⟨1, bs [10, 0, 0, 255]⟩ = bs [49, 48, 46, 48, 46, 48, 46, 50, 53, 53] := by decide +kernel
/-- '::1' -/
theorem ex_one : text ⟨2, by2 [0, 0, 0, 0, 0, 0, 0, 1]⟩ = bs [58, 58, 49] := by decide +kernel
/-- '::' -/
theorem ex_all : text ⟨2, by2 [0, 0, 0, 0, 0, 0, 0, 0]⟩ = bs [58, 58] := by decide +kernel
/-- '2001:db8::1:0' -/
theorem ex_db8 : text ⟨2, by2 [8193, 3512, 0, 0, 0, 0, 1, 0]⟩ = bs [50, 48, 48, 49, 58, 100, 98, 56, 58, 58, 49, 58, 48] := by decide +kernel
/-- '1:0:0:2::3' -/
theorem ex_two : text ⟨2, by2 [1, 0, 0, 2, 0, 0, 0, 3]⟩ = bs [49, 58, 48, 58, 48, 58, 50, 58, 58, 51] := by decide +kernel
/-- '1:0:2:3:4:5:6:7' -/
theorem ex_single : text ⟨2, by2 [1, 0, 2, 3, 4, 5, 6, 7]⟩ = bs [49, 58, 48, 58, 50, 58, 51, 58, 52, 58, 53, 58, 54, 58, 55] := by decide +kernel
/-- '[::1]:80' -/
theorem ex_target : parseT (bs [91, 58, 58, 49, 93, 58, 56, 48]) = some ⟨⟨2, by2 [0, 0, 0, 0, 0, 0, 0, 1]⟩, 80⟩ := by decide +kernel
/-- '[::1]:80' -/
theorem ex_print : print ⟨⟨2, by2 [0, 0, 0, 0, 0, 0, 0, 1]⟩, 80⟩ = bs [91, 58, 58, 49, 93, 58, 56, 48] := by decide +kernel
/-- 'a:080' -/
theorem ex_noT0 : parseT (bs [97, 58, 48, 56, 48]) = none := by decide +kernel
/-- 'a:0' -/
theorem ex_noT1 : parseT (bs [97, 58, 48]) = none := by decide +kernel
/-- '::1:80' -/
theorem ex_noT2 : parseT (bs [58, 58, 49, 58, 56, 48]) = none := by decide +kernel
/-- 'a..b' -/
theorem ex_no0 : parse (bs [97, 46, 46, 98]) = none := by decide +kernel
/-- 'a.1' -/
theorem ex_no1 : parse (bs [97, 46, 49]) = none := by decide +kernel
/-- '-a' -/
theorem ex_no2 : parse (bs [45, 97]) = none := by decide +kernel
/-- '1.2.3.04' -/
theorem ex_no3 : parse (bs [49, 46, 50, 46, 51, 46, 48, 52]) = none := by decide +kernel
/-- '1.2.3' -/
theorem ex_no4 : parse (bs [49, 46, 50, 46, 51]) = none := by decide +kernel
/-- '1.2.3.256' -/
theorem ex_no5 : parse (bs [49, 46, 50, 46, 51, 46, 50, 53, 54]) = none := by decide +kernel
/-- '1::2::3' -/
theorem ex_no6 : parse (bs [49, 58, 58, 50, 58, 58, 51]) = none := by decide +kernel
/-- '1:2:3:4:5:6:7::8' -/
theorem ex_no7 : parse (bs [49, 58, 50, 58, 51, 58, 52, 58, 53, 58, 54, 58, 55, 58, 58, 56]) = none := by decide +kernel

end Go.Proofs.YtefpplkoohnfbaaDoor.hostp
