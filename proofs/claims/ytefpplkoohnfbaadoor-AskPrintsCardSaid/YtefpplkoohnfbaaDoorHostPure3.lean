/-
  Given for the seat's laws: hosts as plain lists of bytes: what may be, its text, and what a text is of. What is written is read as it was; what is read may be. No program, no memory.
-/
import Derived.Test.YtefpplkoohnfbaaDoorHostPure2
namespace Go.Proofs.YtefpplkoohnfbaaDoor.hostp
set_option linter.unusedVariables false

/-! ### small letters -/
def lc (c : UInt8) : UInt8 := if 65 ≤ c.toNat ∧ c.toNat ≤ 90 then c + 32 else c
def low (s : Str) : Str := s.map lc
theorem lc_great {c : UInt8} (h : 65 ≤ c.toNat ∧ c.toNat ≤ 90) : (lc c).toNat = c.toNat + 32 := by
  unfold lc
  rw [if_pos h, UInt8.toNat_add]
  have : (32 : UInt8).toNat = 32 := rfl
  omega
theorem lc_else {c : UInt8} (h : ¬ (65 ≤ c.toNat ∧ c.toNat ≤ 90)) : lc c = c := by unfold lc; rw [if_neg h]
theorem lc_lc (c : UInt8) : lc (lc c) = lc c := lc_else (by
  by_cases h : 65 ≤ c.toNat ∧ c.toNat ≤ 90
  · rw [lc_great h]; omega
  · rw [lc_else h]; exact h)
theorem low_low (s : Str) : low (low s) = low s := by simp [low, lc_lc, Function.comp_def]
theorem low_id {s : Str} (h : ∀ c ∈ s, ¬ (65 ≤ c.toNat ∧ c.toNat ≤ 90)) : low s = s := by
  unfold low
  conv => rhs; rw [← List.map_id s]
  exact List.map_congr_left fun c hc => lc_else (h c hc)
/-- a byte that is no letter is that of its small form -/
theorem lc_eq {c d : UInt8} (hd : d.toNat < 97) (hd2 : ¬ (65 ≤ d.toNat ∧ d.toNat ≤ 90)) : lc c = d ↔ c = d := by
  constructor
  · intro e
    by_cases h : 65 ≤ c.toNat ∧ c.toNat ≤ 90
    · have := lc_great h
      rw [e] at this
      omega
    · rw [lc_else h] at e; exact e
  · rintro rfl
    exact lc_else hd2

theorem join_mem {a : UInt8} : ∀ {l : List Str} {c : UInt8}, c ∈ join a l → c = a ∨ ∃ x ∈ l, c ∈ x
  | [], c, h => by simp [join] at h
  | [x], c, h => .inr ⟨x, by simp, h⟩
  | x :: y :: l, c, h => by
    rcases List.mem_append.1 (show c ∈ x ++ a :: join a (y :: l) from h) with h | h
    · exact .inr ⟨x, by simp, h⟩
    · rcases List.mem_cons.1 h with rfl | h
      · exact .inl rfl
      · rcases join_mem h with e | ⟨z, hz, hc⟩
        · exact .inl e
        · exact .inr ⟨z, by simp at hz ⊢; exact .inr hz, hc⟩
theorem mem_join {a : UInt8} {x y : Str} {l : List Str} : a ∈ join a (x :: y :: l) := by
  show a ∈ x ++ a :: join a (y :: l)
  simp

/-! ### names -/
def dig (c : UInt8) : Bool := decide (48 ≤ c.toNat) && decide (c.toNat ≤ 57)
def okc (c : UInt8) : Bool := dig c || decide (c = 45) || (decide (97 ≤ c.toNat) && decide (c.toNat ≤ 122))
def lab (x : Str) : Bool := decide (x ≠ []) && x.all okc && decide (x.head? ≠ some 45) && decide (x.getLast? ≠ some 45)
def nameB (s : Str) : Bool := decide (s.length ≤ 40) && (cut 46 s).all lab && !((cut 46 s).getLast?.getD []).all dig
theorem okc_nat {c : UInt8} (h : okc c = true) : 48 ≤ c.toNat ∧ c.toNat ≤ 57 ∨ c.toNat = 45 ∨ 97 ≤ c.toNat ∧ c.toNat ≤ 122 := by
  unfold okc dig at h
  simp only [Bool.or_eq_true, Bool.and_eq_true, decide_eq_true_eq] at h
  rcases h with (h | rfl) | h
  · exact .inl h
  · exact .inr (.inl (by decide))
  · exact .inr (.inr h)
theorem name_mem {s : Str} (h : nameB s = true) {c : UInt8} (hc : c ∈ s) : c = 46 ∨ okc c = true := by
  unfold nameB at h
  simp only [Bool.and_eq_true, List.all_eq_true] at h
  rw [← join_cut 46 s] at hc
  rcases join_mem hc with e | ⟨x, hx, hc⟩
  · exact .inl e
  · have := h.1.2 x hx
    unfold lab at this
    simp only [Bool.and_eq_true, List.all_eq_true] at this
    exact .inr (this.1.1.2 c hc)
theorem name_low {s : Str} (h : nameB s = true) : low s = s := low_id fun c hc => by
  rcases name_mem h hc with rfl | hh
  · decide
  · have := okc_nat hh; omega
theorem name_colon {s : Str} (h : nameB s = true) : (58 : UInt8) ∉ s := fun hc => by
  rcases name_mem h hc with e | hh
  · exact absurd e (by decide)
  · have := okc_nat hh
    have e : (58 : UInt8).toNat = 58 := rfl
    omega
def dd (c : UInt8) : Bool := dig c || decide (c = 46)
theorem name_plain {s : Str} (h : nameB s = true) : s.all dd = false := by
  rcases hd : s.all dd with _ | _
  · rfl
  · exfalso
    unfold nameB at h
    simp only [Bool.and_eq_true, Bool.not_eq_true'] at h
    have h2 := h.2
    rw [List.all_eq_true] at hd
    cases hl : (cut 46 s).getLast? with
    | none => exact cut_ne 46 s (List.getLast?_eq_none_iff.1 hl)
    | some x =>
      rw [hl] at h2
      have hx : x ∈ cut 46 s := List.mem_of_getLast? hl
      have : x.all dig = true := by
        rw [List.all_eq_true]
        intro c hc
        have h1 := hd c (cut_sub 46 s x hx c hc)
        unfold dd at h1
        simp only [Bool.or_eq_true, decide_eq_true_eq] at h1
        rcases h1 with h1 | rfl
        · exact h1
        · exact absurd hc (cut_mem 46 s x hx)
      rw [Option.getD_some, this] at h2
      cases h2

/-! ### bytes and groups -/
def by2 : List Nat → Str
  | [] => []
  | v :: g => UInt8.ofNat (v / 256) :: UInt8.ofNat (v % 256) :: by2 g
def un2 : Str → List Nat
  | a :: b :: r => (256 * a.toNat + b.toNat) :: un2 r
  | _ => []
theorem by2_len : ∀ g : List Nat, (by2 g).length = 2 * g.length
  | [] => rfl
  | v :: g => by simp [by2, by2_len g]; omega
theorem un2_by2 : ∀ {g : List Nat}, (∀ v ∈ g, v < 65536) → un2 (by2 g) = g
  | [], _ => rfl
  | v :: g, h => by
    have hv := h v (by simp)
    have e1 : (UInt8.ofNat (v / 256)).toNat = v / 256 := by rw [UInt8.toNat_ofNat']; omega
    have e2 : (UInt8.ofNat (v % 256)).toNat = v % 256 := by rw [UInt8.toNat_ofNat']; omega
    show (256 * _ + _) :: un2 (by2 g) = _
    rw [e1, e2, un2_by2 fun u hu => h u (by simp [hu])]
    congr 1
    omega
theorem by2_un2 : ∀ (n : Nat) {t : Str}, t.length = 2 * n → by2 (un2 t) = t
  | 0, t, h => by
    obtain rfl : t = [] := List.length_eq_zero_iff.1 (by omega)
    rfl
  | n + 1, [], h => by simp at h
  | n + 1, [a], h => by simp at h; omega
  | n + 1, a :: b :: r, h => by
    have hr : r.length = 2 * n := by simp at h; omega
    show UInt8.ofNat ((256 * a.toNat + b.toNat) / 256) :: UInt8.ofNat ((256 * a.toNat + b.toNat) % 256) :: by2 (un2 r) = _
    have ha := a.toNat_lt
    have hb := b.toNat_lt
    rw [by2_un2 n hr, show (256 * a.toNat + b.toNat) / 256 = a.toNat by omega, show (256 * a.toNat + b.toNat) % 256 = b.toNat by omega, UInt8.ofNat_toNat, UInt8.ofNat_toNat]
theorem un2_len : ∀ (n : Nat) {t : Str}, t.length = 2 * n → (un2 t).length = n
  | 0, t, h => by
    obtain rfl : t = [] := List.length_eq_zero_iff.1 (by omega)
    rfl
  | n + 1, [], h => by simp at h
  | n + 1, [a], h => by simp at h; omega
  | n + 1, a :: b :: r, h => by
    have hr : r.length = 2 * n := by simp at h; omega
    show (_ :: un2 r).length = _
    rw [List.length_cons, un2_len n hr]
theorem un2_lt : ∀ (n : Nat) {t : Str}, t.length = 2 * n → ∀ v ∈ un2 t, v < 65536
  | 0, t, h, v, hv => by
    obtain rfl : t = [] := List.length_eq_zero_iff.1 (by omega)
    simp [un2] at hv
  | n + 1, [], h, _, _ => by simp at h
  | n + 1, [a], h, _, _ => by simp at h; omega
  | n + 1, a :: b :: r, h, v, hv => by
    have hr : r.length = 2 * n := by simp at h; omega
    have ha := a.toNat_lt
    have hb := b.toNat_lt
    rcases List.mem_cons.1 (show v ∈ _ :: un2 r from hv) with rfl | hv
    · omega
    · exact un2_lt n hr v hv

/-! ### the longest row of noughts -/
def zr : List Nat → Nat
  | [] => 0
  | v :: g => if v = 0 then zr g + 1 else 0
theorem zr_get : ∀ {g : List Nat} {i : Nat}, i < zr g → g[i]? = some 0
  | [], i, h => by simp [zr] at h
  | v :: g, i, h => by
    unfold zr at h
    split at h
    · rename_i hv
      subst hv
      cases i with
      | zero => rfl
      | succ i => simpa using zr_get (g := g) (i := i) (by omega)
    · omega
theorem zr_le : ∀ g : List Nat, zr g ≤ g.length
  | [] => by simp [zr]
  | v :: g => by
    unfold zr
    have := zr_le g
    split <;> simp <;> omega
/-- of the first k places the one with the longest row, the first one of several -/
def bst (g : List Nat) : Nat → Nat × Nat
  | 0 => (0, 0)
  | k + 1 => if zr (g.drop k) > (bst g k).2 ∧ 2 ≤ zr (g.drop k) then (k, zr (g.drop k)) else bst g k
theorem bst_ok {g : List Nat} (h8 : g.length = 8) : ∀ k, k ≤ 8 → (bst g k).2 = 0 ∨ (bst g k).1 + (bst g k).2 ≤ 8 ∧ ∀ i, (bst g k).1 ≤ i → i < (bst g k).1 + (bst g k).2 → g[i]? = some 0
  | 0, _ => .inl rfl
  | k + 1, hk => by
    unfold bst
    split
    · refine .inr ⟨?_, fun i h1 h2 => ?_⟩
      · have := zr_le (g.drop k)
        simp at this
        show k + zr (g.drop k) ≤ 8
        omega
      · have := zr_get (g := g.drop k) (i := i - k) (by dsimp only at h1 h2; omega)
        rw [List.getElem?_drop] at this
        rwa [show k + (i - k) = i by dsimp only at h1; omega] at this
    · exact bst_ok h8 k (by omega)

/-! ### hosts -/
structure H where
  kind : Nat
  text : Str
deriving DecidableEq
def may (h : H) : Bool := (decide (h.kind = 1) && decide (h.text.length = 4)) || (decide (h.kind = 2) && decide (h.text.length = 16)) || (decide (h.kind = 3) && nameB h.text)
def text6 (t : Str) : Str := tx6 ((un2 t).map (nm 16)) (bst (un2 t) 8).1 (bst (un2 t) 8).2
def text4 (t : Str) : Str := join 46 (t.map fun c => nm 10 c.toNat)
def text (h : H) : Str := if may h then (if h.kind = 3 then h.text else if h.kind = 1 then text4 h.text else text6 h.text) else []
def parse (s0 : Str) : Option H :=
  if 58 ∈ low s0 then (six (low s0)).map fun g => ⟨2, by2 g⟩
  else if low s0 ≠ [] ∧ (low s0).all dd = true then (four (low s0)).map fun b => ⟨1, b.map UInt8.ofNat⟩
  else if nameB (low s0) then some ⟨3, low s0⟩ else none
theorem parse_low {s s' : Str} (h : low s = low s') : parse s = parse s' := by unfold parse; rw [h]

theorem may_iff {h : H} : may h = true ↔ (h.kind = 1 ∧ h.text.length = 4) ∨ (h.kind = 2 ∧ h.text.length = 16) ∨ (h.kind = 3 ∧ nameB h.text = true) := by
  unfold may
  simp only [Bool.or_eq_true, Bool.and_eq_true, decide_eq_true_eq, or_assoc]

theorem tx6_mem {g : List Nat} {k m : Nat} {c : UInt8} (h : c ∈ tx6 (g.map (nm 16)) k m) : c = 58 ∨ ∃ d, d < 16 ∧ c = dg d := by
  have key : ∀ {l : List Str}, (∀ x ∈ l, x ∈ g.map (nm 16)) → c ∈ join 58 l → c = 58 ∨ ∃ d, d < 16 ∧ c = dg d := fun {l} hl hc => by
    rcases join_mem hc with e | ⟨x, hx, hc⟩
    · exact .inl e
    · obtain ⟨v, _, rfl⟩ := List.mem_map.1 (hl x hx)
      exact .inr (nm_mem (by omega) v c hc)
  unfold tx6 at h
  split at h
  · exact key (fun x hx => hx) h
  · rcases List.mem_append.1 h with h | h
    · exact key (fun x hx => List.mem_of_mem_take hx) h
    · rcases List.mem_cons.1 h with h | h
      · exact .inl h
      · rcases List.mem_cons.1 h with h | h
        · exact .inl h
        · exact key (fun x hx => List.mem_of_mem_drop hx) h
theorem tx6_colon {l : List Str} (h8 : l.length = 8) (k m : Nat) : (58 : UInt8) ∈ tx6 l k m := by
  unfold tx6
  split
  · match l, h8 with
    | x :: y :: l, _ => exact mem_join
  · simp
theorem text6_low (t : Str) : low (text6 t) = text6 t := low_id fun c hc => by
  rcases tx6_mem hc with rfl | ⟨d, hd, rfl⟩
  · decide
  · exact (dg_small hd).1
theorem text6_six {t : Str} (h : t.length = 16) : six (text6 t) = some (un2 t) := by
  have h8 : (un2 t).length = 8 := un2_len 8 (by omega)
  exact six_tx6 (AllGrp.nm (un2_lt 8 (by omega))) h8 (bst_ok h8 8 (Nat.le_refl _))
theorem text4_eq (t : Str) : text4 t = join 46 ((t.map UInt8.toNat).map (nm 10)) := by simp [text4, Function.comp_def]
theorem text4_mem {t : Str} {c : UInt8} (h : c ∈ text4 t) : dd c = true := by
  rcases join_mem h with rfl | ⟨x, hx, hc⟩
  · decide
  · obtain ⟨v, _, rfl⟩ := List.mem_map.1 hx
    have := nm10_free v.toNat c hc
    unfold dd dig
    simp only [Bool.or_eq_true, Bool.and_eq_true, decide_eq_true_eq]
    exact .inl this
theorem dd_nat {c : UInt8} (h : dd c = true) : 48 ≤ c.toNat ∧ c.toNat ≤ 57 ∨ c.toNat = 46 := by
  unfold dd dig at h
  simp only [Bool.or_eq_true, Bool.and_eq_true, decide_eq_true_eq] at h
  rcases h with h | rfl
  · exact .inl h
  · exact .inr (by decide)
theorem text4_low (t : Str) : low (text4 t) = text4 t := low_id fun c hc => by
  have := dd_nat (text4_mem hc)
  omega
theorem text4_four {t : Str} (h : t.length = 4) : four (text4 t) = some (t.map UInt8.toNat) := four_iff.2 ⟨by simpa using h, fun n hn => by
  obtain ⟨c, _, rfl⟩ := List.mem_map.1 hn
  have := c.toNat_lt
  omega, text4_eq t⟩

/-- what is written is read as it was -/
theorem parse_text {h : H} (hm : may h = true) : parse (text h) = some h := by
  unfold text
  rw [if_pos hm]
  obtain ⟨kd, t⟩ := h
  rcases may_iff.1 hm with ⟨rfl, ht⟩ | ⟨rfl, ht⟩ | ⟨rfl, ht⟩
  · rw [if_neg (by simp), if_pos rfl]
    dsimp only at ht ⊢
    have hne : text4 t ≠ [] := join_ne (fun e => by
      have h0 := congrArg List.length e
      rw [List.length_map, ht] at h0
      cases h0) fun x hx => by
        obtain ⟨c, _, rfl⟩ := List.mem_map.1 hx
        exact nm_ne (by omega) _
    have hall : (text4 t).all dd = true := List.all_eq_true.2 fun c hc => text4_mem hc
    have hno : (58 : UInt8) ∉ text4 t := fun e => by
      have := dd_nat (text4_mem e)
      have e2 : (58 : UInt8).toNat = 58 := rfl
      omega
    unfold parse
    rw [text4_low, if_neg hno, if_pos ⟨hne, hall⟩, text4_four ht]
    show some (H.mk 1 ((t.map UInt8.toNat).map UInt8.ofNat)) = _
    rw [List.map_map]
    have : (t.map (UInt8.ofNat ∘ UInt8.toNat)) = t := by
      conv => rhs; rw [← List.map_id t]
      exact List.map_congr_left fun c _ => UInt8.ofNat_toNat
    rw [this]
  · rw [if_neg (by simp), if_neg (by simp)]
    dsimp only at ht ⊢
    unfold parse
    have hcol : (58 : UInt8) ∈ text6 t := tx6_colon (by rw [List.length_map]; exact un2_len 8 (by omega)) _ _
    rw [text6_low, if_pos hcol, text6_six ht]
    show some (H.mk 2 (by2 (un2 t))) = _
    rw [by2_un2 8 (by omega)]
  · rw [if_pos rfl]
    dsimp only at ht ⊢
    unfold parse
    rw [name_low ht, if_neg (name_colon ht), if_neg (by rw [name_plain ht]; simp), if_pos ht]
/-- what is read may be, and, but for addresses of 16 bytes, its text is what was read, with small letters -/
theorem parse_may {s : Str} {h : H} (hp : parse s = some h) : may h = true ∧ (h.kind ≠ 2 → text h = low s) := by
  unfold parse at hp
  split at hp
  · obtain ⟨g, hg, rfl⟩ := Option.map_eq_some_iff.1 hp
    have h8 := (six_some hg).1
    exact ⟨may_iff.2 (.inr (.inl ⟨rfl, by show (by2 g).length = 16; rw [by2_len]; omega⟩)), fun e => absurd rfl e⟩
  · split at hp
    · obtain ⟨b, hb, rfl⟩ := Option.map_eq_some_iff.1 hp
      obtain ⟨h4, hle, hs⟩ := four_iff.1 hb
      have hm : may ⟨1, b.map UInt8.ofNat⟩ = true := may_iff.2 (.inl ⟨rfl, by simpa using h4⟩)
      refine ⟨hm, fun _ => ?_⟩
      unfold text
      rw [if_pos hm, if_neg (by simp), if_pos rfl]
      show text4 _ = _
      rw [text4_eq, hs]
      congr 1
      rw [List.map_map, List.map_map]
      refine List.map_congr_left fun n hn => ?_
      have := hle n hn
      show nm 10 (UInt8.ofNat n).toNat = nm 10 n
      rw [UInt8.toNat_ofNat', Nat.mod_eq_of_lt (by omega)]
    · split at hp
      · rename_i hn
        cases hp
        have hm : may ⟨3, low s⟩ = true := may_iff.2 (.inr (.inr ⟨rfl, hn⟩))
        refine ⟨hm, fun _ => ?_⟩
        unfold text
        rw [if_pos hm, if_pos rfl]
      · cases hp
theorem text_inj {a b : H} (ha : may a = true) (hb : may b = true) (h : text a = text b) : a = b := by
  have h1 := parse_text ha
  rw [h, parse_text hb] at h1
  cases h1
  rfl

end Go.Proofs.YtefpplkoohnfbaaDoor.hostp
