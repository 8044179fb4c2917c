/-
  Given for the seat's laws: targets as plain lists of bytes; great letters; digits with noughts ahead. No program, no memory.
-/
import Derived.Test.YtefpplkoohnfbaaDoorHostPure3
namespace Go.Proofs.YtefpplkoohnfbaaDoor.hostp
set_option linter.unusedVariables false

/-! ### the last colon -/
def lastC : Str → Option (Str × Str)
  | [] => none
  | c :: r => match lastC r with
    | some (p, q) => some (c :: p, q)
    | none => if c = 58 then some ([], r) else none
theorem lastC_free : ∀ {y : Str}, (58 : UInt8) ∉ y → lastC y = none
  | [], _ => rfl
  | c :: r, h => by
    have h1 : c ≠ 58 := fun e => h (by simp [e])
    unfold lastC
    rw [lastC_free fun e => h (List.mem_cons_of_mem _ e)]
    dsimp only
    rw [if_neg h1]
theorem lastC_put : ∀ (x : Str) {y : Str}, (58 : UInt8) ∉ y → lastC (x ++ 58 :: y) = some (x, y)
  | [], y, h => by
    show lastC (58 :: y) = _
    unfold lastC
    rw [lastC_free h]
    rfl
  | c :: x, y, h => by
    show lastC (c :: (x ++ 58 :: y)) = _
    unfold lastC
    rw [lastC_put x h]
theorem lastC_some : ∀ {s : Str} {p q : Str}, lastC s = some (p, q) → s = p ++ 58 :: q ∧ (58 : UInt8) ∉ q
  | [], p, q, h => by cases h
  | c :: r, p, q, h => by
    unfold lastC at h
    cases hr : lastC r with
    | some x =>
      obtain ⟨p', q'⟩ := x
      rw [hr] at h
      dsimp only at h
      cases h
      obtain ⟨h1, h2⟩ := lastC_some hr
      exact ⟨by rw [h1]; rfl, h2⟩
    | none =>
      rw [hr] at h
      dsimp only at h
      split at h
      · rename_i hc
        subst hc
        cases h
        refine ⟨rfl, fun hm => ?_⟩
        obtain ⟨a, b, he, hb⟩ : ∃ a b, r = a ++ 58 :: b ∧ (58 : UInt8) ∉ b := by
          clear hr
          induction r with
          | nil => simp at hm
          | cons d r ih =>
            by_cases hd : (58 : UInt8) ∈ r
            · obtain ⟨a, b, h1, h2⟩ := ih hd
              exact ⟨d :: a, b, by rw [h1]; rfl, h2⟩
            · rcases List.mem_cons.1 hm with e | e
              · exact ⟨[], r, by rw [← e]; rfl, hd⟩
              · exact absurd e hd
        rw [he, lastC_put a hb] at hr
        cases hr
      · cases h
theorem lastC_none {s : Str} : lastC s = none ↔ (58 : UInt8) ∉ s := by
  constructor
  · intro h hm
    obtain ⟨a, b, he, hb⟩ : ∃ a b, s = a ++ 58 :: b ∧ (58 : UInt8) ∉ b := by
      clear h
      induction s with
      | nil => simp at hm
      | cons d r ih =>
        by_cases hd : (58 : UInt8) ∈ r
        · obtain ⟨a, b, h1, h2⟩ := ih hd
          exact ⟨d :: a, b, by rw [h1]; rfl, h2⟩
        · rcases List.mem_cons.1 hm with e | e
          · exact ⟨[], r, by rw [← e]; rfl, hd⟩
          · exact absurd e hd
    rw [he, lastC_put a hb] at h
    cases h
  · exact lastC_free
theorem lc_colon {c : UInt8} : lc c = 58 ↔ c = 58 := lc_eq (by decide) (by decide)
theorem low_colon {s : Str} : (58 : UInt8) ∈ low s ↔ (58 : UInt8) ∈ s := by
  unfold low
  rw [List.mem_map]
  constructor
  · rintro ⟨c, hc, e⟩
    rw [← lc_colon.1 e]
    exact hc
  · exact fun h => ⟨58, h, by decide⟩
theorem low_append (x y : Str) : low (x ++ y) = low x ++ low y := by simp [low]
theorem lastC_low (s : Str) : lastC (low s) = (lastC s).map fun p => (low p.1, low p.2) := by
  cases h : lastC s with
  | none =>
    rw [lastC_none] at h
    exact lastC_none.2 fun e => h (low_colon.1 e)
  | some x =>
    obtain ⟨p, q⟩ := x
    obtain ⟨rfl, hq⟩ := lastC_some h
    rw [low_append]
    show lastC (low p ++ lc 58 :: low q) = _
    rw [show lc 58 = 58 by decide, lastC_put _ fun e => hq (low_colon.1 e)]
    rfl

theorem dec_low (s : Str) (most : Nat) (hm : most ≤ 999999) : dec (low s) most = dec s most := by
  have key : ∀ {t : Str} {n : Nat}, low t = nm 10 n → t = nm 10 n := fun {t n} h => by
    rw [← h]
    refine (low_id fun c hc hh => ?_).symm
    have h1 : lc c ∈ nm 10 n := by rw [← h]; exact List.mem_map.2 ⟨c, hc, rfl⟩
    have h2 := nm10_free n _ h1
    have h3 := lc_great hh
    omega
  cases h : dec s most with
  | some n =>
    obtain ⟨h1, h2⟩ := (dec_iff hm).1 h
    rw [(dec_iff hm).2 ⟨h1, ?_⟩]
    rw [h2]
    exact low_id fun c hc => by have := nm10_free n c hc; omega
  | none =>
    cases h' : dec (low s) most with
    | none => rfl
    | some n =>
      obtain ⟨h1, h2⟩ := (dec_iff hm).1 h'
      rw [(dec_iff hm).2 ⟨h1, key h2⟩] at h
      cases h

/-! ### targets -/
structure T where
  host : H
  port : Int
deriving DecidableEq
def mayT (t : T) : Bool := may t.host && decide (1 ≤ t.port) && decide (t.port ≤ 65535)
def print (t : T) : Str := if mayT t then (if t.host.kind = 2 then 91 :: (text t.host ++ 93 :: 58 :: nm 10 t.port.toNat) else text t.host ++ 58 :: nm 10 t.port.toNat) else []
def withPort (h : H) (p : Str) : Option T := match dec p 65535 with
  | some n => if 1 ≤ n then some ⟨h, n⟩ else none
  | none => none
def hostOf (t : Str) : Option H := match t with
  | [] => none
  | c :: r => if c = 91 then (if r.getLast? = some 93 then (parse r.dropLast).bind fun h => if h.kind = 2 then some h else none else none)
    else (parse (c :: r)).bind fun h => if h.kind = 2 then none else some h
def parseT (s : Str) : Option T := match lastC s with
  | none => none
  | some (t, p) => (hostOf t).bind fun h => withPort h p
theorem withPort_nm {h : H} {p : Int} (h1 : 1 ≤ p) (h2 : p ≤ 65535) : withPort h (nm 10 p.toNat) = some ⟨h, p⟩ := by
  unfold withPort
  rw [(dec_iff (by omega)).2 ⟨show p.toNat ≤ 65535 by omega, rfl⟩]
  dsimp only
  rw [if_pos (by omega)]
  congr 2
  omega
theorem withPort_some {h : H} {p : Str} {t : T} (hw : withPort h p = some t) : t.host = h ∧ 1 ≤ t.port ∧ t.port ≤ 65535 ∧ p = nm 10 t.port.toNat := by
  unfold withPort at hw
  split at hw
  · rename_i n hn
    obtain ⟨h1, h2⟩ := (dec_iff (by omega)).1 hn
    split at hw
    · cases hw
      exact ⟨rfl, by dsimp only; omega, by dsimp only; omega, by simpa using h2⟩
    · cases hw
  · cases hw
theorem withPort_low (h : H) (p : Str) : withPort h (low p) = withPort h p := by unfold withPort; rw [dec_low _ _ (by omega)]

theorem text_ne {h : H} (hm : may h = true) : text h ≠ [] := fun e => by
  have := parse_text hm
  rw [e] at this
  have h0 : parse [] = none := by decide
  rw [h0] at this
  cases this
/-- the text of a host begins with no '[' -/
theorem text_head {h : H} (hm : may h = true) : ∀ c ∈ text h, c ≠ 91 := by
  intro c hc
  rintro rfl
  have e91 : (91 : UInt8).toNat = 91 := rfl
  unfold text at hc
  rw [if_pos hm] at hc
  split at hc
  · have : nameB h.text = true := by
      rcases may_iff.1 hm with ⟨e, _⟩ | ⟨e, _⟩ | ⟨_, e⟩
      · omega
      · omega
      · exact e
    rcases name_mem this hc with e | hh
    · exact absurd e (by decide)
    · have := okc_nat hh; omega
  · split at hc
    · have := dd_nat (text4_mem hc); omega
    · rcases tx6_mem hc with e | ⟨d, hd, e⟩
      · exact absurd e (by decide)
      · exact (dg_small hd).2.2.2.1 e.symm
theorem hostOf_text {h : H} (hm : may h = true) : hostOf (if h.kind = 2 then 91 :: (text h ++ [93]) else text h) = some h := by
  split
  · rename_i hk
    unfold hostOf
    dsimp only
    rw [if_pos rfl, if_pos (by simp), List.dropLast_concat, parse_text hm]
    show (if h.kind = 2 then some h else none) = _
    rw [if_pos hk]
  · rename_i hk
    cases ht : text h with
    | nil => exact absurd ht (text_ne hm)
    | cons c r =>
      unfold hostOf
      dsimp only
      rw [if_neg (text_head hm c (by rw [ht]; simp)), ← ht, parse_text hm]
      show (if h.kind = 2 then none else some h) = _
      rw [if_neg hk]
theorem hostOf_may {t : Str} {h : H} (hh : hostOf t = some h) : may h = true := by
  unfold hostOf at hh
  split at hh
  · cases hh
  · split at hh
    · split at hh
      · obtain ⟨h', hp, hk⟩ := Option.bind_eq_some_iff.1 hh
        split at hk
        · cases hk
          exact (parse_may hp).1
        · cases hk
      · cases hh
    · obtain ⟨h', hp, hk⟩ := Option.bind_eq_some_iff.1 hh
      split at hk
      · cases hk
      · cases hk
        exact (parse_may hp).1
theorem mayT_iff {t : T} : mayT t = true ↔ may t.host = true ∧ 1 ≤ t.port ∧ t.port ≤ 65535 := by
  unfold mayT
  simp only [Bool.and_eq_true, decide_eq_true_eq, and_assoc]
/-- what is written is read as it was -/
theorem parseT_print {t : T} (hm : mayT t = true) : parseT (print t) = some t := by
  obtain ⟨h1, h2, h3⟩ := mayT_iff.1 hm
  have e : print t = (if t.host.kind = 2 then 91 :: (text t.host ++ [93]) else text t.host) ++ 58 :: nm 10 t.port.toNat := by
    unfold print
    rw [if_pos hm]
    split <;> simp
  unfold parseT
  rw [e, lastC_put _ (not_mem_nm10 _ (by decide))]
  dsimp only
  rw [hostOf_text h1]
  exact withPort_nm h2 h3
theorem parseT_may {s : Str} {t : T} (hp : parseT s = some t) : mayT t = true := by
  unfold parseT at hp
  split at hp
  · cases hp
  · obtain ⟨h, hh, hw⟩ := Option.bind_eq_some_iff.1 hp
    obtain ⟨h1, h2, h3, _⟩ := withPort_some hw
    exact mayT_iff.2 ⟨by rw [h1]; exact hostOf_may hh, h2, h3⟩
theorem print_inj {a b : T} (ha : mayT a = true) (hb : mayT b = true) (h : print a = print b) : a = b := by
  have h1 := parseT_print ha
  rw [h, parseT_print hb] at h1
  cases h1
  rfl

theorem hostOf_low (t : Str) : hostOf (low t) = hostOf t := by
  cases t with
  | nil => rfl
  | cons c r =>
    show hostOf (lc c :: low r) = _
    have e91 : lc c = 91 ↔ c = 91 := lc_eq (by decide) (by decide)
    unfold hostOf
    dsimp only
    by_cases hc : c = 91
    · rw [if_pos hc, if_pos (e91.2 hc)]
      have e1 : (low r).getLast? = some 93 ↔ r.getLast? = some 93 := by
        unfold low
        rw [List.getLast?_map]
        cases r.getLast? with
        | none => simp
        | some d =>
          simp only [Option.map_some, Option.some.injEq]
          exact lc_eq (by decide) (by decide)
      have e2 : parse (low r).dropLast = parse r.dropLast := by
        apply parse_low
        have : (low r).dropLast = low r.dropLast := by simp [low, List.map_dropLast]
        rw [this, low_low]
      by_cases hl : r.getLast? = some 93
      · rw [if_pos hl, if_pos (e1.2 hl), e2]
      · rw [if_neg hl, if_neg (fun e => hl (e1.1 e))]
    · rw [if_neg hc, if_neg (fun e => hc (e91.1 e))]
      have e2 : parse (lc c :: low r) = parse (c :: r) := parse_low (low_low (c :: r))
      rw [e2]
theorem parseT_low' (s : Str) : parseT (low s) = parseT s := by
  unfold parseT
  rw [lastC_low]
  cases lastC s with
  | none => rfl
  | some x =>
    obtain ⟨p, q⟩ := x
    show (hostOf (low p)).bind (fun h => withPort h (low q)) = (hostOf p).bind fun h => withPort h q
    rw [hostOf_low]
    congr 1
    funext h
    exact withPort_low h q
/-- great letters for small ones: the same -/
theorem parseT_low {s s' : Str} (h : low s = low s') : parseT s = parseT s' := by rw [← parseT_low' s, h, parseT_low']

/-! ### great letters -/
def upc (c : UInt8) : UInt8 := if 97 ≤ c.toNat ∧ c.toNat ≤ 122 then c - 32 else c
theorem upc_small {c : UInt8} (h : 97 ≤ c.toNat ∧ c.toNat ≤ 122) : (upc c).toNat = c.toNat - 32 := by
  unfold upc
  rw [if_pos h, UInt8.toNat_sub_of_le _ _ (by rw [UInt8.le_iff_toNat_le]; have : (32 : UInt8).toNat = 32 := rfl; omega)]
  rfl
theorem lc_upc (c : UInt8) : lc (upc c) = lc c := by
  by_cases h : 97 ≤ c.toNat ∧ c.toNat ≤ 122
  · apply UInt8.toNat_inj.1
    have h1 := upc_small h
    rw [lc_great (by omega), lc_else (by omega)]
    omega
  · unfold upc
    rw [if_neg h]
theorem upc_lc (c : UInt8) : upc (lc c) = upc c := by
  by_cases h : 65 ≤ c.toNat ∧ c.toNat ≤ 90
  · apply UInt8.toNat_inj.1
    have h1 := lc_great h
    rw [upc_small (by omega)]
    unfold upc
    rw [if_neg (by omega)]
    omega
  · rw [lc_else h]
/-- great letters at some places -/
def up : Str → List Bool → Str
  | [], _ => []
  | c :: r, [] => c :: r
  | c :: r, b :: w => (if b then upc c else c) :: up r w
theorem low_up : ∀ (s : Str) (w : List Bool), low (up s w) = low s
  | [], _ => rfl
  | c :: r, [] => rfl
  | c :: r, b :: w => by
    show lc (if b then upc c else c) :: low (up r w) = lc c :: low r
    rw [low_up r w]
    cases b
    · rfl
    · show lc (upc c) :: _ = _
      rw [lc_upc]
theorem up_all : ∀ (s : Str) (n : Nat), s.length ≤ n → up s (List.replicate n true) = s.map upc
  | [], _, _ => rfl
  | c :: r, 0, h => by simp at h
  | c :: r, n + 1, h => by
    show (if true then upc c else c) :: up r (List.replicate n true) = _
    rw [up_all r n (by simpa using h)]
    rfl
theorem up_low (s : Str) : (low s).map upc = s.map upc := by simp [low, Function.comp_def, upc_lc]

/-! ### noughts ahead -/
theorem vl_noughts (b k : Nat) (hb : 2 ≤ b) (x : Str) : vl b (List.replicate k 48 ++ x) 0 = vl b x 0 := by
  induction k with
  | zero => rfl
  | succ k ih =>
    rw [List.replicate_succ, List.cons_append, vl_cons]
    have : dv 48 = some 0 := by decide
    rw [this]
    dsimp only
    rw [if_pos (by omega)]
    simpa using ih
/-- a group's digits with noughts ahead, up to four -/
theorem grp_noughts {k v : Nat} (hv : v < 65536) (h : (List.replicate k 48 ++ nm 16 v).length ≤ 4) : grp (List.replicate k 48 ++ nm 16 v) = some v := by
  unfold grp
  rw [if_pos ⟨by simp [nm_ne], h⟩, vl_noughts 16 k (by omega), vl_nm (by omega) (by omega)]
theorem grp_zero {k : Nat} (h1 : 1 ≤ k) (h : k ≤ 4) : grp (List.replicate k 48) = some 0 := by
  unfold grp
  rw [if_pos ⟨by intro e; have := congrArg List.length e; simp at this; omega, by simpa using h⟩]
  have := vl_noughts 16 k (by omega) []
  rw [List.append_nil] at this
  rw [this]
  rfl
/-- an address whose groups are written with any such digits, any row of noughts left out -/
theorem parse_tx6 {l : List Str} {g : List Nat} (h : AllGrp l g) (h8 : g.length = 8) {k m : Nat} (hz : m = 0 ∨ k + m ≤ 8 ∧ ∀ i, k ≤ i → i < k + m → g[i]? = some 0) (hlow : low (tx6 l k m) = tx6 l k m) : parse (tx6 l k m) = some ⟨2, by2 g⟩ := by
  unfold parse
  rw [hlow, if_pos (tx6_colon (by rw [h.len, h8]) k m), six_tx6 h h8 hz]
  rfl

end Go.Proofs.YtefpplkoohnfbaaDoor.hostp
