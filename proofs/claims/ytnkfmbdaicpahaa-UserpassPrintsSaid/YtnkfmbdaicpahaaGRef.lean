/-
  Given for the seat's laws: the contracts of the document's own Take and TakeAnswer. No condition but those of the theorems.
-/
import Derived.Test.YtnkfmbdaicpahaaGTake
namespace Go.Proofs.Ytnkfmbdaicpahaa.gr
open Go.RowKit mem
set_option linter.unusedVariables false

def St (b : Str) (i a : Nat) (x y : Str) : Prop :=
  (i = 0 ∧ a = 1 ∧ x = [] ∧ y = []) ∨ (i = 1 ∧ ∃ q, nx (b.drop 1) = .got x q ∧ a = 2 + x.length ∧ b.drop a = q ∧ y = []) ∨ (i = 2 ∧ ∃ q z, nx (b.drop 1) = .got x q ∧ nx q = .got y z ∧ a = 3 + x.length + y.length)
section
variable {r : Str} {i a : Nat} {x y : Str}
theorem St.end (h : St (1 :: r) 2 a x y) : tk (1 :: r) = (x, y, a, 0) := by
  rcases h with ⟨h, _⟩ | ⟨h, _⟩ | ⟨_, q, z, h1, h2, ha⟩
  · omega
  · omega
  · have h1 : nx r = .got x q := h1
    rw [tk_got h1, h2, ha]; rfl
theorem St.more (h : St (1 :: r) i a x y) (hi : i < 2) (hn : nx ((1 :: r).drop a) = .more) : tk (1 :: r) = ([], [], 0, 5) := by
  rcases h with ⟨h, rfl, _⟩ | ⟨h, q, h1, ha, hd, _⟩ | ⟨h, _⟩
  · exact tk_more hn
  · have h1 : nx r = .got x q := h1
    rw [tk_got h1, ← hd, hn]; rfl
  · omega
theorem St.form (h : St (1 :: r) i a x y) (hi : i < 2) (hn : nx ((1 :: r).drop a) = .form) : tk (1 :: r) = ([], [], 0, 6) := by
  rcases h with ⟨h, rfl, _⟩ | ⟨h, q, h1, ha, hd, _⟩ | ⟨h, _⟩
  · exact tk_form hn
  · have h1 : nx r = .got x q := h1
    rw [tk_got h1, ← hd, hn]; rfl
  · omega
theorem St.one (h : St (1 :: r) 0 a x y) {k : UInt8} {ms : Str} (hd : (1 :: r).drop a = k :: ms) (hn : nx ((1 :: r).drop a) = .got (ms.take k.toNat) (ms.drop k.toNat)) (hl : k.toNat ≤ ms.length) :
    y = [] ∧ St (1 :: r) 1 (a + 1 + k.toNat) (ms.take k.toNat) [] := by
  rcases h with ⟨_, rfl, rfl, rfl⟩ | ⟨h, _⟩ | ⟨h, _⟩
  · refine ⟨rfl, .inr (.inl ⟨rfl, _, hn, by simp; omega, ?_, rfl⟩)⟩
    have h1 : r = k :: ms := hd
    subst h1
    show List.drop (1 + 1 + k.toNat) (1 :: k :: ms) = _
    rw [Nat.add_comm, show (1 + 1 : Nat) = 2 from rfl]
    rfl
  · omega
  · omega
theorem St.two (h : St (1 :: r) 1 a x y) {k : UInt8} {ms : Str} (hd : (1 :: r).drop a = k :: ms) (hn : nx ((1 :: r).drop a) = .got (ms.take k.toNat) (ms.drop k.toNat)) (hl : k.toNat ≤ ms.length) :
    St (1 :: r) 2 (a + 1 + k.toNat) x (ms.take k.toNat) := by
  rcases h with ⟨h, _⟩ | ⟨_, q, h1, ha, hq, _⟩ | ⟨h, _⟩
  · omega
  · exact .inr (.inr ⟨rfl, q, _, h1, by rw [← hq]; exact hn, by simp; omega⟩)
  · omega
end

section
variable {w : World} {ok : Nat → Prop} {A : Option Addr} {n c a : Nat} {b : Str}
/-- the byte at a, and what stands behind it -/
theorem at_byte (hs : Spell w ok A n c b) {k : UInt8} {ms : Str} (hd : b.drop a = k :: ms) :
    ∃ g off, A = some ⟨g, off, none⟩ ∧ ok g ∧ a + ms.length + 1 = n ∧ n ≤ c ∧ w.cell? ⟨g, off + a, none⟩ = some (.int .u8 (k.toNat : Int)) := by
  have hn := spell_len hs
  have hl := congrArg List.length hd
  simp at hl
  have hk : b[a]? = some k := by
    have h1 : (b.drop a)[0]? = some k := by rw [hd]; rfl
    simpa using h1
  obtain ⟨g, off, e, hg, hc⟩ := spell_cell hs hk
  exact ⟨g, off, e, hg, by omega, hs.cap, hc⟩
theorem at_text (hs : Spell w ok A n c b) {k : UInt8} {ms : Str} {g off : Nat} (hA : A = some ⟨g, off, none⟩) (hd : b.drop a = k :: ms) (hk : k ≠ 0) (hl : k.toNat ≤ ms.length) :
    Spell w ok (some ⟨g, off + (a + 1), none⟩) k.toNat (c - (a + 1)) (ms.take k.toNat) := by
  have hn := spell_len hs
  have hlen := congrArg List.length hd
  simp at hlen
  have hp := toNat_pos hk
  have hcap := hs.cap
  have h := hs.cut (a + 1) k.toNat (by omega)
  subst hA
  have e : cutA (some ⟨g, off, none⟩) c (a + 1) = some ⟨g, off + (a + 1), none⟩ := by
    unfold cutA
    rw [if_neg (by omega)]
    simp [Addr.add]
  have e2 : b.drop (a + 1) = ms := by rw [← List.drop_drop, hd]; rfl
  rw [e, ints_drop, e2, ints_take] at h
  exact h
end

set_option maxHeartbeats 1000000 in
set_option maxRecDepth 100000 in
theorem rtake_bad {w : World} {ok : Nat → Prop} {A : Option Addr} {n c : Nat} {b : Str} (hs : Spell w ok A n c b) {q : Nat} (hv : vs b = (0, q)) (hq : q ≠ 0) : Calls Try.prog 8 #[.slice A n c] w (TakeTo ([], [], 0, q) w) := by
  have hn := spell_len hs
  match b with
  | [] =>
    obtain rfl : n = 0 := hn.symm
    obtain rfl : q = 5 := by simpa [vs] using hv.symm
    clear hs hn hv
    go_enter Try.func8, Try.ntmps8
    go_wp2
    exact bodyPost_ret (v := .tuple #[.string (S []), .string (S []), .int .i64 0, .int .i64 5]) (by simp [results, Try.results8, go_sem, S]) rfl gives_refl
  | v :: r =>
    by_cases h : v = 1
    · subst h; simp [vs] at hv
    · obtain rfl : q = 6 := by simpa [vs, h] using hv.symm
      obtain ⟨g, off, rfl, _, hc⟩ := first_cell hs
      have h0 : 0 < n := by rw [← hn]; simp
      have hz := byte_ne h
      generalize (v.toNat : Int) = z at hc hz
      have hz' : (z != 1) = true := by simpa using hz
      clear hz hs hn hv h hq
      go_enter Try.func8, Try.ntmps8
      go_wp2
      exact bodyPost_ret (v := .tuple #[.string (S []), .string (S []), .int .i64 0, .int .i64 6]) (by simp [results, Try.results8, go_sem, S]) rfl gives_refl
/-- where the loop stands -/
structure RK (w wr : World) (b : Str) (i a : Nat) (x y : Str) : Prop where
  st : St b i a x y
  li : Lies wr w.heap.size 46 #[.string (S x), .string (S y)]
  be : Below w.heap.size w wr
theorem RK.start (w : World) (b : Str) : RK w (w.alloc (.cells #[.string ⟨#[]⟩, .string ⟨#[]⟩] 46)) b 0 1 [] [] := ⟨.inl ⟨rfl, rfl, rfl, rfl⟩, Lies.new w 46 _, (Below.refl _ _).alloc (Nat.le_refl _) _⟩
set_option maxHeartbeats 4000000 in
set_option maxRecDepth 100000 in
theorem rtake_one {w : World} {ok : Nat → Prop} {A : Option Addr} {n c : Nat} {r : Str} (hs : Spell w ok A n c (1 :: r)) (hok : ∀ g, ok g → g < w.heap.size) (hn : n ≤ 100000) : Calls Try.prog 8 #[.slice A n c] w (TakeTo (tk (1 :: r)) w) := by
  have HS := Bx.mk hs
  have HO := Bx.mk hok
  have HMo := Bx.mk (fun i a x y (h : St (1 :: r) i a x y) h1 h2 => (h.more h1 h2).symm)
  have HFo := Bx.mk (fun i a x y (h : St (1 :: r) i a x y) h1 h2 => (h.form h1 h2).symm)
  have HE := Bx.mk (fun a x y => @St.end r a x y)
  obtain ⟨gA, offA, hA, _, hc⟩ := first_cell hs
  have hc' : w.cell? ⟨gA, offA, none⟩ = some (.int .u8 1) := hc
  have h0 : 0 < n := by have := spell_len hs; rw [← this]; simp
  have hmx := hs.cap
  generalize tk (1 :: r) = X at *
  clear hs hok hc
  subst hA
  go_enter Try.func8, Try.ntmps8
  go_wp2
  go_loopw [7, 8, 9] (fun s7 s8 s9 wr => ∃ (a : Nat) (x y : Str), ((s8 = .int .i64 0 ∧ Bx (RK w wr (1 :: r) 0 a x y)) ∨ (s8 = .int .i64 1 ∧ Bx (RK w wr (1 :: r) 1 a x y)) ∨ (s8 = .int .i64 2 ∧ Bx (RK w wr (1 :: r) 2 a x y))) ∧ s7 = .int .i64 (a : Int)) (fun _ s8 _ _ => 2 - (intOf s8).toNat)
  case atStart => exact ⟨1, [], [], .inl ⟨rfl, ⟨RK.start w _⟩⟩, rfl⟩
  case round =>
    clear hc'
    obtain ⟨a, x, y, hK, rfl⟩ := hrel
    rcases hK with ⟨rfl, K⟩ | ⟨rfl, K⟩ | ⟨rfl, K⟩
    · -- round 0
      have hd := K.out.st
      have L := K.out.li
      have d0 := L.cell 0; have d1 := L.cell 1
      have fr0 := L.frozen 0; have fr1 := L.frozen 1
      simp at d0 d1
      have HSr := Bx.mk (HS.out.below K.out.be HO.out)
      rcases way ((1 :: r).drop a) with ⟨h, e⟩ | ⟨q, h, e⟩ | ⟨k, ms, h, hk, hl, e⟩ | ⟨k, ms, h, hk, hl, e⟩
      · have ha : n ≤ a := by
          have h1 := congrArg List.length h
          have h2 := spell_len HS.out
          simp at h1 h2
          omega
        obtain rfl := HMo.out _ _ _ _ hd (by omega) e
        have G := Bx.mk K.out.be
        clear h e hd K L HSr
        go_wp2
        exact bodyPost_ret (v := .tuple #[.string (S []), .string (S []), .int .i64 0, .int .i64 5]) (by simp [results, Try.results8, go_sem, S]) rfl ⟨rfl, G.out⟩
      · obtain ⟨g, off, eA, ho, h1, h2, hc⟩ := at_byte HSr.out h
        cases eA
        have hc' : wr.cell? ⟨gA, offA + a, none⟩ = some (.int .u8 0) := hc
        obtain rfl := HFo.out _ _ _ _ hd (by omega) e
        have G := Bx.mk K.out.be
        have han : ¬ n ≤ a := by omega
        have han' : a < n := by omega
        clear h e hd K L HSr hc h1
        go_wp2
        exact bodyPost_ret (v := .tuple #[.string (S []), .string (S []), .int .i64 0, .int .i64 6]) (by simp [results, Try.results8, go_sem, S]) rfl ⟨rfl, G.out⟩
      · obtain ⟨g, off, eA, ho, h1, h2, hc⟩ := at_byte HSr.out h
        cases eA
        obtain rfl := HMo.out _ _ _ _ hd (by omega) e
        have G := Bx.mk K.out.be
        have han : ¬ n ≤ a := by omega
        have han' : a < n := by omega
        obtain ⟨k1, k2⟩ := toNat_pos hk
        have hgt : (n : Int) < (a : Int) + 1 + (k.toNat : Int) := by omega
        generalize k.toNat = j at *
        have hj : ((j : Int) == 0) = false := by simp; omega
        have hj0 : (0 : Int) ≤ (j : Int) := by omega
        have hj1 : (j : Int) < 256 := by omega
        clear h e hd K L HSr h1 hl
        go_wp2
        exact bodyPost_ret (v := .tuple #[.string (S []), .string (S []), .int .i64 0, .int .i64 5]) (by simp [results, Try.results8, go_sem, S]) rfl ⟨rfl, G.out⟩
      · obtain ⟨g, off, eA, ho, h1, h2, hc⟩ := at_byte HSr.out h
        cases eA
        have htx := Bx.mk (at_text HSr.out rfl h hk hl)
        have han : ¬ n ≤ a := by omega
        have han' : a < n := by omega
        obtain ⟨k1, k2⟩ := toNat_pos hk
        have hgt : ¬ (n : Int) < (a : Int) + 1 + (k.toNat : Int) := by omega
        have hle : a + 1 + k.toNat ≤ n := by omega
        obtain ⟨rfl, hst⟩ := hd.one h e hl
        have K2 : ∀ W, W = wr.setCell ⟨w.heap.size, 0, none⟩ (.string (S (ms.take k.toNat))) → Bx (RK w W (1 :: r) 1 (a + 1 + k.toNat) (ms.take k.toNat) []) := fun W hW => by
          subst hW
          exact ⟨⟨hst, L.set 0 _, K.out.be.setCell (by simp) _⟩⟩
        have hstr := Bx.mk (fun v => spell_str (htx.out.keep (w' := wr.setCell ⟨w.heap.size, 0, none⟩ v) fun g hg => Below.heap_setCell _ _ _ _ (Nat.ne_of_lt (HO.out g hg))))
        have hstr0 := spell_str htx.out
        generalize ms.take k.toNat = t at *
        generalize k.toNat = j at *
        have hj : ((j : Int) == 0) = false := by simp; omega
        have hj0 : (0 : Int) ≤ (j : Int) := by omega
        have hj1 : (j : Int) < 256 := by omega
        have KB := Bx.mk K2
        clear h e hd K L HSr h1 hl hst K2 htx hstr
        go_wp2
        go_roundw
        case rel => exact ⟨a + 1 + j, t, [], .inr (.inl ⟨by go_num, KB.out _ rfl⟩), by go_num⟩
        case measure => simp [intOf]
    · -- round 1
      have hd := K.out.st
      have L := K.out.li
      have d0 := L.cell 0; have d1 := L.cell 1
      have fr0 := L.frozen 0; have fr1 := L.frozen 1
      simp at d0 d1
      have HSr := Bx.mk (HS.out.below K.out.be HO.out)
      rcases way ((1 :: r).drop a) with ⟨h, e⟩ | ⟨q, h, e⟩ | ⟨k, ms, h, hk, hl, e⟩ | ⟨k, ms, h, hk, hl, e⟩
      · have ha : n ≤ a := by
          have h1 := congrArg List.length h
          have h2 := spell_len HS.out
          simp at h1 h2
          omega
        obtain rfl := HMo.out _ _ _ _ hd (by omega) e
        have G := Bx.mk K.out.be
        clear h e hd K L HSr
        go_wp2
        exact bodyPost_ret (v := .tuple #[.string (S []), .string (S []), .int .i64 0, .int .i64 5]) (by simp [results, Try.results8, go_sem, S]) rfl ⟨rfl, G.out⟩
      · obtain ⟨g, off, eA, ho, h1, h2, hc⟩ := at_byte HSr.out h
        cases eA
        have hc' : wr.cell? ⟨gA, offA + a, none⟩ = some (.int .u8 0) := hc
        obtain rfl := HFo.out _ _ _ _ hd (by omega) e
        have G := Bx.mk K.out.be
        have han : ¬ n ≤ a := by omega
        have han' : a < n := by omega
        clear h e hd K L HSr hc h1
        go_wp2
        exact bodyPost_ret (v := .tuple #[.string (S []), .string (S []), .int .i64 0, .int .i64 6]) (by simp [results, Try.results8, go_sem, S]) rfl ⟨rfl, G.out⟩
      · obtain ⟨g, off, eA, ho, h1, h2, hc⟩ := at_byte HSr.out h
        cases eA
        obtain rfl := HMo.out _ _ _ _ hd (by omega) e
        have G := Bx.mk K.out.be
        have han : ¬ n ≤ a := by omega
        have han' : a < n := by omega
        obtain ⟨k1, k2⟩ := toNat_pos hk
        have hgt : (n : Int) < (a : Int) + 1 + (k.toNat : Int) := by omega
        generalize k.toNat = j at *
        have hj : ((j : Int) == 0) = false := by simp; omega
        have hj0 : (0 : Int) ≤ (j : Int) := by omega
        have hj1 : (j : Int) < 256 := by omega
        clear h e hd K L HSr h1 hl
        go_wp2
        exact bodyPost_ret (v := .tuple #[.string (S []), .string (S []), .int .i64 0, .int .i64 5]) (by simp [results, Try.results8, go_sem, S]) rfl ⟨rfl, G.out⟩
      · obtain ⟨g, off, eA, ho, h1, h2, hc⟩ := at_byte HSr.out h
        cases eA
        have htx := Bx.mk (at_text HSr.out rfl h hk hl)
        have han : ¬ n ≤ a := by omega
        have han' : a < n := by omega
        obtain ⟨k1, k2⟩ := toNat_pos hk
        have hgt : ¬ (n : Int) < (a : Int) + 1 + (k.toNat : Int) := by omega
        have hle : a + 1 + k.toNat ≤ n := by omega
        have hst := hd.two h e hl
        have K2 : ∀ W, W = wr.setCell ⟨w.heap.size, 1, none⟩ (.string (S (ms.take k.toNat))) → Bx (RK w W (1 :: r) 2 (a + 1 + k.toNat) x (ms.take k.toNat)) := fun W hW => by
          subst hW
          exact ⟨⟨hst, L.set 1 _, K.out.be.setCell (by simp) _⟩⟩
        have hstr := Bx.mk (fun v => spell_str (htx.out.keep (w' := wr.setCell ⟨w.heap.size, 1, none⟩ v) fun g hg => Below.heap_setCell _ _ _ _ (Nat.ne_of_lt (HO.out g hg))))
        have hstr0 := spell_str htx.out
        generalize ms.take k.toNat = t at *
        generalize k.toNat = j at *
        have hj : ((j : Int) == 0) = false := by simp; omega
        have hj0 : (0 : Int) ≤ (j : Int) := by omega
        have hj1 : (j : Int) < 256 := by omega
        have KB := Bx.mk K2
        clear h e hd K L HSr h1 hl hst K2 htx hstr
        go_wp2
        go_roundw
        case rel => exact ⟨a + 1 + j, x, t, .inr (.inr ⟨by go_num, KB.out _ rfl⟩), by go_num⟩
        case measure => simp [intOf]
    · have L := K.out.li
      have d0 := L.cell 0; have d1 := L.cell 1
      simp at d0 d1
      obtain rfl := (HE.out a x y K.out.st).symm
      have G := Bx.mk K.out.be
      clear K L
      go_wp2
      go_quiet (fail)
      go_wp2
      exact bodyPost_ret (v := .tuple #[.string (S x), .string (S y), .int .i64 (a : Int), .int .i64 0]) (by simp [results, Try.results8, go_sem]) rfl ⟨rfl, below_drewN G.out _⟩
end Go.Proofs.Ytnkfmbdaicpahaa.gr
