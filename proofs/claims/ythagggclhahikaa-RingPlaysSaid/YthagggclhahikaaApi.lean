/-
  Given for the seat's laws: a ring as the bytes that it holds, and each call's contract in these words; a slice of bytes that is read; append and buildSlice over such. No condition but those of the theorems.
-/
import Derived.Test.YthagggclhahikaaSame
namespace Go.Proofs.Ythagggclhahikaa.api
open Go.RowKit mem ring plain put peek same
set_option linter.unusedVariables false

/-! ### a slice of bytes that is read -/
structure Src (w : World) (ok : Nat → Prop) (A : Option Addr) (m c : Nat) (ys : List Int) : Prop where
  len : ys.length = m
  cap : m ≤ c
  none_ : A = none → c = 0
  max : c ≤ maxLen
  at_ : BytesAt w ok A ys

section
variable {w w' : World} {ok ok' : Nat → Prop} {A : Option Addr} {m c : Nat} {ys : List Int}
theorem Src.keep (h : Src w ok A m c ys) (hk : ∀ g, ok g → w'.heap[g]? = w.heap[g]?) : Src w' ok A m c ys := ⟨h.len, h.cap, h.none_, h.max, h.at_.keep hk⟩
theorem Src.weak (h : Src w ok A m c ys) (hk : ∀ g, ok g → ok' g) : Src w ok' A m c ys := ⟨h.len, h.cap, h.none_, h.max, h.at_.weak hk⟩
theorem Src.of_own {B : Nat} (h : w.ownsRow B 5 1 (.slice A m c) m (B8 ys)) : Src w (fun g => B ≤ g ∧ g < w.heap.size) A m c ys := by
  have hlen : ys.length = m := by have := h.1; rw [B8_length] at this; omega
  rcases h.2 with ⟨hv, hm⟩ | ⟨g, cap, cur, hv, hB, hh, hle, hmx, hsz, htk⟩
  · simp only [Value.slice.injEq] at hv
    obtain ⟨rfl, _, rfl⟩ := hv
    exact ⟨hlen, by omega, fun _ => rfl, by unfold maxLen; omega, fun hp => absurd hp (by omega)⟩
  · simp only [Value.slice.injEq] at hv
    obtain ⟨rfl, _, rfl⟩ := hv
    refine ⟨hlen, hle, (fun e => by cases e), hmx, fun _ => ⟨g, 0, rfl, ⟨hB, (Array.getElem?_eq_some_iff.1 hh).1⟩, fun j z hz => ?_⟩⟩
    have hj : j < m := by have := (List.getElem?_eq_some_iff.1 hz).1; omega
    have e1 : (cur.toList.take (m * 1))[j]? = some (.int .u8 z) := by rw [htk]; simp [B8, hz]
    rw [List.getElem?_take, if_pos (by omega)] at e1
    simp only [World.cell?, hh, Nat.zero_add]
    simpa using e1
end

theorem append_run {w : World} {base : Nat} {v : Value} {n : Nat} {xs ys : List Int} {ok : Nat → Prop} {A : Option Addr} {m c : Nat} (hown : w.ownsRow base 5 1 v n (B8 xs)) (hs : Src w ok A m c ys) (h1 : n + m ≤ 1000000) (hb : base ≤ w.heap.size) :
    ∃ A' c' w', (Builtin.append_ #[31, 31] 31 #[v, .slice A m c]).run Try.prog w = .ok (.slice A' (n + m) c') w' ∧ w'.ownsRow base 5 1 (.slice A' (n + m) c') (n + m) (B8 (xs ++ ys)) ∧ w.grownBy w' v.ownBlock := by
  obtain ⟨i0, hinf, hz0, hz1, hz2⟩ := info_parts info5
  cases A with
  | none =>
    have hc := hs.none_ rfl
    have hm : m = 0 := by have := hs.cap; omega
    subst hc hm
    have hy : ys = [] := List.eq_nil_of_length_eq_zero hs.len
    subst hy
    have hr := run_append_owned_none (P := Try.prog) w base 31 31 5 i0 1 Try.underlying31 hinf v n (B8 xs) hown
    obtain ⟨A', c', rfl⟩ := own_form hown
    exact ⟨A', c', w, hr, by simpa using hown, World.grownBy.refl w _⟩
  | some a =>
    obtain ⟨v', w', hr, ho, hg, _⟩ := run_append_own (P := Try.prog) w base 31 31 5 i0 (.int .u8 0) 1 1 Try.underlying31 hinf hz0 hz1 hz2 rfl (by decide) v n (B8 xs) hown a m c (B8 ys) (by rw [B8_length, hs.len]; omega)
      (fun j u hu => by
        obtain ⟨z, hz, rfl⟩ := B8_get hu
        obtain ⟨g, off, e, _, hc⟩ := hs.at_ (by have := (List.getElem?_eq_some_iff.1 hz).1; omega)
        cases e
        have := hc j z hz
        by_cases hj : j = 0
        · subst hj; simpa [Addr.add] using this
        · simpa [Addr.add, hj] using this) (B8_one _) (by unfold maxLen; omega) (by omega) hb
    obtain ⟨A', c', rfl⟩ := own_form ho
    have e : B8 (xs ++ ys) = B8 xs ++ B8 ys := by simp [B8]
    exact ⟨A', c', w', hr, by rw [e]; exact ho, hg⟩

/-! ### a ring as the bytes that it holds -/
def Has (w : World) (b s N : Nat) (xs : List Int) : Prop := ∃ first zs, IsRing w b s N first xs.length zs ∧ held zs first xs.length = xs

section
variable {w w' : World} {b s N : Nat} {xs : List Int}
theorem Has.keep {B : Nat} {S : Nat → Prop} (h : Has w b s N xs) (hk : Keep B S w w') (hb : b < B) (hs : s < B) (hb' : ¬ S b) (hs' : ¬ S s) : Has w' b s N xs := by
  obtain ⟨first, zs, hr, he⟩ := h
  exact ⟨first, zs, hr.keep hk hb hs hb' hs', he⟩
theorem Has.same (h : Has w b s N xs) (hb : w'.heap[b]? = w.heap[b]?) (hs : w'.heap[s]? = w.heap[s]?) : Has w' b s N xs := by
  obtain ⟨first, zs, hr, he⟩ := h
  exact ⟨first, zs, hr.same hb hs, he⟩
theorem Has.below {B : Nat} (h : Has w b s N xs) (hk : Below B w w') (hb : b < B) (hs : s < B) : Has w' b s N xs := h.same (hk.block _ hb) (hk.block _ hs)
theorem Has.lt (h : Has w b s N xs) : b < w.heap.size ∧ s < w.heap.size := by
  obtain ⟨first, zs, hr, he⟩ := h
  exact ⟨hr.head.lt, hr.row.lt⟩
theorem Has.ne (h : Has w b s N xs) : b ≠ s := by
  obtain ⟨first, zs, hr, he⟩ := h
  exact hr.ne
theorem Has.fits (h : Has w b s N xs) : xs.length ≤ N ∧ N ≤ 4096 ∧ 0 < N := by
  obtain ⟨first, zs, hr, he⟩ := h
  exact ⟨hr.held_le, hr.most, by have := hr.first_lt; omega⟩
end

def News (N : Nat) (w : World) (e : Ending) (w' : World) : Prop := ∃ b s, e = .returned (.tuple #[.pointer (some ⟨b, 0, none⟩), .int .i64 0]) ∧ Has w' b s N [] ∧ w.heap.size ≤ b ∧ w.heap.size ≤ s ∧ Below w.heap.size w w'
theorem new_has (N : Nat) (w : World) (h1 : 1 ≤ N) (h2 : N ≤ 4096) : Calls Try.prog 9 #[.int .i64 (N : Int)] w (News N w) := by
  refine (new_made N w h1 h2).mono ?_
  rintro e w' ⟨b, s, rfl, hr, hb, hs, hbel⟩
  exact ⟨b, s, rfl, ⟨0, _, hr, rfl⟩, hb, hs, hbel⟩

section
variable {b s N : Nat} {xs : List Int}
theorem len_has (w : World) (h : Has w b s N xs) : Calls Try.prog 21 #[.pointer (some ⟨b, 0, none⟩)] w fun e w' => e = .returned (.int .i64 (xs.length : Int)) ∧ w = w' := by
  obtain ⟨first, zs, hr, he⟩ := h
  exact len_any w hr
theorem size_has (w : World) (h : Has w b s N xs) : Calls Try.prog 23 #[.pointer (some ⟨b, 0, none⟩)] w fun e w' => e = .returned (.int .i64 (N : Int)) ∧ w = w' := by
  obtain ⟨first, zs, hr, he⟩ := h
  exact size_any w hr
theorem room_has (w : World) (h : Has w b s N xs) : Calls Try.prog 22 #[.pointer (some ⟨b, 0, none⟩)] w fun e w' => e = .returned (.int .i64 ((N - xs.length : Nat) : Int)) ∧ w = w' := by
  obtain ⟨first, zs, hr, he⟩ := h
  exact room_n w hr (by have := hr.held_le; omega)

def PutsX (b s N n : Nat) (xs ys : List Int) (w : World) (e : Ending) (w' : World) : Prop :=
  e = .returned (.int .i64 (n : Int)) ∧ Has w' b s N (xs ++ ys.take n) ∧ Keep w.heap.size (fun g => g = b ∨ g = s) w w'
theorem put_has (w : World) (h : Has w b s N xs) {A : Option Addr} {m c : Nat} {ys : List Int} (hs : Src w (fun g => g < w.heap.size ∧ g ≠ s) A m c ys) :
    Calls Try.prog 12 #[.pointer (some ⟨b, 0, none⟩), .slice A m c] w (PutsX b s N (min m (N - xs.length)) xs ys w) := by
  obtain ⟨first, zs, hr, he⟩ := h
  refine (put_any w hr A m c ys hs.len hs.cap hs.at_ (Nat.le_trans hs.cap hs.max)).mono ?_
  rintro e w' ⟨rfl, zs', hr', hheld, hk⟩
  have hl : (xs ++ ys.take (min m (N - xs.length))).length = xs.length + min m (N - xs.length) := by rw [List.length_append, List.length_take, hs.len]; omega
  refine ⟨rfl, ⟨first, zs', ?_, ?_⟩, hk⟩
  · rw [hl]; exact hr'
  · rw [hl, hheld, he]

def PeeksX (k : Nat) (xs : List Int) (w : World) (e : Ending) (w' : World) : Prop :=
  ∃ A c, e = .returned (.slice A k c) ∧ w'.ownsRow w.heap.size 5 1 (.slice A k c) k (B8 (xs.take k)) ∧ Below w.heap.size w w'
theorem peek_has (w : World) (h : Has w b s N xs) (n : Int) : Calls Try.prog 19 #[.pointer (some ⟨b, 0, none⟩), .int .i64 n] w (PeeksX (kOf xs.length n) xs w) := by
  obtain ⟨first, zs, hr, he⟩ := h
  refine (peek_any w hr n).mono ?_
  rintro e w' ⟨A, c, rfl, ho, hb⟩
  rw [← held_take zs first xs.length _ (kOf_le _ _), he] at ho
  exact ⟨A, c, rfl, ho, hb⟩

theorem gone_has {first k : Nat} {zs : List Int} {w' : World} (hz : zs.length = N) (hr : IsRing w' b s N ((first + k) % N) (xs.length - k) zs) (he : held zs first xs.length = xs) (hk : k ≤ xs.length) : Has w' b s N (xs.drop k) := by
  refine ⟨(first + k) % N, zs, ?_, ?_⟩
  · rw [List.length_drop]; exact hr
  · rw [List.length_drop, held_drop zs N first xs.length k hz hk, he]

def TakesX (b s N k : Nat) (xs : List Int) (w : World) (e : Ending) (w' : World) : Prop :=
  ∃ A c, e = .returned (.slice A k c) ∧ w'.ownsRow w.heap.size 5 1 (.slice A k c) k (B8 (xs.take k)) ∧ Has w' b s N (xs.drop k) ∧ Keep w.heap.size (fun g => g = b) w w'
theorem take_has (w : World) (h : Has w b s N xs) (n : Int) : Calls Try.prog 15 #[.pointer (some ⟨b, 0, none⟩), .int .i64 n] w (TakesX b s N (kOf xs.length n) xs w) := by
  obtain ⟨first, zs, hr, he⟩ := h
  refine (take_any w hr n).mono ?_
  rintro e w' ⟨A, c, rfl, ho, hr', hk⟩
  rw [← held_take zs first xs.length _ (kOf_le _ _), he] at ho
  exact ⟨A, c, rfl, ho, gone_has hr.len hr' he (kOf_le _ _), hk⟩

theorem skip_no (w : World) (h : Has w b s N xs) (n : Int) (hn : n < 0 ∨ (xs.length : Int) < n) : Calls Try.prog 17 #[.pointer (some ⟨b, 0, none⟩), .int .i64 n] w fun e w' => e = .returned (.int .i64 2) ∧ w = w' := by
  obtain ⟨first, zs, hr, he⟩ := h
  exact skip_refused w n hr hn
def SkipsX (b s N k : Nat) (xs : List Int) (w : World) (e : Ending) (w' : World) : Prop := e = .returned (.int .i64 0) ∧ Has w' b s N (xs.drop k) ∧ Keep w.heap.size (fun g => g = b) w w'
theorem skip_yes (w : World) (h : Has w b s N xs) (k : Nat) (hk : k ≤ xs.length) : Calls Try.prog 17 #[.pointer (some ⟨b, 0, none⟩), .int .i64 (k : Int)] w (SkipsX b s N k xs w) := by
  obtain ⟨first, zs, hr, he⟩ := h
  refine (skip_taken w k hr hk).mono ?_
  rintro e w' ⟨rfl, hr', hkeep⟩
  exact ⟨rfl, gone_has hr.len hr' he hk, hkeep⟩
end

/-- Same over two such slices -/
theorem same_has (w : World) {okA okB : Nat → Prop} {A B : Option Addr} {m c m' c' : Nat} {xs ys : List Int} (ha : Src w okA A m c xs) (hb : Src w okB B m' c' ys) :
    Calls Try.prog 14 #[.slice A m c, .slice B m' c'] w fun e w' => e = .returned (.bool (sameB xs ys)) ∧ Still w w' :=
  same_any w okA okB A B m c m' c' xs ys ha.len hb.len (Nat.le_trans ha.cap ha.max) ha.at_ hb.at_

/-- a slice literal of bytes -/
theorem src_lit {w : World} {cs : List Int} (h : cs.length ≤ 100) : Src (w.alloc (.cells (B8 cs).toArray 5)) (fun g => g = w.heap.size) (some ⟨w.heap.size, 0, none⟩) cs.length cs.length cs := by
  refine ⟨rfl, Nat.le_refl _, (fun e => by cases e), by unfold maxLen; omega, fun _ => ⟨_, 0, rfl, rfl, fun j z hz => ?_⟩⟩
  have := (Lies.new w 5 (B8 cs).toArray).cell (0 + j)
  rw [this]
  simp [B8, hz]

end Go.Proofs.Ythagggclhahikaa.api
