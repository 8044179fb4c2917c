/-
  Given for the seat's laws: what a made ring is in memory, and the contracts of New, made, Len, Size, Room, Skip over it. No condition but those of the theorems.
-/
import Derived.Test.YthagggclhahikaaMem
import Derived.WalkKit
import Derived.WalkSpells
import Derived.WalkLawsBesides
import Derived.RegionTactic
import Derived.BigRegion
import Derived.LaidEqlPtr
import Derived.Lib.Hide
import Derived.OwnWalk
import Derived.Laws.OwnMore
namespace Go.Proofs.Ythagggclhahikaa.ring
open Go.RowKit mem
set_option linter.unusedVariables false

/-- bytes as cells -/
def B8 (zs : List Int) : List Value := zs.map (Value.int .u8)
theorem B8_length (zs : List Int) : (B8 zs).length = zs.length := by simp [B8]

/-- a ring that New made: its block b, its store's block s, its size, the place of the first byte held, how many are held, the store's bytes -/
structure IsRing (w : World) (b s N first held : Nat) (zs : List Int) : Prop where
  head : Lies w b 45 #[.pointer (some ⟨b, 0, none⟩), .slice (some ⟨s, 0, none⟩) N N, .int .i64 (first : Int), .int .i64 (held : Int)]
  row : Lies w s 5 (B8 zs).toArray
  len : zs.length = N
  first_lt : first < N
  held_le : held ≤ N
  most : N ≤ 4096

section
variable {w w' : World} {b s N first held : Nat} {zs : List Int}
theorem IsRing.ne (h : IsRing w b s N first held zs) : b ≠ s := h.head.apart h.row (by decide)
theorem IsRing.keep {B : Nat} {S : Nat → Prop} (h : IsRing w b s N first held zs) (hk : Keep B S w w') (hb : b < B) (hs : s < B) (hb' : ¬ S b) (hs' : ¬ S s) : IsRing w' b s N first held zs :=
  ⟨h.head.keep hk hb hb', h.row.keep hk hs hs', h.len, h.first_lt, h.held_le, h.most⟩
theorem IsRing.same (h : IsRing w b s N first held zs) (hb : w'.heap[b]? = w.heap[b]?) (hs : w'.heap[s]? = w.heap[s]?) : IsRing w' b s N first held zs :=
  ⟨h.head.of_same hb, h.row.of_same hs, h.len, h.first_lt, h.held_le, h.most⟩
theorem IsRing.drew (h : IsRing w b s N first held zs) : IsRing w.drew b s N first held zs := ⟨h.head, h.row, h.len, h.first_lt, h.held_le, h.most⟩
theorem IsRing.c0 (h : IsRing w b s N first held zs) : w.cell? ⟨b, 0, none⟩ = some (.pointer (some ⟨b, 0, none⟩)) := h.head.cell 0
theorem IsRing.c1 (h : IsRing w b s N first held zs) : w.cell? ⟨b, 1, none⟩ = some (.slice (some ⟨s, 0, none⟩) N N) := h.head.cell 1
theorem IsRing.c2 (h : IsRing w b s N first held zs) : w.cell? ⟨b, 2, none⟩ = some (.int .i64 (first : Int)) := h.head.cell 2
theorem IsRing.c3 (h : IsRing w b s N first held zs) : w.cell? ⟨b, 3, none⟩ = some (.int .i64 (held : Int)) := h.head.cell 3
end

theorem info45' : (Try.prog.info? 45).map (fun _ => ()) = some () := by kernel_rfl
theorem info45 : ∃ j, Try.prog.info? 45 = some j := by
  obtain ⟨j, hj, _⟩ := Option.map_eq_some_iff.1 info45'
  exact ⟨j, hj⟩

theorem run_eql_self (w : World) (b : Nat) : (binOp .eql 24 (.pointer (some ⟨b, 0, none⟩)) (.pointer (some ⟨b, 0, none⟩))).run Try.prog w = .ok (.bool true) w := by
  obtain ⟨j, hj⟩ := info45
  exact run_eql_ptr_same w _ Try.underlying24 hj

section
variable {b s N first held : Nat} {zs : List Int}

set_option maxHeartbeats 400000 in
theorem made_yes (w : World) (h : IsRing w b s N first held zs) : Calls Try.prog 26 #[.pointer (some ⟨b, 0, none⟩)] w fun e w' => e = .returned (.bool true) ∧ w = w' := by
  have he := run_eql_self w b
  have hc := h.c0
  clear h
  go_enter Try.func26, Try.ntmps26
  go_wp2
  go_ret
  exact ⟨rfl, rfl⟩

set_option maxHeartbeats 400000 in
theorem len_any (w : World) (h : IsRing w b s N first held zs) : Calls Try.prog 21 #[.pointer (some ⟨b, 0, none⟩)] w fun e w' => e = .returned (.int .i64 (held : Int)) ∧ w = w' := by
  have hc := h.c3
  go_enter Try.func21, Try.ntmps21
  go_wp2_with (go_at_call 26; refine (made_yes _ h).mono ?_; rintro e w' ⟨rfl, rfl⟩)
  go_ret
  exact ⟨rfl, rfl⟩

set_option maxHeartbeats 400000 in
theorem size_any (w : World) (h : IsRing w b s N first held zs) : Calls Try.prog 23 #[.pointer (some ⟨b, 0, none⟩)] w fun e w' => e = .returned (.int .i64 (N : Int)) ∧ w = w' := by
  have hc := h.c1
  go_enter Try.func23, Try.ntmps23
  go_wp2_with (go_at_call 26; refine (made_yes _ h).mono ?_; rintro e w' ⟨rfl, rfl⟩)
  go_ret
  exact ⟨rfl, rfl⟩

set_option maxHeartbeats 400000 in
theorem room_any (w : World) (h : IsRing w b s N first held zs) : Calls Try.prog 22 #[.pointer (some ⟨b, 0, none⟩)] w fun e w' => e = .returned (.int .i64 ((N : Int) - (held : Int))) ∧ w = w' := by
  have h1 := h.held_le
  have h2 := h.most
  go_enter Try.func22, Try.ntmps22
  go_wp2_with (first | (go_at_call 23; refine (size_any _ h).mono ?_; rintro e w' ⟨rfl, rfl⟩) | (go_at_call 21; refine (len_any _ h).mono ?_; rintro e w' ⟨rfl, rfl⟩))
  go_ret
  exact ⟨rfl, rfl⟩

set_option maxHeartbeats 400000 in
theorem skip_refused (w : World) (n : Int) (h : IsRing w b s N first held zs) (hn : n < 0 ∨ (held : Int) < n) : Calls Try.prog 17 #[.pointer (some ⟨b, 0, none⟩), .int .i64 n] w fun e w' => e = .returned (.int .i64 2) ∧ w = w' := by
  have hc := h.c3
  rcases hn with hn | hn
  · go_enter Try.func17, Try.ntmps17
    go_wp2_with (go_at_call 26; refine (made_yes _ h).mono ?_; rintro e w' ⟨rfl, rfl⟩)
    go_ret
    exact ⟨rfl, rfl⟩
  · have hn' : ¬ n < 0 := by omega
    go_enter Try.func17, Try.ntmps17
    go_wp2_with (go_at_call 26; refine (made_yes _ h).mono ?_; rintro e w' ⟨rfl, rfl⟩)
    go_ret
    exact ⟨rfl, rfl⟩

/-- what a Skip, and what a Take, leaves of the ring -/
def Gone (b s N first held n : Nat) (zs : List Int) (w w' : World) : Prop := IsRing w' b s N ((first + n) % N) (held - n) zs ∧ Keep w.heap.size (fun g => g = b) w w'

theorem gone_of {w : World} {n : Nat} (h : IsRing w b s N first held zs) (hn : n ≤ held) :
    Gone b s N first held n zs w (((w.setCell ⟨b, 2, none⟩ (.int .i64 (((first : Int) + (n : Int)) % (N : Int)))).setCell ⟨b, 3, none⟩ (.int .i64 ((held : Int) - (n : Int)))).drew) := by
  have hlt := h.first_lt
  have hle := h.held_le
  refine ⟨⟨?_, ?_, h.len, Nat.mod_lt _ (by omega), by omega, h.most⟩, (((Keep.refl w.heap.size (fun g => g = b) w).setCell (p := ⟨b, 2, none⟩) (.inr rfl) _).setCell (p := ⟨b, 3, none⟩) (.inr rfl) _).drew⟩
  · have e1 : ((first : Int) + (n : Int)) % (N : Int) = (((first + n) % N : Nat) : Int) := by simp
    have e2 : ((held : Int) - (n : Int)) = ((held - n : Nat) : Int) := by omega
    rw [e1, e2]
    exact ((h.head.set 2 _).set 3 _).drew
  · exact ((h.row.far (p := ⟨b, 2, none⟩) (Ne.symm h.ne) _).far (p := ⟨b, 3, none⟩) (Ne.symm h.ne) _).drew

set_option maxHeartbeats 400000 in
theorem skip_taken (w : World) (n : Nat) (h : IsRing w b s N first held zs) (hn : n ≤ held) : Calls Try.prog 17 #[.pointer (some ⟨b, 0, none⟩), .int .i64 (n : Int)] w fun e w' => e = .returned (.int .i64 0) ∧ Gone b s N first held n zs w w' := by
  have hc1 := h.c1
  have hc2 := h.c2
  have hc3 := h.c3
  have hf1 := h.head.frozen 2
  have hf2 := h.head.frozen 3
  have hle := h.held_le
  have hlt := h.first_lt
  have hmx := h.most
  have h0 : ¬ (n : Int) < 0 := by omega
  have h1 : ¬ (held : Int) < (n : Int) := by omega
  have hN0 : ((N : Int) == 0) = false := by simp; omega
  go_enter Try.func17, Try.ntmps17
  go_wp2_with (go_at_call 26; refine (made_yes _ h).mono ?_; rintro e w' ⟨rfl, rfl⟩)
  go_region
  all_goals go_wp2
  go_ret
  exact ⟨rfl, gone_of h hn⟩
end

/-! ### New -/
set_option maxHeartbeats 400000 in
theorem new_refused (n : Int) (w : World) (h : n < 1 ∨ 4096 < n) : Calls Try.prog 9 #[.int .i64 n] w fun e w' => e = .returned (.tuple #[.pointer none, .int .i64 2]) ∧ w = w' := by
  rcases h with h | h
  · go_enter Try.func9, Try.ntmps9
    go_wp2
    go_ret2
    exact ⟨rfl, rfl⟩
  · have h' : ¬ n < 1 := by omega
    go_enter Try.func9, Try.ntmps9
    go_wp2
    go_ret2
    exact ⟨rfl, rfl⟩

theorem info5 : (Try.prog.info? 5).map (fun i => (i.zero, i.size, i.bytes)) = some (some (.int .u8 0), 1, 1) := by kernel_rfl

theorem lies_of_own {w : World} {B g n : Nat} {e : TypeId} {xs : List Value} (h : w.ownsRow B e 1 (.slice (some ⟨g, 0, none⟩) n n) n xs) : Lies w g e xs.toArray := by
  rcases h.2 with ⟨h0, _⟩ | ⟨g', cap, cur, hv, _, hh, _, _, hsz, htk⟩
  · cases h0
  · simp only [Value.slice.injEq, Option.some.injEq, Addr.mk.injEq] at hv
    obtain ⟨⟨rfl, _⟩, _, rfl⟩ := hv
    rw [List.take_of_length_le (by simp; omega)] at htk
    subst htk
    simpa [Lies] using hh

theorem replicate_B8 (n : Nat) : List.replicate n (Value.int .u8 0) = B8 (List.replicate n 0) := by simp [B8]

/-- what New leaves: a ring of its own, below which nothing has turned -/
def Made (N : Nat) (w : World) (e : Ending) (w' : World) : Prop := ∃ b s, e = .returned (.tuple #[.pointer (some ⟨b, 0, none⟩), .int .i64 0]) ∧ IsRing w' b s N 0 0 (List.replicate N 0) ∧ w.heap.size ≤ b ∧ w.heap.size ≤ s ∧ Below w.heap.size w w'

theorem made_of {w w1 : World} {n : Nat} (h1 : 1 ≤ n) (h2 : n ≤ 4096) (hown : w1.ownsRow w.heap.size 5 1 (.slice (some ⟨w.heap.size, 0, none⟩) n n) n (madeCells #[.int .u8 0] (n * 1)).toList) (hg : w.grownBy w1 none) :
    Made n w (.returned (.tuple #[.pointer (some ⟨w1.heap.size, 0, none⟩), .int .i64 0]))
      (w1.alloc (.cells #[.pointer (some ⟨w1.heap.size, 0, none⟩), .slice (some ⟨w.heap.size, 0, none⟩) n n, .int .i64 0, .int .i64 0] 45)) := by
  have hl := lies_of_own hown
  rw [Nat.mul_one, toList_madeCells_one, replicate_B8] at hl
  have hlt := hl.lt
  refine ⟨w1.heap.size, w.heap.size, rfl, ⟨Lies.new w1 45 _, hl.alloc _, by simp, by omega, by omega, h2⟩, hg.size, Nat.le_refl _, ?_⟩
  exact ((Below.refl _ w).grown hg (Nat.le_refl _) (fun k e => by cases e)).alloc hg.size _

set_option maxHeartbeats 400000 in
theorem new_made (n : Nat) (w : World) (h1 : 1 ≤ n) (h2 : n ≤ 4096) : Calls Try.prog 9 #[.int .i64 (n : Int)] w (Made n w) := by
  have a1 : ¬ (n : Int) < 1 := by omega
  have a2 : ¬ (4096 : Int) < (n : Int) := by omega
  obtain ⟨i0, hi, hz0, hz1, hz2⟩ := info_parts info5
  go_enter Try.func9, Try.ntmps9
  go_wp2_with (at_make; refine wpList_make_full _ rfl _ _ 31 rfl w.heap.size 5 i0 (.int .u8 0) 1 Try.underlying31 hi hz0 hz1 .i64 .i64 _ _ n rfl rfl rfl rfl (by rw [hz2]; omega) (by unfold maxLen; omega) (Nat.le_refl _) ?_; intro w1 hown hg)
  go_ret2
  exact made_of h1 h2 hown hg

end Go.Proofs.Ythagggclhahikaa.ring
