/-
  Given for the seat's laws: what is taken, its fields lying below; copies of bytes. No condition but those of the theorem.
-/
import Derived.Test.YtghdaengkgiekaaGreatDoorYKConv
import Derived.Test.YtghdaengkgiekaaGreatDoorYKPure
namespace Go.Proofs.YtghdaengkgiekaaGreatDoor.hd
open Go.RowKit mem
set_option linter.unusedVariables false

/-- what Take gives, its fields lying below -/
theorem take_r {s : Str} {l : Str} {fs : Flds} {n e : Nat} (h : take s = (l, fs, n, e)) {w w' : World} {en : Ending} (ht : TakeTo (take s) w en w') : ∃ A c, en = .returned (.tuple #[.agg #[.string (S l), .slice A fs.length c], .int .i64 (n : Int), .int .i64 (e : Int)]) ∧ FAt w' (fun g => g < w'.heap.size) A fs.length c fs ∧ Below w.heap.size w w' := by
  rw [h] at ht
  obtain ⟨v, rfl, hr, hb⟩ := ht
  obtain ⟨A, c, rfl⟩ := rowF_form hr
  exact ⟨A, c, rfl, rowF_at hr rfl, hb⟩
theorem take_most {s : Str} {l : Str} {fs : Flds} {n e : Nat} (h : take s = (l, fs, n, e)) : fs.length ≤ 16 := by
  rcases go_kinds start 0 s with ⟨a, _⟩ | ⟨a, _⟩ | a | a
  · rw [show go start 0 s = _ from h] at a
    simp at a
    subst a
    exact (take_inv h).1.most
  all_goals
    rw [show go start 0 s = _ from h] at a
    simp at a
    rw [a.2.1]
    simp
/-- both copies -/
theorem both {w : World} {A B : Option Addr} {n c m d : Nat} {b ds : Str} (hs : Spell w (fun g => g < w.heap.size) A n c b) (hd : Spell w (fun g => g < w.heap.size) B m d ds) (hn : n ≤ 3000) (hm : m ≤ 3000) :
    ∃ A2 c2 w2 A3 c3 w3, (Builtin.append_ #[29, 29] 29 #[.slice (some ⟨w.heap.size, 0, none⟩) 0 0, .slice A n c]).run Tryz.prog (w.alloc (.cells #[] 5)) = .ok (.slice A2 n c2) w2 ∧
      (Builtin.append_ #[29, 29] 29 #[.slice A2 n c2, .slice B m d]).run Tryz.prog w2 = .ok (.slice A3 (n + m) c3) w3 ∧ Made w w3 (.slice A3 (n + m) c3) (b ++ ds) := by
  have hbl := spell_len hs
  obtain ⟨A2, c2, w2, happ, hm2⟩ := mine hs (fun g hg => hg) (by omega)
  subst hbl
  obtain ⟨A3, c3, w3, happ3, hm3⟩ := Made.app hm2 (Below.refl _ _) (hd.below hm2.below (fun g hg => hg)) (by omega)
  exact ⟨A2, c2, w2, A3, c3, w3, happ, happ3, hm3⟩
theorem take_spell {w : World} {ok : Nat → Prop} {A : Option Addr} {n c : Nat} {b : Str} (hs : Spell w ok A n c b) {i : Nat} (hi : i ≤ n) : Spell w ok A i c (b.take i) := by
  have h := Src.takeN hs i hi
  rwa [ints_take] at h
/-- how the walk stands -/
structure Std (w wr : World) (A : Option Addr) (n c : Nat) (b : Str) : Prop where
  be : Below w.heap.size w wr
  sp : Spell wr (fun g => g < w.heap.size) A n c b
theorem Std.next {w wr W : World} {A : Option Addr} {n c : Nat} {b : Str} (h : Std w wr A n c b) (hb : Below wr.heap.size wr W) : Std w W A n c b :=
  ⟨h.be.trans (hb.mono h.be.size), h.sp.below (hb.mono h.be.size) (fun g hg => hg)⟩
theorem Std.take {w wr : World} {A : Option Addr} {n c : Nat} {b : Str} (h : Std w wr A n c b) {i : Nat} (hi : i ≤ n) (hn : n ≤ 5000) : Calls Tryz.prog 19 #[.slice A i c] wr (TakeTo (hd.take (b.take i)) wr) :=
  take_any (take_spell h.sp hi) (fun g hg => Nat.lt_of_lt_of_le hg h.be.size) (by omega)
theorem Std.take_all {w wr : World} {A : Option Addr} {n c : Nat} {b : Str} (h : Std w wr A n c b) (hn : n ≤ 5000) : Calls Tryz.prog 19 #[.slice A n c] wr (TakeTo (hd.take b) wr) :=
  take_any h.sp (fun g hg => Nat.lt_of_lt_of_le hg h.be.size) (by omega)
end Go.Proofs.YtghdaengkgiekaaGreatDoor.hd
