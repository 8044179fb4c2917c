/-
  Given for the seat's laws: the contract of the library's ParseUint at base 16 and 16 bits, as the program asks it: is it a group? No condition but what two variables of the library hold.
-/
import Derived.Test.YtefpplkoohnfbabGreatDoorHPU
namespace Go.Proofs.YtefpplkoohnfbabGreatDoor.hw
open Go.RowKit mem hostp
set_option linter.unusedVariables false

/-- an error's value: none, or some -/
def isErr (v : Value) : Prop := v = .nilIface ∨ ∃ te pe, v = .iface te pe

theorem pu_vl : ∀ {l : Str} {a : Nat}, a ≤ 65535 → a * 16 ^ l.length + 16 ^ l.length ≤ 65536 → pu l a = (match vl 16 (low l) a with | some v => Lib.NumEnd.ok v | none => Lib.NumEnd.syntax)
  | [], a, _, _ => rfl
  | c :: r, a, ha, hp => by
    rw [pu_cons]
    show _ = (match vl 16 (lc c :: low r) a with | some v => Lib.NumEnd.ok v | none => Lib.NumEnd.syntax)
    rw [vl_cons]
    cases hd : hostp.dv (lc c) with
    | none => rfl
    | some d =>
      have hd16 := dv_lt hd
      have h1 : (a + 1) * (16 * 16 ^ r.length) ≤ 65536 := by
        have : (a + 1) * (16 * 16 ^ r.length) = a * 16 ^ (r.length + 1) + 16 ^ (r.length + 1) := by rw [Nat.add_mul, Nat.one_mul, Nat.pow_succ, Nat.mul_comm 16]
        rw [this]
        simpa using hp
      have hpos : 1 ≤ 16 ^ r.length := Nat.pow_pos (by omega)
      have h2 : (a * 16 + d + 1) * 16 ^ r.length ≤ 65536 := by
        have h3 : (a * 16 + d + 1) * 16 ^ r.length ≤ ((a + 1) * 16) * 16 ^ r.length := Nat.mul_le_mul_right _ (by omega)
        rw [Nat.mul_assoc] at h3
        omega
      have h4 : a * 16 + d + 1 ≤ 65536 := by
        have := Nat.mul_le_mul_left (a * 16 + d + 1) hpos
        omega
      dsimp only
      rw [if_neg (by omega), if_pos hd16]
      exact pu_vl (by omega) (by rw [Nat.add_mul, Nat.one_mul] at h2; exact h2)

/-- what the library answers, and the length, together -/
theorem pu_grp {l : Str} (h0 : l ≠ []) (h4 : l.length ≤ 4) : pu l 0 = (match grp (low l) with | some v => Lib.NumEnd.ok v | none => Lib.NumEnd.syntax) := by
  have hp : 0 * 16 ^ l.length + 16 ^ l.length ≤ 65536 := by
    rw [Nat.zero_mul, Nat.zero_add]
    have := Nat.pow_le_pow_right (n := 16) (by omega) h4
    omega
  have h := pu_vl (l := l) (a := 0) (by omega) hp
  have hlen : (low l).length = l.length := by simp [low]
  have hne : low l ≠ [] := fun e => h0 (by have := congrArg List.length e; rw [hlen] at this; exact List.length_eq_zero_iff.1 this)
  unfold grp
  rw [if_pos ⟨hne, by omega⟩]
  exact h

theorem below_bytes (w : World) (t : ByteArray) : Below w.heap.size w (Lib.bytesWorld w 5 t) := by
  refine ⟨rfl, rfl, rfl, ?_, fun k hk => ?_⟩
  · unfold Lib.bytesWorld World.freeze
    simp
  · exact Lib.bytesWorld_at_old w 5 t k hk

/-- what ParseUint leaves -/
def PUd (l : Str) (w : World) (e : Ending) (w' : World) : Prop :=
  ∃ v er, e = .returned (.tuple #[.int .u64 ((v : Nat) : Int), er]) ∧ Below w.heap.size w w' ∧ ((er = .nilIface ∧ pu l 0 = .ok v ∧ l ≠ [] ∧ v ≤ 65535) ∨ ((∃ te pe, er = .iface te pe) ∧ (l = [] ∨ ∀ u, pu l 0 ≠ .ok u)))
theorem pu_le : ∀ {l : Str} {a v : Nat}, a ≤ 65535 → pu l a = .ok v → v ≤ 65535
  | [], a, v, h, e => by cases e; exact h
  | c :: r, a, v, h, e => by
    rw [pu_cons] at e
    split at e
    · cases e
    · split at e
      · cases e
      · exact pu_le (by omega) e

set_option maxRecDepth 100000 in
set_option maxHeartbeats 4000000 in
theorem parseUint_any (t : ByteArray) (hmax : t.size ≤ 1000000000) (w : World) (he : Env w) : Calls Tryz.prog 65 #[.string t, .int .i64 16, .int .i64 16] w (PUd t.data.toList w) := by
  obtain ⟨sv, hs1, hs2⟩ := he.syn
  obtain ⟨rv, hr1, hr2⟩ := he.ran
  by_cases h0 : t.size = 0
  · have hl0 := list_nil.2 h0
    have ht : t = ⟨#[]⟩ := by
      apply ByteArray.ext
      apply Array.toList_inj.1
      simpa using hl0
    subst ht
    have HI := Lib.hid (Tryz.internal_strconv_ParseUint_empty 16 16 w)
    have HE := Lib.hid (Tryz.strconv_toError_syntax ⟨#[80, 97, 114, 115, 101, 85, 105, 110, 116]⟩ ⟨#[]⟩ 16 16 sv w (by decide) hs1 hs2)
    clear hs1 hr1 he
    go_enter Tryz.func65, Tryz.ntmps65
    go_wp2_with fail
    refine HI.out.mono ?_
    rintro e w' ⟨rfl, rfl⟩
    go_wp2_with fail
    refine HE.out.mono ?_
    rintro e w2 ⟨N, rfl, _, _, hb⟩
    have HB := Lib.hid hb
    clear hb
    go_wp2
    go_ret2
    exact ⟨0, _, rfl, HB.out, .inr ⟨⟨_, _, rfl⟩, .inl rfl⟩⟩
  · have hne : t.data.toList ≠ [] := fun e => h0 (list_nil.1 e)
    have hi := iParseUint_in t h0 hmax w
    have hb1 := below_bytes w t
    have HNE := Lib.hid hne
    rcases hpu : pu t.data.toList 0 with v | _ | _
    · skip
      rw [hpu] at hi
      have HI := Lib.hid hi
      have HP := Lib.hid hpu
      have HB := Lib.hid hb1
      generalize Lib.bytesWorld w 5 t = w1 at HI HB
      clear hs1 hr1 he hi hb1 hne hpu
      unfold Lib.uintTupleM at HI
      go_enter Tryz.func65, Tryz.ntmps65
      go_wp2_with fail
      refine HI.out.mono ?_
      rintro e w' ⟨rfl, rfl⟩
      go_wp2
      go_ret2
      exact ⟨v, _, rfl, HB.out, .inl ⟨rfl, HP.out, HNE.out, pu_le (by omega) HP.out⟩⟩
    · skip
      rw [hpu] at hi
      have HE := Lib.hid (Tryz.strconv_toError_syntax ⟨#[80, 97, 114, 115, 101, 85, 105, 110, 116]⟩ t 16 16 sv (Lib.bytesWorld w 5 t) (by omega) (cell_kept hs1 hb1) hs2)
      have HI := Lib.hid hi
      have HP := Lib.hid hpu
      have HB := Lib.hid hb1
      generalize Lib.bytesWorld w 5 t = w1 at HI HB HE
      clear hs1 hr1 he hi hb1 hne hpu
      unfold Lib.uintTupleM at HI
      go_enter Tryz.func65, Tryz.ntmps65
      go_wp2_with fail
      refine HI.out.mono ?_
      rintro e w' ⟨rfl, rfl⟩
      go_wp2_with fail
      refine HE.out.mono ?_
      rintro e w2 ⟨N, rfl, _, _, hb⟩
      have HB2 := Lib.hid (HB.out.trans (hb.mono HB.out.size))
      clear hb
      go_wp2
      go_ret2
      exact ⟨0, _, rfl, HB2.out, .inr ⟨⟨_, _, rfl⟩, .inr (fun u e => by rw [HP.out] at e; cases e)⟩⟩
    · skip
      rw [hpu] at hi
      have HE := Lib.hid (Tryz.strconv_toError_range ⟨#[80, 97, 114, 115, 101, 85, 105, 110, 116]⟩ t 16 16 rv (Lib.bytesWorld w 5 t) (by omega) (cell_kept hr1 hb1) hr2)
      have HI := Lib.hid hi
      have HP := Lib.hid hpu
      have HB := Lib.hid hb1
      generalize Lib.bytesWorld w 5 t = w1 at HI HB HE
      clear hs1 hr1 he hi hb1 hne hpu
      unfold Lib.uintTupleM at HI
      go_enter Tryz.func65, Tryz.ntmps65
      go_wp2_with fail
      refine HI.out.mono ?_
      rintro e w' ⟨rfl, rfl⟩
      go_wp2_with fail
      refine HE.out.mono ?_
      rintro e w2 ⟨N, rfl, _, _, hb⟩
      have HB2 := Lib.hid (HB.out.trans (hb.mono HB.out.size))
      clear hb
      go_wp2
      go_ret2
      exact ⟨65535, _, rfl, HB2.out, .inr ⟨⟨_, _, rfl⟩, .inr (fun u e => by rw [HP.out] at e; cases e)⟩⟩

end Go.Proofs.YtefpplkoohnfbabGreatDoor.hw
