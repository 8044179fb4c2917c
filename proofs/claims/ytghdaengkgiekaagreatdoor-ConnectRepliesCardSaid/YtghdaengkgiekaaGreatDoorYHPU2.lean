/-
  Given for the seat's laws: the contract of the library's ParseUint at base 16 and 16 bits, as the program asks it: is it a group? No condition but what two variables of the library hold.
-/
import Derived.Test.YtghdaengkgiekaaGreatDoorYHPU
import Derived.Test.YtghdaengkgiekaaGreatDoorYHKind
namespace Go.Proofs.YtghdaengkgiekaaGreatDoor.hw
open Go.RowKit mem hostp
set_option linter.unusedVariables false

/-- an error's value: none, or some -/
def isErr (v : Value) : Prop := v = .nilIface ∨ ∃ te pe, v = .iface te pe

theorem pu_vl : ∀ {l : Str} {a : Nat}, a ≤ 65535 → a * 16 ^ l.length + 16 ^ l.length ≤ 65536 → pu l a = (match vl 16 (low l) a with | some v => Lib.NumEnd.ok v | none => Lib.NumEnd.syntax)
  | [], a, _, _ => rfl
  | c :: r, a, ha, hp => by
    rw [pu_cons]
    show _ = (match vl 16 (lc c :: low r) a with | some v => Lib.NumEnd.ok v | none => Lib.NumEnd.syntax)
    rw [vl_cons]
    cases hd : hostp.dv (lc c) with
    | none => rfl
    | some d =>
      have hd16 := dv_lt hd
      have h1 : (a + 1) * (16 * 16 ^ r.length) ≤ 65536 := by
        have : (a + 1) * (16 * 16 ^ r.length) = a * 16 ^ (r.length + 1) + 16 ^ (r.length + 1) := by rw [Nat.add_mul, Nat.one_mul, Nat.pow_succ, Nat.mul_comm 16]
        rw [this]
        simpa using hp
      have hpos : 1 ≤ 16 ^ r.length := Nat.pow_pos (by omega)
      have h2 : (a * 16 + d + 1) * 16 ^ r.length ≤ 65536 := by
        have h3 : (a * 16 + d + 1) * 16 ^ r.length ≤ ((a + 1) * 16) * 16 ^ r.length := Nat.mul_le_mul_right _ (by omega)
        rw [Nat.mul_assoc] at h3
        omega
      have h4 : a * 16 + d + 1 ≤ 65536 := by
        have := Nat.mul_le_mul_left (a * 16 + d + 1) hpos
        omega
      dsimp only
      rw [if_neg (by omega), if_pos hd16]
      exact pu_vl (by omega) (by rw [Nat.add_mul, Nat.one_mul] at h2; exact h2)

/-- what the library answers, and the length, together -/
theorem pu_grp {l : Str} (h0 : l ≠ []) (h4 : l.length ≤ 4) : pu l 0 = (match grp (low l) with | some v => Lib.NumEnd.ok v | none => Lib.NumEnd.syntax) := by
  have hp : 0 * 16 ^ l.length + 16 ^ l.length ≤ 65536 := by
    rw [Nat.zero_mul, Nat.zero_add]
    have := Nat.pow_le_pow_right (n := 16) (by omega) h4
    omega
  have h := pu_vl (l := l) (a := 0) (by omega) hp
  have hlen : (low l).length = l.length := by simp [low]
  have hne : low l ≠ [] := fun e => h0 (by have := congrArg List.length e; rw [hlen] at this; exact List.length_eq_zero_iff.1 this)
  unfold grp
  rw [if_pos ⟨hne, by omega⟩]
  exact h

theorem below_bytes (w : World) (t : ByteArray) : Below w.heap.size w (Lib.bytesWorld w 5 t) := by
  refine ⟨rfl, rfl, rfl, ?_, fun k hk => ?_⟩
  · unfold Lib.bytesWorld World.freeze
    simp
  · exact Lib.bytesWorld_at_old w 5 t k hk

/-- what ParseUint leaves -/
def PUd (l : Str) (w : World) (e : Ending) (w' : World) : Prop :=
  ∃ v er, e = .returned (.tuple #[.int .u64 ((v : Nat) : Int), er]) ∧ Below w.heap.size w w' ∧ ((er = .nilIface ∧ pu l 0 = .ok v ∧ l ≠ [] ∧ v ≤ 65535) ∨ ((∃ te pe, er = .iface te pe) ∧ (l = [] ∨ ∀ u, pu l 0 ≠ .ok u)))
theorem pu_le : ∀ {l : Str} {a v : Nat}, a ≤ 65535 → pu l a = .ok v → v ≤ 65535
  | [], a, v, h, e => by cases e; exact h
  | c :: r, a, v, h, e => by
    rw [pu_cons] at e
    split at e
    · cases e
    · split at e
      · cases e
      · exact pu_le (by omega) e

set_option maxRecDepth 100000 in
set_option maxHeartbeats 4000000 in
theorem parseUint_any (t : ByteArray) (hmax : t.size ≤ 1000000000) (w : World) (he : Env w) : Calls Tryz.prog 162 #[.string t, .int .i64 16, .int .i64 16] w (PUd t.data.toList w) := by
  obtain ⟨sv, hs1, hs2⟩ := he.syn
  obtain ⟨rv, hr1, hr2⟩ := he.ran
  by_cases h0 : t.size = 0
  · have hl0 := list_nil.2 h0
    have ht : t = ⟨#[]⟩ := by
      apply ByteArray.ext
      apply Array.toList_inj.1
      simpa using hl0
    subst ht
    have HI := Lib.hid (Tryz.internal_strconv_ParseUint_empty 16 16 w)
    have HE := Lib.hid (Tryz.strconv_toError_syntax ⟨#[80, 97, 114, 115, 101, 85, 105, 110, 116]⟩ ⟨#[]⟩ 16 16 sv w (by decide) hs1 hs2)
    clear hs1 hr1 he
    go_enter Tryz.func162, Tryz.ntmps162
    go_wp2_with fail
    refine HI.out.mono ?_
    rintro e w' ⟨rfl, rfl⟩
    go_wp2_with fail
    refine HE.out.mono ?_
    rintro e w2 ⟨N, rfl, _, _, hb⟩
    have HB := Lib.hid hb
    clear hb
    go_wp2
    go_ret2
    exact ⟨0, _, rfl, HB.out, .inr ⟨⟨_, _, rfl⟩, .inl rfl⟩⟩
  · have hne : t.data.toList ≠ [] := fun e => h0 (list_nil.1 e)
    have hi := iParseUint_in t h0 hmax w
    have hb1 := below_bytes w t
    have HNE := Lib.hid hne
    rcases hpu : pu t.data.toList 0 with v | _ | _
    · skip
      rw [hpu] at hi
      have HI := Lib.hid hi
      have HP := Lib.hid hpu
      have HB := Lib.hid hb1
      generalize Lib.bytesWorld w 5 t = w1 at HI HB
      clear hs1 hr1 he hi hb1 hne hpu
      unfold Lib.uintTupleM at HI
      go_enter Tryz.func162, Tryz.ntmps162
      go_wp2_with fail
      refine HI.out.mono ?_
      rintro e w' ⟨rfl, rfl⟩
      go_wp2
      go_ret2
      exact ⟨v, _, rfl, HB.out, .inl ⟨rfl, HP.out, HNE.out, pu_le (by omega) HP.out⟩⟩
    · skip
      rw [hpu] at hi
      have HE := Lib.hid (Tryz.strconv_toError_syntax ⟨#[80, 97, 114, 115, 101, 85, 105, 110, 116]⟩ t 16 16 sv (Lib.bytesWorld w 5 t) (by omega) (cell_kept hs1 hb1) hs2)
      have HI := Lib.hid hi
      have HP := Lib.hid hpu
      have HB := Lib.hid hb1
      generalize Lib.bytesWorld w 5 t = w1 at HI HB HE
      clear hs1 hr1 he hi hb1 hne hpu
      unfold Lib.uintTupleM at HI
      go_enter Tryz.func162, Tryz.ntmps162
      go_wp2_with fail
      refine HI.out.mono ?_
      rintro e w' ⟨rfl, rfl⟩
      go_wp2_with fail
      refine HE.out.mono ?_
      rintro e w2 ⟨N, rfl, _, _, hb⟩
      have HB2 := Lib.hid (HB.out.trans (hb.mono HB.out.size))
      clear hb
      go_wp2
      go_ret2
      exact ⟨0, _, rfl, HB2.out, .inr ⟨⟨_, _, rfl⟩, .inr (fun u e => by rw [HP.out] at e; cases e)⟩⟩
    · skip
      rw [hpu] at hi
      have HE := Lib.hid (Tryz.strconv_toError_range ⟨#[80, 97, 114, 115, 101, 85, 105, 110, 116]⟩ t 16 16 rv (Lib.bytesWorld w 5 t) (by omega) (cell_kept hr1 hb1) hr2)
      have HI := Lib.hid hi
      have HP := Lib.hid hpu
      have HB := Lib.hid hb1
      generalize Lib.bytesWorld w 5 t = w1 at HI HB HE
      clear hs1 hr1 he hi hb1 hne hpu
      unfold Lib.uintTupleM at HI
      go_enter Tryz.func162, Tryz.ntmps162
      go_wp2_with fail
      refine HI.out.mono ?_
      rintro e w' ⟨rfl, rfl⟩
      go_wp2_with fail
      refine HE.out.mono ?_
      rintro e w2 ⟨N, rfl, _, _, hb⟩
      have HB2 := Lib.hid (HB.out.trans (hb.mono HB.out.size))
      clear hb
      go_wp2
      go_ret2
      exact ⟨65535, _, rfl, HB2.out, .inr ⟨⟨_, _, rfl⟩, .inr (fun u e => by rw [HP.out] at e; cases e)⟩⟩

end Go.Proofs.YtghdaengkgiekaaGreatDoor.hw

/-
  Given for the seat's laws: groups as the program reads them, without memory. No condition but those of the theorems.
-/
namespace Go.Proofs.YtghdaengkgiekaaGreatDoor.hw
open Go.RowKit mem hostp
set_option linter.unusedVariables false

theorem lowc_58 (c : UInt8) : lc c = 58 ↔ c = 58 := by
  constructor
  · intro h
    unfold lc at h
    split at h
    · rename_i hc
      have := congrArg UInt8.toNat h
      simp at this
      omega
    · exact h
  · rintro rfl
    rfl

theorem grps_snoc {l : List Str} {x : Str} : grps (l ++ [x]) = match grps l with
    | none => none
    | some a => match grp x with
      | none => none
      | some v => some (a ++ [v]) := by
  rw [grps_append]
  cases grps l with
  | none => rfl
  | some a =>
    show (match grps [x] with | none => none | some b => some (a ++ b)) = _
    unfold grps
    cases grp x with
    | none => rfl
    | some v => rfl
theorem grps_dead {l m : List Str} (h : grps l = none) : grps (l ++ m) = none := by rw [grps_append, h]
theorem grps_len : ∀ {l : List Str} {b : List Nat}, grps l = some b → b.length = l.length
  | [], b, h => by
    unfold grps at h
    cases h
    rfl
  | x :: l, b, h => by
    unfold grps at h
    split at h
    · cases h
    · split at h
      · cases h
      · rename_i v _ t ht
        cases h
        simp [grps_len ht]
theorem grps_lt : ∀ {l : List Str} {b : List Nat}, grps l = some b → ∀ v ∈ b, v < 65536
  | [], b, h => by
    unfold grps at h
    cases h
    simp
  | x :: l, b, h => by
    unfold grps at h
    split at h
    · cases h
    · rename_i v hv
      split at h
      · cases h
      · rename_i t ht
        cases h
        intro u hu
        rcases List.mem_cons.1 hu with rfl | hu
        · exact (grp_some hv).2.2
        · exact grps_lt ht u hu
theorem low_58 {x : Str} : (58 : UInt8) ∈ low x ↔ (58 : UInt8) ∈ x := by
  unfold low
  rw [List.mem_map]
  constructor
  · rintro ⟨c, hc, e⟩
    rw [lowc_58] at e
    exact e ▸ hc
  · exact fun h => ⟨58, h, by rfl⟩
theorem grp_colon {x : Str} (h : (58 : UInt8) ∈ x) : grp x = none := by
  cases hg : grp x with
  | none => rfl
  | some v => exact absurd h (grp_some hg).2.1

/-- the groups that the program reads: at most eight -/
def g8 (s : Str) : Option (List Nat) := match groups (low s) with
  | some a => if a.length ≤ 8 then some a else none
  | none => none
theorem g8_nil : g8 [] = some [] := rfl
theorem cut_low58 : ∀ s : Str, cut 58 (low s) = (cut 58 s).map low := by
  intro s
  induction s with
  | nil => rfl
  | cons c s ih =>
    show cut 58 (lc c :: low s) = _
    unfold cut
    by_cases h : c = 58
    · rw [if_pos ((lowc_58 c).2 h), if_pos h, ih]
      rfl
    · rw [if_neg (fun e => h ((lowc_58 c).1 e)), if_neg h, ih]
      cases cut 58 s <;> rfl
theorem g8_upto {s : Str} (h0 : s ≠ []) : g8 s = grps ((upto 58 8 s).map low) := by
  have hne : low s ≠ [] := fun e => h0 (List.map_eq_nil_iff.1 e)
  unfold g8 groups
  rw [if_neg hne, cut_low58]
  by_cases h : (cut 58 s).length ≤ 8
  · rw [upto_le h]
    cases hg : grps ((cut 58 s).map low) with
    | none => rfl
    | some a =>
      have := grps_len hg
      rw [List.length_map] at this
      dsimp only
      rw [if_pos (by omega)]
  · have hr : grps ((upto 58 8 s).map low) = none := by
      obtain ⟨x, hx, hm⟩ := upto_last (a := 58) (n := 8) (by omega) (show 8 < (cut 58 s).length by omega)
      have hl : (upto 58 8 s).length = 8 := by rw [upto_len 58 (by omega)]; omega
      have hx' : (upto 58 8 s)[7]? = some x := hx
      have : upto 58 8 s = (upto 58 8 s).take 7 ++ [x] := by
        conv => lhs; rw [← List.take_append_drop 7 (upto 58 8 s)]
        rw [List.drop_eq_getElem_cons (by omega), List.drop_eq_nil_of_le (by omega)]
        congr 2
        rw [List.getElem?_eq_getElem (by omega)] at hx'
        exact Option.some.inj hx'
      rw [this, List.map_append, List.map_cons, List.map_nil, grps_snoc]
      cases grps (((upto 58 8 s).take 7).map low) with
      | none => rfl
      | some a =>
        show (match grp (low x) with | none => none | some v => some (a ++ [v])) = none
        rw [grp_colon (low_58.2 hm)]
    rw [hr]
    cases hg : grps ((cut 58 s).map low) with
    | none => rfl
    | some a =>
      have := grps_len hg
      rw [List.length_map] at this
      dsimp only
      rw [if_neg (by omega)]
theorem g8_lt {s : Str} {a : List Nat} (h : g8 s = some a) : a.length ≤ 8 ∧ ∀ v ∈ a, v < 65536 := by
  by_cases h0 : s = []
  · subst h0
    cases h
    exact ⟨by simp, by simp⟩
  · have h2 := h
    rw [g8_upto h0] at h
    refine ⟨?_, grps_lt h⟩
    have := grps_len h
    rw [List.length_map, upto_len 58 (by omega)] at this
    omega

end Go.Proofs.YtghdaengkgiekaaGreatDoor.hw
