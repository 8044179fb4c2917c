/-
  Given for the seat's laws: great letters put into a text, and HostGreat at any text and any places. No condition but those of the theorems.
-/
import Derived.Test.YtpllhnknejceiaaGreatDoorHAwake
namespace Go.Proofs.YtpllhnknejceiaaGreatDoor.hw
open Go.RowKit mem hostp own
set_option linter.unusedVariables false

theorem up_len : ∀ (l : Str) (w : List Bool), (up l w).length = l.length
  | [], _ => rfl
  | c :: r, [] => rfl
  | c :: r, b :: w => by simp [up, up_len r w]
theorem up_get : ∀ {l : Str} {w : List Bool} {i : Nat} {c : UInt8}, l[i]? = some c → (up l w)[i]? = some (if w[i]? = some true then upc c else c)
  | [], w, i, c, h => by simp at h
  | d :: r, [], i, c, h => by simp [up, h]
  | d :: r, b :: w, 0, c, h => by
    simp at h
    subst h
    cases b <;> simp [up]
  | d :: r, b :: w, i + 1, c, h => by
    show (up r w)[i]? = _
    rw [up_get (w := w) (by simpa using h)]
    simp

/-- a slice of bools as it lies in memory -/
structure Bools (w : World) (A : Option Addr) (n : Nat) (ws : List Bool) : Prop where
  len : ws.length = n
  at_ : ∀ (j : Nat) (b : Bool), ws[j]? = some b → ∃ g off, A = some ⟨g, off, none⟩ ∧ g < w.heap.size ∧ w.cell? ⟨g, off + j, none⟩ = some (.bool b)
theorem Bools.below {w w' : World} {A : Option Addr} {n : Nat} {ws : List Bool} (h : Bools w A n ws) (hb : Below w.heap.size w w') : Bools w' A n ws :=
  ⟨h.len, fun j b hj => by
    obtain ⟨g, off, e, hg, hc⟩ := h.at_ j b hj
    exact ⟨g, off, e, Nat.lt_of_lt_of_le hg hb.size, cell_kept hc hb⟩⟩

theorem lit1_src (w : World) (x : UInt8) : Spell (w.alloc (.cells #[.int .u8 (x.toNat : Int)] 5)) (fun g => g = w.heap.size) (some ⟨w.heap.size, 0, none⟩) 1 1 [x] :=
  src_lit w (ints [x]) (0, 0) (ints_rng _) (by simp [ints])
theorem cs_at (cs : Str) (k : Nat) (c : UInt8) (h : cs[k]? = some c) (W : World) : (Instr.index 9 (.string (S cs)) (.int .i64 (k : Int))).run Tryz.prog W = .ok (.int .u8 (c.toNat : Int)) W := by
  obtain ⟨hlt, e⟩ := List.getElem?_eq_some_iff.1 h
  rw [run_index_string (P := Tryz.prog) W 9 _ .i64 (k : Int) Tryz.underlying9, dif_pos ⟨by omega, by rw [S_size]; omega⟩]
  simp only [Int.toNat_natCast]
  have : (S cs)[k]'(by rw [S_size]; exact hlt) = c := by
    have h1 := byte_at (s := S cs) (k := k) (by rw [S_size]; exact hlt)
    rw [S_list, h] at h1
    exact (Option.some.inj h1).symm
  rw [this]

set_option maxRecDepth 100000 in
set_option maxHeartbeats 800000 in
theorem upper_any {w : World} {A : Option Addr} {n c : Nat} {ws : List Bool} (l : Str) (hl : l.length ≤ 3000) (hw : Bools w A n ws) : Calls Tryz.prog 17 #[.string (S l), .slice A n c] w (Gives (.string (S (up l ws))) w) := by
  have hsz : (S l).size = l.length := S_size l
  obtain ⟨m, hm⟩ : ∃ m, l.length = m := ⟨_, rfl⟩
  obtain ⟨u, hu⟩ : ∃ u, u = up l ws := ⟨_, rfl⟩
  have hul : u.length = m := by rw [hu, up_len, hm]
  rw [hm] at hsz hl
  rw [← hu]
  have HM := Bx.mk hm
  have HU := Bx.mk hu
  have HUL := Bx.mk hul
  have HW := Bx.mk hw
  have h0 : Bx (Made w w (.slice none (0 : Nat) 0) (u.take 0)) := ⟨⟨own_none w _ _, Below.refl _ _⟩⟩
  clear hm hu hul hw
  go_enter Tryz.func17, Tryz.ntmps17
  go_wp2
  go_loopw [5, 6] (fun s5 s6 wr => ∃ (i : Nat) (A' : Option Addr) (c' : Nat), i ≤ m ∧ s5 = .slice A' i c' ∧ s6 = .int .i64 (i : Int) ∧ Bx (Made w wr (.slice A' i c') (u.take i))) (fun _ s6 _ => m - (intOf s6).toNat)
  case atStart => exact ⟨0, none, 0, by omega, rfl, rfl, h0⟩
  case round =>
    clear h0
    obtain ⟨i, A', c', hi, rfl, rfl, HR⟩ := hrel
    by_cases him : i < m
    · obtain ⟨ch, hch⟩ : ∃ ch, l[i]? = some ch := ⟨_, List.getElem?_eq_getElem (by rw [HM.out]; exact him)⟩
      have hix := fun W => cs_at l i ch hch W
      have hch8 := ch.toNat_lt
      have hug := up_get (w := ws) hch
      obtain ⟨x, hx⟩ : ∃ x, x = (if ws[i]? = some true then upc ch else ch) := ⟨_, rfl⟩
      rw [← hx, ← HU.out] at hug
      have htk : u.take (i + 1) = u.take i ++ [x] := by rw [List.take_add_one, hug]; rfl
      have hul : (u.take i).length = i := by rw [List.length_take, HUL.out]; omega
      obtain ⟨A2, c2, w2, happ, hmd⟩ := HR.out.app ((Below.refl _ wr).alloc (Nat.le_refl _) (.cells #[.int .u8 (x.toNat : Int)] 5)) (lit1_src wr x) (by rw [hul]; omega)
      rw [hul] at happ hmd
      rw [← htk] at hmd
      have HAP := Bx.mk happ
      have HMD := Bx.mk hmd
      have HX := Bx.mk hx
      clear happ hmd htk hul hug hch hx
      by_cases hin : i < n
      · obtain ⟨bb, hbb⟩ : ∃ bb, ws[i]? = some bb := ⟨_, List.getElem?_eq_getElem (by rw [HW.out.len]; exact hin)⟩
        obtain ⟨g, off, rfl, hg, hc⟩ := HW.out.at_ i bb hbb
        have hcell := cell_kept hc HR.out.below
        have hdn : decide ((i : Int) < (n : Int)) = true := decide_eq_true (by omega)
        have hx := HX.out
        rw [hbb] at hx
        cases bb with
        | true =>
          by_cases hr : 97 ≤ ch.toNat ∧ ch.toNat ≤ 122
          · have hxn : (x.toNat : Int) = (ch.toNat : Int) - 97 + 65 := by
              rw [hx, if_pos rfl, upc_small hr]; omega
            have hxw : (ch.toNat : Int) - 97 + 65 = (x.toNat : Int) := hxn.symm
            obtain ⟨hr1, hr2⟩ := hr
            clear hx hbb hc hg hxn
            go_wp2_with (at_builtin; refine wpList_append_eq rfl _ _ rfl rfl rfl rfl HAP.out ?_)
            go_roundw
            case rel => exact ⟨i + 1, A2, c2, by omega, rfl, by go_num, HMD⟩
            case measure => simp [intOf]; omega
          · have hxc : x = ch := by rw [hx, if_pos rfl]; unfold upc; rw [if_neg hr]
            subst hxc
            rcases Nat.lt_or_ge x.toNat 97 with hlo | hlo
            · clear hx hbb hc hg hr
              go_wp2_with (at_builtin; refine wpList_append_eq rfl _ _ rfl rfl rfl rfl HAP.out ?_)
              go_roundw
              case rel => exact ⟨i + 1, A2, c2, by omega, rfl, by go_num, HMD⟩
              case measure => simp [intOf]; omega
            · have hhi : 122 < x.toNat := by omega
              clear hx hbb hc hg hr
              go_wp2_with (at_builtin; refine wpList_append_eq rfl _ _ rfl rfl rfl rfl HAP.out ?_)
              go_roundw
              case rel => exact ⟨i + 1, A2, c2, by omega, rfl, by go_num, HMD⟩
              case measure => simp [intOf]; omega
        | false =>
          have hxc : x = ch := by rw [hx, if_neg (by simp)]
          subst hxc
          clear hx hbb hc hg
          go_wp2_with (at_builtin; refine wpList_append_eq rfl _ _ rfl rfl rfl rfl HAP.out ?_)
          go_roundw
          case rel => exact ⟨i + 1, A2, c2, by omega, rfl, by go_num, HMD⟩
          case measure => simp [intOf]; omega
      · have hin' : n ≤ i := by omega
        clear hin
        have hxc : x = ch := by
          rw [HX.out, if_neg]
          rw [List.getElem?_eq_none (by rw [HW.out.len]; omega)]
          simp
        subst hxc
        have hdn : decide ((i : Int) < (n : Int)) = false := decide_eq_false (by omega)
        go_wp2_with (at_builtin; refine wpList_append_eq rfl _ _ rfl rfl rfl rfl HAP.out ?_)
        go_roundw
        case rel => exact ⟨i + 1, A2, c2, by omega, rfl, by go_num, HMD⟩
        case measure => simp [intOf]; omega
    · have htk : u.take i = u := List.take_of_length_le (by rw [HUL.out]; omega)
      rw [htk] at HR
      have hiu : u.length = i := by rw [HUL.out]; omega
      have how := HR.out.own
      rw [hiu] at how
      have hconv := spell_str (own_spell how)
      clear htk hiu how
      go_wp2
      go_ret
      exact ⟨rfl, HR.out.below⟩
end Go.Proofs.YtpllhnknejceiaaGreatDoor.hw
