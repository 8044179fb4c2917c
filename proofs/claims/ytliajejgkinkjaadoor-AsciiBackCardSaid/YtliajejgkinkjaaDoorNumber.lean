/-
  Given for the seat's laws: the contracts of Number, of the library's Itoa as its contract says, and of the document's own Number. No condition but those of the theorems.
-/
import Derived.Test.YtliajejgkinkjaaDoorDecPure
import Derived.Test.YtliajejgkinkjaaDoorParse
import Derived.Test.YtliajejgkinkjaaDoorShelf
import Derived.Below
import Derived.Sort.Grow
import Derived.Lib.LaidTab
namespace Go.Proofs.YtliajejgkinkjaaDoor.number
open Go.RowKit mem num parse
set_option linter.unusedVariables false

def decS (u : Nat) : ByteArray := ⟨(Lib.decDigits u).toArray⟩
theorem decS_list (u : Nat) : (decS u).data.toList = Lib.decDigits u := by unfold decS; simp

theorem below_grow (w : World) (os : Array Obj) : Below w.heap.size w (Sort.grow w os) :=
  ⟨rfl, rfl, rfl, by simp [Sort.grow], fun k hk => by simp [Sort.grow, Array.getElem?_append, hk]⟩

theorem tab_below {w w' : World} {zs : List Int} {nm : String} {g B : Nat} (h : Lib.TabIs Tryd.prog w nm .u64 zs) (hg : Tryd.prog.globalNamed nm = some g) (hb : Below B w w') (hlt : g < B) : Lib.TabIs Tryd.prog w' nm .u64 zs := by
  unfold Lib.TabIs World.var? at h ⊢
  rw [hg] at h ⊢
  simp only [Option.bind_some] at h ⊢
  rw [hb.block g hlt]
  exact h

theorem tab_g : Tryd.prog.globalNamed "internal/strconv.uint64pow10" = some 1 := by kernel_rfl

abbrev Tab (w : World) : Prop := Lib.TabIs Tryd.prog w "internal/strconv.uint64pow10" .u64 Lib.pow10Tab

set_option maxHeartbeats 400000 in
theorem number_neg (n : Int) (hn : n < 0) (w : World) : Calls Tryd.prog 5 #[.int .i64 n] w fun e w' => e = .returned (.tuple #[.string ⟨#[]⟩, .int .i64 2]) ∧ w = w' := by
  go_enter Tryd.func5, Tryd.ntmps5
  go_wp2
  go_ret2
  exact ⟨rfl, rfl⟩

set_option maxHeartbeats 400000 in
theorem number_any (n : Int) (h0 : 0 ≤ n) (h1 : n ≤ 9223372036854775807) (w : World) (ht : Tab w) : Calls Tryd.prog 5 #[.int .i64 n] w fun e w' => e = .returned (.tuple #[.string (decS n.toNat), .int .i64 0]) ∧ Below w.heap.size w w' := by
  have hi := Tryd.strconv_Itoa n (by omega) h1 w ht
  have he : (⟨(Lib.itoa n).toArray⟩ : ByteArray) = decS n.toNat := by
    unfold Lib.itoa decS
    rw [if_neg (by omega)]
  rw [he] at hi
  have HI := Lib.hid hi
  clear hi he h1 ht
  generalize decS n.toNat = s at *
  go_enter Tryd.func5, Tryd.ntmps5
  go_wp2_with fail
  refine HI.out.mono ?_
  rintro e w' ⟨rfl, k, os, hw⟩
  have hb : Below w.heap.size w w' := by
    subst hw
    exact ((Still.drewN w k).below _).trans ((below_grow _ os).mono (by rw [(Still.drewN w k).size]; exact Nat.le_refl _))
  clear hw
  have HB := Lib.hid hb
  clear hb
  go_wp2
  go_ret2
  exact ⟨rfl, HB.out⟩

def digS (d : Nat) : ByteArray := ⟨#[UInt8.ofNat (48 + d)]⟩
theorem digS_size (d : Nat) : (digS d).size = 1 := rfl
theorem digS_list (d : Nat) : (digS d).data.toList = [UInt8.ofNat (48 + d)] := rfl
theorem cat_list (y s : ByteArray) : (y ++ s).data.toList = y.data.toList ++ s.data.toList := by simp
theorem digit_str (W : World) (d : Nat) (hd : d < 10) : (Instr.slice 9 (.string ⟨#[48, 49, 50, 51, 52, 53, 54, 55, 56, 57]⟩) (some (.int .i64 (d : Int))) (some (.int .i64 ((d : Int) + 1))) none).run Tryd.prog W = .ok (.string (digS d)) W := by
  rw [run_slice_string (P := Tryd.prog) W 9 ⟨#[48, 49, 50, 51, 52, 53, 54, 55, 56, 57]⟩ .i64 .i64 (d : Int) ((d : Int) + 1) Tryd.underlying9 (by omega) (by omega) (by show (d : Int) + 1 ≤ 10; omega)]
  have e1 : ((d : Int)).toNat = d := by omega
  have e2 : ((d : Int) + 1).toNat = d + 1 := by omega
  rw [e1, e2]
  congr 2
  have h : d = 0 ∨ d = 1 ∨ d = 2 ∨ d = 3 ∨ d = 4 ∨ d = 5 ∨ d = 6 ∨ d = 7 ∨ d = 8 ∨ d = 9 := by omega
  rcases h with rfl | rfl | rfl | rfl | rfl | rfl | rfl | rfl | rfl | rfl <;> decide

set_option maxHeartbeats 400000 in
theorem rnumber_neg (n : Int) (hn : n < 0) (w : World) : Calls Tryd.prog 6 #[.int .i64 n] w fun e w' => e = .returned (.tuple #[.string ⟨#[]⟩, .int .i64 2]) ∧ w = w' := by
  go_enter Tryd.func6, Tryd.ntmps6
  go_wp2
  go_ret2
  exact ⟨rfl, rfl⟩

set_option maxHeartbeats 1000000 in
theorem rnumber_any (n : Int) (h0 : 0 ≤ n) (h1 : n ≤ 9223372036854775807) (w : World) : Calls Tryd.prog 6 #[.int .i64 n] w fun e w' => e = .returned (.tuple #[.string (decS n.toNat), .int .i64 0]) ∧ w = w' := by
  obtain ⟨N, rfl⟩ := Int.eq_ofNat_of_zero_le h0
  rw [Int.toNat_natCast]
  have H1 := Lib.hid h1
  have hgt : ¬ (N : Int) < 0 := by omega
  clear h1 h0
  go_enter Tryd.func6, Tryd.ntmps6
  go_wp2
  go_loop [0, 4] (fun n t => ∃ (u : Nat) (s : ByteArray), u ≤ N ∧ n = .int .i64 (u : Int) ∧ t = .string s ∧ Hid (Lib.decDigits u ++ s.data.toList = Lib.decDigits N)) (fun n _ => (intOf n).toNat)
  case atStart => exact ⟨N, ⟨#[]⟩, Nat.le_refl _, rfl, rfl, Lib.hid (by simp)⟩
  case round =>
    obtain ⟨u, s, hu, rfl, rfl, HR⟩ := hrel
    have hss : s.size ≤ 19 := by
      have h1 := congrArg List.length HR.out
      have h2 := dec_19 (u := N) (by have := H1.out; omega)
      have h3 : s.data.size = s.size := rfl
      rw [List.length_append] at h1
      simp only [Array.length_toList] at h1
      omega
    by_cases h9 : 9 < u
    · have hq := digit_str w (u % 10) (by omega)
      have e1 : ((u % 10 : Nat) : Int) = (u : Int) % 10 := by omega
      rw [e1] at hq
      have ew : wrap64 ((u : Int) / 10) = (u : Int) / 10 := by have := H1.out; unfold wrap64; omega
      have HN := Lib.hid (show Lib.decDigits (u / 10) ++ (digS (u % 10) ++ s).data.toList = Lib.decDigits N by
        rw [← HR.out, dec_step (u := u) (by omega), cat_list, digS_list, List.append_assoc])
      have hcat : ∀ W, (Op.stringOp .add (digS (u % 10)) s).run Tryd.prog W = .ok (.string (digS (u % 10) ++ s)) W := fun W => run_string_add W _ _ (by rw [digS_size]; omega) (by omega)
      have hm0 : (0 : Int) ≤ (u : Int) % 10 := by omega
      have hm1 : (u : Int) % 10 < 10 := by omega
      obtain ⟨y, hy⟩ : ∃ y, y = digS (u % 10) := ⟨_, rfl⟩
      rw [← hy] at hcat hq HN
      clear e1 hy hss
      go_wp2
      go_round
      case rel => exact ⟨u / 10, _, by omega, by go_num, rfl, HN⟩
      case measure =>
        rw [ew]
        show ((u : Int) / 10).toNat < ((u : Int)).toNat
        omega
    · have hq := digit_str w u (by omega)
      have HN := Lib.hid (show digS u ++ s = decS N by
        apply ByteArray.ext
        apply Array.toList_inj.1
        rw [decS_list, ← HR.out, dec_small (u := u) (by omega), cat_list, digS_list])
      have hcat : ∀ W, (Op.stringOp .add (digS u) s).run Tryd.prog W = .ok (.string (digS u ++ s)) W := fun W => run_string_add W _ _ (by rw [digS_size]; omega) (by omega)
      obtain ⟨y, hy⟩ : ∃ y, y = digS u := ⟨_, rfl⟩
      rw [← hy] at hcat hq HN
      clear hy hss
      go_wp2
      go_ret2
      exact ⟨by rw [← HN.out]; rfl, rfl⟩

end Go.Proofs.YtliajejgkinkjaaDoor.number
