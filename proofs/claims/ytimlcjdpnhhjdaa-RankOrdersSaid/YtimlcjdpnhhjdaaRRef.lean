/-
  Given for the seat's laws: the contracts of the document's Chance and Score. No condition but those of the theorems.
-/
import Derived.Test.YtimlcjdpnhhjdaaRDraw
import Derived.Test.YtimlcjdpnhhjdaaRSc
namespace Go.Proofs.Ytimlcjdpnhhjdaa.rk
open Go.RowKit mem sp
set_option linter.unusedVariables false

def TellTo2 (s : Sc) (w : World) (e : Ending) (w' : World) : Prop := e = .returned (.tuple #[.int .u64 s.top, .bool s.has]) ∧ Below w.heap.size w w'
theorem str_at {l : Str} {k : Nat} (h : k < l.length) : ∃ x, l[k]? = some x ∧ (S l)[k]'(by rw [S_size]; exact h) = x := ⟨l[k], List.getElem?_eq_getElem h, by simp [S]; rfl⟩

set_option maxHeartbeats 4000000 in
set_option maxRecDepth 100000 in
theorem rchance_any {w : World} {ok : Nat → Prop} {A : Option Addr} {n c : Nat} {key : Str} (hs : Spell w ok A n c key) (hok : ∀ g, ok g → g < w.heap.size) (hn : n ≤ 100000) (b : Str) (hb : b.length ≤ 1000) (i : UInt8) : Calls Try.prog 13 #[.slice A n c, .string (S b), .int .u8 (i.toNat : Int)] w (NumTo (hsum (hk 0 key) (hk 1 key) (b ++ [i])) w) := by
  obtain ⟨m, hm⟩ : ∃ m, b.length = m := ⟨_, rfl⟩
  have hsz : (S b).size = m := by rw [S_size]; exact hm
  have HS := Bx.mk hs
  have HOK := Bx.mk hok
  have HSUM : Bx (∀ (j : Nat) W, Below w.heap.size w W → Calls Try.prog 25 #[.int .u64 (num (mk j)), .int .u64 0, .slice A n c] W (SumTo (mk j) (mk 0) key W)) := ⟨fun j W hW => by
    have := rsum_any (mk j) (mk 0) (hs.below hW hok) (fun g hg => Nat.lt_of_lt_of_le (hok g hg) hW.size) hn
    have e : num (mk 0) = 0 := by rw [num_mk (by omega)]; rfl
    rwa [e] at this⟩
  have h0 : Bx (Made w w (.slice none (0 : Nat) 0) (b.take 0)) := ⟨⟨own_none w _ _, Below.refl _ _⟩⟩
  have HM := Bx.mk hm
  have HMB : Bx (m ≤ 1000) := ⟨by omega⟩
  have s0 := hsz
  clear hs hok hm
  go_enter Try.func13, Try.ntmps13
  go_wp2
  go_loopw [7, 8] (fun s7 s8 wr => ∃ (k : Nat) (A' : Option Addr) (c' : Nat), k ≤ m ∧ s7 = .slice A' k c' ∧ s8 = .int .i64 (k : Int) ∧ Bx (Made w wr (.slice A' k c') (b.take k))) (fun _ s8 _ => m - (intOf s8).toNat)
  case atStart => exact ⟨0, none, 0, by omega, rfl, rfl, h0⟩
  case round =>
    clear h0
    obtain ⟨k, A', c', hk, rfl, rfl, HM1⟩ := hrel
    have hml : (b.take k).length = k := by rw [List.length_take, HM.out]; omega
    by_cases hlt : k < m
    · obtain ⟨x, hx, hx2⟩ := str_at (l := b) (k := k) (by rw [HM.out]; exact hlt)
      have ht : b.take (k + 1) = b.take k ++ [x] := by rw [List.take_add_one, hx]; rfl
      have hpu := HM1.out.push (by rw [hml]; have := HMB.out; omega) x
      rw [hml, ← ht] at hpu
      obtain ⟨A2, c2, w2, happ, hmd⟩ := hpu
      have HAP := Bx.mk happ
      have HMD := Bx.mk hmd
      have hx3 : ((S b)[k]'(by rw [S_size, HM.out]; exact hlt)).toNat = x.toNat := by rw [← hx2]
      clear happ hmd ht hml
      have hk1 : k + 1 ≤ 1000 := by have := HMB.out; omega
      go_wp2_with (at_builtin; refine wpList_append_eq rfl _ _ rfl rfl rfl rfl HAP.out ?_)
      go_roundw
      case rel => exact ⟨k + 1, A2, c2, by omega, rfl, by go_num, HMD⟩
      case measure => simp [intOf]; omega
    · obtain rfl : k = m := by omega
      have htk : b.take k = b := List.take_of_length_le (by rw [HM.out]; exact Nat.le_refl _)
      rw [htk] at HM1
      have hpu := HM1.out.push (by rw [HM.out]; have := HMB.out; omega) i
      rw [HM.out] at hpu
      obtain ⟨A2, c2, w2, happ, hmd⟩ := hpu
      have HAP := Bx.mk happ
      have HMD := Bx.mk hmd
      have hl2 : (b ++ [i]).length = k + 1 := by simp [HM.out]
      clear happ hmd htk hml
      have hsp := own_spell (l := b ++ [i]) (A := A2) (n := k + 1) (c := c2) (w := w2) (B := w.heap.size) (by have := HMD.out.own; rw [hl2] at this; exact this)
      have SP := Bx.mk hsp
      have HB2 := Bx.mk HMD.out.below
      clear hsp hl2 HMD HM1
      have S0 := Bx.mk (HSUM.out 0)
      have S1 := Bx.mk (HSUM.out 1)
      have e0 : num (mk 0) = 0 := by rw [num_mk (by omega)]; rfl
      have e1 : num (mk 1) = 1 := by rw [num_mk (by omega)]; rfl
      rw [e0] at S0
      rw [e1] at S1
      clear e0 e1 HSUM
      have HF : Bx (∀ W, Below w2.heap.size w2 W → Calls Try.prog 25 #[.int .u64 (num (rk.hk 0 key)), .int .u64 (num (rk.hk 1 key)), .slice A2 (k + 1 : Nat) c2] W (SumTo (rk.hk 0 key) (rk.hk 1 key) (b ++ [i]) W)) := ⟨fun W hW => rsum_any _ _ (SP.out.below hW (fun g hg => hg.2.1)) (fun g hg => Nat.lt_of_lt_of_le hg.2.1 hW.size) (by have := HMB.out; omega)⟩
      have hx0 : hsum (mk 0) (mk 0) key = rk.hk 0 key := rfl
      have hx1 : hsum (mk 1) (mk 0) key = rk.hk 1 key := rfl
      unfold SumTo at S0 S1
      rw [hx0] at S0
      rw [hx1] at S1
      clear hx0 hx1
      generalize rk.hk 0 key = k0 at *
      generalize rk.hk 1 key = k1 at *
      go_wp2_with (first | (at_builtin; refine wpList_append_eq rfl _ _ rfl rfl rfl rfl HAP.out ?_) | fail)
      refine (S0.out w2 HB2.out).mono ?_
      rintro e w3 ⟨rfl, hb3⟩
      have HB3 := Bx.mk (HB2.out.trans (hb3.mono HB2.out.size))
      have HC3 := Bx.mk hb3
      clear hb3
      go_wp2_with fail
      refine (S1.out w3 HB3.out).mono ?_
      rintro e w4 ⟨rfl, hb4⟩
      have HB4 := Bx.mk (HB3.out.trans (hb4.mono HB3.out.size))
      have HC4 := Bx.mk (HC3.out.trans (hb4.mono HC3.out.size))
      clear hb4
      go_wp2_with fail
      refine (HF.out w4 HC4.out).mono ?_
      rintro e w5 ⟨rfl, hb5⟩
      go_wp2_with fail
      go_ret
      exact ⟨rfl, HB4.out.trans (hb5.mono HB4.out.size)⟩
end Go.Proofs.Ytimlcjdpnhhjdaa.rk
