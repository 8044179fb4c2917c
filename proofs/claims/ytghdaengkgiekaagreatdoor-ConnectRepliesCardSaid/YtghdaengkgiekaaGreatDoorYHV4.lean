/-
  Given for the seat's laws: the contract of textV4. No condition but those of the theorems.
-/
import Derived.Test.YtghdaengkgiekaaGreatDoorYHMay
namespace Go.Proofs.YtghdaengkgiekaaGreatDoor.hw
open Go.RowKit mem hostp
set_option linter.unusedVariables false

/-- the library's decimals are those of the plain functions -/
theorem dec_nm (n : Nat) : Lib.decDigits n = nm 10 n := by
  induction n using Nat.strongRecOn with
  | ind n ih =>
    unfold Lib.decDigits
    by_cases h : n < 10
    · rw [dif_pos h, nm_small h]
      unfold dg
      rw [if_pos h]
    · rw [dif_neg h, nm_step (by omega) h, ih _ (by omega)]
      congr 2
      unfold dg
      rw [if_pos (by omega)]
theorem itoa_nm (n : Int) (h : 0 ≤ n) : (⟨(Lib.itoa n).toArray⟩ : ByteArray) = S (nm 10 n.toNat) := by
  unfold Lib.itoa S
  rw [if_neg (by omega), dec_nm]
theorem itoa_any (n : Int) (h0 : 0 ≤ n) (h1 : n ≤ 9223372036854775807) (w : World) (he : Env w) : Calls Tryz.prog 33 #[.int .i64 n] w (Gives (.string (S (nm 10 n.toNat))) w) := by
  have hi := Tryz.strconv_Itoa n (by omega) h1 w he.tab
  rw [itoa_nm n h0] at hi
  refine hi.mono ?_
  rintro e w' ⟨rfl, k, os, hw⟩
  refine ⟨rfl, ?_⟩
  subst hw
  exact ((Still.drewN w k).below _).trans ((below_grow _ os).mono (by rw [(Still.drewN w k).size]; exact Nat.le_refl _))

/-! ### texts with a byte between, as the library joins them -/
theorem join_lib (a : UInt8) : ∀ l : List Str, Lib.join l [a] = join a l
  | [] => rfl
  | [x] => by rw [Lib.join_one]; rfl
  | x :: y :: r => by
    have ih := join_lib a (y :: r)
    rw [Lib.join_cons] at ih ⊢
    show x ++ Lib.joinTail [a] (y :: r) = x ++ a :: join a (y :: r)
    rw [← ih]
    simp [Lib.joinTail]
theorem join_any (bk c : Nat) (l : List Str) (a : UInt8) (w : World)
    (hcells : ∀ (j : Nat) x, l[j]? = some x → w.cell? ⟨bk, j, none⟩ = some (.string (S x))) (hbk : bk < w.heap.size) (hN : l.length ≤ 1000000) (hcap : l.length ≤ c) (hlen : (join a l).length ≤ 1000000000) :
    Calls Tryz.prog 97 #[.slice (some ⟨bk, 0, none⟩) l.length c, .string ⟨#[a]⟩] w (Gives (.string (S (join a l))) w) := by
  have hm : (l.map S).map (·.data.toList) = l := by rw [List.map_map]; conv => rhs; rw [← List.map_id l]
                                                    exact List.map_congr_left fun x _ => S_list x
  have hj := Tryz.strings_Join bk 0 c (l.map S) ⟨#[a]⟩ w (fun j x hx => by
    rw [List.getElem?_map] at hx
    obtain ⟨y, hy, rfl⟩ := Option.map_eq_some_iff.1 hx
    rw [Nat.zero_add]
    exact hcells j y hy) hbk (by rw [List.length_map]; omega) (by rw [List.length_map]; exact hcap) (by
      rw [hm]
      show (Lib.join l [a]).length ≤ _
      rw [join_lib]; omega)
  rw [hm, List.length_map, show (⟨#[a]⟩ : ByteArray).data.toList = [a] from rfl, join_lib] at hj
  exact hj

/-- the cells of an array of four texts, when k of them have been written -/
def v4cells (b : Str) (k : Nat) : Array Value := ((List.range 4).map fun i => if i < k then Value.string (S (nm 10 (b.getD i 0).toNat)) else Value.string ⟨#[]⟩).toArray
theorem v4_zero (b : Str) : v4cells b 0 = #[.string ⟨#[]⟩, .string ⟨#[]⟩, .string ⟨#[]⟩, .string ⟨#[]⟩] := by
  unfold v4cells
  simp [List.range, List.range.loop]
theorem v4_step {b : Str} {k : Nat} (hk : k < 4) : (v4cells b k).setIfInBounds k (.string (S (nm 10 (b.getD k 0).toNat))) = v4cells b (k + 1) := by
  unfold v4cells
  have h : k = 0 ∨ k = 1 ∨ k = 2 ∨ k = 3 := by omega
  rcases h with rfl | rfl | rfl | rfl <;> simp [List.range, List.range.loop]
theorem v4_end (b : Str) (j : Nat) (hj : j < 4) : (v4cells b 4)[j]? = some (.string (S (nm 10 (b.getD j 0).toNat))) := by
  unfold v4cells
  have h : j = 0 ∨ j = 1 ∨ j = 2 ∨ j = 3 := by omega
  rcases h with rfl | rfl | rfl | rfl <;> simp [List.range, List.range.loop]
theorem nm10_len (c : UInt8) : (nm 10 c.toNat).length ≤ 3 := nm_len (by omega) 2 c.toNat (by have := c.toNat_lt; omega)
theorem join_len (a : UInt8) (m : Nat) : ∀ {l : List Str}, (∀ x ∈ l, x.length ≤ m) → (join a l).length ≤ l.length * (m + 1)
  | [], _ => by simp [join]
  | [x], h => by have := h x (by simp); simp [join]; omega
  | x :: y :: r, h => by
    have h1 := h x (by simp)
    have h2 := join_len a m (l := y :: r) (fun z hz => h z (by simp at hz ⊢; exact .inr hz))
    show (x ++ a :: join a (y :: r)).length ≤ _
    rw [List.length_append, List.length_cons, List.length_cons, Nat.add_mul]
    omega

set_option maxRecDepth 100000 in
set_option maxHeartbeats 2000000 in
theorem textV4_any (t : ByteArray) (h4 : t.size = 4) (w : World) (he : Env w) : Calls Tryz.prog 79 #[.string t] w (Gives (.string (S (text4 t.data.toList))) w) := by
  obtain ⟨b, hb⟩ : ∃ b, b = t.data.toList := ⟨_, rfl⟩
  have hl4 : b.length = 4 := by rw [hb, list_len, h4]
  have hbyte : ∀ k, (hk : k < 4) → ((t[k]'(by omega)).toNat : Int) = (((b.getD k 0).toNat : Nat) : Int) := fun k hk => by
    rw [hb, List.getD_eq_getElem?_getD, byte_at (by omega)]
    rfl
  rw [← hb]
  obtain ⟨w0, hw0⟩ : ∃ w0, w0 = w.alloc (.cells #[.string ⟨#[]⟩, .string ⟨#[]⟩, .string ⟨#[]⟩, .string ⟨#[]⟩] 130) := ⟨_, rfl⟩
  have h0 : Lies w0 w.heap.size 130 (v4cells b 0) := by rw [hw0, v4_zero]; exact Lies.new _ _ _
  have hb0 : Below w.heap.size w w0 := by rw [hw0]; exact (Below.refl _ w).alloc (Nat.le_refl _) _
  have HE := Lib.hid he
  have H0 := Lib.hid h0
  have HB0 := Lib.hid hb0
  have HBY := Lib.hid hbyte
  have HL4 := Lib.hid hl4
  clear he h0 hb0 hbyte hl4 hb
  go_enter Tryz.func79, Tryz.ntmps79
  go_wp2
  rw [← hw0]
  clear hw0
  go_loopw [5] (fun s5 wr => ∃ k : Nat, k ≤ 4 ∧ s5 = .int .i64 (k : Int) ∧ Hid (Lies wr w.heap.size 130 (v4cells b k)) ∧ Hid (Below w.heap.size w wr)) (fun s5 _ => 4 - (intOf s5).toNat)
  case atStart => exact ⟨0, by omega, rfl, H0.out, HB0.out⟩
  case round =>
    clear H0 HB0
    obtain ⟨k, hk, rfl, HR, HB⟩ := hrel
    by_cases hlt : k < 4
    · obtain ⟨u, hu⟩ : ∃ u, u = (b.getD k 0).toNat := ⟨_, rfl⟩
      have hc := HBY.out k hlt
      have hst := v4_step (b := b) hlt
      rw [← hu] at hc hst
      have hu2 : u < 256 := by rw [hu]; exact (b.getD k 0).toNat_lt
      have hks : k < t.size := by omega
      have hi := itoa_any (u : Int) (by omega) (by omega) wr (HE.out.below HB.out)
      rw [Int.toNat_natCast] at hi
      have HI := Lib.hid hi
      have HST := Lib.hid hst
      clear hi hu hst
      go_wp2_with fail
      refine HI.out.mono ?_
      rintro e w2 ⟨rfl, hb2⟩
      have hl2 := HR.out.below hb2 HR.out.lt
      have f2 := hl2.frozen k
      have hs := hl2.set k (.string (S (nm 10 u)))
      rw [HST.out] at hs
      have HS := Lib.hid hs
      have HB2 := Lib.hid ((HB.out.trans (hb2.mono HB.out.size)).setCell (p := ⟨w.heap.size, k, none⟩) (Nat.le_refl _) (.string (S (nm 10 u))))
      obtain ⟨x0, hx0⟩ : ∃ x0, w2.cell? ⟨w.heap.size, k, none⟩ = some x0 := by rw [hl2.cell k]; exact ⟨_, Array.getElem?_eq_getElem (by unfold v4cells; simp; omega)⟩
      generalize S (nm 10 u) = x at *
      clear hb2 hl2 hs
      go_wp2
      go_roundw
      case rel => exact ⟨k + 1, by omega, by go_num, HS, HB2⟩
      case measure => simp [intOf]; omega
    · obtain rfl : k = 4 := by omega
      have hj := join_any w.heap.size 4 (b.map fun c => nm 10 c.toNat) 46 wr (fun j x hx => by
        rw [List.getElem?_map] at hx
        obtain ⟨c, hc, rfl⟩ := Option.map_eq_some_iff.1 hx
        have hj : j < 4 := by have := (List.getElem?_eq_some_iff.1 hc).1; rw [HL4.out] at this; exact this
        rw [HR.out.cell j, v4_end b j hj, List.getD_eq_getElem?_getD, hc]
        rfl) HR.out.lt (by rw [List.length_map, HL4.out]; omega) (by rw [List.length_map, HL4.out]; omega) (by
          have := join_len 46 3 (l := b.map fun c => nm 10 c.toNat) (fun x hx => by
            obtain ⟨c, _, rfl⟩ := List.mem_map.1 hx
            exact nm10_len c)
          rw [List.length_map, HL4.out] at this
          omega)
      rw [List.length_map, HL4.out] at hj
      have HJ := Lib.hid hj
      clear hj
      go_wp2_with fail
      refine HJ.out.mono ?_
      rintro e w2 ⟨rfl, hb2⟩
      have HB2 := Lib.hid (HB.out.trans (hb2.mono HB.out.size))
      clear hb2
      go_wp2
      go_ret
      exact ⟨rfl, HB2.out⟩

end Go.Proofs.YtghdaengkgiekaaGreatDoor.hw
