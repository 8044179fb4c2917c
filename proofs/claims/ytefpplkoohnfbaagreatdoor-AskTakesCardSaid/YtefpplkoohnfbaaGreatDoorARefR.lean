/-
  Given for the seat's laws: the contract of the document's own TakeReply. No condition but those of the theorem.
-/
import Derived.Test.YtefpplkoohnfbaaGreatDoorARef
namespace Go.Proofs.YtefpplkoohnfbaaGreatDoor.ak
open Go.RowKit mem hostp hw own
set_option linter.unusedVariables false

theorem chA_few {m size k : Nat} {b : Str} (h : b.length < size + 2) : chA m size k b = noneC 5 := by unfold chA; rw [if_pos h]
theorem chA_all {m size k : Nat} {b : Str} (h : size + 2 ≤ b.length) : chA m size k b = ⟨m, k + size + 2, 0⟩ := by unfold chA; rw [if_neg (by omega)]
set_option maxHeartbeats 4000000 in
set_option maxRecDepth 100000 in
theorem rrep_any {w : World} {ok : Nat → Prop} {A : Option Addr} {n c : Nat} {b : Str} (hs : Spell w ok A n c b) (hn : n ≤ 1000) : Calls Tryz.prog 11 #[.slice A n c] w (RepTo (ch b) w) := by
  have hbl := spell_len hs
  match b with
  | [] =>
    have hc : ch [] = noneC 5 := rfl
    obtain rfl : n = 0 := hbl.symm
    clear hs hbl hn
    have HC := Bx.mk hc
    clear hc
    go_enter Tryz.func11, Tryz.ntmps11
    go_wp2_with fail
    exact bodyPost_ret (v := .tuple #[.int .u8 0, .int .i64 0, .int .i64 5]) (by simp [results, Tryz.results11, go_sem]) rfl ⟨by rw [HC.out]; rfl, Below.refl _ _⟩
  | a :: r =>
    obtain ⟨ga, oa, rfl, _, c0⟩ := spell_cell hs (i := 0) (x := a) rfl
    have h0 : (0 : Int) < (n : Int) := by have := hbl; simp at this; omega
    by_cases ha : a = 5
    · subst ha
      have c0 : w.cell? ⟨ga, oa, none⟩ = some (.int .u8 5) := c0
      match r with
      | [] =>
        have hc : ch [5] = noneC 5 := rfl
        obtain rfl : n = 1 := hbl.symm
        clear hs hbl hn
        have HC := Bx.mk hc
        clear hc
        go_enter Tryz.func11, Tryz.ntmps11
        go_wp2_with fail
        exact bodyPost_ret (v := .tuple #[.int .u8 0, .int .i64 0, .int .i64 5]) (by simp [results, Tryz.results11, go_sem]) rfl ⟨by rw [HC.out]; rfl, Below.refl _ _⟩
      | [m] =>
        have hc : ch [5, m] = noneC 5 := rfl
        obtain rfl : n = 2 := hbl.symm
        clear hs hbl hn
        have HC := Bx.mk hc
        clear hc
        go_enter Tryz.func11, Tryz.ntmps11
        go_wp2_with fail
        exact bodyPost_ret (v := .tuple #[.int .u8 0, .int .i64 0, .int .i64 5]) (by simp [results, Tryz.results11, go_sem]) rfl ⟨by rw [HC.out]; rfl, Below.refl _ _⟩
      | m :: z :: r =>
        obtain ⟨g1, o1, e1, _, c2⟩ := spell_cell hs (i := 2) (x := z) rfl
        cases e1
        have h2 : (2 : Int) < (n : Int) := by have := hbl; simp at this; omega
        by_cases hz : z = 0
        · subst hz
          have c2 : w.cell? ⟨ga, oa + 2, none⟩ = some (.int .u8 0) := c2
          match r with
          | [] =>
            have hc : ch [5, m, 0] = noneC 5 := rfl
            obtain rfl : n = 3 := hbl.symm
            clear hs hbl hn h2
            have HC := Bx.mk hc
            clear hc
            go_enter Tryz.func11, Tryz.ntmps11
            go_wp2_with fail
            exact bodyPost_ret (v := .tuple #[.int .u8 0, .int .i64 0, .int .i64 5]) (by simp [results, Tryz.results11, go_sem]) rfl ⟨by rw [HC.out]; rfl, Below.refl _ _⟩
          | d :: s =>
            obtain ⟨g1, o1, e1, _, c3⟩ := spell_cell hs (i := 3) (x := d) rfl
            cases e1
            have h3 : (3 : Int) < (n : Int) := by have := hbl; simp at this; omega
            have hch : ch (5 :: m :: 0 :: d :: s) = ch3 m.toNat (d :: s) := rfl
            rw [ch3_cons] at hch
            by_cases hd : d = 1 ∨ d = 4 ∨ d = 3
            · match s with
              | [] =>
                have hc : ch [5, m, 0, d] = noneC 5 := by
                  rw [hch]
                  rcases hd with rfl | rfl | rfl <;> rfl
                obtain rfl : n = 4 := hbl.symm
                have hd' : ((d.toNat : Int) != 1) = false ∨ (((d.toNat : Int) != 1) = true ∧ ((d.toNat : Int) != 3) = false) ∨ (((d.toNat : Int) != 1) = true ∧ ((d.toNat : Int) != 3) = true ∧ ((d.toNat : Int) != 4) = false) := by
                  rcases hd with rfl | rfl | rfl
                  · exact .inl rfl
                  · exact .inr (.inr ⟨rfl, rfl, rfl⟩)
                  · exact .inr (.inl ⟨rfl, rfl⟩)
                clear hs hbl hn h3 h2 hch hd
                generalize (d.toNat : Int) = zd at *
                rcases hd' with hd1 | ⟨hd1, hd2⟩ | ⟨hd1, hd2, hd3⟩
                all_goals
                  have HC := Bx.mk hc
                  clear hc
                  go_enter Tryz.func11, Tryz.ntmps11
                  go_wp2_with fail
                  exact bodyPost_ret (v := .tuple #[.int .u8 0, .int .i64 0, .int .i64 5]) (by simp [results, Tryz.results11, go_sem]) rfl ⟨by rw [HC.out]; rfl, Below.refl _ _⟩
              | k :: s =>
                obtain ⟨g1, o1, e1, _, c1⟩ := spell_cell hs (i := 1) (x := m) rfl
                cases e1
                obtain ⟨g1, o1, e1, _, c4⟩ := spell_cell hs (i := 4) (x := k) rfl
                cases e1
                have h5 : ¬ (n : Int) < 5 := by have := hbl; simp at this; omega
                have hns : n = 5 + s.length := by have := hbl; simp at this; omega
                have h4 : (4 : Int) < (n : Int) := by omega
                have h1 : (1 : Int) < (n : Int) := by omega
                rcases hd with rfl | rfl | rfl
                · have c3 : w.cell? ⟨ga, oa + 3, none⟩ = some (.int .u8 1) := c3
                  by_cases hl : n < 10
                  · have hc : ch (5 :: m :: 0 :: 1 :: k :: s) = noneC 5 := by rw [hch]; exact chA_few (by simp; omega)
                    have hl' : (n : Int) < 10 := by omega
                    clear hs hbl hch hns hl
                    have HC := Bx.mk hc
                    clear hc
                    go_enter Tryz.func11, Tryz.ntmps11
                    go_wp2_with fail
                    exact bodyPost_ret (v := .tuple #[.int .u8 0, .int .i64 0, .int .i64 5]) (by simp [results, Tryz.results11, go_sem]) rfl ⟨by rw [HC.out]; rfl, Below.refl _ _⟩
                  · have hc : ch (5 :: m :: 0 :: 1 :: k :: s) = ⟨m.toNat, 10, 0⟩ := by rw [hch]; exact chA_all (by simp; omega)
                    have hl' : ¬ (n : Int) < 10 := by omega
                    clear hs hbl hch hns hl
                    generalize m.toNat = m at *
                    have HC := Bx.mk hc
                    clear hc
                    go_enter Tryz.func11, Tryz.ntmps11
                    go_wp2_with fail
                    exact bodyPost_ret (v := .tuple #[.int .u8 (m : Int), .int .i64 10, .int .i64 0]) (by simp [results, Tryz.results11, go_sem]) rfl ⟨by rw [HC.out]; rfl, Below.refl _ _⟩
                · have c3 : w.cell? ⟨ga, oa + 3, none⟩ = some (.int .u8 4) := c3
                  by_cases hl : n < 22
                  · have hc : ch (5 :: m :: 0 :: 4 :: k :: s) = noneC 5 := by rw [hch]; exact chA_few (by simp; omega)
                    have hl' : (n : Int) < 22 := by omega
                    clear hs hbl hch hns hl
                    have HC := Bx.mk hc
                    clear hc
                    go_enter Tryz.func11, Tryz.ntmps11
                    go_wp2_with fail
                    exact bodyPost_ret (v := .tuple #[.int .u8 0, .int .i64 0, .int .i64 5]) (by simp [results, Tryz.results11, go_sem]) rfl ⟨by rw [HC.out]; rfl, Below.refl _ _⟩
                  · have hc : ch (5 :: m :: 0 :: 4 :: k :: s) = ⟨m.toNat, 22, 0⟩ := by rw [hch]; exact chA_all (by simp; omega)
                    have hl' : ¬ (n : Int) < 22 := by omega
                    clear hs hbl hch hns hl
                    generalize m.toNat = m at *
                    have HC := Bx.mk hc
                    clear hc
                    go_enter Tryz.func11, Tryz.ntmps11
                    go_wp2_with fail
                    exact bodyPost_ret (v := .tuple #[.int .u8 (m : Int), .int .i64 22, .int .i64 0]) (by simp [results, Tryz.results11, go_sem]) rfl ⟨by rw [HC.out]; rfl, Below.refl _ _⟩
                · have c3 : w.cell? ⟨ga, oa + 3, none⟩ = some (.int .u8 3) := c3
                  have hk8 := k.toNat_lt
                  obtain ⟨E, hE⟩ : ∃ E, E = 7 + k.toNat := ⟨_, rfl⟩
                  have hE1 : (7 : Int) + (k.toNat : Int) = (E : Int) := by omega
                  by_cases hl : n < E
                  · have hc : ch (5 :: m :: 0 :: 3 :: k :: s) = noneC 5 := by rw [hch]; exact chA_few (by omega)
                    have hl' : (n : Int) < (E : Int) := by omega
                    clear hs hbl hch hns hl hE
                    generalize k.toNat = k at *
                    have HC := Bx.mk hc
                    clear hc
                    go_enter Tryz.func11, Tryz.ntmps11
                    go_wp2_with fail
                    exact bodyPost_ret (v := .tuple #[.int .u8 0, .int .i64 0, .int .i64 5]) (by simp [results, Tryz.results11, go_sem]) rfl ⟨by rw [HC.out]; rfl, Below.refl _ _⟩
                  · have hc : ch (5 :: m :: 0 :: 3 :: k :: s) = ⟨m.toNat, E, 0⟩ := by
                      rw [hch, show E = 5 + k.toNat + 2 by omega]
                      exact chA_all (by omega)
                    have hl' : ¬ (n : Int) < (E : Int) := by omega
                    clear hs hbl hch hns hl hE
                    generalize m.toNat = m at *
                    generalize k.toNat = k at *
                    have HC := Bx.mk hc
                    clear hc
                    go_enter Tryz.func11, Tryz.ntmps11
                    go_wp2_with fail
                    exact bodyPost_ret (v := .tuple #[.int .u8 (m : Int), .int .i64 (E : Int), .int .i64 0]) (by simp [results, Tryz.results11, go_sem]) rfl ⟨by rw [HC.out]; rfl, Below.refl _ _⟩
            · have hc : ch (5 :: m :: 0 :: d :: s) = noneC 6 := by
                rw [hch, if_neg (fun e => hd (.inl e)), if_neg (fun e => hd (.inr (.inl e))), if_neg (fun e => hd (.inr (.inr e)))]
              have u1 : ((d.toNat : Int) != 1) = true := by rw [bne_iff_ne]; intro e; exact hd (.inl (UInt8.toNat_inj.1 (show d.toNat = 1 by omega)))
              have u4 : ((d.toNat : Int) != 4) = true := by rw [bne_iff_ne]; intro e; exact hd (.inr (.inl (UInt8.toNat_inj.1 (show d.toNat = 4 by omega))))
              have u3 : ((d.toNat : Int) != 3) = true := by rw [bne_iff_ne]; intro e; exact hd (.inr (.inr (UInt8.toNat_inj.1 (show d.toNat = 3 by omega))))
              clear hs hbl hch hd
              generalize (d.toNat : Int) = zd at *
              have HC := Bx.mk hc
              clear hc
              go_enter Tryz.func11, Tryz.ntmps11
              go_wp2_with fail
              exact bodyPost_ret (v := .tuple #[.int .u8 0, .int .i64 0, .int .i64 6]) (by simp [results, Tryz.results11, go_sem]) rfl ⟨by rw [HC.out]; rfl, Below.refl _ _⟩
        · have hc : ch (5 :: m :: z :: r) = noneC 6 := by rw [ch_cons, if_pos rfl, ch1_cons, ch2_cons, if_neg hz]
          have u : ((z.toNat : Int) != 0) = true := by rw [bne_iff_ne]; intro e; exact hz (UInt8.toNat_inj.1 (show z.toNat = 0 by omega))
          clear hs hbl hz
          generalize (z.toNat : Int) = zz at *
          have HC := Bx.mk hc
          clear hc
          go_enter Tryz.func11, Tryz.ntmps11
          go_wp2_with fail
          exact bodyPost_ret (v := .tuple #[.int .u8 0, .int .i64 0, .int .i64 6]) (by simp [results, Tryz.results11, go_sem]) rfl ⟨by rw [HC.out]; rfl, Below.refl _ _⟩
    · have hc : ch (a :: r) = noneC 6 := by rw [ch_cons, if_neg ha]
      have u : ((a.toNat : Int) != 5) = true := by rw [bne_iff_ne]; intro e; exact ha (UInt8.toNat_inj.1 (show a.toNat = 5 by omega))
      have c0 : w.cell? ⟨ga, oa, none⟩ = some (.int .u8 (a.toNat : Int)) := c0
      clear hs hbl ha
      generalize (a.toNat : Int) = za at *
      have HC := Bx.mk hc
      clear hc
      go_enter Tryz.func11, Tryz.ntmps11
      go_wp2_with fail
      exact bodyPost_ret (v := .tuple #[.int .u8 0, .int .i64 0, .int .i64 6]) (by simp [results, Tryz.results11, go_sem]) rfl ⟨by rw [HC.out]; rfl, Below.refl _ _⟩
end Go.Proofs.YtefpplkoohnfbaaGreatDoor.ak
