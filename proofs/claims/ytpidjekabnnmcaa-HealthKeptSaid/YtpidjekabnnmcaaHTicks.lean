/-
  Given for the seat's laws: so many ticks. No condition but those of the theorems.
-/
import Derived.Test.YtpidjekabnnmcaaHNew
namespace Go.Proofs.Ytpidjekabnnmcaa.hp
open Go.RowKit mem find pb
set_option linter.unusedVariables false

section
variable {w : World} {S : Nat → Prop} {r c q : Nat} {D : HD} {A : Option Addr} {bs : List Nat}
theorem Hx.bounded (h : Hx w S r D A c q bs) : Hx w (fun g => S g ∧ g < w.heap.size) r D A c q bs := by
  refine ⟨h.hd, h.row, fun g e => ⟨h.rowS g e, prow_lt h.row e⟩, ⟨h.recs.len, h.recs.nod, h.recs.at_, fun b hb => ⟨h.recs.own b hb, ?_⟩⟩, h.pn.bounded, h.own, h.hd.lt⟩
  obtain ⟨x, hl⟩ := h.recs.lies hb
  exact hl.lt
theorem tick_len (D : HD) : D.tick.R.length = D.R.length := by unfold HD.tick; rw [fold_len]; rfl
theorem tryKey_now (D : HD) (k : Int) : (D.tryKey k).now = D.now := by unfold HD.tryKey HD.tried; split <;> rfl
theorem fold_now (l : List Int) : ∀ D : HD, (l.foldl HD.tryKey D).now = D.now := by
  induction l with
  | nil => intro D; rfl
  | cons k l ih => intro D; rw [List.foldl_cons, ih, tryKey_now]
theorem tick_now (D : HD) : D.tick.now = min (D.now + 1) latest := by unfold HD.tick; rw [fold_now]; rfl
/-- after so many ticks: what was told at the last one, the table -/
def HD.ticks (D : HD) : Nat → HD
  | 0 => D
  | n + 1 => (D.ticks n).tick
def HD.ticksL (D : HD) : Nat → List Int
  | 0 => []
  | n + 1 => (D.ticks n).dues
theorem ticks_len (D : HD) (n : Nat) : (D.ticks n).R.length = D.R.length := by
  induction n with
  | zero => rfl
  | succ n ih => show (D.ticks n).tick.R.length = _; rw [tick_len, ih]
theorem ticks_now (D : HD) (n : Nat) (h0 : 0 ≤ D.now) (h1 : D.now ≤ latest) : 0 ≤ (D.ticks n).now ∧ (D.ticks n).now ≤ latest := by
  induction n with
  | zero => exact ⟨h0, h1⟩
  | succ n ih =>
    show 0 ≤ (D.ticks n).tick.now ∧ (D.ticks n).tick.now ≤ latest
    rw [tick_now]
    unfold latest at *
    omega
/-- what ticks leaves -/
structure TicksPost (S : Nat → Prop) (r : Nat) (D : HD) (n : Nat) (A : Option Addr) (c q : Nat) (bs : List Nat) (w : World) (e : Ending) (w' : World) : Prop where
  ex : ∃ A' c', e = .returned (.slice A' (D.ticksL n).length c') ∧ pl.RowAt w' (fun g => g < w'.heap.size ∧ ¬ S g) A' (pl.I8 (D.ticksL n))
  hx : Hx w' S r (D.ticks n) A c q bs
  keep : Keep w.heap.size S w w'
set_option maxRecDepth 100000 in
set_option maxHeartbeats 2000000 in
theorem ticks_any (h : Hx w S r D A c q bs) (hS : ∀ g, S g → g < w.heap.size) (hs : D.R.length ≤ 16) (n0 : 0 ≤ D.now) (n1 : D.now ≤ latest) (n : Nat) (hn : n ≤ 1000) : Calls Try.prog 22 #[bp r, .int .i64 (n : Int)] w (TicksPost S r D n A c q bs w) := by
  have HH := bk.Bx.mk h
  have HS := bk.Bx.mk hS
  have HL := bk.Bx.mk hs
  have HN := bk.Bx.mk (fun j => ticks_now D j n0 n1)
  clear h hS hs n0 n1
  obtain ⟨ls, hls⟩ : ∃ ls : Nat → List Int, ls = D.ticksL := ⟨_, rfl⟩
  have HLS := bk.Bx.mk hls
  have HL0 : bk.Bx (ls 0 = []) := ⟨by rw [hls]; rfl⟩
  clear hls
  go_enter Try.func22, Try.ntmps22
  go_wp2_with fail
  go_loopw [5, 6] (fun s5 s6 wr => ∃ (j : Nat) (A' : Option Addr) (c' : Nat), j ≤ n ∧ s6 = .int .i64 j ∧ s5 = .slice A' (ls j).length c' ∧ bk.Bx (pl.RowAt wr (fun g => g < wr.heap.size ∧ ¬ S g) A' (pl.I8 (ls j))) ∧ bk.Bx (Hx wr S r (D.ticks j) A c q bs) ∧ bk.Bx (Keep w.heap.size S w wr)) (fun _ s6 _ => n - (intOf s6).toNat)
  case atStart => exact ⟨0, none, 0, by omega, rfl, by rw [HL0.out]; rfl, ⟨by rw [HL0.out]; exact pl.RowAt.nil⟩, HH, ⟨Keep.refl _ _ _⟩⟩
  case round =>
    obtain ⟨j, A', c', hj, rfl, rfl, hrow, hx, hk⟩ := hrel
    by_cases hjn : j < n
    · have KT := bk.Bx.mk (tick_any hx.out (fun g hg => Nat.lt_of_lt_of_le (HS.out g hg) hk.out.size) (by rw [ticks_len]; exact HL.out) (HN.out j).1 (HN.out j).2)
      go_wp2_with fail
      refine KT.out.mono ?_
      rintro e w2 ⟨⟨A2, c2, rfl, ho⟩, hx2, hk2⟩
      have hl2 : (D.ticks j).dues = ls (j + 1) := by rw [HLS.out]; rfl
      rw [hl2] at ho ⊢
      have HR2 : bk.Bx (pl.RowAt w2 (fun g => g < w2.heap.size ∧ ¬ S g) A2 (pl.I8 (ls (j + 1)))) := ⟨(pl.RowAt.of_own ho).weak fun g hg => ⟨hg.2.1, fun hs => by have := HS.out g hs; have := hk.out.size; omega⟩⟩
      have HX2 : bk.Bx (Hx w2 S r (D.ticks (j + 1)) A c q bs) := ⟨hx2⟩
      have HK2 : bk.Bx (Keep w.heap.size S w w2) := ⟨hk.out.trans (hk2.mono hk.out.size (fun _ _ e => e))⟩
      clear ho hx2 hk2 KT hl2
      go_wp2_with fail
      go_roundw
      case rel => exact ⟨j + 1, A2, c2, by omega, by first | rfl | simp, rfl, HR2, HX2, HK2⟩
      case measure => simp [intOf]; omega
    · obtain rfl : j = n := by omega
      go_wp2_with fail
      go_ret
      exact ⟨⟨A', c', by rw [HLS.out]; rfl, by rw [← HLS.out]; exact hrow.out⟩, hx.out, hk.out⟩
end
end Go.Proofs.Ytpidjekabnnmcaa.hp
