/-
  Given for 'Rows.ProbePlaysSaid': the contracts of the document's Keys, and of Ints. No condition but those of the theorems.
-/
import Derived.Test.YtamcmhadodgalaaQRRound
import Derived.Test.YtamcmhadodgalaaQAwake
namespace Go.Proofs.Ytamcmhadodgalaa.model
open Go.RowKit mem find pb pl
set_option linter.unusedVariables false

set_option maxHeartbeats 1000000 in
theorem ints_same {W : World} {ok1 ok2 : Nat → Prop} {A B : Option Addr} {n ca cb : Nat} {xs : List Int} (hA : RowAt W ok1 A (I8 xs)) (hB : RowAt W ok2 B (I8 xs)) (hl : xs.length = n) (hn : n ≤ 1000) :
    Calls Try.prog 17 #[.slice A n ca, .slice B n cb] W fun e w' => e = .returned (.bool true) ∧ Still W w' := by
  have HA := Bx.mk hA
  have HB := Bx.mk hB
  have HL := Bx.mk hl
  clear hA hB hl
  go_enter Try.func17, Try.ntmps17
  go_wp2
  go_loopw [5] (fun s5 wr => ∃ k : Nat, k ≤ n ∧ s5 = .int .i64 k ∧ Bx (Still W wr)) (fun s5 _ => n - (intOf s5).toNat)
  case atStart => exact ⟨0, Nat.zero_le _, rfl, ⟨Still.refl _⟩⟩
  case round =>
    obtain ⟨k, hk, rfl, hst⟩ := hrel
    by_cases hlt : k < n
    · obtain ⟨z, hz⟩ : ∃ z, xs[k]? = some z := ⟨_, List.getElem?_eq_getElem (by rw [HL.out]; exact hlt)⟩
      obtain ⟨g, o, rfl, _, k1⟩ := HA.out.cell (I8_get hz)
      obtain ⟨g', o', rfl, _, k2⟩ := HB.out.cell (I8_get hz)
      have c1 : wr.cell? ⟨g, o + k, none⟩ = some (.int .i64 z) := (hst.out.cell _).trans k1
      have c2 : wr.cell? ⟨g', o' + k, none⟩ = some (.int .i64 z) := (hst.out.cell _).trans k2
      have hlt2 : (k : Int) < (n : Int) := by omega
      have hk0 : (0 : Int) ≤ (k : Int) := by omega
      clear k1 k2 hz
      go_wp2
      go_quiet (fail)
      go_wp2
      go_roundw
      case rel => exact ⟨k + 1, by omega, by go_num, ⟨hst.out.trans (Still.drewN _ _)⟩⟩
      case measure => simp [intOf]; omega
    · go_wp2
      go_ret
      exact ⟨rfl, hst.out⟩

/-- while the document's Keys collects -/
structure MI (w : World) (v : Value) (D : List Int) (W : World) : Prop where
  own : W.ownsRow w.heap.size 3 1 v D.length (I8 D)
  below : Below w.heap.size w W
theorem MI.more {w W : World} {v : Value} {D : List Int} (h : MI w v D W) (hD : D.length ≤ 100) (key : Int) :
    ∃ A' c' W2, (Builtin.append_ #[31, 31] 31 #[v, .slice (some ⟨W.heap.size, 0, none⟩) 1 1]).run Try.prog (W.alloc (.cells #[.int .i64 key] 3)) = .ok (.slice A' (D.length + 1) c') W2 ∧ MI w (.slice A' (D.length + 1) c') (D ++ [key]) W2 := by
  have hb : Below W.heap.size W (W.alloc (.cells #[.int .i64 key] 3)) := (Below.refl _ W).alloc (Nat.le_refl _) _
  have hs := h.below.size
  obtain ⟨A', c', W2, hr, ho, hg⟩ := append_int (own_below h.own hb) W.heap.size key (Lies.new W _ _) (by omega) (by simp; omega)
  exact ⟨A', c', W2, hr, by simpa using ho, (h.below.alloc hs _).grown hg (by simp; omega) (fun k e => (own_cell h.own e).1)⟩

set_option maxRecDepth 100000 in
set_option maxHeartbeats 4000000 in
theorem mkeys_any {w : World} {T : Nat → Prop} {q : Nat} {ev : Int} {M : List (Int × Int)} (h : MPn w T q ev M) : Calls Try.prog 20 #[.pointer (some ⟨q, 0, none⟩)] w (KeysPost (M.map (·.1)) w) := by
  have hl64 := h.len
  obtain ⟨A, c, hl, hr, _⟩ := h.ex
  have HLI := Bx.mk hl
  have HR := Bx.mk hr
  have hql := hl.lt
  obtain ⟨n, hn⟩ : ∃ n, M.length = n := ⟨_, rfl⟩
  have HN := Bx.mk hn
  have h0 : MI w (.slice none 0 0) ((M.map (·.1)).take 0) w := ⟨World.ownsRow_nil _ _ _ _, Below.refl _ _⟩
  have H0 := Bx.mk h0
  rw [hn] at hl64
  clear h hl hr hn h0
  go_enter Try.func20, Try.ntmps20
  go_wp2
  go_loopw [3, 4] (fun s3 s4 wr => ∃ (i nl : Nat) (Al : Option Addr) (cl : Nat), i ≤ n ∧ s4 = .int .i64 (i : Int) ∧ s3 = .slice Al nl cl ∧ Bx (((M.map (·.1)).take i).length = nl) ∧ Bx (MI w (.slice Al nl cl) ((M.map (·.1)).take i) wr)) (fun _ s4 _ => n - (intOf s4).toNat)
  case atStart => exact ⟨0, 0, none, 0, by omega, rfl, rfl, ⟨rfl⟩, H0⟩
  case round =>
    clear H0
    obtain ⟨i, nl, Al, cl, hi, rfl, rfl, hnl, hinv⟩ := hrel
    have c1 : wr.cell? ⟨q, 1, none⟩ = some (.slice A n c) := by rw [hinv.out.below.cell (p := ⟨q, 1, none⟩) hql]; have := HLI.out.cell 1; rw [this, ← HN.out]; rfl
    by_cases hin : i < n
    · obtain ⟨x, hx⟩ : ∃ x, M[i]? = some x := ⟨_, List.getElem?_eq_getElem (by rw [HN.out]; exact hin)⟩
      obtain ⟨g, rfl, hgl, hc⟩ := model.RowsAt.cell HR.out (by rw [HN.out]; omega)
      obtain ⟨d1, _⟩ := hc i x hx
      have e1 : wr.cell? ⟨g, i * 2, none⟩ = some (.int .i64 x.1) := (hinv.out.below.cell (p := ⟨g, i * 2, none⟩) hgl).trans d1
      have hxk : (M.map (·.1))[i]? = some x.1 := by rw [List.getElem?_map, hx]; rfl
      have htk : (M.map (·.1)).take (i + 1) = (M.map (·.1)).take i ++ [x.1] := by rw [List.take_add_one, hxk]; rfl
      have hnl2 : nl ≤ 64 := by rw [← hnl.out, List.length_take]; omega
      obtain ⟨A', c', W2, happ, hmore⟩ := hinv.out.more (by rw [hnl.out]; omega) x.1
      rw [← htk] at hmore
      rw [hnl.out] at happ hmore
      have HL2 : Bx (((M.map (·.1)).take (i + 1)).length = nl + 1) := ⟨by rw [htk, List.length_append, hnl.out]; rfl⟩
      have HM2 := Bx.mk hmore
      have HAPP := Bx.mk happ
      clear d1 hx hxk htk happ hmore hnl hinv hc
      go_wp2_with (at_builtin; refine wpList_append_eq rfl _ _ 31 31 rfl rfl rfl rfl HAPP.out ?_)
      go_roundw
      case rel => exact ⟨i + 1, nl + 1, A', c', by omega, by go_num, rfl, HL2, HM2⟩
      case measure => simp [intOf]; omega
    · obtain rfl : i = n := by omega
      have htn : (M.map (·.1)).take i = M.map (·.1) := List.take_of_length_le (by rw [List.length_map, HN.out]; exact Nat.le_refl _)
      have hfin : KeysPost (M.map (·.1)) w (.returned (.slice Al nl cl)) wr := by
        have hh := hinv.out.own
        have hnn := hnl.out
        rw [htn] at hh hnn
        exact ⟨Al, cl, by rw [hnn], by rw [hnn] at hh ⊢; exact hh, hinv.out.below⟩
      have HFIN := Bx.mk hfin
      clear hfin hinv hnl
      go_wp2
      go_ret
      exact HFIN.out
end Go.Proofs.Ytamcmhadodgalaa.model
