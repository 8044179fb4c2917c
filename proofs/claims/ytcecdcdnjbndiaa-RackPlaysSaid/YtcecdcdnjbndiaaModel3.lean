/-
  Given for 'Rows.RackPlaysSaid': the document's own rack in memory, and the contracts of its functions. No condition but those of the theorems.
-/
import Derived.Test.YtcecdcdnjbndiaaMRow
import Derived.Deep.QuietTactic
import Derived.BigQuiet
import Derived.RegionTactic
import Derived.StillTailTactics
namespace Go.Proofs.Ytcecdcdnjbndiaa.model
open Go.RowKit mem find
set_option linter.unusedVariables false

def Uniq (M : List (Int × Int)) : Prop := (M.map (·.1)).Nodup
theorem uniq_at {M : List (Int × Int)} (h : Uniq M) {i j : Nat} {x y : Int × Int} (hx : M[i]? = some x) (hy : M[j]? = some y) (e : x.1 = y.1) : i = j := by
  have h1 : (M.map (·.1))[i]? = some x.1 := by rw [List.getElem?_map, hx]; rfl
  have h2 : (M.map (·.1))[j]? = some x.1 := by rw [List.getElem?_map, hy, e]; rfl
  obtain ⟨hi, e1⟩ := List.getElem?_eq_some_iff.1 h1
  obtain ⟨hj, e2⟩ := List.getElem?_eq_some_iff.1 h2
  have hpw := List.pairwise_iff_getElem.1 h
  rcases Nat.lt_trichotomy i j with hl | hl | hl
  · exact absurd (e1.trans e2.symm) (hpw i j hi hj hl)
  · exact hl
  · exact absurd (e2.trans e1.symm) (hpw j i hj hi hl)

/-- the document's rack: its block, its size, its next own id, its step, its rows; T: the blocks that may be its own -/
structure MRk (w : World) (T : Nat → Prop) (q N : Nat) (nx st : Int) (M : List (Int × Int)) : Prop where
  ex : ∃ A c, Lies w q 45 #[.int .i64 (N : Int), .int .i64 nx, .int .i64 st, .slice A M.length c] ∧ RowsAt w A c M ∧ ∀ g, rowOf A = some g → T g
  own : T q
  uniq : Uniq M
  len : M.length ≤ N
  size : N ≤ 64
/-- what a call leaves that turns it -/
structure MDid (T : Nat → Prop) (q N : Nat) (nx st : Int) (M : List (Int × Int)) (w w' : World) : Prop where
  rk : MRk w' (fun g => T g ∨ w.heap.size ≤ g) q N nx st M
  keep : Keep w.heap.size T w w'
section
variable {w w' : World} {T T' S : Nat → Prop} {q N : Nat} {nx st : Int} {M : List (Int × Int)}
theorem MRk.lt (h : MRk w T q N nx st M) : q < w.heap.size := by obtain ⟨A, c, hl, _⟩ := h.ex; exact hl.lt
theorem MRk.mono (h : MRk w T q N nx st M) (hs : ∀ g, T g → T' g) : MRk w T' q N nx st M := by
  obtain ⟨A, c, h1, h2, h3⟩ := h.ex
  exact ⟨⟨A, c, h1, h2, fun g e => hs g (h3 g e)⟩, hs q h.own, h.uniq, h.len, h.size⟩
theorem MRk.bounded (h : MRk w T q N nx st M) : MRk w (fun g => T g ∧ g < w.heap.size) q N nx st M := by
  obtain ⟨A, c, h1, h2, h3⟩ := h.ex
  exact ⟨⟨A, c, h1, h2, fun g e => ⟨h3 g e, own_lt h2 e⟩⟩, ⟨h.own, h.lt⟩, h.uniq, h.len, h.size⟩
theorem MRk.keep (h : MRk w T q N nx st M) (hk : Keep w.heap.size S w w') (hd : ∀ g, g < w.heap.size → T g → ¬ S g) : MRk w' T q N nx st M := by
  obtain ⟨A, c, h1, h2, h3⟩ := h.ex
  exact ⟨⟨A, c, h1.keep hk h1.lt (hd _ h1.lt h.own), RowsAt.keep h2 hk (Nat.le_refl _) (fun g e => hd g (own_lt h2 e) (h3 g e)), h3⟩, h.own, h.uniq, h.len, h.size⟩
theorem MRk.below (h : MRk w T q N nx st M) (hb : Below w.heap.size w w') : MRk w' T q N nx st M := h.keep (Keep.of_below hb (fun _ => False)) (fun _ _ _ hf => hf)

set_option maxHeartbeats 1000000 in
theorem at_in (h : MRk w T q N nx st M) {k : Nat} {id v : Int} (hk : M[k]? = some (id, v)) : Calls Try.prog 30 #[.pointer (some ⟨q, 0, none⟩), .int .i64 id] w fun e w' => e = .returned (.int .i64 (k : Int)) ∧ w = w' := by
  obtain ⟨A, c, h1, h2, h3⟩ := h.ex
  have hkl := (List.getElem?_eq_some_iff.1 hk).1
  have hl64 : M.length ≤ 64 := Nat.le_trans h.len h.size
  obtain ⟨g, rfl, hg, hc⟩ := RowsAt.cell h2 (by omega)
  have c3 := h1.cell 3
  have HU := Lib.hid h.uniq
  have HC := Lib.hid hc
  have HK := Lib.hid hk
  simp at c3
  clear h h1 h2 h3 hc hk
  generalize hn : M.length = n at *
  have HN := Lib.hid hn
  clear hn
  go_enter Try.func30, Try.ntmps30
  go_wp2
  go_loop [5] (fun s5 => ∃ j : Nat, j ≤ k ∧ s5 = .int .i64 j) (fun s5 => k + 1 - (intOf s5).toNat)
  case atStart => exact ⟨0, Nat.zero_le _, rfl⟩
  case round =>
    obtain ⟨j, hj, rfl⟩ := hrel
    obtain ⟨x, hx⟩ : ∃ x, M[j]? = some x := ⟨_, List.getElem?_eq_getElem (by rw [HN.out]; omega)⟩
    obtain ⟨d1, _⟩ := HC.out j x hx
    have hjn : j < n := by omega
    by_cases e : j = k
    · subst e
      have := HK.out
      rw [hx] at this
      cases this
      clear hx
      go_wp2
      go_ret
      exact ⟨rfl, rfl⟩
    · have hne : (x.1 == id) = false := by
        have : x.1 ≠ id := fun e' => e (uniq_at HU.out hx HK.out e')
        simpa using this
      clear hx
      go_wp2
      go_round
      case rel => exact ⟨j + 1, by omega, by go_num⟩
      case measure => simp [intOf]; omega

set_option maxHeartbeats 1000000 in
theorem at_out (h : MRk w T q N nx st M) {id : Int} (hk : ¬ Has M id) : Calls Try.prog 30 #[.pointer (some ⟨q, 0, none⟩), .int .i64 id] w fun e w' => e = .returned (.int .i64 (-1)) ∧ w = w' := by
  obtain ⟨A, c, h1, h2, h3⟩ := h.ex
  have hl64 : M.length ≤ 64 := Nat.le_trans h.len h.size
  have c3 := h1.cell 3
  have HR := Lib.hid h2
  have HK := Lib.hid hk
  simp at c3
  clear h h1 h2 h3 hk
  generalize hn : M.length = n at *
  have HN := Lib.hid hn
  clear hn
  go_enter Try.func30, Try.ntmps30
  go_wp2
  go_loop [5] (fun s5 => ∃ j : Nat, j ≤ n ∧ s5 = .int .i64 j) (fun s5 => n - (intOf s5).toNat)
  case atStart => exact ⟨0, Nat.zero_le _, rfl⟩
  case round =>
    obtain ⟨j, hj, rfl⟩ := hrel
    by_cases hjn : j < n
    · obtain ⟨g, rfl, hg, hc⟩ := RowsAt.cell HR.out (by rw [HN.out]; omega)
      obtain ⟨x, hx⟩ : ∃ x, M[j]? = some x := ⟨_, List.getElem?_eq_getElem (by rw [HN.out]; omega)⟩
      obtain ⟨d1, _⟩ := hc j x hx
      have hne : (x.1 == id) = false := by
        have : x.1 ≠ id := fun e => HK.out ⟨x.2, by rw [← e]; exact List.mem_of_getElem? hx⟩
        simpa using this
      clear hx hc
      go_wp2
      go_round
      case rel => exact ⟨j + 1, by omega, by go_num⟩
      case measure => simp [intOf]; omega
    · go_wp2
      go_ret
      exact ⟨rfl, rfl⟩

set_option maxHeartbeats 1000000 in
theorem mget_in (h : MRk w T q N nx st M) {k : Nat} {id v : Int} (hk : M[k]? = some (id, v)) : Calls Try.prog 18 #[.pointer (some ⟨q, 0, none⟩), .int .i64 id] w fun e w' => e = .returned (.tuple #[.int .i64 v, .int .i64 0]) ∧ w = w' := by
  have HA := Lib.hid (at_in h hk)
  obtain ⟨A, c, h1, h2, h3⟩ := h.ex
  have hkl := (List.getElem?_eq_some_iff.1 hk).1
  have hl64 : M.length ≤ 64 := Nat.le_trans h.len h.size
  obtain ⟨g, rfl, hg, hc⟩ := RowsAt.cell h2 (by omega)
  obtain ⟨_, d2⟩ := hc k _ hk
  have c3 := h1.cell 3
  simp at c3
  clear h h1 h2 h3 hc hk
  generalize M.length = n at *
  dsimp only at d2
  go_enter Try.func18, Try.ntmps18
  go_wp2_with (go_at_call 30; refine HA.out.mono ?_; rintro e w' ⟨rfl, rfl⟩)
  go_ret2
  exact ⟨rfl, rfl⟩

set_option maxHeartbeats 400000 in
theorem mget_out (h : MRk w T q N nx st M) {id : Int} (hk : ¬ Has M id) : Calls Try.prog 18 #[.pointer (some ⟨q, 0, none⟩), .int .i64 id] w fun e w' => e = .returned (.tuple #[.int .i64 0, .int .i64 30]) ∧ w = w' := by
  have HA := Lib.hid (at_out h hk)
  clear h hk
  go_enter Try.func18, Try.ntmps18
  go_wp2_with (go_at_call 30; refine HA.out.mono ?_; rintro e w' ⟨rfl, rfl⟩)
  go_ret2
  exact ⟨rfl, rfl⟩

set_option maxHeartbeats 400000 in
theorem mset_out (h : MRk w T q N nx st M) {id : Int} (hk : ¬ Has M id) (v : Int) : Calls Try.prog 14 #[.pointer (some ⟨q, 0, none⟩), .int .i64 id, .int .i64 v] w fun e w' => e = .returned (.int .i64 30) ∧ w = w' := by
  have HA := Lib.hid (at_out h hk)
  clear h hk
  go_enter Try.func14, Try.ntmps14
  go_wp2_with (go_at_call 30; refine HA.out.mono ?_; rintro e w' ⟨rfl, rfl⟩)
  go_ret
  exact ⟨rfl, rfl⟩

theorem uniq_set {k : Nat} {id v u : Int} (h : Uniq M) (hk : M[k]? = some (id, v)) : Uniq (M.set k (id, u)) := by
  have e : (M.set k (id, u)).map (·.1) = M.map (·.1) := by
    apply List.ext_getElem?
    intro j
    rw [List.getElem?_map, List.getElem?_map, List.getElem?_set]
    split
    · rename_i ejk
      subst ejk
      rw [hk]
      have := (List.getElem?_eq_some_iff.1 hk).1
      simp [this]
    · rfl
  unfold Uniq
  rw [e]; exact h

set_option maxHeartbeats 1000000 in
theorem mset_in (h : MRk w T q N nx st M) {k : Nat} {id v0 : Int} (hk : M[k]? = some (id, v0)) (v : Int) : Calls Try.prog 14 #[.pointer (some ⟨q, 0, none⟩), .int .i64 id, .int .i64 v] w fun e w' => e = .returned (.int .i64 0) ∧ MDid T q N nx st (M.set k (id, v)) w w' := by
  have HA := Lib.hid (at_in h hk)
  obtain ⟨A, c, h1, h2, h3⟩ := h.ex
  have hkl := (List.getElem?_eq_some_iff.1 hk).1
  have hl64 : M.length ≤ 64 := Nat.le_trans h.len h.size
  obtain ⟨g, rfl, hg, hc⟩ := RowsAt.cell h2 (by omega)
  obtain ⟨_, d2⟩ := hc k _ hk
  have c3 := h1.cell 3
  have hrow := RowsAt.set h2 hk v
  have hfz : w.frozen? ⟨g, k * 2 + 1, none⟩ = false := World.ownsRow.frozenAt h2 _
  have hgr : g ≠ q := own_apart h2 rfl h1 (by decide)
  have hfin : MDid T q N nx st (M.set k (id, v)) w (w.setCell ⟨g, k * 2 + 1, none⟩ (.int .i64 v)) := by
    refine ⟨⟨⟨some ⟨g, 0, none⟩, c, ?_, hrow, fun g' e => .inl (h3 g' e)⟩, .inl h.own, uniq_set h.uniq hk, by rw [List.length_set]; exact h.len, h.size⟩, (Keep.refl _ T w).setCell (p := ⟨g, k * 2 + 1, none⟩) (.inr (h3 g rfl)) _⟩
    rw [List.length_set]
    exact h1.far (p := ⟨g, k * 2 + 1, none⟩) (Ne.symm hgr) _
  have HFIN := Lib.hid hfin
  simp at c3
  clear h h1 h2 h3 hc hk hfin hrow
  generalize M.length = n at *
  dsimp only at d2
  go_enter Try.func14, Try.ntmps14
  go_wp2_with (go_at_call 30; refine HA.out.mono ?_; rintro e w' ⟨rfl, rfl⟩)
  go_ret
  exact ⟨rfl, HFIN.out⟩

/-- one row more, at the end -/
theorem mdid_append {w2 : World} {A A' : Option Addr} {c c' : Nat} {id v : Int} (h : MRk w T q N nx st M) (hno : ¬ Has M id) (hlen : M.length < N) (hl : Lies w q 45 #[.int .i64 (N : Int), .int .i64 nx, .int .i64 st, .slice A M.length c]) (hr0 : RowsAt w A c M) (hA : ∀ g, rowOf A = some g → T g)
    (hrow : RowsAt w2 A' c' (M ++ [(id, v)])) (hg : (w.alloc (.cells #[.int .i64 id, .int .i64 v] 65)).grownBy w2 (rowOf A)) (hA' : ∀ g, rowOf A' = some g → rowOf A = some g ∨ (w.alloc (.cells #[.int .i64 id, .int .i64 v] 65)).heap.size ≤ g) :
    Lies w2 q 45 #[.int .i64 (N : Int), .int .i64 nx, .int .i64 st, .slice A M.length c] ∧ MDid T q N nx st (M ++ [(id, v)]) w (w2.setCell ⟨q, 3, none⟩ (.slice A' (M ++ [(id, v)]).length c')) := by
  have hsz : (w.alloc (.cells #[.int .i64 id, .int .i64 v] 65)).heap.size = w.heap.size + 1 := by simp
  have hl1 : Lies (w.alloc (.cells #[.int .i64 id, .int .i64 v] 65)) q 45 #[.int .i64 (N : Int), .int .i64 nx, .int .i64 st, .slice A M.length c] := hl.alloc _
  have hl2 : Lies w2 q 45 #[.int .i64 (N : Int), .int .i64 nx, .int .i64 st, .slice A M.length c] := hl1.grown hg (fun e => own_apart hr0 e.symm hl (by decide) rfl)
  have hq := hl.lt
  refine ⟨hl2, ⟨⟨A', c', hl2.set 3 _, RowsAt.of_same hrow (fun g e => ?_), fun g e => ?_⟩, .inl h.own, ?_, ?_, h.size⟩, ?_⟩
  · rw [rowOf_eq] at e
    exact Below.heap_setCell _ _ _ _ (own_apart hrow e hl2 (by decide))
  · rcases hA' g e with e1 | e1
    · exact .inl (hA g e1)
    · exact .inr (by omega)
  · unfold Uniq
    rw [List.map_append, List.nodup_append]
    refine ⟨h.uniq, by simp, fun a ha b hb => ?_⟩
    simp at hb
    subst hb
    rintro rfl
    obtain ⟨x, hx, rfl⟩ := List.mem_map.1 ha
    exact hno ⟨x.2, hx⟩
  · rw [List.length_append]; exact hlen
  · have k0 : Keep w.heap.size T w (w.alloc (.cells #[.int .i64 id, .int .i64 v] 65)) := (Keep.refl _ T w).alloc (Nat.le_refl _) _
    exact (k0.grown hg (by omega) (fun g e => .inr (hA g e))).setCell (p := ⟨q, 3, none⟩) (.inr h.own) _
end

end Go.Proofs.Ytcecdcdnjbndiaa.model
