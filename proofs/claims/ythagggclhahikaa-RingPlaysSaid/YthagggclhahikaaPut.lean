/-
  Given for the seat's laws: bytes as they lie in memory, and the contract of Put over a made ring. No condition but those of the theorems.
-/
import Derived.Test.YthagggclhahikaaIter
import Derived.Test.YthagggclhahikaaPure
import Derived.Laws.CopyRow
import Derived.Laws.IdiomCopy
import Derived.RangeFuncFrom
namespace Go.Proofs.Ythagggclhahikaa.put
open Go.RowKit mem ring pieces iter reg plain Go.Shelf
set_option linter.unusedVariables false
attribute [local go_sem] Oper.semAt_some

/-- a slice's bytes as they lie in memory, in a block that ok lets in -/
def BytesAt (w : World) (ok : Nat → Prop) (A : Option Addr) (bs : List Int) : Prop :=
  0 < bs.length → ∃ g off, A = some ⟨g, off, none⟩ ∧ ok g ∧ ∀ (j : Nat) (z : Int), bs[j]? = some z → w.cell? ⟨g, off + j, none⟩ = some (.int .u8 z)

section
variable {w w' : World} {ok ok' : Nat → Prop} {A : Option Addr} {bs : List Int}
theorem BytesAt.nil : BytesAt w ok A [] := fun h => absurd h (by simp)
theorem BytesAt.keep (h : BytesAt w ok A bs) (hk : ∀ g, ok g → w'.heap[g]? = w.heap[g]?) : BytesAt w' ok A bs := fun hp => by
  obtain ⟨g, off, e, ho, hc⟩ := h hp
  exact ⟨g, off, e, ho, fun j z hz => (World.cell?_of_block (hk g ho)).trans (hc j z hz)⟩
theorem BytesAt.weak (h : BytesAt w ok A bs) (hk : ∀ g, ok g → ok' g) : BytesAt w ok' A bs := fun hp => by
  obtain ⟨g, off, e, ho, hc⟩ := h hp
  exact ⟨g, off, e, hk g ho, hc⟩
theorem BytesAt.take (h : BytesAt w ok A bs) (n : Nat) : BytesAt w ok A (bs.take n) := fun hp => by
  obtain ⟨g, off, e, ho, hc⟩ := h (by simp at hp; omega)
  refine ⟨g, off, e, ho, fun j z hz => hc j z ?_⟩
  rw [List.getElem?_take] at hz
  split at hz
  · exact hz
  · cases hz
theorem BytesAt.drop (h : BytesAt w ok A bs) (n : Nat) : BytesAt w ok (A.map (·.add n)) (bs.drop n) := fun hp => by
  obtain ⟨g, off, e, ho, hc⟩ := h (by simp at hp; omega)
  subst e
  refine ⟨g, off + n, ?_, ho, fun j z hz => ?_⟩
  · by_cases hn : n = 0 <;> simp [Addr.add, hn]
  · rw [List.getElem?_drop] at hz
    have := hc (n + j) z hz
    rwa [← Nat.add_assoc] at this
end

theorem B8_take (zs : List Int) (n : Nat) : (B8 zs).take n = B8 (zs.take n) := by simp [B8, List.map_take]
theorem B8_get {zs : List Int} {j : Nat} {v : Value} (h : (B8 zs)[j]? = some v) : ∃ z, zs[j]? = some z ∧ v = .int .u8 z := by
  simp only [B8, List.getElem?_map, Option.map_eq_some_iff] at h
  obtain ⟨z, hz, rfl⟩ := h
  exact ⟨z, hz, rfl⟩
theorem B8_one (zs : List Int) : ∀ v ∈ B8 zs, v.oneCell' = true := by
  intro v hv
  obtain ⟨j, hj⟩ := List.getElem?_of_mem hv
  obtain ⟨z, _, rfl⟩ := B8_get hj
  rfl

theorem size5 : (Try.prog.info? 5).map (·.size) = some 1 := by kernel_rfl

/-- the built-in copy into a store: what it returns, and what it leaves -/
theorem copy_run {w : World} {ok : Nat → Prop} {A : Option Addr} {rem st : List Int} {s o len c : Nat} (hrow : Lies w s 5 (B8 st).toArray) (ho : o + len ≤ st.length) (hb : BytesAt w ok A rem) :
    ∃ w2, (Builtin.copy_ #[31, 31] 3 #[.slice (some ⟨s, o, none⟩) len len, .slice A rem.length c]).run Try.prog w.drew = .ok (.int .i64 (min len rem.length : Nat)) w2 ∧
      Lies w2 s 5 (B8 (lay st o (rem.take len))).toArray ∧ w.grownBy w2 (some s) := by
  by_cases h0 : min len rem.length = 0
  · have hr := run_copy_none (P := Try.prog) w.drew 31 31 3 5 (some ⟨s, o, none⟩) A len len rem.length c Try.underlying31 size5 (by show min rem.length len = 0; omega)
    refine ⟨w.drew, ?_, ?_, ⟨rfl, rfl, rfl, Nat.le_refl _, fun _ _ _ => rfl⟩⟩
    · rw [hr, h0]; rfl
    · have : rem.take len = [] := by
        apply List.eq_nil_of_length_eq_zero
        rw [List.length_take]
        exact h0
      rw [this]
      simpa [lay] using hrow.drew
  · obtain ⟨g, off, rfl, _, hc⟩ := hb (by omega)
    have hr := run_copy_row (P := Try.prog) w.drew 31 31 3 5 s o len len ⟨g, off, none⟩ rem.length c (B8 st).toArray 5 (B8 (rem.take len)) Try.underlying31 size5 hrow.drew
      (by rw [B8_length, List.length_take]; exact Nat.min_comm _ _) (fun j v hv => by
        obtain ⟨z, hz, rfl⟩ := B8_get hv
        rw [List.getElem?_take] at hz
        split at hz
        · have := hc j z hz
          by_cases hj : j = 0
          · subst hj; simpa [Addr.add] using this
          · simpa [Addr.add, hj] using this
        · cases hz) (by simp [B8_length]; omega) (B8_one _)
    have hk : goInt ((B8 (rem.take len)).length : Nat) = .int .i64 (min len rem.length : Nat) := by rw [B8_length, List.length_take]; rfl
    rw [hk] at hr
    refine ⟨_, hr, ?_, ?_⟩
    · have := setRow_heap w.drew s (B8 st).toArray ((B8 st).take o ++ B8 (rem.take len) ++ (B8 st).drop (o + (B8 (rem.take len)).length)).toArray 5 (0, 0) hrow.drew
      unfold Lies
      rw [show B8 (lay st o (rem.take len)) = lay (B8 st) o (B8 (rem.take len)) from map_lay _ _ _ _]
      exact this
    · exact ⟨rfl, rfl, rfl, by simp, fun k _ hk => setRow_other w.drew s k _ (fun e => hk (by rw [e]))⟩

/-- what holds between two rounds of Put's loop -/
structure PutInv (w W : World) (b s L N first h : Nat) (st : List Int × List Int) : Prop where
  head : Lies W b 45 #[.pointer (some ⟨b, 0, none⟩), .slice (some ⟨s, 0, none⟩) N N, .int .i64 (first : Int), .int .i64 (h : Int)]
  row : Lies W s 5 (B8 st.1).toArray
  len : st.1.length = N
  left : ∃ A c, Lies W L 31 #[.slice A st.2.length c] ∧ BytesAt W (fun g => g < w.heap.size ∧ g ≠ s) A st.2 ∧ st.2.length ≤ c
  keep : Keep w.heap.size (fun g => g = s) w W
  big : w.heap.size + 4 < W.heap.size

theorem putInv_own {w : World} {b s L N first h : Nat} {rem zs : List Int} (B : Nat) (hw : w.heap.size ≤ B) : OwnFrom B (fun (pre : List (Pc N)) W => PutInv w W b s L N first h (putAll (zs, rem) (pre.map (·.1)))) := by
  intro pre W W' row hi hg hr
  have hne : ∀ {g t cs}, Lies W g t cs → some g ≠ row := fun hl e => by
    obtain ⟨_, o, ho, hc⟩ := hr _ e.symm
    unfold Lies at hl
    rw [hl] at ho
    cases ho
    cases hc
  obtain ⟨A, c, hl, hb, hle⟩ := hi.left
  refine ⟨hi.head.grown hg (hne hi.head), hi.row.grown hg (hne hi.row), hi.len, ⟨A, c, hl.grown hg (hne hl), hb.keep (fun g hg' => hg.block g (by have := hi.keep.size; omega) (fun e => by have := (hr _ e.symm).1; omega)), hle⟩, ?_, by have := hi.big; have := hg.size; omega⟩
  exact hi.keep.grown hg hi.keep.size (fun k e => .inl (by have := (hr k e).1; omega))

/-- what Put leaves -/
def Puts (b s N first h n : Nat) (zs bs : List Int) (w : World) (e : Ending) (w' : World) : Prop :=
  e = .returned (.int .i64 (n : Int)) ∧ ∃ zs', IsRing w' b s N first (h + n) zs' ∧ held zs' first (h + n) = held zs first h ++ bs.take n ∧ Keep w.heap.size (fun g => g = b ∨ g = s) w w'

theorem cut_to (W : World) (g off l c n : Nat) (hn : 0 < n) (hc : n ≤ c) :
    (Instr.slice 31 (.slice (some ⟨g, off, none⟩) l c) none (some (.int .i64 (n : Int))) none).run Try.prog W = .ok (.slice (some ⟨g, off, none⟩) n c) W := by
  obtain ⟨i0, hi, hz0, hz1, hz2⟩ := info_parts info5
  rw [run_slice_h W 31 _ l c (by kernel_rfl) .i64 _ (by omega) (by omega)]
  have he : Try.prog.elem 31 = 5 := by kernel_rfl
  rw [he]
  have hs : (sizeOf 5).run Try.prog W = .ok 1 W := by simp [sizeOf, typeInfo, hi, hz1]
  rw [hs]
  simp [Result.andThen, sliced, Addr.add]

theorem cut_from (A : Option Addr) (l c k : Nat) (hk : k ≤ l) (hc : l ≤ c) :
    ∃ A', (∀ W, (Instr.slice 31 (.slice A l c) (some (.int .i64 (k : Int))) none none).run Try.prog W = .ok (.slice A' (l - k) (c - k)) W) ∧ (k < l → A' = A.map (·.add k)) := by
  obtain ⟨i0, hi, hz0, hz1, hz2⟩ := info_parts info5
  refine ⟨if c = k then A else A.map (·.add (k * 1)), fun W => ?_, fun h => by rw [if_neg (by omega)]; simp⟩
  rw [run_slice_l W 31 _ l c (by kernel_rfl) .i64 _ (by omega) (by omega)]
  have he : Try.prog.elem 31 = 5 := by kernel_rfl
  rw [he]
  have hs : (sizeOf 5).run Try.prog W = .ok 1 W := by simp [sizeOf, typeInfo, hi, hz1]
  rw [hs]
  simp [Result.andThen, sliced]

theorem room_n {b s N first h ρ : Nat} {zs : List Int} (w : World) (hring : IsRing w b s N first h zs) (hρ : N = h + ρ) : Calls Try.prog 22 #[.pointer (some ⟨b, 0, none⟩)] w fun e w' => e = .returned (.int .i64 (ρ : Int)) ∧ w = w' := by
  have e : ((N : Int) - (h : Int)) = (ρ : Int) := by omega
  rw [← e]
  exact room_any w hring

/-- one round of Put's loop, behind its body -/
theorem put_round {w W W2 : World} {b s N first h n cc k : Nat} {zs bs : List Int} {pre : List (Pc N)} {x : Pc N} {st : List Int × List Int} {A A2 : Option Addr} (hst : st = putAll (zs, bs.take n) (pre.map (·.1)))
    (hi : PutInv w W b s w.heap.size N first h st) (hrow : Lies W2 s 5 (B8 (lay st.1 x.1.1 (st.2.take x.1.2))).toArray) (hg : W.grownBy W2 (some s)) (hl : Lies W2 w.heap.size 31 #[.slice A st.2.length cc])
    (hb : BytesAt W (fun g => g < w.heap.size ∧ g ≠ s) A st.2) (hA : k < st.2.length → A2 = A.map (·.add k)) (hk : min x.1.2 st.2.length = k) (hle : st.2.length ≤ cc) (hsw : s < w.heap.size) :
    KeepsOthers W (W2.setCell ⟨w.heap.size, 0, none⟩ (.slice A2 (st.2.length - k) (cc - k))) ∧ KpOf b (w.heap.size + 1) W (W2.setCell ⟨w.heap.size, 0, none⟩ (.slice A2 (st.2.length - k) (cc - k))) ∧
      PutInv w (W2.setCell ⟨w.heap.size, 0, none⟩ (.slice A2 (st.2.length - k) (cc - k))) b s w.heap.size N first h (putAll (zs, bs.take n) ((pre ++ [x]).map (·.1))) := by
  have hbs : b ≠ s := hi.head.apart hi.row (by decide)
  have hbL : b ≠ w.heap.size := by
    obtain ⟨A0, c0, hl0, _, _⟩ := hi.left
    exact hi.head.apart hl0 (by decide)
  have hsL : s ≠ w.heap.size := hrow.apart hl (by decide)
  have hbig := hi.big
  have hsame : ∀ g, g < W.heap.size → g ≠ s → g ≠ w.heap.size → (W2.setCell ⟨w.heap.size, 0, none⟩ (.slice A2 (st.2.length - k) (cc - k))).heap[g]? = W.heap[g]? := fun g h1 h2 h3 =>
    (Below.heap_setCell _ _ _ _ h3).trans (hg.block g h1 (by simpa using h2))
  have hpre : putAll (zs, bs.take n) ((pre ++ [x]).map (·.1)) = putStep st x.1 := by rw [List.map_append, List.map_singleton, putAll_snoc, ← hst]
  refine ⟨(KeepsOthers.of_grownBy hg (fun j o e ho => ?_)).trans (KeepsOthers.setCell _ _ _), ⟨?_, ?_, ?_, ?_, ?_⟩, ?_⟩
  · cases e
    have := hi.row
    unfold Lies at this
    rw [this] at ho
    cases ho
    rfl
  · exact hsame _ hi.head.lt hbs hbL
  · exact hsame _ (by omega) (by omega) (by omega)
  · exact hsame _ (by omega) (by omega) (by omega)
  · exact hsame _ (by omega) (by omega) (by omega)
  · exact hsame _ (by omega) (by omega) (by omega)
  · rw [hpre]
    have hdl : (st.2.drop x.1.2).length = st.2.length - k := by rw [List.length_drop]; omega
    refine ⟨hi.head.of_same (hsame _ hi.head.lt hbs hbL), hrow.far (p := ⟨w.heap.size, 0, none⟩) hsL _, ?_, ⟨A2, cc - k, ?_, ?_, ?_⟩, ?_, ?_⟩
    · show (lay st.1 x.1.1 (st.2.take x.1.2)).length = N
      rw [length_lay _ _ _ (by rw [hi.len, List.length_take]; have := x.2; omega), hi.len]
    · show Lies _ _ 31 #[.slice A2 (st.2.drop x.1.2).length (cc - k)]
      rw [hdl]
      exact hl.set 0 _
    · show BytesAt _ _ A2 (st.2.drop x.1.2)
      intro hp
      have hkl : k < st.2.length := by rw [hdl] at hp; omega
      have hkx : x.1.2 = k := by omega
      have hb2 := hb.drop k
      rw [← hA hkl, ← hkx] at hb2
      exact hb2.keep (fun g hg' => hsame g (by omega) hg'.2 (by omega)) hp
    · show (st.2.drop x.1.2).length ≤ cc - k
      rw [hdl]; omega
    · exact (hi.keep.grown hg hi.keep.size (fun j e => by cases e; exact .inr rfl)).setCell (p := ⟨w.heap.size, 0, none⟩) (.inl (Nat.le_refl _)) _
    · have h1 := hg.size
      have h2 : (W2.setCell ⟨w.heap.size, 0, none⟩ (.slice A2 (st.2.length - k) (cc - k))).heap.size = W2.heap.size := by simp [World.setCell]
      omega

/-- behind the loop: what Put leaves -/
theorem puts_of {w W : World} {b s N first h n l ρ D : Nat} {zs bs : List Int} {hN : 0 < N} {hn : n ≤ N} (hring : IsRing w b s N first h zs)
    (hi : PutInv w W b s w.heap.size N first h (putAll (zs, bs.take n) ([one N first h n hN, two N first h n hN hn].map (·.1)))) (hnn : n = min l ρ) (hl : bs.length = l) (hρ : N = h + ρ) (hD : w.heap.size < D) (hDb : D ≠ b) (hpos : 0 < n) :
    Puts b s N first h n zs bs w (.returned (.int .i64 (n : Int))) ((W.setCell ⟨b, 3, none⟩ (.int .i64 ((h : Int) + (n : Int)))).putObj D (.deferred none)) := by
  have hsw := hring.row.lt
  have hbw := hring.head.lt
  have hlen : (bs.take n).length = n := by rw [List.length_take]; omega
  have hput := put_two zs (bs.take n) N first h n _ _ _ hring.len hlen hring.first_lt (by omega) hpos rfl rfl rfl
  obtain ⟨hheld, hlenz⟩ := hput
  refine ⟨rfl, (putAll (zs, bs.take n) ([one N first h n hN, two N first h n hN hn].map (fun x : Pc N => x.1))).1, ⟨?_, ?_, hi.len, hring.first_lt, by omega, hring.most⟩, hheld, ?_⟩
  · have e : ((h : Int) + (n : Int)) = ((h + n : Nat) : Int) := by omega
    rw [e]
    exact (hi.head.set 3 _).of_same (World.putObj_heap_other (Ne.symm hDb))
  · exact (hi.row.far (p := ⟨b, 3, none⟩) (Ne.symm (hi.head.apart hi.row (by decide))) _).of_same (World.putObj_heap_other (by omega))
  · refine (((hi.keep.mono (S' := fun g => g = b ∨ g = s) (Nat.le_refl _) (fun k _ e => .inr e)).setCell (p := ⟨b, 3, none⟩) (.inr (.inl rfl)) _)).grown (grownBy_putObj' _ D _) ?_ (fun k e => by cases e; exact .inl (by omega))
    have := hi.big
    simp [World.setCell]
    omega

set_option maxRecDepth 100000 in
set_option maxHeartbeats 2000000 in
theorem put_walk {b s N first h : Nat} {zs : List Int} (w : World) (hring : IsRing w b s N first h zs) (l c : Nat) (g off : Nat) (bs : List Int) (hl : bs.length = l) (hc : l ≤ c)
    (hb : BytesAt w (fun g => g < w.heap.size ∧ g ≠ s) (some ⟨g, off, none⟩) bs) (n ρ : Nat) (hρ : N = h + ρ) (hn : n = min l ρ) (hpos : 0 < n) (hmax : l ≤ maxLen) :
    CallsIn Fence.wide 3 Try.prog 12 #[.pointer (some ⟨b, 0, none⟩), .slice (some ⟨g, off, none⟩) l c] w (Puts b s N first h n zs bs w) := by
  have hN := hring.first_lt
  have hN4 := hring.most
  have hsw := hring.row.lt
  have hbw := hring.head.lt
  have HRING := Lib.hid hring
  have q1 := fun W => cut_to W g off l c n hpos (by omega)
  have hm1 : (if (ρ : Int) < (l : Int) then (ρ : Int) else (l : Int)) = (n : Int) := by split <;> omega
  have hm2 : (if ρ < l then (ρ : Int) else (l : Int)) = (n : Int) := by split <;> omega
  have hz : ((n : Int) == 0) = false := by simp; omega
  have hc3 : (w.alloc (.cells #[.slice (some ⟨g, off, none⟩) n c] 31)).cell? ⟨b, 3, none⟩ = some (.int .i64 (h : Int)) := (hring.head.alloc _).cell 3
  have hroom := Lib.hid (room_n w hring hρ)
  have HB := Lib.hid hb
  have HN := Lib.hid hn
  have HL := Lib.hid hl
  have HR := Lib.hid hρ
  have hle : h + n ≤ N := by omega
  clear hb hn hl hρ
  refine callsIn_of_wp_marks Try.func12 rfl trivial ?_ rfl
  simp only [Try.ntmps12, List.size_toArray, List.length_cons, List.length_nil, Nat.reduceAdd, Nat.reduceSub, Array.replicate_succ, Array.replicate_zero, List.push_toArray, List.append_toArray, List.nil_append, List.cons_append]
  gi_wp2_with (refine ⟨trivial, ?_⟩; gi_at_call 22; refine (callsIn_wide.2 hroom.out).mono ?_; rintro e w' ⟨rfl, rfl⟩)
  have hring1 : IsRing (w.alloc (.cells #[.slice (some ⟨g, off, none⟩) n c] 31)) b s N first h zs := ⟨hring.head.alloc _, hring.row.alloc _, hring.len, hring.first_lt, hring.held_le, hring.most⟩
  refine ⟨trivial, (callsIn_wide.2 (pieces_any _ hring1 h n (by omega) (by omega))).mono ?_⟩
  rintro e w1 ⟨rfl, hbx, hb1⟩
  simp only [World.size_alloc] at hbx hb1 ⊢
  have hw1 : w.heap.size < w1.heap.size := by have := hbx.x3.lt; omega
  have hL1 : Lies w1 w.heap.size 31 #[.slice (some ⟨g, off, none⟩) n c] := (Lies.new w 31 _).below hb1 (by omega)
  have hring2 : IsRing w1 b s N first h zs := hring1.same (hb1.block _ (by have := hring.head.lt; omega)) (hb1.block _ (by have := hring.row.lt; omega))
  clear hc3 q1 hm1 hm2 hz hroom hring1
  gi_wp2_with fail
  refine wpIn_rangeFunc_ownF rfl (by omega) (gf := 27) (lb := #[.pointer (some ⟨w.heap.size + 1, 0, none⟩), .pointer (some ⟨w.heap.size + 1 + 1, 0, none⟩), .pointer (some ⟨w.heap.size + 1 + 2, 0, none⟩), .pointer (some ⟨w.heap.size + 1 + 3, 0, none⟩)]) rfl trivial (enters_of Try.func27 (by kernel_rfl) rfl)
    (iter_stops Fence.wide 2 trivial rfl (by omega) (w.heap.size + 1) b s N first h n (by omega) hN4 hpos (by omega) w1 _ _ hring2.head.lt hbx.x3.lt hring2.head hbx)
    (fun h k => kp_t h k) (kp_b hring2.head.lt hbx.x3.lt) (Below.refl _ _) (fun _ => rfl)
    (fun pre W => PutInv w W b s w.heap.size N first h (putAll (zs, bs.take n) (pre.map (·.1))))
    (fun _ _ _ => False)
    (putInv_own _ (by have := hL1.lt; omega)) (fun _ _ _ _ _ hf _ _ => hf)
    ?start
    (fun x => { tmps := #[.pointer (some ⟨b, 0, none⟩), .slice (some ⟨g, off, none⟩) l c, undef, undef, .int .i64 0, .int .i64 (n : Int), .pointer (some ⟨w.heap.size, 0, none⟩), .slice (some ⟨s, x.1.1, none⟩) x.1.2 x.1.2,
      .slice (some ⟨g, off, none⟩) l c, .int .i64 (l : Int), .pointer (some ⟨b, 0, none⟩), .int .i64 (ρ : Int), .int .i64 (n : Int), .int .i64 (n : Int), .bool false, .slice (some ⟨g, off, none⟩) l c, .int .i64 (n : Int), .slice (some ⟨g, off, none⟩) n c,
      .pointer (some ⟨b, 0, none⟩), .pointer (some ⟨b, 0, none⟩), .pointer (some ⟨b, 0, none⟩), .pointer (some ⟨b, 3, none⟩), .int .i64 (h : Int), .int .i64 (n : Int),
      .func (.func 27) #[] #[.pointer (some ⟨w.heap.size + 1, 0, none⟩), .pointer (some ⟨w.heap.size + 1 + 1, 0, none⟩), .pointer (some ⟨w.heap.size + 1 + 2, 0, none⟩), .pointer (some ⟨w.heap.size + 1 + 3, 0, none⟩)],
      .slice (some ⟨s, x.1.1, none⟩) x.1.2 x.1.2, undef, undef, undef, undef, undef, undef, undef, undef, undef, undef, undef, undef, undef, undef], defers := [] }) ?assign ?body ?done ?stop
  case start =>
    have hlen : (bs.take n).length = n := by rw [List.length_take, HL.out]; have := HN.out; omega
    refine ⟨hring2.head, hring2.row, hring2.len, ⟨some ⟨g, off, none⟩, c, ?_, ?_, by show (bs.take n).length ≤ c; have := HN.out; omega⟩, ?_, ?_⟩
    · show Lies w1 _ 31 #[.slice _ (bs.take n).length c]
      rw [hlen]; exact hL1
    · exact (HB.out.take n).keep (fun g' hg' => (hb1.block g' (by omega)).trans (Below.heap_alloc w _ g' hg'.1))
    · exact (Keep.of_below (((Below.refl _ w).alloc (Nat.le_refl _) _).trans (hb1.mono (by omega))) _)
    · have := hbx.x3.lt
      omega
  case assign =>
    intro l' x W K hK
    gi_wp2
    exact hK
  case body =>
    intro l' pre x W hi hlt
    obtain ⟨st, hst⟩ : ∃ st, st = putAll (zs, bs.take n) (pre.map (·.1)) := ⟨_, rfl⟩
    rw [← hst] at hi
    have HST := Lib.hid hst
    clear hst
    obtain ⟨A, cc, hl, hbb, hle'⟩ := hi.left
    obtain ⟨W2, hrun, hrow2, hg2⟩ := copy_run (c := cc) hi.row (by rw [hi.len]; exact x.2) hbb
    obtain ⟨A2, hcut, hA2⟩ := cut_from A st.2.length cc (min x.1.2 st.2.length) (by omega) hle'
    have c1 : W.cell? ⟨w.heap.size, 0, none⟩ = some (.slice A st.2.length cc) := hl.cell 0
    have hl2 : Lies W2 w.heap.size 31 #[.slice A st.2.length cc] := hl.grown hg2 (by have := hi.row.apart hl (by decide); simpa using (Ne.symm this))
    have c2 : W2.cell? ⟨w.heap.size, 0, none⟩ = some (.slice A st.2.length cc) := hl2.cell 0
    have c3 := hl2.frozen 0
    have c4 : W2.drew.cell? ⟨w.heap.size, 0, none⟩ = some (.slice A st.2.length cc) := hl2.cell 0
    have HI := Lib.hid hi
    have HL2 := Lib.hid hl2
    have HROW := Lib.hid hrow2
    have HG := Lib.hid hg2
    have HA := Lib.hid hA2
    have HBB := Lib.hid hbb
    clear hi hl hl2 hrow2 hg2 hA2 hbb hring hring2 hbx hb1 hL1
    generalize hkk : min x.1.2 st.2.length = k at *
    have HK := Lib.hid hkk
    clear hkk
    gi_wp2
    gi_region
    all_goals exact put_round HST.out HI.out HROW.out HG.out HL2.out HBB.out HA.out HK.out hle' hsw
  case done =>
    rintro D xs W hD rfl hi hK
    have c1 : W.cell? ⟨b, 3, none⟩ = some (.int .i64 (h : Int)) := hi.head.cell 3
    have c2 := hi.head.frozen 3
    have hDb : D ≠ b := fun e => by
      have := hi.head
      unfold Lies at this
      rw [← e, hK] at this
      cases this
    have hK2 : (W.setCell ⟨b, 3, none⟩ (.int .i64 ((h : Int) + (n : Int)))).heap[D]? = some (.deferred (some [])) := (Below.heap_setCell _ _ _ _ hDb).trans hK
    have HI := Lib.hid hi
    have HK2 := Lib.hid hK2
    have HD := Lib.hid hD
    have HDB := Lib.hid hDb
    clear hi hK hK2 hD hDb hring hring2 hbx hb1 hL1
    gi_wp2
    refine ⟨by simp, .inl ⟨_, _, rfl, run_takeDeferred HK2.out, ?_⟩⟩
    refine ⟨_, results_tmp rfl _ _ _, ?_⟩
    exact puts_of HRING.out HI.out HN.out HL.out HR.out (by have := HD.out; omega) HDB.out hpos
  case stop =>
    intro D c' pre W _ _ hf _
    exact hf.elim

set_option maxHeartbeats 400000 in
theorem put_none {b s N first h : Nat} {zs bs : List Int} (w : World) (hring : IsRing w b s N first h zs) (A : Option Addr) (l c ρ : Nat) (hρ : N = h + ρ) (hn : min l ρ = 0) :
    Calls Try.prog 12 #[.pointer (some ⟨b, 0, none⟩), .slice A l c] w fun e w' => e = .returned (.int .i64 0) ∧ w = w' := by
  have hm1 : (if (ρ : Int) < (l : Int) then (ρ : Int) else (l : Int)) = 0 := by split <;> omega
  have hm2 : (if ρ < l then (ρ : Int) else (l : Int)) = 0 := by split <;> omega
  have hroom := Lib.hid (room_n w hring hρ)
  clear hn hρ hring
  go_enter Try.func12, Try.ntmps12
  go_wp2_with (go_at_call 22; refine hroom.out.mono ?_; rintro e w' ⟨rfl, rfl⟩)
  go_ret
  exact ⟨rfl, rfl⟩

/-- **Put**, whatever is handed in -/
theorem put_any {b s N first h : Nat} {zs : List Int} (w : World) (hring : IsRing w b s N first h zs) (A : Option Addr) (l c : Nat) (bs : List Int) (hl : bs.length = l) (hc : l ≤ c)
    (hb : BytesAt w (fun g => g < w.heap.size ∧ g ≠ s) A bs) (hmax : l ≤ maxLen) : Calls Try.prog 12 #[.pointer (some ⟨b, 0, none⟩), .slice A l c] w (Puts b s N first h (min l (N - h)) zs bs w) := by
  have hle := hring.held_le
  by_cases h0 : min l (N - h) = 0
  · refine (put_none (bs := bs) w hring A l c (N - h) (by omega) h0).mono ?_
    rintro e w' ⟨rfl, rfl⟩
    rw [h0]
    exact ⟨rfl, zs, hring, by simp, Keep.refl _ _ _⟩
  · obtain ⟨g, off, rfl, hok, hcells⟩ := hb (by omega)
    exact callsIn_wide.1 (put_walk w hring l c g off bs hl hc hb (min l (N - h)) (N - h) (by omega) rfl (by omega) hmax)

end Go.Proofs.Ythagggclhahikaa.put
