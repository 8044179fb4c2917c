/-
  Given for the seat's laws: the contract of the program's Encode. No condition but those of the theorems.
-/
import Derived.Test.YtiloeffnmkcaoaaSChars2
import Derived.Deep.LoopGhost
namespace Go.Proofs.Ytiloeffnmkcaoaa.sx
open Go.RowKit mem
set_option linter.unusedVariables false

theorem builder_same {W W' : World} {B b : Nat} {p : Value} {bs : List Value} (H : Lib.BuilderAtF 39 5 B b p bs W) (h1 : W'.heap[b]? = W.heap[b]?) (h2 : ∀ (g : Nat) (cs : Array Value) (fz : Nat × Nat), W.heap[g]? = some (Obj.cells cs 5 fz) → W'.heap[g]? = W.heap[g]?) : Lib.BuilderAtF 39 5 B b p bs W' := by
  obtain ⟨hB, v, hb, ho, hne⟩ := H
  refine ⟨hB, v, h1.trans hb, ⟨ho.1, ?_⟩, hne⟩
  rcases ho.2 with hn | ⟨g, cap, cur, fz, hv, hb2, hg, rest⟩
  · exact .inl hn
  · exact .inr ⟨g, cap, cur, fz, hv, hb2, (h2 g cur fz hg).trans hg, rest⟩
theorem builder_turn {W W' : World} {B b bh bb bx h r : Nat} {ok : Nat → Prop} {l : Str} {p : Value} {bs : List Value} (H : Lib.BuilderAtF 39 5 B b p bs W) (hc : Ch W bh bb bx ok h r l) (ht : ChTurn W W' bh bb bx) (h1 : b ≠ bh) (h2 : b ≠ bb) (h3 : b ≠ bx) : Lib.BuilderAtF 39 5 B b p bs W' := by
  obtain ⟨⟨X, hX, _⟩, hl, A, n, c, hcb, _⟩ := hc
  refine builder_same H (ht.block b h1 h2 h3) fun g cs fz hg => ht.block g ?_ ?_ ?_
  · rintro rfl
    have : W.heap[g]? = some (.cells _ 3 (0, 0)) := hl
    rw [hg] at this
    simp at this
  · rintro rfl
    have : W.heap[g]? = some (.cells _ 22 (0, 0)) := hcb
    rw [hg] at this
    simp at this
  · rintro rfl
    have : W.heap[g]? = some (.cells _ 53 (0, 0)) := hX
    rw [hg] at this
    simp at this

/-- on the way: t is written -/
structure EI (w : World) (b : Str) (bh bb bx : Nat) (t : Str) (h r : Nat) (l : Str) (wr : World) : Prop where
  st : St b t h r l
  ch : Ch wr bh bb bx (fun g => g < w.heap.size) h r l
  bu : Lib.BuilderAtF 39 5 w.heap.size w.heap.size (.pointer (some ⟨w.heap.size, 0, none⟩)) (Lib.byteCells t) wr
  be : Below w.heap.size w wr
  r1 : w.heap.size < bh
  r2 : w.heap.size < bb
  r3 : w.heap.size < bx

section
variable {w wr W' : World} {b t l : Str} {bh bb bx h r : Nat}
theorem EI.ok (E : EI w b bh bb bx t h r l wr) : ∀ g, g < w.heap.size → g ≠ bh ∧ g ≠ bb ∧ g ≠ bx := fun g hg => by
  have := E.r1; have := E.r2; have := E.r3
  exact ⟨by omega, by omega, by omega⟩
theorem EI.turned (E : EI w b bh bb bx t h r l wr) (ht : ChTurn wr W' bh bb bx) : Lib.BuilderAtF 39 5 w.heap.size w.heap.size (.pointer (some ⟨w.heap.size, 0, none⟩)) (Lib.byteCells t) W' ∧ Below w.heap.size w W' := by
  have h1 := E.r1; have h2 := E.r2; have h3 := E.r3
  refine ⟨builder_turn E.bu E.ch ht (by omega) (by omega) (by omega), E.be.trans ⟨ht.os, ht.tape, ht.output, by rw [ht.size]; exact Nat.le_refl _, fun k hk => ht.block k (by omega) (by omega) (by omega)⟩⟩
theorem ch_others {ok : Nat → Prop} (H : Ch wr bh bb bx ok h r l) {B : Nat} (hk : Lib.OthersKept 5 (some B) wr W') (h1 : bh ≠ B) (h2 : bb ≠ B) (h3 : bx ≠ B) (hok : ∀ g, ok g → W'.heap[g]? = wr.heap[g]?) : Ch W' bh bb bx ok h r l := by
  obtain ⟨⟨X, hX, hb⟩, hl, A, n, c, hcb, hs⟩ := H
  have key : ∀ {g : Nat} {T : TypeId} {cs : Array Value}, Lies wr g T cs → g ≠ B → T ≠ 5 → Lies W' g T cs := fun {g T cs} hL hg hT =>
    hk g _ hL (fun e => hg (Option.some.inj e)) (fun c fz e => by simp at e; exact hT e.2.1)
  exact ⟨⟨X, key hX h3 (by decide), hb⟩, key hl h1 (by decide), A, n, c, key hcb h2 (by decide), hs.keep hok⟩
end

theorem byteCells_snoc (t : Str) (x : UInt8) : Lib.byteCells t ++ [.int .u8 (x.toNat : Int)] = Lib.byteCells (t ++ [x]) := by simp [Lib.byteCells]
theorem byteCells_len (t : Str) : (Lib.byteCells t).length = t.length := by simp [Lib.byteCells]

set_option maxHeartbeats 4000000 in
set_option maxRecDepth 100000 in
theorem encode_any {w : World} {A : Option Addr} {n c : Nat} {b : Str} (hs : Spell w (fun g => g < w.heap.size) A n c b) (hl : n ≤ 10000) : Calls Try.prog 8 #[.slice A n c] w (EncTo b w) := by
  have hbl := spell_len hs
  have hszn : size n ≤ 20000 := by unfold size; omega
  have hbn : size b.length = size n := by rw [hbl]
  have HS := Lib.hid hs
  have HBL := Lib.hid hbl
  have HBN := Lib.hid hbn
  have hsize := fun W => size_any n (by omega) W
  have HSZ := Lib.hid hsize
  have hb1 : Below w.heap.size w (w.alloc (.cells #[.pointer none, .slice none 0 0] 39)) := (Below.refl _ _).alloc (Nat.le_refl _) _
  have hgr := Try.Builder_Grow_fresh w.heap.size w.heap.size (size n) (w.alloc (.cells #[.pointer none, .slice none 0 0] 39)) (Nat.le_refl _) (heap_alloc_new w _) (by simp) (by omega)
  have HGR := Lib.hid hgr
  have HB1 := Lib.hid hb1
  have hsz1 : (w.alloc (.cells #[.pointer none, .slice none 0 0] 39)).heap.size = w.heap.size + 1 := by simp
  have HSZ1 := Lib.hid hsz1
  clear hs hbl hbn hsize hb1 hgr hsz1
  go_enter Try.func8, Try.ntmps8
  go_wp2_with fail
  go_step3
  go_wp2_with fail
  refine (HSZ.out _).mono ?_
  rintro e w' ⟨rfl, rfl⟩
  go_wp2_with fail
  refine HGR.out.mono ?_
  rintro e w2 ⟨rfl, hbu, hbel⟩
  have HBU := Lib.hid hbu
  have hw2 := hbel.size
  have HBE := Lib.hid (HB1.out.trans hbel)
  have hch := fun A' n' c' => chars_any A' n' c' w2
  have HCH := Lib.hid hch
  clear hbu hbel hch
  go_wp2_with fail
  refine (HCH.out _ _ _).mono ?_
  rintro e w3 ⟨rfl, rfl⟩
  have hsp2 : Spell w2 (fun g => g < w.heap.size) A n c b := HS.out.below HBE.out (fun g hg => hg)
  have hsz2 : w.heap.size + 1 ≤ w2.heap.size := by have := HSZ1.out; omega
  have HEI := Lib.hid (show EI w b (w2.heap.size + 1 + 1) w2.heap.size (w2.heap.size + 1) [] 0 0 b (((w2.alloc (.cells #[.slice A n c] 22)).alloc (.cells #[.int .u64 0] 53)).alloc (.cells #[.int .i64 0] 3)) from
    ⟨St.start b, ch_new hsp2 (fun g hg => by show g < _; have : g < w.heap.size := hg; omega), ((Lib.BuilderAtF.of HBU.out).alloc _).alloc _ |>.alloc _, ((HBE.out.alloc (by omega) _).alloc (by simp; omega) _).alloc (by simp; omega) _, by omega, by omega, by omega⟩)
  clear hsp2 hw2 HBU HBE
  generalize ((w2.alloc (.cells #[.slice A n c] 22)).alloc (.cells #[.int .u64 0] 53)).alloc (.cells #[.int .i64 0] 3) = w3 at *
  obtain ⟨bh, hbh⟩ : ∃ bh, bh = w2.heap.size + 1 + 1 := ⟨_, rfl⟩
  obtain ⟨bb, hbb⟩ : ∃ bb, bb = w2.heap.size := ⟨_, rfl⟩
  obtain ⟨bx, hbx⟩ : ∃ bx, bx = w2.heap.size + 1 := ⟨_, rfl⟩
  rw [← hbh, ← hbx, ← hbb] at HEI
  rw [← hbh, ← hbx, ← hbb]
  clear hbh hbb hbx hsz2
  go_wp2_with fail
  go_step3
  go_wp2_with fail
  go_loopg [5] (size n) (fun gh s5 wx => ∃ (t : Str) (h r : Nat) (l : Str), gh + t.length = size n ∧ Hid (EI w b bh bb bx t h r l wx)) 
  case atStart => exact ⟨[], 0, 0, b, rfl, HEI⟩
  case round =>
    clear HEI
    obtain ⟨t, h, r, l, hgh, HE⟩ := hrel
    have hlb := HE.out.st.le
    have htl := HE.out.st.len
    rw [HBL.out] at hlb
    rw [HBN.out] at htl
    have hcall := chars1_any HE.out.ch HE.out.st.held HE.out.st.small HE.out.ok (by omega)
    unfold ChTo at hcall
    cases hn : nxt h r l with
    | some x =>
      obtain ⟨cc, h', r', l'⟩ := x
      obtain ⟨hc64, hst', hroom⟩ := HE.out.st.next hn
      rw [HBN.out] at hroom
      rw [hn] at hcall
      have HCALL := Lib.hid hcall
      have HST := Lib.hid hst'
      clear hcall hst' hn
      go_wp2_with fail
      refine HCALL.out.mono ?_
      rintro e w4 ⟨ht, rfl, hch⟩
      obtain ⟨hbu4, hbe4⟩ := HE.out.turned ht
      have hwb := Try.Builder_WriteByte_k w.heap.size w.heap.size (Lib.byteCells t) ((lt cc).toNat : Int) w4 (.inr hbu4) (by rw [byteCells_len]; omega) hbe4.size
      have HWB := Lib.hid hwb
      have HCH4 := Lib.hid hch
      have HBE4 := Lib.hid hbe4
      clear hwb hch hbe4 hbu4 ht
      go_wp2_with fail
      refine HWB.out.mono ?_
      rintro e w5 ⟨rfl, hbu5, hbel5, hok5⟩
      rw [byteCells_snoc] at hbu5
      have hei : EI w b bh bb bx (t ++ [lt cc]) h' r' l' w5 :=
        ⟨HST.out, ch_others HCH4.out hok5 (by have := HE.out.r1; omega) (by have := HE.out.r2; omega) (by have := HE.out.r3; omega) (fun g hg => hbel5.block g hg), hbu5, HBE4.out.trans hbel5, HE.out.r1, HE.out.r2, HE.out.r3⟩
      have HEI := Lib.hid hei
      clear hbu5 hbel5 hok5 hei
      go_wp2_with fail
      go_roundg (size n - (t.length + 1))
      case measure => omega
      case rel => exact ⟨t ++ [lt cc], h', r', l', by rw [List.length_append]; show _ + (t.length + 1) = _; omega, HEI⟩
    | none =>
      rw [hn] at hcall
      obtain ⟨rfl, rfl⟩ : h = 0 ∧ l = [] := by
        rcases HE.out.st.held with rfl | rfl | rfl | rfl <;> cases l <;> simp [nxt] at hn <;> exact ⟨rfl, rfl⟩
      have HCALL := Lib.hid hcall
      clear hcall hn
      go_wp2_with fail
      refine HCALL.out.mono ?_
      rintro e w4 ⟨ht, rfl, hch⟩
      obtain ⟨hbu4, hbe4⟩ := HE.out.turned ht
      have hlen := Try.Builder_Len_f w.heap.size w.heap.size (Lib.byteCells t) w4 (.inr hbu4)
      rw [byteCells_len] at hlen
      have HLEN := Lib.hid hlen
      have HBU4 := Lib.hid hbu4
      have HCH4 := Lib.hid hch
      have HBE4 := Lib.hid hbe4
      clear hlen hch hbe4 hbu4 ht
      by_cases h4 : t.length % 4 = 0
      · have hm : ((t.length : Int) % 4 == 0) = true := by
          have : (t.length : Int) % 4 = 0 := by omega
          simp [this]
        have HOV := Lib.hid (HE.out.st.over h4)
        clear h4
        go_wp2_with fail
        refine HLEN.out.mono ?_
        rintro e w5 ⟨rfl, rfl⟩
        have hstr := Try.Builder_String_any_f w.heap.size w.heap.size t w5 (.inr HBU4.out) HBE4.out.size
        have HSTR := Lib.hid hstr
        clear hstr
        go_wp2_with fail
        refine HSTR.out.mono ?_
        rintro e w6 ⟨rfl, _, hb6⟩
        have HB6 := Lib.hid (HBE4.out.trans hb6)
        clear hb6
        go_wp2_with fail
        try rw [Exit.noGoto_ret]
        go_ret
        exact ⟨by rw [← HOV.out]; rfl, HB6.out⟩
      · have hm : ((t.length : Int) % 4 == 0) = false := by
          have : (t.length : Int) % 4 ≠ 0 := by omega
          simpa using this
        obtain ⟨hst', hroom⟩ := HE.out.st.pad h4
        rw [HBN.out] at hroom
        have HST := Lib.hid hst'
        clear h4 hst'
        go_wp2_with fail
        refine HLEN.out.mono ?_
        rintro e w5 ⟨rfl, rfl⟩
        have hws := Try.Builder_WriteString_k w.heap.size w.heap.size (Lib.byteCells t) ⟨#[61]⟩ w5 (.inr HBU4.out) (by rw [byteCells_len]; show _ + 1 ≤ _; omega) HBE4.out.size
        have HWS := Lib.hid hws
        clear hws
        go_wp2_with fail
        refine HWS.out.mono ?_
        rintro e w6 ⟨rfl, hbu6, hbel6, hok6⟩
        have hbu7 : Lib.BuilderAtF 39 5 w.heap.size w.heap.size (.pointer (some ⟨w.heap.size, 0, none⟩)) (Lib.byteCells (t ++ [61])) w6 := by
          rw [← byteCells_snoc]; exact hbu6
        have hc0 := HCH4.out
        have hr0 := HE.out.st.zero
        subst hr0
        have hei : EI w b bh bb bx (t ++ [61]) 0 0 [] w6 :=
          ⟨HST.out, ch_others hc0 hok6 (by have := HE.out.r1; omega) (by have := HE.out.r2; omega) (by have := HE.out.r3; omega) (fun g hg => hbel6.block g hg), hbu7, HBE4.out.trans hbel6, HE.out.r1, HE.out.r2, HE.out.r3⟩
        have HEI := Lib.hid hei
        clear hbu6 hbu7 hbel6 hok6 hei hc0
        go_wp2_with fail
        go_roundg (size n - (t.length + 1))
        case measure => omega
        case rel => exact ⟨t ++ [61], 0, 0, [], by rw [List.length_append]; show _ + (t.length + 1) = _; omega, HEI⟩
end Go.Proofs.Ytiloeffnmkcaoaa.sx
