/-
  Given for the seat's laws: a health table as it lies in memory, and what a call keeps of it. No condition but those of the theorems.
-/
import Derived.Test.YtpidjekabnnmcaaQRound
import Derived.Test.YtpidjekabnnmcaaHPure
import Derived.Test.YtpidjekabnnmcaaHCfg
import Derived.Test.YtpidjekabnnmcaaHNil0
import Derived.Test.YtpidjekabnnmcaaQuietT
import Derived.Test.YtpidjekabnnmcaaBBad
import Derived.Test.YtpidjekabnnmcaaBTry
import Derived.Test.YtpidjekabnnmcaaWBad
namespace Go.Proofs.Ytpidjekabnnmcaa.hp
open Go.RowKit mem find pb
set_option linter.unusedVariables false

/-- whose record it is: name, host, port, proto -/
structure PK where
  nm : ByteArray
  kd : Int
  tx : ByteArray
  po : Int
  pr : Int
deriving DecidableEq
abbrev PaD.pk (x : PaD) : PK := ⟨x.nm, x.kd, x.tx, x.po, x.pr⟩
/-- a record: its key, whose it is, its window, its breaker -/
structure RD where
  key : Int
  pa : PK
  wi : Nat
  br : bk.Bk
/-- a health table -/
structure HD where
  now : Int
  fails : Int
  cool : Int
  R : List RD
  last : Int
  ev : Int
  Q : List (Int × Int)
abbrev rcs (x : RD) : Array Value := #[.int .i64 x.key, .string x.pa.nm, .int .u8 x.pa.kd, .string x.pa.tx, .int .i64 x.pa.po, .int .u8 x.pa.pr, .int .u16 (x.wi : Int), .bool x.br.op, .int .i64 x.br.si, .int .i64 x.br.sp, .bool x.br.tr]
abbrev bp (b : Nat) : Value := .pointer (some ⟨b, 0, none⟩)
abbrev hcs (r : Nat) (D : HD) (A : Option Addr) (n c q : Nat) : Array Value := #[bp r, .int .i64 D.now, .int .i64 D.fails, .int .i64 D.cool, .slice A n c, .int .i64 D.last, bp q]

/-- a row of records' pointers -/
abbrev PRow (w : World) (A : Option Addr) (c : Nat) (bs : List Nat) : Prop := w.ownsRow 0 73 1 (.slice A bs.length c) bs.length (bs.map bp)
theorem PRow.cell {w : World} {A : Option Addr} {c : Nat} {bs : List Nat} (h : PRow w A c bs) (hp : 0 < bs.length) :
    ∃ g, A = some ⟨g, 0, none⟩ ∧ g < w.heap.size ∧ rowOf A = some g ∧ ∀ (i b : Nat), bs[i]? = some b → w.cell? ⟨g, i, none⟩ = some (bp b) := by
  rcases h.2 with ⟨he, h0⟩ | ⟨g, cap, cur, he, hb, hg, hn, hm, hs, ht⟩
  · omega
  · simp only [Value.slice.injEq] at he
    obtain ⟨rfl, _, rfl⟩ := he
    refine ⟨g, rfl, (Array.getElem?_eq_some_iff.1 hg).1, rfl, fun i b hi => ?_⟩
    have hv : (bs.map bp)[i]? = some (bp b) := by rw [List.getElem?_map, hi]; rfl
    rw [← ht, List.getElem?_take] at hv
    split at hv
    · simp [World.cell?, hg]
      simpa using hv
    · cases hv
theorem prow_apart {w : World} {A : Option Addr} {c : Nat} {bs : List Nat} (h : PRow w A c bs) {g g' : Nat} {t : TypeId} {cs : Array Value} (hg : rowOf A = some g) (hl : Lies w g' t cs) (hne : t ≠ 73) : g ≠ g' := by
  rcases h.2 with ⟨he, h0⟩ | ⟨g1, cap, cur, he, hb, hgg, _⟩
  · simp only [Value.slice.injEq] at he
    obtain ⟨rfl, _, rfl⟩ := he
    simp [rowOf, Value.ownBlock] at hg
  · simp only [Value.slice.injEq] at he
    obtain ⟨rfl, _, rfl⟩ := he
    simp [rowOf, Value.ownBlock] at hg
    subst hg
    rintro rfl
    unfold Lies at hl
    rw [hgg] at hl
    simp at hl
    exact hne hl.2.symm
theorem prow_lt {w : World} {A : Option Addr} {c : Nat} {bs : List Nat} (h : PRow w A c bs) {g : Nat} (hg : rowOf A = some g) : g < w.heap.size := by
  rcases h.2 with ⟨he, h0⟩ | ⟨g1, cap, cur, he, hb, hgg, _⟩
  · simp only [Value.slice.injEq] at he
    obtain ⟨rfl, _, rfl⟩ := he
    simp [rowOf, Value.ownBlock] at hg
  · simp only [Value.slice.injEq] at he
    obtain ⟨rfl, _, rfl⟩ := he
    simp [rowOf, Value.ownBlock] at hg
    subst hg
    exact (Array.getElem?_eq_some_iff.1 hgg).1
theorem PRow.same {w w' : World} {A : Option Addr} {c : Nat} {bs : List Nat} (h : PRow w A c bs) (hs : ∀ g, rowOf A = some g → w'.heap[g]? = w.heap[g]?) : PRow w' A c bs := by
  refine ⟨h.1, ?_⟩
  rcases h.2 with h0 | ⟨g, cap, cur, hv, hb, hh, rest⟩
  · exact .inl h0
  · refine .inr ⟨g, cap, cur, hv, hb, ?_, rest⟩
    have e : A = some ⟨g, 0, none⟩ := by simp only [Value.slice.injEq] at hv; exact hv.1
    exact (hs g (by rw [e]; rfl)).trans hh

/-- records as they lie -/
structure Recs (w : World) (S : Nat → Prop) (bs : List Nat) (R : List RD) : Prop where
  len : bs.length = R.length
  nod : bs.Nodup
  at_ : ∀ (i b : Nat) (x : RD), bs[i]? = some b → R[i]? = some x → Lies w b 79 (rcs x)
  own : ∀ b, b ∈ bs → S b
theorem Recs.get {w : World} {S : Nat → Prop} {bs : List Nat} {R : List RD} (h : Recs w S bs R) {i : Nat} {x : RD} (hx : R[i]? = some x) : ∃ b, bs[i]? = some b ∧ Lies w b 79 (rcs x) ∧ S b := by
  have hi := (List.getElem?_eq_some_iff.1 hx).1
  rw [← h.len] at hi
  exact ⟨bs[i], List.getElem?_eq_getElem hi, h.at_ i _ x (List.getElem?_eq_getElem hi) hx, h.own _ (List.getElem_mem hi)⟩
theorem Recs.lies {w : World} {S : Nat → Prop} {bs : List Nat} {R : List RD} (h : Recs w S bs R) {b : Nat} (hb : b ∈ bs) : ∃ x, Lies w b 79 (rcs x) := by
  obtain ⟨i, hi⟩ := List.getElem?_of_mem hb
  have hl := (List.getElem?_eq_some_iff.1 hi).1
  rw [h.len] at hl
  exact ⟨_, h.at_ i b _ hi (List.getElem?_eq_getElem hl)⟩
theorem Recs.same {w w' : World} {S : Nat → Prop} {bs : List Nat} {R : List RD} (h : Recs w S bs R) (hs : ∀ b, b ∈ bs → w'.heap[b]? = w.heap[b]?) : Recs w' S bs R :=
  ⟨h.len, h.nod, fun i b x hb hx => (h.at_ i b x hb hx).of_same (hs b (List.mem_of_getElem? hb)), h.own⟩
/-- one record turned -/
theorem Recs.turn {w w' : World} {S : Nat → Prop} {bs : List Nat} {R : List RD} (h : Recs w S bs R) {k b : Nat} {x : RD} (hb : bs[k]? = some b) (hl : Lies w' b 79 (rcs x)) (hs : ∀ g, g ∈ bs → g ≠ b → w'.heap[g]? = w.heap[g]?) : Recs w' S bs (R.set k x) := by
  refine ⟨by rw [List.length_set]; exact h.len, h.nod, fun i g y hg hy => ?_, h.own⟩
  rw [List.getElem?_set] at hy
  by_cases e : k = i
  · subst e
    rw [hb] at hg
    cases hg
    rw [if_pos rfl] at hy
    split at hy
    · cases hy; exact hl
    · cases hy
  · rw [if_neg e] at hy
    refine (h.at_ i g y hg hy).of_same (hs g (List.mem_of_getElem? hg) (fun eg => ?_))
    subst eg
    exact e ((List.getElem?_inj (List.getElem?_eq_some_iff.1 hb).1 h.nod).1 (hb.trans hg.symm))

/-- a health table as it lies: its block, its row, its plan, its records' blocks; S: the blocks that may be its own -/
structure Hx (w : World) (S : Nat → Prop) (r : Nat) (D : HD) (A : Option Addr) (c q : Nat) (bs : List Nat) : Prop where
  hd : Lies w r 35 (hcs r D A D.R.length c q)
  row : PRow w A c bs
  rowS : ∀ g, rowOf A = some g → S g
  recs : Recs w S bs D.R
  pn : pl.Pn w S q D.ev D.Q
  own : S r
structure Hn (w : World) (S : Nat → Prop) (r : Nat) (D : HD) : Prop where
  ex : ∃ A c q bs, Hx w S r D A c q bs

section
variable {w w' : World} {S S' T : Nat → Prop} {r c q : Nat} {D D' : HD} {A : Option Addr} {bs : List Nat}
theorem Hx.mono (h : Hx w S r D A c q bs) (hs : ∀ g, S g → S' g) : Hx w S' r D A c q bs :=
  ⟨h.hd, h.row, fun g e => hs g (h.rowS g e), ⟨h.recs.len, h.recs.nod, h.recs.at_, fun b hb => hs b (h.recs.own b hb)⟩, h.pn.mono hs, hs r h.own⟩
theorem Hx.keep (h : Hx w S r D A c q bs) (hk : Keep w.heap.size T w w') (hd : ∀ g, g < w.heap.size → S g → ¬ T g) : Hx w' S r D A c q bs := by
  refine ⟨h.hd.keep hk h.hd.lt (hd _ h.hd.lt h.own), h.row.same fun g e => hk.block g (prow_lt h.row e) (hd g (prow_lt h.row e) (h.rowS g e)), h.rowS, h.recs.same fun b hb => ?_, h.pn.keep hk hd, h.own⟩
  obtain ⟨x, hl⟩ := h.recs.lies hb
  exact hk.block b hl.lt (hd b hl.lt (h.recs.own b hb))
theorem Hx.below (h : Hx w S r D A c q bs) (hb : Below w.heap.size w w') : Hx w' S r D A c q bs := h.keep (Keep.of_below hb (fun _ => False)) (fun _ _ _ hf => hf)
theorem Hx.len (h : Hx w S r D A c q bs) : bs.length = D.R.length := h.recs.len
theorem Hn.keep (h : Hn w S r D) (hk : Keep w.heap.size T w w') (hd : ∀ g, g < w.heap.size → S g → ¬ T g) : Hn w' S r D := by
  obtain ⟨A, c, q, bs, hx⟩ := h.ex
  exact ⟨A, c, q, bs, hx.keep hk hd⟩
theorem Hn.below (h : Hn w S r D) (hb : Below w.heap.size w w') : Hn w' S r D := by
  obtain ⟨A, c, q, bs, hx⟩ := h.ex
  exact ⟨A, c, q, bs, hx.below hb⟩
theorem Hn.mono (h : Hn w S r D) (hs : ∀ g, S g → S' g) : Hn w S' r D := by
  obtain ⟨A, c, q, bs, hx⟩ := h.ex
  exact ⟨A, c, q, bs, hx.mono hs⟩
theorem Hn.bounded (h : Hn w S r D) : Hn w (fun g => S g ∧ g < w.heap.size) r D := by
  obtain ⟨A, c, q, bs, hx⟩ := h.ex
  refine ⟨A, c, q, bs, hx.hd, hx.row, fun g e => ⟨hx.rowS g e, prow_lt hx.row e⟩, ⟨hx.recs.len, hx.recs.nod, hx.recs.at_, fun b hb => ⟨hx.recs.own b hb, ?_⟩⟩, hx.pn.bounded, hx.own, hx.hd.lt⟩
  obtain ⟨x, hl⟩ := hx.recs.lies hb
  exact hl.lt
theorem Hn.lt (h : Hn w S r D) : r < w.heap.size := by obtain ⟨A, c, q, bs, hx⟩ := h.ex; exact hx.hd.lt

/-- what a call leaves that turns the table -/
structure Hid_ (S : Nat → Prop) (r : Nat) (D : HD) (w w' : World) : Prop where
  hn : Hn w' (fun g => S g ∨ w.heap.size ≤ g) r D
  keep : Keep w.heap.size S w w'

/-- a record turned: nothing else of the table -/
theorem Hx.turn (h : Hx w S r D A c q bs) {k b : Nat} {x : RD} (hb : bs[k]? = some b) (hl : Lies w' b 79 (rcs x)) (hk : Keep w.heap.size (fun g => g = b) w w') :
    Hx w' S r { D with R := D.R.set k x } A c q bs ∧ Keep w.heap.size S w w' := by
  obtain ⟨y, hy⟩ := h.recs.lies (List.mem_of_getElem? hb)
  have hbS := h.recs.own b (List.mem_of_getElem? hb)
  have n1 : r ≠ b := h.hd.apart hy (by decide)
  have same : ∀ g, g < w.heap.size → g ≠ b → w'.heap[g]? = w.heap[g]? := fun g hg hne => hk.block g hg hne
  refine ⟨⟨?_, h.row.same fun g e => same g (prow_lt h.row e) (prow_apart h.row e hy (by decide)), h.rowS, h.recs.turn hb hl fun g hg hne => ?_, ?_, h.own⟩, hk.mono (Nat.le_refl _) (fun g _ e => by subst e; exact hbS)⟩
  · show Lies w' r 35 (hcs r _ A (D.R.set k x).length c q)
    rw [List.length_set]
    exact h.hd.of_same (same r h.hd.lt n1)
  · obtain ⟨z, hz⟩ := h.recs.lies hg
    exact same g hz.lt hne
  · obtain ⟨A1, c1, p1, p2, p3⟩ := h.pn.ex
    exact ⟨⟨A1, c1, p1.of_same (same q p1.lt (p1.apart hy (by decide))), find.RowsAt.of_same p2 (fun g e => same g (by rw [find.rowOf_eq] at e; exact pl.own_lt p2 e) (by rw [find.rowOf_eq] at e; exact pl.own_apart p2 e hy (by decide))), p3⟩, h.pn.own, h.pn.asc, h.pn.len, h.pn.lo, h.pn.hi⟩
end
end Go.Proofs.Ytpidjekabnnmcaa.hp
