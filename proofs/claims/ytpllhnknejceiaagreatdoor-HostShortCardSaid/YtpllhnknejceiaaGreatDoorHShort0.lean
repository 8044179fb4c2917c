/-
  Given for the seat's laws: words written out, as they lie and as they are joined. No condition but those of the theorems.
-/
import Derived.Test.YtpllhnknejceiaaGreatDoorHBack
namespace Go.Proofs.YtpllhnknejceiaaGreatDoor.hw
open Go.RowKit mem hostp own
set_option linter.unusedVariables false

abbrev HEX : ByteArray := ⟨#[48, 49, 50, 51, 52, 53, 54, 55, 56, 57, 97, 98, 99, 100, 101, 102]⟩
theorem hex_cut (r : Nat) (hr : r < 16) : HEX.extract r (r + 1) = S [dg r] := by
  have h : ∀ k : Fin 16, HEX.extract k.1 (k.1 + 1) = S [dg k.1] := by decide +kernel
  exact h ⟨r, hr⟩
theorem hex_at (r : Nat) (hr : r < 16) (W : World) : (Instr.slice 9 (.string HEX) (some (.int .i64 (r : Int))) (some (.int .i64 ((r : Int) + 1))) none).run Tryz.prog W = .ok (.string (S [dg r])) W := by
  rw [run_slice_string (P := Tryz.prog) (w := W) 9 HEX .i64 .i64 (r : Int) ((r : Int) + 1) Tryz.underlying9 (by omega) (by omega) (by show (r : Int) + 1 ≤ 16; omega)]
  rw [show ((r : Int)).toNat = r by omega, show ((r : Int) + 1).toNat = r + 1 by omega, hex_cut r hr]

/-- eight texts on the way: i of them are there -/
def wcl (l : List Str) (i : Nat) : List Value := (l.take i).map (fun x => Value.string (S x)) ++ List.replicate (8 - i) (.string ⟨#[]⟩)
def wcs (l : List Str) (i : Nat) : Array Value := (wcl l i).toArray
theorem wcs_zero (l : List Str) : wcs l 0 = #[.string ⟨#[]⟩, .string ⟨#[]⟩, .string ⟨#[]⟩, .string ⟨#[]⟩, .string ⟨#[]⟩, .string ⟨#[]⟩, .string ⟨#[]⟩, .string ⟨#[]⟩] := rfl
theorem wcs_new {l : List Str} {i : Nat} (hl : l.length = 8) (hi : i < 8) : (wcs l i)[i]? = some (.string ⟨#[]⟩) := by
  unfold wcs wcl
  rw [List.getElem?_toArray, List.getElem?_append_right (by simp; omega), List.length_map, List.length_take, List.getElem?_replicate, if_pos (by omega)]
theorem wcs_get {l : List Str} {i : Nat} {x : Str} (hl : l.length = 8) (h : l[i]? = some x) : (wcs l 8)[i]? = some (.string (S x)) := by
  unfold wcs wcl
  have hlt := (List.getElem?_eq_some_iff.1 h).1
  rw [List.getElem?_toArray, List.getElem?_append_left (by simp; omega), List.getElem?_map, List.take_of_length_le (by omega), h]
  rfl
theorem wcs_set {l : List Str} {i : Nat} {x : Str} (hl : l.length = 8) (h : l[i]? = some x) : (wcs l i).setIfInBounds i (.string (S x)) = wcs l (i + 1) := by
  unfold wcs wcl
  have hlt := (List.getElem?_eq_some_iff.1 h).1
  rw [List.setIfInBounds_toArray, List.set_append_right _ _ (by simp; omega), List.length_map, List.length_take]
  rw [show i - min i l.length = 0 by omega, show 8 - i = (8 - (i + 1)) + 1 by omega, List.replicate_succ, List.set_cons_zero, List.take_add_one, h]
  simp

theorem join_len4 {a : UInt8} {c : Nat} : ∀ {l : List Str}, (∀ x ∈ l, x.length ≤ c) → (join a l).length ≤ (c + 1) * l.length
  | [], _ => by simp [join]
  | [x], h => by
    have := h x (by simp)
    show x.length ≤ (c + 1) * 1
    omega
  | x :: y :: l, h => by
    have h1 := h x (by simp)
    have h2 := join_len4 (a := a) (l := y :: l) (fun z hz => h z (by simp [List.mem_cons.1 hz]))
    show (x ++ a :: join a (y :: l)).length ≤ _
    rw [List.length_append, List.length_cons]
    rw [show (x :: y :: l).length = (y :: l).length + 1 from rfl, Nat.mul_add]
    omega
theorem out6_len {l : List Str} (h8 : l.length = 8) (h4 : ∀ x ∈ l, x.length ≤ 4) (k m i : Nat) : (out6 l k m i).length ≤ 100 := by
  have hj : ∀ l' : List Str, (∀ x ∈ l', x ∈ l) → l'.length ≤ 8 → (join 58 l').length ≤ 40 := fun l' hs hl => by
    have := join_len4 (a := 58) (c := 4) (l := l') (fun x hx => h4 x (hs x hx))
    omega
  unfold out6
  split
  · have := hj (l.take i) (fun x hx => List.mem_of_mem_take hx) (by simp; omega)
    omega
  · have h1 := hj (l.take k) (fun x hx => List.mem_of_mem_take hx) (by simp; omega)
    have h2 := hj ((l.drop (k + m)).take (i - (k + m))) (fun x hx => List.mem_of_mem_drop (List.mem_of_mem_take hx)) (by simp; omega)
    simp only [List.length_append, List.length_cons]
    omega
theorem out6_in {l : List Str} {k m i : Nat} (hm : 0 < m) (h1 : k < i) (h2 : i ≤ k + m) : out6 l k m i = out6 l k m k ++ [58, 58] := by
  unfold out6
  rw [if_neg (by omega), if_pos (.inr (Nat.le_refl _)), show i - (k + m) = 0 by omega]
  rfl
theorem word_len {v wide : Nat} (hv : v < 65536) (h4 : wide ≤ 4) : (word v wide).length ≤ 4 := by
  have := nz_len hv
  unfold word
  simp
  omega
theorem words_len4 : ∀ {g w : List Nat}, (∀ v ∈ g, v < 65536) → (∀ n ∈ w, n ≤ 4) → ∀ x ∈ words g w, x.length ≤ 4
  | [], [], _, _, x, hx => by simp [words] at hx
  | [], n :: w, _, _, x, hx => by simp [words] at hx
  | v :: g, [], _, _, x, hx => by simp [words] at hx
  | v :: g, n :: w, hg, hw, x, hx => by
    rcases List.mem_cons.1 (show x ∈ word v n :: words g w from hx) with rfl | hx
    · exact word_len (hg v (by simp)) (hw n (by simp))
    · exact words_len4 (fun u hu => hg u (by simp [hu])) (fun u hu => hw u (by simp [hu])) x hx
theorem words_len : ∀ {g w : List Nat}, g.length = w.length → (words g w).length = g.length
  | [], [], _ => rfl
  | v :: g, n :: w, h => by
    show (words g w).length + 1 = g.length + 1
    rw [words_len (by simpa using h)]
  | [], n :: w, h => by simp at h
  | v :: g, [], h => by simp at h

/-- eight bytes as they lie -/
def bc (l : List Nat) : Array Value := (l.map fun v : Nat => Value.int .u8 ((v : Nat) : Int)).toArray
theorem bc_get {l : List Nat} {i v : Nat} (h : l[i]? = some v) : (bc l)[i]? = some (.int .u8 (v : Int)) := by simp [bc, h]
theorem gc_at {l : List Nat} {i v : Nat} (h : l[i]? = some v) : (gc l)[i]? = some (.int .u16 (v : Int)) := by simp [gc, h]

/-- what lies there all the way -/
structure SW (w : World) (bg bw bh : Nat) (gl wl : List Nat) (want : ByteArray) (wr : World) : Prop where
  g : Lies wr bg 48 (gc gl)
  wd : Lies wr bw 49 (bc wl)
  want : Lies wr bh 23 #[.int .u8 2, .string want]
  below : Below w.heap.size w wr
section
variable {w wr w2 : World} {bg bw bh : Nat} {gl wl : List Nat} {want : ByteArray}
theorem SW.fresh (h : SW w bg bw bh gl wl want wr) (hb : Below wr.heap.size wr w2) : SW w bg bw bh gl wl want w2 :=
  ⟨h.g.below hb h.g.lt, h.wd.below hb h.wd.lt, h.want.below hb h.want.lt, h.below.trans (hb.mono h.below.size)⟩
theorem SW.far (h : SW w bg bw bh gl wl want wr) {b i : Nat} (h1 : bg < b) (h2 : bw < b) (h3 : bh < b) (h4 : w.heap.size ≤ b) (u : Value) : SW w bg bw bh gl wl want (wr.setCell ⟨b, i, none⟩ u) :=
  ⟨h.g.far (p := ⟨b, i, none⟩) (by show bg ≠ b; omega) u, h.wd.far (p := ⟨b, i, none⟩) (by show bw ≠ b; omega) u, h.want.far (p := ⟨b, i, none⟩) (by show bh ≠ b; omega) u, h.below.setCell (p := ⟨b, i, none⟩) h4 u⟩
end
end Go.Proofs.YtpllhnknejceiaaGreatDoor.hw
