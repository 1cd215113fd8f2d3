/- The walks of List.node, links, isAt over a list that lies in memory. -/
import Derived.Test.YtmdnmabbphnhaaaSmHeap
import Derived.Deep.RegionHeld3
import Derived.Deep.QuietTactic
namespace Go.Proofs.Ytmdnmabbphnhaaa.Sm
open Go.Proofs.Ytmdnmabbphnhaaa.Sk
open Go Go.RowKit
set_option linter.unusedVariables false

/-- A text of a key. -/
def txt (k : Str) : ByteArray := ⟨k.toArray⟩
abbrev cvS (v : Ent) : Ent := v
abbrev ListS := Lies cvS
/-- The node at a place. -/
theorem nodeAt_half {w : World} {L : Lay} {r : List (It Ent)} (h : Half cvS w L r) {y : It Ent} (hy : y ∈ r) :
    ∃ g i, Calls Try.prog 34 #[.pointer (some ⟨L.b, 0, none⟩), .int .i64 (plc (keys r) y.key : Int)] w (fun e w' => e = .returned (.pointer (some ⟨g, i * 6, none⟩)) ∧ w' = w) ∧
      w.cell? ⟨g, i * 6, none⟩ = some (.string (txt y.key)) ∧ (w.cell? ⟨g, i * 6 + 1, none⟩ = some (.string y.val.key) ∧ w.cell? ⟨g, i * 6 + 2, none⟩ = some (.string y.val.val) ∧ w.cell? ⟨g, i * 6 + 3, none⟩ = some (.int .u64 (y.val.seq : Int)) ∧ w.cell? ⟨g, i * 6 + 4, none⟩ = some (.bool y.val.gone)) ∧ w.cell? ⟨g, i * 6 + 5, none⟩ = some (.slice (some ⟨L.loc y.key, 0, none⟩) y.h y.h) ∧ w.frozen? ⟨g, i * 6 + 1, none⟩ = false ∧ L.vec.ownBlock = some g ∧ r[i]? = some y := by
  obtain ⟨g, cap, i, hv, hp, hi, hri, h0, h1, h2⟩ := h.node hy
  have hvec := h.vec
  have hf := h.few
  have hfz : w.frozen? ⟨g, i * 6 + 1, none⟩ = false := by
    obtain ⟨cs, e⟩ := ownsRow_obj h.row (b := g) (by rw [hv]; rfl)
    exact unfrozen_of e _
  refine ⟨g, i, ?_, h0, h1, h2, hfz, by rw [hv]; rfl, hri⟩
  rw [hp]
  rw [hv] at hvec
  have hf2 : (i : Int) < 100001 := by omega
  have hn : (i : Int) < r.length := by omega
  have hsub : ((i + 1 : Nat) : Int) - 1 = i := by omega
  generalize r.length = n at *
  clear hp h0 h1 h2 hv hfz hri hy h
  go_enter Try.func34, Try.ntmps34
  go_wp2_with fail
  go_ret
  exact ⟨rfl, rfl⟩
theorem nodeAt_any {w : World} {L : Lay} {s r : List (It Ent)} (h : ListS w L s r) {y : It Ent} (hy : y ∈ s) :
    ∃ g i, Calls Try.prog 34 #[.pointer (some ⟨L.b, 0, none⟩), .int .i64 (plc (keys r) y.key : Int)] w (fun e w' => e = .returned (.pointer (some ⟨g, i * 6, none⟩)) ∧ w' = w) ∧
      w.cell? ⟨g, i * 6, none⟩ = some (.string (txt y.key)) ∧ (w.cell? ⟨g, i * 6 + 1, none⟩ = some (.string y.val.key) ∧ w.cell? ⟨g, i * 6 + 2, none⟩ = some (.string y.val.val) ∧ w.cell? ⟨g, i * 6 + 3, none⟩ = some (.int .u64 (y.val.seq : Int)) ∧ w.cell? ⟨g, i * 6 + 4, none⟩ = some (.bool y.val.gone)) ∧ w.cell? ⟨g, i * 6 + 5, none⟩ = some (.slice (some ⟨L.loc y.key, 0, none⟩) y.h y.h) ∧ w.frozen? ⟨g, i * 6 + 1, none⟩ = false ∧ L.vec.ownBlock = some g ∧ r[i]? = some y :=
  nodeAt_half h.half ((h.kin.mem y).1 hy)

/-- Where the rows go on behind a node. -/
theorem linksAt_half {w : World} {L : Lay} {r : List (It Ent)} (h : Half cvS w L r) {y : It Ent} (hy : y ∈ r) :
    Calls Try.prog 32 #[.pointer (some ⟨L.b, 0, none⟩), .int .i64 (plc (keys r) y.key : Int)] w fun e w' => e = .returned (.slice (some ⟨L.loc y.key, 0, none⟩) y.h y.h) ∧ w' = w := by
  obtain ⟨g, i, hc, h0, h1, h2, _, _, _⟩ := nodeAt_half h hy
  have hp := plc_pos (keys r) y.key
  have hne : ¬ ((plc (keys r) y.key : Nat) : Int) = 0 := by omega
  have HC := Lib.hid hc; clear hc
  generalize plc (keys r) y.key = p at *
  clear h0 h1 h hy
  go_enter Try.func32, Try.ntmps32
  go_wp2_with fail
  refine HC.out.mono ?_
  rintro e w1 ⟨rfl, rfl⟩
  go_wp2_with fail
  go_ret
  exact ⟨rfl, rfl⟩
theorem linksAt_any {w : World} {L : Lay} {s r : List (It Ent)} (h : ListS w L s r) {y : It Ent} (hy : y ∈ s) :
    Calls Try.prog 32 #[.pointer (some ⟨L.b, 0, none⟩), .int .i64 (plc (keys r) y.key : Int)] w fun e w' => e = .returned (.slice (some ⟨L.loc y.key, 0, none⟩) y.h y.h) ∧ w' = w := linksAt_half h.half ((h.kin.mem y).1 hy)

/-- .. and where they begin. -/
theorem linksNone_any (w : World) (b : Nat) :
    Calls Try.prog 32 #[.pointer (some ⟨b, 0, none⟩), .int .i64 0] w fun e w' => e = .returned (.slice (some ⟨b, 1, none⟩) 12 12) ∧ w' = w := by
  go_enter Try.func32, Try.ntmps32
  go_wp2_with fail
  go_ret
  exact ⟨rfl, rfl⟩

theorem txt_list (k : Str) : (txt k).toList = k := by rw [ByteArray.toList_eq]; rfl
/-- Is a key at a place? -/
theorem isAt_any {w : World} {L : Lay} {s r : List (It Ent)} (h : ListS w L s r) {y : It Ent} (hy : y ∈ s) (K : ByteArray) :
    Calls Try.prog 36 #[.pointer (some ⟨L.b, 0, none⟩), .int .i64 (plc (keys r) y.key : Int), .string K] w fun e w' => e = .returned (.bool (y.key == K.data.toList)) ∧ w' = w := by
  obtain ⟨g, i, hc, h0, h1, h2, _, _, _⟩ := nodeAt_any h hy
  have hp := plc_pos (keys r) y.key
  have hl := h.plc_le hy
  have hne : ¬ ((plc (keys r) y.key : Nat) : Int) = 0 := by omega
  have HC := Lib.hid hc; clear hc
  have HE : Hid ((((plc (keys r) y.key : Nat) : Int) != 0 && (txt y.key).toList == K.toList) = (y.key == K.data.toList)) := Lib.hid (by
    rw [txt_list, ByteArray.toList_eq]
    simp
    omega)
  generalize plc (keys r) y.key = p at *
  clear h1 h2 h hy
  go_enter Try.func36, Try.ntmps36
  go_wp2_with fail
  refine HC.out.mono ?_
  rintro e w1 ⟨rfl, rfl⟩
  go_wp2_with fail
  go_ret
  exact ⟨congrArg (fun b => Ending.returned (.bool b)) HE.out, rfl⟩

theorem isNone_any (w : World) (l : Value) (K : ByteArray) :
    Calls Try.prog 36 #[l, .int .i64 0, .string K] w fun e w' => e = .returned (.bool false) ∧ w' = w := by
  go_enter Try.func36, Try.ntmps36
  go_wp2_with fail
  go_ret
  exact ⟨rfl, rfl⟩

theorem less_eq : ∀ a b : List UInt8, Op.bytesLess a b = bytesBefore a b
  | [], [] => rfl
  | [], _ :: _ => rfl
  | _ :: _, [] => rfl
  | a :: r, b :: s => by
    have := less_eq r s
    simp only [Op.bytesLess, bytesBefore, this]
theorem shape_of {s : List (It Ent)} {A B : Sh} {p : Str × Nat} (e : shape s = A ++ p :: B) : ∃ y ∈ s, p = (y.key, y.h) := shape_mem (s := s) (p := p) (by rw [e]; simp)
/-- Where the rows go on behind the last one of a beginning. -/
theorem links_any {w : World} {L : Lay} {s r : List (It Ent)} (h : ListS w L s r) {A B : Sh} (e : shape s = A ++ B) :
    ∃ g off n, Calls Try.prog 32 #[.pointer (some ⟨L.b, 0, none⟩), .int .i64 (plo (keys r) A.getLast? : Int)] w (fun e w' => e = .returned (.slice (some ⟨g, off, none⟩) n n) ∧ w' = w) ∧
      (g = L.b ∧ off = 1 ∧ n = 12 ∧ A = [] ∨ ∃ y ∈ s, g = L.loc y.key ∧ off = 0 ∧ n = y.h ∧ A.getLast? = some (y.key, y.h)) ∧
      ∀ j, (∀ y, A.getLast? = some y → j < y.2) → j < 12 → j < n ∧ w.cell? ⟨g, off + j, none⟩ = some (.int .i64 (nxt (keys r) j B : Int)) := by
  rcases List.eq_nil_or_concat A with rfl | ⟨A', p, rfl⟩
  · refine ⟨L.b, 1, 12, linksNone_any w L.b, Or.inl ⟨rfl, rfl, rfl, rfl⟩, fun j _ hj => ⟨hj, ?_⟩⟩
    have := h.first hj
    rw [e] at this
    exact this
  · have e2 : shape s = A' ++ p :: B := by rw [e]; simp
    obtain ⟨y, hy, rfl⟩ := shape_of e2
    have hl : (A'.concat (y.key, y.h)).getLast? = some (y.key, y.h) := by simp
    rw [hl]
    refine ⟨L.loc y.key, 0, y.h, linksAt_any h hy, Or.inr ⟨y, hy, rfl, rfl, rfl, rfl⟩, fun j hj _ => ?_⟩
    have hj' := hj _ rfl
    refine ⟨hj', ?_⟩
    rw [Nat.zero_add]
    exact h.link e2 hj'

end Go.Proofs.Ytmdnmabbphnhaaa.Sm
