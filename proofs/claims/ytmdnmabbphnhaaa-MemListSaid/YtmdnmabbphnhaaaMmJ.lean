/- Puts of which each may be, put one by one. No function is named. -/
import Derived.Test.YtmdnmabbphnhaaaMmI
namespace Go.Proofs.Ytmdnmabbphnhaaa.Mm
open Go Go.RowKit Go.Proofs.Ytmdnmabbphnhaaa.Sk Go.Proofs.Ytmdnmabbphnhaaa.Sm
set_option linter.unusedVariables false

abbrev entsQ (u : List Pu) : List Ent := u.map (·.e)
theorem alike_symm {x y : Pu} (h : ¬ alikeQ x y) : ¬ alikeQ y x := fun e => h ⟨e.1.symm, e.2.symm⟩
theorem Unlike.rev {l u : List Pu} (h : Unlike l u) : Unlike l u.reverse :=
  ⟨fun x hx => h.sub x (List.mem_reverse.1 hx), fun x hx => h.good x (List.mem_reverse.1 hx), by
    rw [List.pairwise_reverse]
    exact List.Pairwise.imp (fun h => alike_symm h) h.one, by rw [List.length_reverse]; exact h.few⟩
theorem Unlike.of {l u v : List Pu} (h : Unlike l u) (hv : v.Sublist u) : Unlike l v :=
  ⟨fun x hx => h.sub x (hv.subset hx), fun x hx => h.good x (hv.subset hx), h.one.sublist hv, Nat.le_trans hv.length_le h.few⟩
theorem Has.ents_mem {base m : Nat} {w : World} {s r : List (It Ent)} (h : Has base w m s r) (e : Ent) : e ∈ ents r ↔ e ∈ ents s := by
  obtain ⟨M, _, h1, _⟩ := h
  exact h1.mem_ents e
/-- One more of them. -/
theorem fill_step {l u : List Pu} (hu : Unlike l u) {s r : List (It Ent)} (hp : Placed s) (hm : ∀ e, e ∈ ents r ↔ e ∈ ents s) {k : Nat} {x : Pu} (hx : u[k]? = some x) (hf : Fit x.e) (he : ents r = entsQ (u.take k)) (H : Int) :
    putE x.e s = 0 ∧ ents (putR x.e H s r) = entsQ (u.take (k + 1)) := by
  have hk := (List.getElem?_eq_some_iff.1 hx).1
  have hsplit : u.take (k + 1) = u.take k ++ [x] := by rw [List.take_add_one, hx]; rfl
  have hnone : Sk.find (placeE x.e) s = none := by
    rw [find_place hp hf.seq]
    rintro f hfs ⟨e1, e2⟩
    rw [← hm, he] at hfs
    obtain ⟨y, hy, rfl⟩ := List.mem_map.1 hfs
    have h1 : (u.take k ++ [x]).Pairwise fun x y => ¬ alikeQ x y := by rw [← hsplit]; exact hu.one.sublist (List.take_sublist _ _)
    exact (List.pairwise_append.1 h1).2.2 y hy x (by simp) ⟨e1, e2⟩
  have h0 : putE x.e s = 0 := by
    unfold putE
    rw [if_neg (by rw [hu.good x (List.mem_of_getElem? hx)]; decide), hnone]
    rfl
  refine ⟨h0, ?_⟩
  unfold putR
  rw [if_pos h0, hsplit]
  simp only [ents, List.map_append, entsQ] at he ⊢
  rw [he]
  rfl
theorem len_of_ents {r : List (It Ent)} {u : List Pu} {k : Nat} (he : ents r = entsQ (u.take k)) (hk : k ≤ u.length) : r.length = k := by
  have h1 := congrArg List.length he
  simp only [ents, entsQ, List.length_map, List.length_take] at h1
  omega
theorem range_nil (s : List (It Ent)) : rangeL s [] [] = ents s := by
  unfold rangeL
  rw [List.filter_eq_self]
  intro e _
  unfold inR okTo
  rw [lt_nil]
  rfl
theorem ents_get {s : List (It Ent)} {i : Nat} {y : It Ent} (h : s[i]? = some y) : (ents s)[i]? = some y.val := by
  unfold ents
  rw [List.getElem?_map, h]
  rfl
/-- A row of entries that is the call's own, read. -/
theorem OwnsE.get {w : World} {base : Nat} {v : Value} {l : List Ent} (h : OwnsE w base v l) {i : Nat} {e : Ent} (hi : l[i]? = some e) : ∃ g cap, v = .slice (some ⟨g, 0, none⟩) l.length cap ∧ base ≤ g ∧ g < w.heap.size ∧ i < l.length ∧ (∀ k, w.frozen? ⟨g, k, none⟩ = false) ∧
    w.cell? ⟨g, i * 4, none⟩ = some (.string e.key) ∧ w.cell? ⟨g, i * 4 + 1, none⟩ = some (.string e.val) ∧ w.cell? ⟨g, i * 4 + 2, none⟩ = some (.int .u64 (e.seq : Int)) ∧ w.cell? ⟨g, i * 4 + 3, none⟩ = some (.bool e.gone) := by
  have hl := (List.getElem?_eq_some_iff.1 hi).1
  obtain ⟨g, cap, hv, _, hg, hbg, hfz, hc⟩ := row_shape h (by omega)
  have hget : ∀ c, c < 4 → (rowCells l)[i * 4 + c]? = (entCells e)[c]? := fun c hc => flat_get (f := entCells) (z := 4) (fun _ => rfl) l i c e hi hc
  refine ⟨g, cap, hv, hbg, hg, hl, hfz, hc _ _ ?_, hc _ _ ?_, hc _ _ ?_, hc _ _ ?_⟩
  · have := hget 0 (by omega)
    rw [Nat.add_zero] at this
    rw [this]; rfl
  · rw [hget 1 (by omega)]; rfl
  · rw [hget 2 (by omega)]; rfl
  · rw [hget 3 (by omega)]; rfl
end Go.Proofs.Ytmdnmabbphnhaaa.Mm
