/- One more key in a list: the beginning, and a level's step. -/
import Derived.Test.YtmdnmabbphnhaaaSmE
namespace Go.Proofs.Ytmdnmabbphnhaaa.Sm
open Go.Proofs.Ytmdnmabbphnhaaa.Sk
open Go Go.RowKit
set_option linter.unusedVariables false

section
variable {w w' : World} {L : Lay} {A B r : List (It Ent)} {x : It Ent} {T j : Nat} {v : Value}
theorem Mid.start (h : ListS w L (A ++ B) r) (F : Fixed L A B r x T) (hbox : w'.heap[L.b]? = some (.cells (v :: tow (keys r) 12 (shape (A ++ B))).toArray 68 (0, 0)))
    (hrow : w'.ownsRow 0 77 6 v (r ++ [x]).length ((r ++ [x]).flatMap (nodeCells cvS (loc' L x.key T)))) (hT : w'.heap[T]? = some (.cells (List.replicate x.h (.int .i64 0)).toArray 3 (0, 0)))
    (hk : ∀ y ∈ A ++ B, w'.heap[L.loc y.key]? = w.heap[L.loc y.key]?) : Mid cvS w' L A B r x T v 0 := by
  have hold : ∀ (C D : List (It Ent)) l, A ++ B = C ++ D → nxt (keys (r ++ [x])) l (shape D) = nxt (keys r) l (shape D) := fun C D l e => by
    refine nxt_keys fun y hy => ?_
    rw [keys_append]
    exact plc_old (h.keys_in (A := shape C) (by rw [e, shape_append]) y hy)
  refine ⟨?_, hrow, fun C y D e => ?_, fun C y D e => ?_, ?_⟩
  · rw [hbox]
    rw [tow_congr (ks' := keys (r ++ [x])) (B' := shape A ++ (x.key, 0) :: shape B) fun l hl => ?_]
    rw [nxt_skip (Nat.not_lt_zero l), ← shape_append, hold [] (A ++ B) l rfl]
  · rw [hk y (by rw [e]; simp), h.tower (shape C) y.key y.h (shape (D ++ B)) (by rw [e]; simp [shape])]
    rw [tow_congr (ks' := keys (r ++ [x])) (B' := shape D ++ (x.key, 0) :: shape B) fun l hl => ?_]
    rw [nxt_skip (Nat.not_lt_zero l), ← shape_append, hold (C ++ [y]) (D ++ B) l (by rw [e]; simp)]
  · rw [hk y (by rw [e]; simp), h.tower (shape (A ++ C)) y.key y.h (shape D) (by rw [e]; simp [shape])]
    rw [tow_congr (ks' := keys (r ++ [x])) (B' := shape D) fun l hl => ?_]
    rw [hold (A ++ C ++ [y]) D l (by rw [e]; simp)]
  · rw [hT, ownT_new]

theorem lastp_low {ks : List Str} {A B : Sh} {K : Str} {j : Nat} (hA : ∀ y ∈ A, bytesBefore y.1 K = true) (hB : ∀ z ∈ B, bytesBefore z.1 K = false) : lastp ks (A ++ B) K j = plo ks (A.filter fun y => decide (j < y.2)).getLast? := by
  unfold lastp
  have e : B.filter (fun y => bytesBefore y.1 K && decide (j < y.2)) = [] := by
    rw [List.filter_eq_nil_iff]
    intro z hz
    rw [hB z hz]
    simp
  rw [List.filter_append, e, List.append_nil]
  congr 2
  apply List.filter_congr
  intro y hy
  rw [hA y hy]
  simp
/-- The last one of a beginning whose tower is higher than a level. -/
theorem last_tall : ∀ (A : List (It Ent)) (j : Nat), (∀ y ∈ A, ¬ j < y.h) ∨ ∃ A1 p A2, A = A1 ++ p :: A2 ∧ j < p.h ∧ ∀ y ∈ A2, ¬ j < y.h
  | [], j => Or.inl (by simp)
  | y :: A, j => by
    rcases last_tall A j with h | ⟨A1, p, A2, rfl, h1, h2⟩
    · by_cases hy : j < y.h
      · exact Or.inr ⟨[], y, A, rfl, hy, h⟩
      · left
        intro z hz
        rcases List.mem_cons.1 hz with rfl | hz
        · exact hy
        · exact h z hz
    · exact Or.inr ⟨y :: A1, p, A2, rfl, h1, h2⟩
theorem Fixed.lastp_eq (F : Fixed L A B r x T) (j : Nat) : lastp (keys r) (shape (A ++ B)) x.key j = plo (keys r) ((shape A).filter fun y => decide (j < y.2)).getLast? := by
  rw [shape_append]
  refine lastp_low (fun y hy => ?_) (fun z hz => ?_)
  · obtain ⟨u, hu, rfl⟩ := shape_mem hy
    exact F.lows u hu
  · obtain ⟨y, hy, rfl⟩ := shape_mem hz
    exact lt_asym (F.highs y hy)
theorem shape_not {A : List (It Ent)} {j : Nat} (h : ∀ y ∈ A, ¬ j < y.h) : ∀ z ∈ shape A, ¬ j < z.2 := fun z hz => by
  obtain ⟨y, hy, rfl⟩ := shape_mem hz
  exact h y hy

/-- A level is linked. -/
theorem Mid.place (M : Mid cvS w L A B r x T v j) (F : Fixed L A B r x T) (hj : j < x.h) :
    ∃ g off n cs t, Calls Try.prog 32 #[.pointer (some ⟨L.b, 0, none⟩), .int .i64 (lastp (keys r) (shape (A ++ B)) x.key j : Int)] w (fun e w' => e = .returned (.slice (some ⟨g, off, none⟩) n n) ∧ w' = w) ∧
      j < n ∧ g ≠ T ∧ (g = L.b ∧ off = 1 ∨ g ≠ L.b ∧ off = 0 ∧ ∃ y ∈ A ++ B, g = L.loc y.key) ∧ w.heap[g]? = some (.cells cs t (0, 0)) ∧ w.cell? ⟨g, off + j, none⟩ = some (.int .i64 (nxt (keys (r ++ [x])) j (shape B) : Int)) ∧
      ∀ w' : World, w'.heap[T]? = some (.cells (ownT (keys (r ++ [x])) (shape B) x.h (j + 1)).toArray 3 (0, 0)) → w'.heap[g]? = some (.cells (cs.setIfInBounds (off + j) (.int .i64 ((r.length + 1 : Nat) : Int))) t (0, 0)) →
        (∀ b, b ≠ T → b ≠ g → w'.heap[b]? = w.heap[b]?) → Mid cvS w' L A B r x T v (j + 1) := by
  have hbT : L.b ≠ T := obj_cells_ne M.box M.own (by decide)
  have hnew := F.new
  have hrowne : ∀ b cs t, w.heap[b]? = some (.cells cs t (0, 0)) → t ≠ 77 → ∀ q, v.ownBlock = some q → q ≠ b := fun b cs t hb ht q hq => by
    obtain ⟨cs2, e⟩ := ownsRow_obj M.row hq
    exact (obj_cells_ne hb e ht).symm
  have hstep : ∀ (X : Sh) l, l ≠ j → nxt (keys (r ++ [x])) l (X ++ (x.key, j) :: shape B) = nxt (keys (r ++ [x])) l (X ++ (x.key, j + 1) :: shape B) := fun X l hl => nxt_step hl
  have hplc := F.plc_new
  rw [F.lastp_eq]
  have hx12 := F.xh
  rcases last_tall A j with hA | ⟨A1, p, A2, hA, hp, hA2⟩
  · have e0 : (shape A).filter (fun y => decide (j < y.2)) = [] := by
      rw [List.filter_eq_nil_iff]
      intro z hz
      simpa using shape_not hA z hz
    rw [e0]
    refine ⟨L.b, 1, 12, _, _, linksNone_any w L.b, by omega, hbT, Or.inl ⟨rfl, rfl⟩, M.box, ?_, fun w' hT hg hk => ⟨?_, ?_, fun C y D e => ?_, fun C y D e => ?_, hT⟩⟩
    · rw [cell_of M.box, List.getElem?_toArray, Nat.add_comm 1 j, List.getElem?_cons_succ, tow_get (by omega), nxt_append (shape_not hA), show (x.key, j) :: shape B = [] ++ (x.key, j) :: shape B from rfl, nxt_skip (Nat.lt_irrefl j)]
      rfl
    · rw [hg]
      have e1 := tow_set (ks := keys (r ++ [x])) (ks' := keys (r ++ [x])) (h := 12) (j := j) (v := r.length + 1) (B := shape A ++ (x.key, j) :: shape B) (B' := shape A ++ (x.key, j + 1) :: shape B)
        (fun l _ hl => hstep _ l hl) (by rw [nxt_append (shape_not hA), nxt_here (Nat.lt_succ_self j), hplc])
      rw [List.setIfInBounds_toArray] at e1 ⊢
      rw [Nat.add_comm 1 j, List.set_cons_succ]
      rw [show (tow (keys (r ++ [x])) 12 (shape A ++ (x.key, j) :: shape B)).set j (.int .i64 ((r.length + 1 : Nat) : Int)) = tow (keys (r ++ [x])) 12 (shape A ++ (x.key, j + 1) :: shape B) by
        have := congrArg Array.toList e1
        simpa using this]
    · refine ownsRow_frame M.row fun q hq => hk q ?_ ?_
      · exact hrowne T _ _ M.own (by decide) q hq
      · exact hrowne L.b _ _ M.box (by decide) q hq
    · have hy : y ∈ A := by rw [e]; simp
      have hyA : y ∈ A ++ B := List.mem_append_left _ hy
      have hlt : ¬ j < y.h := hA y hy
      rw [hk _ (hnew y hyA) (obj_cells_ne (M.low C y D e) M.box (by decide)), M.low C y D e]
      rw [tow_congr (ks' := keys (r ++ [x])) (B' := shape D ++ (x.key, j + 1) :: shape B) fun l hl => hstep _ l (by omega)]
    · have hyA : y ∈ A ++ B := by rw [e]; simp
      rw [hk _ (hnew y hyA) (obj_cells_ne (M.high C y D e) M.box (by decide)), M.high C y D e]
  · have hpA : p ∈ A ++ B := by rw [hA]; simp
    have e0 : (shape A).filter (fun y => decide (j < y.2)) = (shape A1).filter (fun y => decide (j < y.2)) ++ [(p.key, p.h)] := by
      rw [hA, shape_append, shape_cons, List.filter_append, List.filter_cons_of_pos (by simpa using hp)]
      rw [show (shape A2).filter (fun y => decide (j < y.2)) = [] by
        rw [List.filter_eq_nil_iff]
        intro z hz
        simpa using shape_not hA2 z hz]
    rw [e0, plo_last]
    have hpr : p ∈ r := (F.kin.mem p).1 hpA
    have hpl : plc (keys r) p.key = plc (keys (r ++ [x])) p.key := by rw [keys_append]; exact (plc_old (mem_keys hpr)).symm
    have hpx : p.key ≠ x.key := F.fresh p hpr
    have hcall := linksAt_half (M.half F) (y := p) (by simp [hpr])
    dsimp only at hcall
    rw [← hpl, show (loc' L x.key T p.key) = L.loc p.key by unfold loc'; rw [if_neg hpx]] at hcall
    have hg0 := M.low A1 p A2 hA
    refine ⟨L.loc p.key, 0, p.h, _, _, hcall, hp, hnew p hpA, Or.inr ⟨(obj_cells_ne M.box hg0 (by decide)).symm, rfl, p, hpA, rfl⟩, hg0, ?_, fun w' hT hg hk => ⟨?_, ?_, fun C y D e => ?_, fun C y D e => ?_, hT⟩⟩
    · rw [cell_of hg0, List.getElem?_toArray, Nat.zero_add, tow_get hp, nxt_append (shape_not hA2), show (x.key, j) :: shape B = [] ++ (x.key, j) :: shape B from rfl, nxt_skip (Nat.lt_irrefl j)]
      rfl
    · rw [hk _ hbT (obj_cells_ne M.box hg0 (by decide)), M.box]
      rw [tow_congr (ks' := keys (r ++ [x])) (B' := shape A ++ (x.key, j + 1) :: shape B) fun l hl => ?_]
      by_cases e : l = j
      · subst e
        exact nxt_append_some (z := (p.key, p.h)) (by rw [hA]; simp [shape]) hp _ _
      · exact hstep _ l e
    · refine ownsRow_frame M.row fun q hq => hk q ?_ ?_
      · exact hrowne T _ _ M.own (by decide) q hq
      · exact hrowne _ _ _ hg0 (by decide) q hq
    · have hy : y ∈ A := by rw [e]; simp
      have hyA : y ∈ A ++ B := List.mem_append_left _ hy
      have huA : ∀ z ∈ A, z.key = p.key → z = p := fun z hz e2 => F.kin.up.one.eq (List.mem_append_left _ hz) hpA e2
      by_cases hyp : y.key = p.key
      · obtain rfl := huA y hy hyp
        have hD : D = A2 := by
          have e3 := hA.symm.trans e
          have hup : One A := by
            have h1 : One (A ++ B) := F.kin.up.one
            exact List.Pairwise.sublist (List.sublist_append_left A B) h1
          rcases List.append_eq_append_iff.1 e3 with ⟨a, e6, e7⟩ | ⟨a, e6, e7⟩
          · cases a with
            | nil => simp only [List.nil_append, List.cons.injEq] at e7; exact e7.2.symm
            | cons z a =>
              exfalso
              simp only [List.cons_append, List.cons.injEq] at e7
              have h2 : One (y :: A2) := by rw [hA] at hup; exact List.Pairwise.sublist (List.sublist_append_right A1 _) hup
              exact h2.head (y := y) (by rw [e7.2]; simp) rfl
          · cases a with
            | nil => simp only [List.nil_append, List.cons.injEq] at e7; exact e7.2
            | cons z a =>
              exfalso
              simp only [List.cons_append, List.cons.injEq] at e7
              have h2 : One (y :: D) := by rw [e] at hup; exact List.Pairwise.sublist (List.sublist_append_right C _) hup
              exact h2.head (y := y) (by rw [e7.2]; simp) rfl
        subst hD
        rw [hg, Nat.zero_add]
        rw [tow_set (ks' := keys (r ++ [x])) (B' := shape D ++ (x.key, j + 1) :: shape B) (fun l _ hl => hstep _ l hl) (by rw [nxt_append (shape_not hA2), nxt_here (Nat.lt_succ_self j), hplc])]
      · rw [hk _ (hnew y hyA) (F.apart y hyA p hpA hyp), M.low C y D e]
        rw [tow_congr (ks' := keys (r ++ [x])) (B' := shape D ++ (x.key, j + 1) :: shape B) fun l hl => ?_]
        by_cases el : l = j
        · subst el
          have e3 := hA.symm.trans e
          rcases List.append_eq_append_iff.1 e3 with ⟨a, e6, e7⟩ | ⟨a, e6, e7⟩
          · cases a with
            | nil =>
              simp only [List.nil_append, List.cons.injEq] at e7
              exact absurd (by rw [e7.1]) hyp
            | cons z a =>
              simp only [List.cons_append, List.cons.injEq] at e7
              exact absurd hl (hA2 y (by rw [e7.2]; simp))
          · cases a with
            | nil =>
              simp only [List.nil_append, List.cons.injEq] at e7
              exact absurd (by rw [e7.1]) hyp
            | cons z a =>
              simp only [List.cons_append, List.cons.injEq] at e7
              exact nxt_append_some (z := (p.key, p.h)) (by rw [e7.2]; simp [shape]) hp _ _
        · exact hstep _ l el
    · have hyA : y ∈ A ++ B := by rw [e]; simp
      have hyp : y.key ≠ p.key := fun e2 => by
        have h1 := F.lows p (by rw [hA]; simp)
        have h2 := F.highs y (by rw [e]; simp)
        rw [e2] at h2
        exact lt_irr _ (lt_trans h1 h2)
      rw [hk _ (hnew y hyA) (F.apart y hyA p hpA hyp), M.high C y D e]
end
end Go.Proofs.Ytmdnmabbphnhaaa.Sm
