/- Regions of one literal (rows with slices within), in whatever order: an invariant that every operation keeps. -/
import Derived.Test.YtlhokfildhcdhaaBelow
import Derived.Orders
namespace Go.Proofs.Ytlhokfildhcdhaa
open Go.RowKit

theorem all_listed {ops : Array Oper} {md : Region.Mode} {l : Array Bool} (hsz : l.size = ops.size) (hacy : ∀ (i : Nat) (o : Oper), ops[i]? = some o → ∀ e ∈ o.after, e.on < i)
    (hr : Region.ready md ops l = []) : ∀ i, i < ops.size → l.getD i false = true := by
  intro i
  induction i using Nat.strongRecOn with
  | ind i ih =>
    intro hi
    cases hl : l.getD i false with
    | true => rfl
    | false =>
      have hlt : i < l.size := by omega
      have hmem : i ∈ Region.ready md ops l := by
        rw [mem_ready]
        refine ⟨?_, ops[i], by simp [hi], fun e he _ => ?_⟩
        · simp [hlt] at hl ⊢; exact hl
        · have := hacy i ops[i] (by simp [hi]) e he
          exact ih _ this (by omega)
      rw [hr] at hmem
      cases hmem

theorem wpAny_inv {P : Program} {ops : Array Oper} {Q : Exit → Act → World → Prop} {md : Region.Mode} (Inv : Array Bool → Act → World → Prop)
    (hsz : ∀ l a w, Inv l a w → l.size = ops.size)
    (hacy : ∀ (i : Nat) (o : Oper), ops[i]? = some o → ∀ e ∈ o.after, e.on < i)
    (step : ∀ l a w i o, Inv l a w → ops[i]? = some o → (∀ e ∈ o.after, Region.binds md e = true → l.getD e.on false = true) → wpOp P ops Q i (Inv (l.setIfInBounds i true)) a w)
    (done : ∀ l a w, Inv l a w → (∀ i, i < ops.size → l.getD i false = true) → Q .normal a w) :
    ∀ fuel l a w, Inv l a w → l.toList.countP (!·) ≤ fuel → wpAny P md ops Q fuel l a w := by
  intro fuel
  induction fuel with
  | zero =>
    intro l a w hi hc
    have hr : Region.ready md ops l = [] := by
      refine List.eq_nil_iff_forall_not_mem.2 fun j hj => ?_
      obtain ⟨h0, o, ho, _⟩ := mem_ready.1 hj
      have hlt : j < l.size := by rw [hsz _ _ _ hi]; exact (Array.getElem?_eq_some_iff.1 ho).1
      have h1 : l.toList.countP (!·) = 0 := by omega
      rw [List.countP_eq_zero] at h1
      simp [hlt] at h0
      exact h1 l[j] (by simp) (by simp [h0])
    exact ⟨hr, done _ _ _ hi (all_listed (hsz _ _ _ hi) hacy hr)⟩
  | succ fuel ih =>
    intro l a w hi hc
    refine ⟨fun hr => done _ _ _ hi (all_listed (hsz _ _ _ hi) hacy hr), fun i hm => ?_⟩
    obtain ⟨h0, o, ho, hall⟩ := mem_ready.1 hm
    have hlt : i < l.size := by rw [hsz _ _ _ hi]; exact (Array.getElem?_eq_some_iff.1 ho).1
    refine wpOp_mono (fun a' w' h => ih _ a' w' h ?_) (step l a w i o hi ho hall)
    simp [hlt] at h0
    rw [Array.toList_setIfInBounds]
    have hpos : 0 < l.toList.countP (!·) := List.countP_pos_iff.2 ⟨l[i], by simp, by simp [h0]⟩
    have hx : l.toList[i]'(by simpa using hlt) = false := by simpa using h0
    rw [List.countP_set (by simpa using hlt), hx]
    simp only [Bool.not_false, Bool.not_true, if_true, Bool.false_eq_true, if_false]
    omega

/-- A frame whose slots are told by a function. -/
def Fr (N : Nat) (g : Nat → Value) (df : List Deferred) : Act := ⟨((List.range N).map g).toArray, df⟩
theorem Fr.tmp (N : Nat) (g : Nat → Value) (df : List Deferred) (t : Nat) (h : t < N) : (Fr N g df).eval (.tmp t) = g t := by
  simp [Fr, Act.eval, h]
theorem Fr.put (N : Nat) (g : Nat → Value) (df : List Deferred) (d : Nat) (v : Value) : (Fr N g df).put (some d) v = Fr N (fun t => if t = d then v else g t) df := by
  unfold Fr Act.put
  simp only [Act.mk.injEq, and_true]
  apply Array.ext
  · simp
  · intro i h1 h2
    simp only [List.setIfInBounds_toArray, List.getElem_toArray, List.getElem_set, List.getElem_map, List.getElem_range]
    by_cases h : d = i
    · subst h; simp
    · rw [if_neg h, if_neg (Ne.symm h)]

/-- What each operation yields is told by Val; Val is kept by whatever keeps the older blocks. -/
theorem region_lit {P : Program} {ops : Array Oper} {Q : Exit → Act → World → Prop} {md : Region.Mode} (N : Nat) (df : List Deferred) (g0 : Nat → Value) (w0 : World) (keep : Nat → Bool)
    (D : Nat → Nat) (Val : Nat → Value → World → Prop)
    (mono : ∀ i v w w', Below w.heap.size w w' → Val i v w → Val i v w')
    (hacy : ∀ (i : Nat) (o : Oper), ops[i]? = some o → ∀ e ∈ o.after, e.on < i)
    (hD : ∀ (i : Nat) (o : Oper), ops[i]? = some o → o.dst = some (D i) ∧ keep (D i) = false ∧ o.guard = none)
    (hinj : ∀ i j, i < ops.size → j < ops.size → D i = D j → i = j)
    (hop : ∀ (i : Nat) (o : Oper), ops[i]? = some o → ∀ g w, (∀ t, keep t = true → g t = g0 t) → Below w0.heap.size w0 w → (∀ e ∈ o.after, Region.binds md e = true → Val e.on (g (D e.on)) w) →
      ∃ v w', (execOp (Fr N g df).eval o).run P w = .ok (.value v) w' ∧ Below w.heap.size w w' ∧ Val i v w')
    (done : ∀ g w, (∀ t, keep t = true → g t = g0 t) → Below w0.heap.size w0 w → (∀ i, i < ops.size → Val i (g (D i)) w) → Q .normal (Fr N g df) w) :
    wpAny P md ops Q ops.size (Array.replicate ops.size false) (Fr N g0 df) w0 := by
  refine wpAny_inv (fun l a w => l.size = ops.size ∧ ∃ g, a = Fr N g df ∧ (∀ t, keep t = true → g t = g0 t) ∧ Below w0.heap.size w0 w ∧ (∀ i, i < ops.size → l.getD i false = true → Val i (g (D i)) w))
    (fun l a w h => h.1) hacy ?_ ?_ _ _ _ _ ⟨by simp, g0, rfl, fun _ _ => rfl, Below.refl _ _, fun i hi h => by simp [hi] at h⟩ ?_
  · rintro l a w i o ⟨hsz, g, rfl, hk, hb, hv⟩ ho hdep
    have hi : i < ops.size := (Array.getElem?_eq_some_iff.1 ho).1
    obtain ⟨hd, hkD, hg⟩ := hD i o ho
    have hlt : ∀ e ∈ o.after, e.on < i := hacy i o ho
    obtain ⟨v, w', hrun, hb', hval⟩ := hop i o ho g w hk hb (fun e he hbi => hv _ (by have := hlt e he; omega) (hdep e he hbi))
    unfold wpOp
    simp only [ho]
    have hw : Region.wanted o (yielded ops (Fr N g df).tmps) = true := by unfold Region.wanted; rw [hg]
    rw [if_pos hw]
    refine Or.inl ?_
    unfold Oper.wp
    rw [hrun]
    simp only [Oper.upon]
    rw [hd, Fr.put]
    refine ⟨by simp [hsz], _, rfl, fun t ht => ?_, Below.next hb hb', fun j hj hl => ?_⟩
    · by_cases h : t = D i
      · subst h; rw [hkD] at ht; cases ht
      · rw [if_neg h]; exact hk t ht
    · by_cases h : i = j
      · subst h; rw [if_pos rfl]; exact hval
      · rw [getD_set_ne false h] at hl
        have hne : D j ≠ D i := fun e => h (hinj _ _ hj hi e).symm
        rw [if_neg hne]
        exact mono _ _ _ _ hb' (hv j hj hl)
  · rintro l a w ⟨hsz, g, rfl, hk, hb, hv⟩ hall
    exact done g w hk hb (fun i hi => hv i hi (hall i hi))
  · rw [Array.toList_replicate]
    exact Nat.le_trans List.countP_le_length (by simp)

theorem Fr_of {N : Nat} (l : List Value) (df : List Deferred) (h : l.length = N) : (⟨l.toArray, df⟩ : Act) = Fr N (fun t => l.getD t undef) df := by
  subst h
  unfold Fr
  simp only [Act.mk.injEq, and_true]
  refine congrArg List.toArray ?_
  refine List.ext_getElem (by simp) fun i h1 h2 => ?_
  simp [h1]
/-- The conditions on a literal's operations that a reckoning shows. -/
def litOk (ops : Array Oper) (D : Nat → Nat) (keep : Nat → Bool) : Bool := (List.range ops.size).all fun i => match ops[i]? with
  | some o => (o.after.toList.all fun e => e.on < i) && o.dst == some (D i) && !keep (D i) && o.guard.isNone
  | none => true
theorem litOk_spec {ops : Array Oper} {D : Nat → Nat} {keep : Nat → Bool} (h : litOk ops D keep = true) (i : Nat) (o : Oper) (ho : ops[i]? = some o) :
    (∀ e ∈ o.after, e.on < i) ∧ o.dst = some (D i) ∧ keep (D i) = false ∧ o.guard = none := by
  have hi : i < ops.size := (Array.getElem?_eq_some_iff.1 ho).1
  have h1 := List.all_eq_true.1 h i (List.mem_range.2 hi)
  simp only [ho, Bool.and_eq_true, Bool.not_eq_true', List.all_eq_true, beq_iff_eq, Option.isNone_iff_eq_none, decide_eq_true_eq] at h1
  obtain ⟨⟨⟨h1, h2⟩, h3⟩, h4⟩ := h1
  exact ⟨fun e he => h1 e (by simpa using he), h2, h3, h4⟩
/-- Of each member of a list, with its number. -/
def AllFrom (p : Nat → Oper → Prop) : Nat → List Oper → Prop
  | _, [] => True
  | n, o :: os => p n o ∧ AllFrom p (n + 1) os
theorem AllFrom.get {p : Nat → Oper → Prop} : ∀ {n : Nat} {l : List Oper}, AllFrom p n l → ∀ i o, l[i]? = some o → p (n + i) o := by
  intro n l
  induction l generalizing n with
  | nil => intro _ i o h; simp at h
  | cons x xs ih =>
    intro h i o ho
    cases i with
    | zero => simp at ho; subst ho; exact h.1
    | succ i =>
      have := ih h.2 i o (by simpa using ho)
      rw [Nat.add_assoc, Nat.add_comm 1 i] at this
      exact this
theorem region_lit_start {P : Program} {ops : List Oper} {Q : Exit → Act → World → Prop} {id : Nat} {a : Act} {w : World} (N : Nat) {df : List Deferred} {g0 : Nat → Value} (keep : Nat → Bool)
    (D : Nat → Nat) (Val : Nat → Value → World → Prop) (hm : P.follows .mixedOrders = true) (ha : a = Fr N g0 df)
    (mono : ∀ i v w w', Below w.heap.size w w' → Val i v w → Val i v w')
    (hok : litOk ops.toArray D keep = true)
    (hinj : ∀ i j, i < ops.length → j < ops.length → D i = D j → i = j)
    (hop : ∀ g W, (∀ t, keep t = true → g t = g0 t) → Below w.heap.size w W → AllFrom (fun i o => (∀ e ∈ o.after, Region.binds .any e = true → Val e.on (g (D e.on)) W) →
      ∃ v w', (execOp (Fr N g df).eval o).run P W = .ok (.value v) w' ∧ Below W.heap.size W w' ∧ Val i v w') 0 ops)
    (done : ∀ g W, (∀ t, keep t = true → g t = g0 t) → Below w.heap.size w W → (∀ i, i < ops.length → Val i (g (D i)) W) → Q .normal (Fr N g df) W) :
    (Code.region id ops.toArray true).wp P Q a w := by
  subst ha
  refine wp_region_any hm ?_
  refine region_lit N df g0 _ keep D Val mono (fun i o h => (litOk_spec hok i o h).1) (fun i o h => (litOk_spec hok i o h).2) (by simpa using hinj) ?_ ?_
  · intro i o ho g W hk hb hd
    have := (hop g W hk (Below.next (Below.refl w.heap.size w).drew hb)).get i o (by simpa using ho)
    rw [Nat.zero_add] at this
    exact this hd
  · intro g W hk hb hv
    exact done g W hk (Below.next (Below.refl w.heap.size w).drew hb) (by simpa using hv)

end Go.Proofs.Ytlhokfildhcdhaa
