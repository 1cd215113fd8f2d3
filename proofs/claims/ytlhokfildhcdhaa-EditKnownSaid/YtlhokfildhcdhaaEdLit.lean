/- The literal of EditKnown: what each operation of it yields, a call among them. -/
import Derived.Test.YtlhokfildhcdhaaEdN
import Derived.Test.YtlhokfildhcdhaaLit
namespace Go.Proofs.Ytlhokfildhcdhaa
open Go.RowKit Sk
set_option linter.unusedVariables false
set_option linter.unusedSimpArgs false

/-- An operation yields a value, by itself or by a call. -/
def Yields (P : Program) (a : Act) (o : Oper) (w : World) (post : Value → World → Prop) : Prop :=
  (∃ v w', (execOp a.eval o).run P w = .ok (.value v) w' ∧ Below w.heap.size w w' ∧ post v w') ∨
  ∃ f args, (execOp a.eval o).run P w = .ok (.enter f args) w ∧ Calls P f args w fun e w' => ∃ v, e = .returned v ∧ Below w.heap.size w w' ∧ post v w'

theorem Yields.wp {P : Program} {a : Act} {o : Oper} {w : World} {post : Value → World → Prop} {K : Act → World → Prop} {Q : Exit → Act → World → Prop} (h : Yields P a o w post) (hK : ∀ v w', Below w.heap.size w w' → post v w' → K (a.put o.dst v) w') : o.wp P a w K Q := by
  rcases h with ⟨v, w', hr, hb, hp⟩ | ⟨f, args, hr, hc⟩
  · unfold Oper.wp
    rw [hr]
    exact hK v w' hb hp
  · unfold Oper.wp
    rw [hr]
    refine hc.mono ?_
    rintro e w' ⟨v, rfl, hb, hp⟩
    exact hK v w' hb hp

theorem region_lit2 {P : Program} {ops : Array Oper} {Q : Exit → Act → World → Prop} {md : Region.Mode} (N : Nat) (df : List Deferred) (g0 : Nat → Value) (w0 : World) (keep : Nat → Bool)
    (D : Nat → Nat) (Val : Nat → Value → World → Prop)
    (mono : ∀ i v w w', Below w.heap.size w w' → Val i v w → Val i v w')
    (hacy : ∀ (i : Nat) (o : Oper), ops[i]? = some o → ∀ e ∈ o.after, e.on < i)
    (hD : ∀ (i : Nat) (o : Oper), ops[i]? = some o → o.dst = some (D i) ∧ keep (D i) = false ∧ o.guard = none)
    (hinj : ∀ i j, i < ops.size → j < ops.size → D i = D j → i = j)
    (hop : ∀ (i : Nat) (o : Oper), ops[i]? = some o → ∀ g w, (∀ t, keep t = true → g t = g0 t) → Below w0.heap.size w0 w → (∀ e ∈ o.after, Region.binds md e = true → Val e.on (g (D e.on)) w) →
      Yields P (Fr N g df) o w (Val i))
    (done : ∀ g w, (∀ t, keep t = true → g t = g0 t) → Below w0.heap.size w0 w → (∀ i, i < ops.size → Val i (g (D i)) w) → Q .normal (Fr N g df) w) :
    wpAny P md ops Q ops.size (Array.replicate ops.size false) (Fr N g0 df) w0 := by
  refine wpAny_inv (fun l a w => l.size = ops.size ∧ ∃ g, a = Fr N g df ∧ (∀ t, keep t = true → g t = g0 t) ∧ Below w0.heap.size w0 w ∧ (∀ i, i < ops.size → l.getD i false = true → Val i (g (D i)) w))
    (fun l a w h => h.1) hacy ?_ ?_ _ _ _ _ ⟨by simp, g0, rfl, fun _ _ => rfl, Below.refl _ _, fun i hi h => by simp [hi] at h⟩ ?_
  · rintro l a w i o ⟨hsz, g, rfl, hk, hb, hv⟩ ho hdep
    have hi : i < ops.size := (Array.getElem?_eq_some_iff.1 ho).1
    obtain ⟨hd, hkD, hg⟩ := hD i o ho
    have hlt : ∀ e ∈ o.after, e.on < i := hacy i o ho
    have hy := hop i o ho g w hk hb (fun e he hbi => hv _ (by have := hlt e he; omega) (hdep e he hbi))
    unfold wpOp
    simp only [ho]
    have hw : Region.wanted o (yielded ops (Fr N g df).tmps) = true := by unfold Region.wanted; rw [hg]
    rw [if_pos hw]
    refine Or.inl (hy.wp ?_)
    intro v w' hb' hval
    rw [hd, Fr.put]
    refine ⟨by simp [hsz], _, rfl, fun t ht => ?_, Below.next hb hb', fun j hj hl => ?_⟩
    · by_cases h : t = D i
      · subst h; rw [hkD] at ht; cases ht
      · rw [if_neg h]; exact hk t ht
    · by_cases h : i = j
      · subst h; rw [if_pos rfl]; exact hval
      · rw [getD_set_ne false h] at hl
        have hne : D j ≠ D i := fun e => h (hinj _ _ hj hi e).symm
        rw [if_neg hne]
        exact mono _ _ _ _ hb' (hv j hj hl)
  · rintro l a w ⟨hsz, g, rfl, hk, hb, hv⟩ hall
    exact done g w hk hb (fun i hi => hv i hi (hall i hi))
  · rw [Array.toList_replicate]
    exact Nat.le_trans List.countP_le_length (by simp)

theorem region_lit2_start {P : Program} {ops : List Oper} {Q : Exit → Act → World → Prop} {id : Nat} {a : Act} {w : World} (N : Nat) {df : List Deferred} {g0 : Nat → Value} (keep : Nat → Bool)
    (D : Nat → Nat) (Val : Nat → Value → World → Prop) (hm : P.follows .mixedOrders = true) (ha : a = Fr N g0 df)
    (mono : ∀ i v w w', Below w.heap.size w w' → Val i v w → Val i v w')
    (hok : litOk ops.toArray D keep = true)
    (hinj : ∀ i j, i < ops.length → j < ops.length → D i = D j → i = j)
    (hop : ∀ g W, (∀ t, keep t = true → g t = g0 t) → Below w.heap.size w W → AllFrom (fun i o => (∀ e ∈ o.after, Region.binds .any e = true → Val e.on (g (D e.on)) W) →
      Yields P (Fr N g df) o W (Val i)) 0 ops)
    (done : ∀ g W, (∀ t, keep t = true → g t = g0 t) → Below w.heap.size w W → (∀ i, i < ops.length → Val i (g (D i)) W) → Q .normal (Fr N g df) W) :
    (Code.region id ops.toArray true).wp P Q a w := by
  subst ha
  refine wp_region_any hm ?_
  refine region_lit2 N df g0 _ keep D Val mono (fun i o h => (litOk_spec hok i o h).1) (fun i o h => (litOk_spec hok i o h).2) (by simpa using hinj) ?_ ?_
  · intro i o ho g W hk hb hd
    have := (hop g W hk (Below.next (Below.refl w.heap.size w).drew hb)).get i o (by simpa using ho)
    rw [Nat.zero_add] at this
    exact this hd
  · intro g W hk hb hv
    exact done g W hk (Below.next (Below.refl w.heap.size w).drew hb) (by simpa using hv)

/-- The bad edits. -/
def tL : Tbl := ⟨3, 4, 2, 40, ⟨#[97]⟩, ⟨#[98]⟩, 5, 9⟩
def tR : Tbl := ⟨3, 1, 2, 40, ⟨#[99]⟩, ⟨#[98]⟩, 5, 9⟩
def tM : Tbl := ⟨3, 1, 2, 40, ⟨#[97]⟩, ⟨#[98]⟩, 10, 9⟩
def tN : Tbl := ⟨3, 1, 0, 40, ⟨#[97]⟩, ⟨#[98]⟩, 5, 9⟩
def adds : List (List Tbl) := [[], [], [tL], [tR], [tM], [Ed.t0, tN]]
def drops : List (List Nat) := [[0], [1099511627777], [], [], [], []]
theorem bad_chk : ∀ k, k < 6 → Ed.chk (adds.getD k []) (drops.getD k []) = 1 := by decide +kernel

/-- The bad edits lie in memory. -/
def BadAt (w : World) (v : Value) : Prop := ∃ b, v = .slice (some ⟨b, 0, none⟩) 6 6 ∧ b < w.heap.size ∧ ∀ k, k < 6 → ∃ ao ac bo bc,
  w.cell? ⟨b, k * 5, none⟩ = some (.slice ao (adds.getD k []).length ac) ∧ w.cell? ⟨b, k * 5 + 1, none⟩ = some (.slice bo (drops.getD k []).length bc) ∧ w.cell? ⟨b, k * 5 + 2, none⟩ = some (.int .u64 0) ∧ w.cell? ⟨b, k * 5 + 3, none⟩ = some (.int .u64 0) ∧ w.cell? ⟨b, k * 5 + 4, none⟩ = some (.int .u64 0) ∧
  SeesTb w (.slice ao (adds.getD k []).length ac) (adds.getD k []) ∧ SeesU w (.slice bo (drops.getD k []).length bc) (drops.getD k [])
theorem BadAt.below {w w' : World} {v : Value} (h : BadAt w v) (hb : Below w.heap.size w w') : BadAt w' v := by
  obtain ⟨b, rfl, hlt, h⟩ := h
  refine ⟨b, rfl, Nat.lt_of_lt_of_le hlt hb.size, fun k hk => ?_⟩
  obtain ⟨ao, ac, bo, bc, c0, c1, c2, c3, c4, hs, hu⟩ := h k hk
  exact ⟨ao, ac, bo, bc, (hb.cell (p := ⟨b, k * 5, none⟩) hlt).trans c0, (hb.cell (p := ⟨b, k * 5 + 1, none⟩) hlt).trans c1, (hb.cell (p := ⟨b, k * 5 + 2, none⟩) hlt).trans c2, (hb.cell (p := ⟨b, k * 5 + 3, none⟩) hlt).trans c3, (hb.cell (p := ⟨b, k * 5 + 4, none⟩) hlt).trans c4, hs.below hb, hu.below hb⟩

inductive KE | tb (t : Tbl) | tsl (l : List Tbl) | nsl (l : List Nat) | ed (a : List Tbl) (d : List Nat) | rows
def Ke : KE → Value → World → Prop
  | .tb t, v, _ => v = tbV t
  | .tsl l, v, w => ∃ ao cap, v = .slice ao l.length cap ∧ SeesTb w (.slice ao l.length cap) l
  | .nsl l, v, w => ∃ ao cap, v = .slice ao l.length cap ∧ SeesU w (.slice ao l.length cap) l
  | .ed a d, v, w => ∃ ao ac bo bc, v = .agg #[.slice ao a.length ac, .slice bo d.length bc, .int .u64 0, .int .u64 0, .int .u64 0] ∧ SeesTb w (.slice ao a.length ac) a ∧ SeesU w (.slice bo d.length bc) d
  | .rows, v, w => BadAt w v
theorem Ke.below {k : KE} {v : Value} {w w' : World} (hb : Below w.heap.size w w') (h : Ke k v w) : Ke k v w' := by
  cases k with
  | tb t => exact h
  | tsl l => obtain ⟨ao, cap, e, hs⟩ := h; exact ⟨ao, cap, e, hs.below hb⟩
  | nsl l => obtain ⟨ao, cap, e, hs⟩ := h; exact ⟨ao, cap, e, hs.below hb⟩
  | ed a d => obtain ⟨ao, ac, bo, bc, e, hs, hu⟩ := h; exact ⟨ao, ac, bo, bc, e, hs.below hb, hu.below hb⟩
  | rows => exact BadAt.below h hb

def Se (N : Nat) (g : Nat → Value) (df : List Deferred) (o : Oper) (k : KE) (w : World) : Prop := Yields Try.prog (Fr N g df) o w (Ke k)

section
variable {N : Nat} {g : Nat → Value} {df : List Deferred} {w : World} {t d : Nat} {pos : String} {aft : Array Edge}
theorem se_asg {v : Value} {k : KE} (ty : TypeId) (ht : t < N) (h : g t = v) (hk : Ke k v w) : Se N g df ⟨some d, .assign (.tmp t), ty, pos, aft, none⟩ k w := by
  have e := (Fr.tmp N g df t ht).trans h
  exact Or.inl ⟨v, w, by simp only [execOp, e]; go_simp, Below.refl _ _, hk⟩
theorem se_nsl {n : Nat} {n0 : Int} (hn : n0 = n) : Se N g df ⟨some d, .buildSlice 26 1 #[(0, .const (.int .u64 n0))], 26, pos, aft, none⟩ (.nsl [n]) w := by
  subst hn
  have e0 : (Fr N g df).eval (.const (.int .u64 n)) = .int .u64 n := rfl
  refine Or.inl ⟨.slice (some ⟨w.heap.size, 0, none⟩) 1 1, w.alloc (.cells #[.int .u64 (n : Nat)] 27), ?_, (Below.refl _ _).alloc (Nat.le_refl _) _, _, _, rfl, seesU_h1 (heap_alloc_new w _)⟩
  simp only [execOp, e0, List.map_toArray, List.map_cons, List.map_nil]
  go_simp
theorem se_edn {l : List Nat} (ht : t < N) (h : Ke (.nsl l) (g t) w) : Se N g df ⟨some d, .build 29 #[(1, .tmp t)], 29, pos, aft, none⟩ (.ed [] l) w := by
  obtain ⟨ao, cap, h, hs⟩ := h
  have e := (Fr.tmp N g df t ht).trans h
  refine Or.inl ⟨_, w, ?_, Below.refl _ _, none, 0, ao, cap, rfl, Or.inl ⟨rfl, none, 0, rfl⟩, hs⟩
  simp only [execOp, e, List.map_toArray, List.map_cons, List.map_nil]
  go_simp
theorem se_edt {l : List Tbl} (ht : t < N) (h : Ke (.tsl l) (g t) w) : Se N g df ⟨some d, .build 29 #[(0, .tmp t)], 29, pos, aft, none⟩ (.ed l []) w := by
  obtain ⟨ao, cap, h, hs⟩ := h
  have e := (Fr.tmp N g df t ht).trans h
  refine Or.inl ⟨_, w, ?_, Below.refl _ _, ao, cap, none, 0, rfl, hs, Or.inl ⟨rfl, none, 0, rfl⟩⟩
  simp only [execOp, e, List.map_toArray, List.map_cons, List.map_nil]
  go_simp
theorem se_load {x : Tbl} {b : Nat} (ht : t < N) (h : g t = .pointer (some ⟨b, 0, none⟩)) (hx : TbAt w b 0 x) : Se N g df ⟨some d, .load 31 (.tmp t), 31, pos, aft, none⟩ (.tb x) w := by
  have e := (Fr.tmp N g df t ht).trans h
  obtain ⟨c0, c1, c2, c3, c4, c5, c6, c7⟩ := hx
  rw [Nat.zero_add] at c1 c2 c3 c4 c5 c6 c7
  refine Or.inl ⟨tbV x, w, ?_, Below.refl _ _, rfl⟩
  simp only [execOp, e]
  unfold tbV
  go_simp
theorem se_tsl {x : Tbl} (ht : t < N) (h : Ke (.tb x) (g t) w) : Se N g df ⟨some d, .buildSlice 25 1 #[(0, .tmp t)], 25, pos, aft, none⟩ (.tsl [x]) w := by
  have e := (Fr.tmp N g df t ht).trans h
  unfold tbV at e
  refine Or.inl ⟨.slice (some ⟨w.heap.size, 0, none⟩) 1 1, w.alloc (.cells (cellsTb x).toArray 31), ?_, (Below.refl _ _).alloc (Nat.le_refl _) _, ?_⟩
  · simp only [execOp, e, List.map_toArray, List.map_cons, List.map_nil]
    go_simp
    rfl
  · have hh := heap_alloc_new w (.cells (cellsTb x).toArray 31)
    refine ⟨_, _, rfl, Or.inr ⟨w.heap.size, 0, 1, rfl, by rw [World.size_alloc]; omega, fun i hi => ?_⟩⟩
    obtain rfl : i = 0 := by simp at hi; exact hi
    refine ⟨?_, ?_, ?_, ?_, ?_, ?_, ?_, ?_⟩ <;> (simp only [World.cell?, hh]; rfl)
theorem se_tsl2 {x y : Tbl} {t' : Nat} (ht : t < N) (ht' : t' < N) (h : Ke (.tb x) (g t) w) (h' : Ke (.tb y) (g t') w) : Se N g df ⟨some d, .buildSlice 25 2 #[(0, .tmp t), (1, .tmp t')], 25, pos, aft, none⟩ (.tsl [x, y]) w := by
  have e := (Fr.tmp N g df t ht).trans h
  have e' := (Fr.tmp N g df t' ht').trans h'
  unfold tbV at e e'
  refine Or.inl ⟨.slice (some ⟨w.heap.size, 0, none⟩) 2 2, w.alloc (.cells (cellsTb x ++ cellsTb y).toArray 31), ?_, (Below.refl _ _).alloc (Nat.le_refl _) _, ?_⟩
  · simp only [execOp, e, e', List.map_toArray, List.map_cons, List.map_nil]
    go_simp
    rfl
  · have hh := heap_alloc_new w (.cells (cellsTb x ++ cellsTb y).toArray 31)
    refine ⟨_, _, rfl, Or.inr ⟨w.heap.size, 0, 2, rfl, by rw [World.size_alloc]; omega, fun i hi => ?_⟩⟩
    match i, hi with
    | 0, _ => refine ⟨?_, ?_, ?_, ?_, ?_, ?_, ?_, ?_⟩ <;> (simp only [World.cell?, hh]; rfl)
    | 1, _ => refine ⟨?_, ?_, ?_, ?_, ?_, ?_, ?_, ?_⟩ <;> (simp only [World.cell?, hh]; rfl)
theorem se_rows (hN : 56 ≤ N) (h0 : Ke (.ed [] [0]) (g 39) w) (h1 : Ke (.ed [] [1099511627777]) (g 41) w) (h2 : Ke (.ed [tL] []) (g 44) w) (h3 : Ke (.ed [tR] []) (g 47) w) (h4 : Ke (.ed [tM] []) (g 50) w) (h5 : Ke (.ed [Ed.t0, tN] []) (g 54) w) :
    Se N g df ⟨some d, .buildSlice 33 6 #[(0, .tmp 39), (1, .tmp 41), (2, .tmp 44), (3, .tmp 47), (4, .tmp 50), (5, .tmp 54)], 33, pos, aft, none⟩ .rows w := by
  obtain ⟨a0, c0, b0, d0, h0, s0, u0⟩ := h0
  obtain ⟨a1, c1, b1, d1, h1, s1, u1⟩ := h1
  obtain ⟨a2, c2, b2, d2, h2, s2, u2⟩ := h2
  obtain ⟨a3, c3, b3, d3, h3, s3, u3⟩ := h3
  obtain ⟨a4, c4, b4, d4, h4, s4, u4⟩ := h4
  obtain ⟨a5, c5, b5, d5, h5, s5, u5⟩ := h5
  have e0 := (Fr.tmp N g df 39 (by omega)).trans h0
  have e1 := (Fr.tmp N g df 41 (by omega)).trans h1
  have e2 := (Fr.tmp N g df 44 (by omega)).trans h2
  have e3 := (Fr.tmp N g df 47 (by omega)).trans h3
  have e4 := (Fr.tmp N g df 50 (by omega)).trans h4
  have e5 := (Fr.tmp N g df 54 (by omega)).trans h5
  have hh := heap_alloc_new w (.cells #[.slice a0 ([] : List Tbl).length c0, .slice b0 ([0] : List Nat).length d0, .int .u64 0, .int .u64 0, .int .u64 0, .slice a1 ([] : List Tbl).length c1, .slice b1 ([1099511627777] : List Nat).length d1, .int .u64 0, .int .u64 0, .int .u64 0, .slice a2 ([tL] : List Tbl).length c2, .slice b2 ([] : List Nat).length d2, .int .u64 0, .int .u64 0, .int .u64 0, .slice a3 ([tR] : List Tbl).length c3, .slice b3 ([] : List Nat).length d3, .int .u64 0, .int .u64 0, .int .u64 0, .slice a4 ([tM] : List Tbl).length c4, .slice b4 ([] : List Nat).length d4, .int .u64 0, .int .u64 0, .int .u64 0, .slice a5 ([Ed.t0, tN] : List Tbl).length c5, .slice b5 ([] : List Nat).length d5, .int .u64 0, .int .u64 0, .int .u64 0] 29)
  have hb : Below w.heap.size w (w.alloc (.cells #[.slice a0 ([] : List Tbl).length c0, .slice b0 ([0] : List Nat).length d0, .int .u64 0, .int .u64 0, .int .u64 0, .slice a1 ([] : List Tbl).length c1, .slice b1 ([1099511627777] : List Nat).length d1, .int .u64 0, .int .u64 0, .int .u64 0, .slice a2 ([tL] : List Tbl).length c2, .slice b2 ([] : List Nat).length d2, .int .u64 0, .int .u64 0, .int .u64 0, .slice a3 ([tR] : List Tbl).length c3, .slice b3 ([] : List Nat).length d3, .int .u64 0, .int .u64 0, .int .u64 0, .slice a4 ([tM] : List Tbl).length c4, .slice b4 ([] : List Nat).length d4, .int .u64 0, .int .u64 0, .int .u64 0, .slice a5 ([Ed.t0, tN] : List Tbl).length c5, .slice b5 ([] : List Nat).length d5, .int .u64 0, .int .u64 0, .int .u64 0] 29)) := (Below.refl _ _).alloc (Nat.le_refl _) _
  refine Or.inl ⟨.slice (some ⟨w.heap.size, 0, none⟩) 6 6, _, ?_, hb, w.heap.size, rfl, by rw [World.size_alloc]; omega, fun k hk => ?_⟩
  · simp only [execOp, e0, e1, e2, e3, e4, e5, List.map_toArray, List.map_cons, List.map_nil]
    go_simp
  · match k, hk with
    | 0, _ => exact ⟨a0, c0, b0, d0, by simp only [World.cell?, hh]; rfl, by simp only [World.cell?, hh]; rfl, by simp only [World.cell?, hh]; rfl, by simp only [World.cell?, hh]; rfl, by simp only [World.cell?, hh]; rfl, s0.below hb, u0.below hb⟩
    | 1, _ => exact ⟨a1, c1, b1, d1, by simp only [World.cell?, hh]; rfl, by simp only [World.cell?, hh]; rfl, by simp only [World.cell?, hh]; rfl, by simp only [World.cell?, hh]; rfl, by simp only [World.cell?, hh]; rfl, s1.below hb, u1.below hb⟩
    | 2, _ => exact ⟨a2, c2, b2, d2, by simp only [World.cell?, hh]; rfl, by simp only [World.cell?, hh]; rfl, by simp only [World.cell?, hh]; rfl, by simp only [World.cell?, hh]; rfl, by simp only [World.cell?, hh]; rfl, s2.below hb, u2.below hb⟩
    | 3, _ => exact ⟨a3, c3, b3, d3, by simp only [World.cell?, hh]; rfl, by simp only [World.cell?, hh]; rfl, by simp only [World.cell?, hh]; rfl, by simp only [World.cell?, hh]; rfl, by simp only [World.cell?, hh]; rfl, s3.below hb, u3.below hb⟩
    | 4, _ => exact ⟨a4, c4, b4, d4, by simp only [World.cell?, hh]; rfl, by simp only [World.cell?, hh]; rfl, by simp only [World.cell?, hh]; rfl, by simp only [World.cell?, hh]; rfl, by simp only [World.cell?, hh]; rfl, s4.below hb, u4.below hb⟩
    | 5, _ => exact ⟨a5, c5, b5, d5, by simp only [World.cell?, hh]; rfl, by simp only [World.cell?, hh]; rfl, by simp only [World.cell?, hh]; rfl, by simp only [World.cell?, hh]; rfl, by simp only [World.cell?, hh]; rfl, s5.below hb, u5.below hb⟩
end

end Go.Proofs.Ytlhokfildhcdhaa
