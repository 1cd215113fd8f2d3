/- The walk of MemStill: for every input it answers true, and nothing that was there has turned. -/
import Derived.Test.YthopadoabdiooaaMmJ
import Derived.Deep.Cut
import Derived.Deep.DeepCutAuto
namespace Go.Proofs.Ythopadoabdiooaa.Mm
open Go Go.RowKit Go.Proofs.Ythopadoabdiooaa.Sk Go.Proofs.Ythopadoabdiooaa.Sm
set_option linter.unusedVariables false
set_option linter.unusedSimpArgs false

/-- Two memories, neither of which has a block of the other one. -/
def Has2 (base : Nat) (w : World) (a b : Nat) (s r t q : List (It Ent)) : Prop := ∃ A B, A.m = a ∧ B.m = b ∧ Held w A s r ∧ Held w B t q ∧ (∀ k, OwnM A s k → base ≤ k) ∧ (∀ k, OwnM B t k → base ≤ k) ∧ ∀ k, OwnM A s k → ¬ OwnM B t k
section
variable {base a b : Nat} {w w' : World} {s r t q : List (It Ent)}
theorem Has2.below (h : Has2 base w a b s r t q) (hb : Below w.heap.size w w') : Has2 base w' a b s r t q := by
  obtain ⟨A, B, e1, e2, h1, h2, h3⟩ := h
  exact ⟨A, B, e1, e2, h1.below hb, h2.below hb, h3⟩
theorem Has2.one (h : Has2 base w a b s r t q) : Has base w a s r := by
  obtain ⟨A, B, e1, e2, h1, h2, h3, h4, h5⟩ := h
  exact ⟨A, e1, h1, h3⟩
theorem Has2.two (h : Has2 base w a b s r t q) : Has base w b t q := by
  obtain ⟨A, B, e1, e2, h1, h2, h3, h4, h5⟩ := h
  exact ⟨B, e2, h2, h4⟩
/-- Made one behind the other. -/
theorem Has2.of (h : Has base w a s r) (hb : base ≤ w.heap.size) (w1 : World) (hw : Below w.heap.size w w1) (k : Has w.heap.size w1 b t q) : Has2 base w1 a b s r t q := by
  obtain ⟨A, e1, h1, h3⟩ := h
  obtain ⟨B, e2, h2, h4⟩ := k
  exact ⟨A, B, e1, e2, h1.below hw, h2, h3, fun x hx => Nat.le_trans hb (h4 x hx), fun x hx hy => by have := h1.own_lt hx; have := h4 x hy; omega⟩
theorem has2_one (h : Has2 base w a b s r t q) (hb : base ≤ w.heap.size) (e : Ent) (H : Int) (hf : Fit e) (hr : r.length < 100000) :
    Calls Try.prog 13 #[.pointer (some ⟨a, 0, none⟩), enV e, .int .i64 H] w fun x w' => x = .returned (.int .i64 (putE e s)) ∧ Has2 base w' a b (putS e H s) (putR e H s r) t q ∧ Below base w w' := by
  obtain ⟨A, B, rfl, rfl, h1, h2, h3, h4, h5⟩ := h
  refine (put_any h1 e H hf hr).mono ?_
  rintro x w' ⟨rfl, ⟨M', e1, g3, g4, g5⟩⟩
  refine ⟨rfl, ⟨M', B, e1, rfl, g3, h2.turned g4 fun k hk ha => h5 k ha hk, fun k hk => ?_, h4, fun k hk hk2 => ?_⟩, g4.to_below hb h3⟩
  · rcases g5 k hk with h6 | h6
    · exact h3 k h6
    · omega
  · rcases g5 k hk with h6 | h6
    · exact h5 k h6 hk2
    · have := h2.own_lt hk2; omega
theorem has2_two (h : Has2 base w a b s r t q) (hb : base ≤ w.heap.size) (e : Ent) (H : Int) (hf : Fit e) (hr : q.length < 100000) :
    Calls Try.prog 13 #[.pointer (some ⟨b, 0, none⟩), enV e, .int .i64 H] w fun x w' => x = .returned (.int .i64 (putE e t)) ∧ Has2 base w' a b s r (putS e H t) (putR e H t q) ∧ Below base w w' := by
  obtain ⟨A, B, rfl, rfl, h1, h2, h3, h4, h5⟩ := h
  refine (put_any h2 e H hf hr).mono ?_
  rintro x w' ⟨rfl, ⟨M', e1, g3, g4, g5⟩⟩
  refine ⟨rfl, ⟨A, M', rfl, e1, h1.turned g4 fun k hk ha => h5 k hk ha, g3, h3, fun k hk => ?_, fun k hk hk2 => ?_⟩, g4.to_below hb h4⟩
  · rcases g5 k hk with h6 | h6
    · exact h4 k h6
    · omega
  · rcases g5 k hk2 with h6 | h6
    · exact h5 k hk h6
    · have := h1.own_lt hk; omega
end

theorem fill_filter {l u : List Pu} (hu : Unlike l u) {t p : List (It Ent)} (hp : Placed t) (hm : ∀ e, e ∈ ents p ↔ e ∈ ents t) {k : Nat} {x : Pu} (hx : u[k]? = some x) (hf : Fit x.e) (f : Pu → Bool) (hfx : f x = true) (he : ents p = entsQ ((u.take k).filter f)) (H : Int) :
    putE x.e t = 0 ∧ ents (putR x.e H t p) = entsQ ((u.take (k + 1)).filter f) := by
  have hsplit : u.take (k + 1) = u.take k ++ [x] := by rw [List.take_add_one, hx]; rfl
  have hv : (u.take (k + 1)).filter f = (u.take k).filter f ++ [x] := by rw [hsplit, List.filter_append, List.filter_cons_of_pos hfx]; rfl
  have hU : Unlike l ((u.take k).filter f ++ [x]) := by rw [← hv]; exact hu.of (List.filter_sublist.trans (List.take_sublist _ _))
  have h1 := fill_step hU hp hm (k := ((u.take k).filter f).length) (x := x) (by simp) hf (by rw [he]; simp) H
  refine ⟨h1.1, ?_⟩
  rw [h1.2, hv, List.take_of_length_le (by simp)]
theorem filter_skip {u : List Pu} {k : Nat} {x : Pu} (hx : u[k]? = some x) (f : Pu → Bool) (hfx : f x = false) : (u.take (k + 1)).filter f = (u.take k).filter f := by
  have hsplit : u.take (k + 1) = u.take k ++ [x] := by rw [List.take_add_one, hx]; rfl
  rw [hsplit, List.filter_append, List.filter_cons_of_neg (by rw [hfx]; decide)]
  simp
/-- What is told of a memory with these entries. -/
structure Still (u : List Pu) (K : ByteArray) (q : Nat) (o : Option Ent) : Prop where
  some_ : ∀ e, o = some e → (∃ x ∈ u, x.e = e) ∧ e.key = K ∧ e.seq ≤ q ∧ ∀ y ∈ u, y.e.key = K → y.e.seq ≤ q → y.e.seq ≤ e.seq
  none_ : o = none → ∀ y ∈ u, y.e.key = K → ¬ y.e.seq ≤ q
theorem still_of {base m : Nat} {w : World} {s r : List (It Ent)} {u : List Pu} (h : Has base w m s r) (he : ents r = entsQ u) (K : ByteArray) (q : Nat) (hq : q < 18446744073709551616) : Still u K q (atL s K.data.toList q) := by
  have hm : ∀ e, e ∈ ents s ↔ ∃ x ∈ u, x.e = e := fun e => by rw [← h.ents_mem e, he]; exact List.mem_map
  refine ⟨fun e ha => ?_, fun ha y hy hk => ?_⟩
  · obtain ⟨h1, h2, h3, h4⟩ := at_some h.placed hq ha
    exact ⟨(hm e).1 h1, WideShapes.bytes_inj h2, h3, fun y hy hk hl => h4 y.e ((hm _).2 ⟨y, hy, rfl⟩) (by rw [hk]) hl⟩
  · exact at_none h.placed hq ha y.e ((hm _).2 ⟨y, hy, rfl⟩) (by rw [hk])

set_option maxHeartbeats 4000000 in
set_option maxRecDepth 100000 in
theorem still_small {ao : Option Addr} {n cap : Nat} {l : List Pu} (K : ByteArray) (q : Nat) (w : World) (h : SeesQ w (.slice ao n cap) l) (hl : SmallQ l) (hK : K.size ≤ 20000) (hq : q < 18446744073709551616) :
    Calls Try.prog 7 #[.slice ao n cap, .string K, .int .u64 (q : Int)] w fun e w' => e = .returned (.bool true) ∧ Below w.heap.size w w' := by
  have HG := Lib.hid (great_any w h)
  have HU := Lib.hid (fun W (hb : Below w.heap.size w W) => unlike_any W (h.below hb) hl)
  have HSM := Lib.hid hl
  have HAW := Lib.hid awake_any
  have hki : (K.size : Int) ≤ 20000 := by omega
  clear h hl
  go_enter Try.func7, Try.ntmps7
  go_wp2_with fail
  refine HG.out.mono ?_
  rintro e w1 ⟨gb, rfl, hb1, _⟩
  have B1 := Lib.hid hb1
  clear hb1
  cases gb with
  | true =>
    go_wp2_with fail
    refine (HAW.out _).mono ?_
    rintro e w2 ⟨rfl, hb2⟩
    have B2 := Lib.hid (Below.next B1.out hb2)
    clear hb2
    go_wp2_with fail
    go_ret
    exact ⟨rfl, B2.out⟩
  | false =>
    go_wp2_with fail
    refine (HU.out _ B1.out).mono ?_
    rintro e w2 ⟨v, u, rfl, ho, hu, hb2⟩
    have HO := Lib.hid ho
    have HUN := Lib.hid hu
    have B2 := Lib.hid (Below.next B1.out hb2)
    obtain ⟨a2, cp2, e2⟩ := row_any ho
    subst e2
    clear ho hu hb2
    have HEL := Lib.hid (fun (k : Nat) (x : Pu) (hx : u[k]? = some x) => HO.out.get hx)
    have HFIT : Hid (∀ x ∈ u, Fit x.e) := Lib.hid (fun x hx => HSM.out.2 x (HUN.out.sub x hx))
    have HUL : Hid (u.length ≤ 100) := Lib.hid (Nat.le_trans HUN.out.few HSM.out.1)
    have hul : (u.length : Int) ≤ 100 := by have := HUL.out; omega
    go_wp2_with fail
    refine (has_new _).mono ?_
    rintro e w3 ⟨a, rfl, h3, hb3⟩
    have H3 := Lib.hid h3
    have B3 := Lib.hid hb3
    clear h3 hb3
    go_wp2_with fail
    refine (has_new _).mono ?_
    rintro e w4 ⟨b, rfl, h4, hb4⟩
    have H4 : Hid (Has2 w2.heap.size w4 a b [] [] [] []) := Lib.hid (Has2.of H3.out B3.out.size _ hb4 h4)
    have B4 : Hid (Below w2.heap.size w2 w4) := Lib.hid (Below.next B3.out hb4)
    clear h4 hb4 H3 B3
    obtain ⟨f, hf⟩ : ∃ f : Pu → Bool, f = fun x => decide (x.e.seq ≤ q) := ⟨_, rfl⟩
    have HF := Lib.hid hf
    clear hf
    go_wp2_with fail
    go_loopw [10] (fun i wr => ∃ (k : Nat) (s r t p : List (It Ent)), k ≤ u.length ∧ i = .int .i64 (k : Int) ∧ Hid (Has2 w2.heap.size wr a b s r t p) ∧ Hid (ents r = entsQ (u.take k)) ∧ Hid (ents p = entsQ ((u.take k).filter f)) ∧ Hid (Below w2.heap.size w2 wr)) (fun i _ => u.length - (intOf i).toNat)
    case atStart => exact ⟨0, [], [], [], [], Nat.zero_le _, rfl, H4, Lib.hid rfl, Lib.hid rfl, B4⟩
    case round =>
      obtain ⟨k, s, r, t, p, hk, rfl, HH, HE, HP, HB⟩ := hrel
      by_cases hkn : k < u.length
      · obtain ⟨x, hx⟩ : ∃ x, u[k]? = some x := ⟨u[k]'hkn, List.getElem?_eq_getElem _⟩
        obtain ⟨g, cp3, hsh, hg, _, c0, c1, c2, c3, c4⟩ := HEL.out k x hx
        simp only [Value.slice.injEq] at hsh
        obtain ⟨rfl, _, rfl⟩ := hsh
        have hfx := HFIT.out x (List.mem_of_getElem? hx)
        obtain ⟨hz0, hz1⟩ := fill_step HUN.out HH.out.one.placed HH.out.one.ents_mem hx hfx HE.out x.h
        have HZ1 := Lib.hid hz1
        have HX := Lib.hid hx
        have HFX := Lib.hid hfx
        have hrl := len_of_ents HE.out hk
        have hpl : p.length ≤ 100 := by
          have h1 := congrArg List.length HP.out
          have h2 : ((u.take k).filter f).length ≤ (u.take k).length := List.length_filter_le ..
          have h3 := HUL.out
          simp only [ents, entsQ, List.length_map, List.length_take] at h1 h2
          omega
        have HPL := Lib.hid hpl
        have HPUT : Hid (∀ W, Below wr.heap.size wr W → Calls Try.prog 13 #[.pointer (some ⟨a, 0, none⟩), .agg #[.string x.e.key, .string x.e.val, .int .u64 (x.e.seq : Int), .bool x.e.gone], .int .i64 x.h] W fun y w' => y = .returned (.int .i64 0) ∧ Has2 w2.heap.size w' a b (putS x.e x.h s) (putR x.e x.h s r) t p ∧ Below w2.heap.size W w') := Lib.hid (fun W hb => by
          have h1 := has2_one (HH.out.below hb) (Nat.le_trans HB.out.size hb.size) x.e x.h hfx (by rw [hrl]; omega)
          rw [hz0] at h1
          exact h1)
        have HCS : Hid (∀ W, Below w2.heap.size w2 W → W.cell? ⟨g, k * 5, none⟩ = some (.string x.e.key) ∧ W.cell? ⟨g, k * 5 + 1, none⟩ = some (.string x.e.val) ∧ W.cell? ⟨g, k * 5 + 2, none⟩ = some (.int .u64 (x.e.seq : Int)) ∧ W.cell? ⟨g, k * 5 + 3, none⟩ = some (.bool x.e.gone) ∧ W.cell? ⟨g, k * 5 + 4, none⟩ = some (.int .i64 x.h)) := Lib.hid (fun W hb =>
          ⟨(hb.cell (p := ⟨g, _, none⟩) hg).trans c0, (hb.cell (p := ⟨g, _, none⟩) hg).trans c1, (hb.cell (p := ⟨g, _, none⟩) hg).trans c2, (hb.cell (p := ⟨g, _, none⟩) hg).trans c3, (hb.cell (p := ⟨g, _, none⟩) hg).trans c4⟩)
        have hkk : (k : Int) < u.length := by omega
        clear hx hg c0 c1 c2 c3 c4 hfx hz0 hz1 hrl hpl
        go_wp2_with fail
        refine wp_region_held_drew (S := fun w' => w'.cell? ⟨g, k * 5, none⟩ = some (.string x.e.key) ∧ w'.cell? ⟨g, k * 5 + 1, none⟩ = some (.string x.e.val) ∧ w'.cell? ⟨g, k * 5 + 2, none⟩ = some (.int .u64 (x.e.seq : Int)) ∧ w'.cell? ⟨g, k * 5 + 3, none⟩ = some (.bool x.e.gone) ∧ w'.cell? ⟨g, k * 5 + 4, none⟩ = some (.int .i64 x.h)) (by kernel_rfl) (HCS.out _ HB.out.drew) (fun hH => ?_)
        refine wpAnyH_take (i := 0) (v := ?v0) rfl (by kernel_rfl) (by kernel_rfl) (by kernel_rfl) (fun _ _ _ h => h) (Or.inl ⟨by kernel_rfl, ?y0⟩) (by assumption) ?_; case y0 => (intro w' hS; obtain ⟨s0, s1, s2, s3, s4⟩ := hS; go_simp; try with_reducible rfl)
        simp only [Act.put, List.setIfInBounds_toArray, List.set_cons_zero, List.set_cons_succ]
        refine wpAnyH_take (i := 1) (v := ?v1) rfl (by kernel_rfl) (by kernel_rfl) (by kernel_rfl) (fun _ _ _ h => h) (Or.inl ⟨by kernel_rfl, ?y1⟩) (by assumption) ?_; case y1 => (intro w' hS; obtain ⟨s0, s1, s2, s3, s4⟩ := hS; go_simp; try with_reducible rfl)
        simp only [Act.put, List.setIfInBounds_toArray, List.set_cons_zero, List.set_cons_succ]
        refine wpAnyH_take (i := 2) (v := ?v2) rfl (by kernel_rfl) (by kernel_rfl) (by kernel_rfl) (fun _ _ _ h => h) (Or.inl ⟨by kernel_rfl, ?y2⟩) (by assumption) ?_; case y2 => (intro w' hS; obtain ⟨s0, s1, s2, s3, s4⟩ := hS; go_simp; try with_reducible rfl)
        simp only [Act.put, List.setIfInBounds_toArray, List.set_cons_zero, List.set_cons_succ]
        refine wpAnyH_take (i := 3) (v := ?v3) rfl (by kernel_rfl) (by kernel_rfl) (by kernel_rfl) (fun _ _ _ h => h) (Or.inl ⟨by kernel_rfl, ?y3⟩) (by assumption) ?_; case y3 => (intro w' hS; obtain ⟨s0, s1, s2, s3, s4⟩ := hS; go_simp; try with_reducible rfl)
        simp only [Act.put, List.setIfInBounds_toArray, List.set_cons_zero, List.set_cons_succ]
        refine wpAnyH_take (i := 4) (v := ?v4) rfl (by kernel_rfl) (by kernel_rfl) (by kernel_rfl) (fun _ _ _ h => h) (Or.inl ⟨by kernel_rfl, ?y4⟩) (by assumption) ?_; case y4 => (intro w' hS; obtain ⟨s0, s1, s2, s3, s4⟩ := hS; go_simp; try with_reducible rfl)
        simp only [Act.put, List.setIfInBounds_toArray, List.set_cons_zero, List.set_cons_succ]
        refine wpAnyH_take (i := 5) (v := ?v5) rfl (by kernel_rfl) (by kernel_rfl) (by kernel_rfl) (fun _ _ _ h => h) (Or.inl ⟨by kernel_rfl, ?y5⟩) (by assumption) ?_; case y5 => (intro w' hS; obtain ⟨s0, s1, s2, s3, s4⟩ := hS; go_simp; try with_reducible rfl)
        simp only [Act.put, List.setIfInBounds_toArray, List.set_cons_zero, List.set_cons_succ]
        refine wpAnyH_take (i := 6) (v := ?v6) rfl (by kernel_rfl) (by kernel_rfl) (by kernel_rfl) (fun _ _ _ h => h) (Or.inl ⟨by kernel_rfl, ?y6⟩) (by assumption) ?_; case y6 => (intro w' hS; obtain ⟨s0, s1, s2, s3, s4⟩ := hS; go_simp; try with_reducible rfl)
        simp only [Act.put, List.setIfInBounds_toArray, List.set_cons_zero, List.set_cons_succ]
        refine wpAnyH_take (i := 7) (v := ?v7) rfl (by kernel_rfl) (by kernel_rfl) (by kernel_rfl) (fun _ _ _ h => h) (Or.inl ⟨by kernel_rfl, ?y7⟩) (by assumption) ?_; case y7 => (intro w' hS; obtain ⟨s0, s1, s2, s3, s4⟩ := hS; go_simp; try with_reducible rfl)
        simp only [Act.put, List.setIfInBounds_toArray, List.set_cons_zero, List.set_cons_succ]
        refine wpAnyH_take (i := 8) (v := ?v8) rfl (by kernel_rfl) (by kernel_rfl) (by kernel_rfl) (fun _ _ _ h => h) (Or.inl ⟨by kernel_rfl, ?y8⟩) (by assumption) ?_; case y8 => (intro w' hS; obtain ⟨s0, s1, s2, s3, s4⟩ := hS; go_simp; try with_reducible rfl)
        simp only [Act.put, List.setIfInBounds_toArray, List.set_cons_zero, List.set_cons_succ]
        refine wpAnyH_take (i := 9) (v := ?v9) rfl (by kernel_rfl) (by kernel_rfl) (by kernel_rfl) (fun _ _ _ h => h) (Or.inl ⟨by kernel_rfl, ?y9⟩) (by assumption) ?_; case y9 => (intro w' hS; obtain ⟨s0, s1, s2, s3, s4⟩ := hS; go_simp; try with_reducible rfl)
        simp only [Act.put, List.setIfInBounds_toArray, List.set_cons_zero, List.set_cons_succ]
        refine wpAnyH_take (i := 10) (v := ?v10) rfl (by kernel_rfl) (by kernel_rfl) (by kernel_rfl) (fun _ _ _ h => h) (Or.inl ⟨by kernel_rfl, ?y10⟩) (by assumption) ?_; case y10 => (intro w' hS; obtain ⟨s0, s1, s2, s3, s4⟩ := hS; go_simp; try with_reducible rfl)
        simp only [Act.put, List.setIfInBounds_toArray, List.set_cons_zero, List.set_cons_succ]
        refine wpAnyH_ready (rs := [11]) (by kernel_rfl) (by simp) ?_
        refine AllReadyH.cons rfl (fun K hK => ?_) AllReadyH.nil
        go_simp
        refine (HPUT.out _ (drew_below (Below.refl _ _))).mono ?_
        rintro y w5 ⟨rfl, h5, hb5⟩
        have H5 := Lib.hid h5
        have B5 : Hid (Below w2.heap.size w2 w5) := Lib.hid (HB.out.drew.trans hb5)
        clear h5 hb5
        refine hK.out _ _ (HCS.out _ B5.out) (fun _ => ?_)
        clear hK K hH HPUT
        try simp only [Act.put, List.setIfInBounds_toArray, List.set_cons_zero, List.set_cons_succ]
        refine wpAnyH_done (by kernel_rfl) ?_ _
        obtain ⟨d0, d1, d2, d3, d4⟩ := HCS.out _ B5.out
        by_cases hle : x.e.seq ≤ q
        · have hli : ((x.e.seq : Nat) : Int) ≤ q := by omega
          have hfi : f x = true := by rw [HF.out]; simpa using hle
          obtain ⟨hy0, hy1⟩ := fill_filter HUN.out H5.out.two.placed H5.out.two.ents_mem HX.out HFX.out f hfi HP.out 1
          have HY1 := Lib.hid hy1
          have HPB : Hid (Calls Try.prog 13 #[.pointer (some ⟨b, 0, none⟩), .agg #[.string x.e.key, .string x.e.val, .int .u64 (x.e.seq : Int), .bool x.e.gone], .int .i64 1] w5 fun y w' => y = .returned (.int .i64 0) ∧ Has2 w2.heap.size w' a b (putS x.e x.h s) (putR x.e x.h s r) (putS x.e 1 t) (putR x.e 1 t p) ∧ Below w2.heap.size w5 w') := Lib.hid (by
            have h1 := has2_two H5.out B5.out.size x.e 1 HFX.out (by have := HPL.out; omega)
            rw [hy0] at h1
            exact h1)
          clear hle hfi hy0 hy1
          go_wp2_with fail
          refine HPB.out.mono ?_
          rintro y w6 ⟨rfl, h6, hb6⟩
          have H6 := Lib.hid h6
          have B6 : Hid (Below w2.heap.size w2 w6) := Lib.hid (B5.out.trans hb6)
          clear h6 hb6 HPB
          go_wp2_with fail
          go_roundw
          case rel => exact ⟨k + 1, _, _, _, _, by omega, by go_num, H6, HZ1, HY1, B6⟩
          case measure => simp [intOf]; omega
        · have hli : ¬ ((x.e.seq : Nat) : Int) ≤ q := by omega
          have hfi : f x = false := by rw [HF.out]; simpa using hle
          have HY1 : Hid (ents p = entsQ ((u.take (k + 1)).filter f)) := Lib.hid (by rw [filter_skip HX.out f hfi]; exact HP.out)
          clear hle hfi
          go_wp2_with fail
          go_roundw
          case rel => exact ⟨k + 1, _, _, _, _, by omega, by go_num, H5, HZ1, HY1, B5⟩
          case measure => simp [intOf]; omega
      · obtain rfl : k = u.length := by omega
        have hub : u.take u.length = u := List.take_of_length_le (Nat.le_refl _)
        rw [hub] at HE HP
        have hm1 : ∀ e, e ∈ ents s ↔ ∃ x ∈ u, x.e = e := fun e => by rw [← HH.out.one.ents_mem e, HE.out]; exact List.mem_map
        have hm2 : ∀ e, e ∈ ents t ↔ ∃ x ∈ u.filter f, x.e = e := fun e => by rw [← HH.out.two.ents_mem e, HP.out]; exact List.mem_map
        have hsame : atL s K.data.toList q = atL t K.data.toList q := at_same HH.out.one.placed HH.out.two.placed hq fun e _ hle => by
          rw [hm1, hm2]
          constructor
          · rintro ⟨x, hx, rfl⟩
            exact ⟨x, List.mem_filter.2 ⟨hx, by rw [HF.out]; simpa using hle⟩, rfl⟩
          · rintro ⟨x, hx, rfl⟩
            exact ⟨x, (List.mem_filter.1 hx).1, rfl⟩
        have HST := Lib.hid (still_of HH.out.one HE.out K q hq)
        have HA1 := Lib.hid (has_at HH.out.one K q (by omega) hq)
        have HA2 := Lib.hid (fun W (hb : Below wr.heap.size wr W) => has_at (HH.out.below hb).two K q (by omega) hq)
        rw [← hsame] at HA2
        generalize atL s K.data.toList q = o at *
        clear hub hkn hk hm1 hm2 hsame
        have B8 : Hid (∀ {W : World}, Below wr.heap.size wr W → Below w.heap.size w W) := Lib.hid (fun hb => B2.out.trans ((HB.out.trans (hb.mono HB.out.size)).mono B2.out.size))
        cases o with
        | none =>
          have HNO := Lib.hid (HST.out.none_ rfl)
          rw [show atV none = .tuple #[.agg #[.string ⟨#[]⟩, .string ⟨#[]⟩, .int .u64 0, .bool false], .bool false] from rfl] at HA1 HA2
          go_wp2_with fail
          refine HA1.out.mono ?_
          rintro e w5 ⟨rfl, hb5⟩
          have B5 := Lib.hid hb5
          clear hb5
          go_wp2_with fail
          obtain ⟨w6, hw6⟩ : ∃ w6, w6 = w5.alloc (.cells #[.string ⟨#[]⟩, .string ⟨#[]⟩, .int .u64 0, .bool false] 32) := ⟨_, rfl⟩
          rw [← hw6]
          have hb6 : Below w5.heap.size w5 w6 := by rw [hw6]; exact alloc_below w5 _
          have hx6 : w6.heap[w5.heap.size]? = some (.cells #[.string ⟨#[]⟩, .string ⟨#[]⟩, .int .u64 0, .bool false] 32 (0, 0)) := by rw [hw6]; exact heap_alloc_new w5 _
          have B6 := Lib.hid (Below.next B5.out hb6)
          clear hw6 hb6
          refine (HA2.out _ B6.out).mono ?_
          rintro e w7 ⟨rfl, hb7⟩
          have B7 := Lib.hid (Below.next B6.out hb7)
          have hx7 := (hb7.block _ (heap_lt hx6)).trans hx6
          have HX7 := Lib.hid hx7
          have q0 : ∀ o, (w7.alloc o).cell? ⟨w5.heap.size, 0, none⟩ = some _ := fun o => (box4 ((RowKit.Below.heap_alloc w7 o _ (heap_lt hx7)).trans hx7)).1
          have q1 : ∀ o, (w7.alloc o).cell? ⟨w5.heap.size, 1, none⟩ = some _ := fun o => (box4 ((RowKit.Below.heap_alloc w7 o _ (heap_lt hx7)).trans hx7)).2.1
          have q2 : ∀ o, (w7.alloc o).cell? ⟨w5.heap.size, 2, none⟩ = some _ := fun o => (box4 ((RowKit.Below.heap_alloc w7 o _ (heap_lt hx7)).trans hx7)).2.2.1
          have q3 : ∀ o, (w7.alloc o).cell? ⟨w5.heap.size, 3, none⟩ = some _ := fun o => (box4 ((RowKit.Below.heap_alloc w7 o _ (heap_lt hx7)).trans hx7)).2.2.2.1
          clear hb7 hx6 hx7 HA1 HA2
          go_wp2_with fail
          obtain ⟨w8, hw8⟩ : ∃ w8, w8 = w7.alloc (.cells #[.string ⟨#[]⟩, .string ⟨#[]⟩, .int .u64 0, .bool false] 32) := ⟨_, rfl⟩
          rw [← hw8]
          have hb8 : Below w7.heap.size w7 w8 := by rw [hw8]; exact alloc_below w7 _
          have B9 := Lib.hid (Below.next B7.out hb8)
          have HX8 := Lib.hid ((hb8.block _ (heap_lt HX7.out)).trans HX7.out)
          have HB8 := Lib.hid (HB.out.trans (B9.out.mono HB.out.size))
          clear hw8 hb8 q0 q1 q2 q3
          go_loopw [15, 16] (fun tb i wi => ∃ (k : Nat) (bb : Bool), k ≤ u.length ∧ i = .int .i64 (k : Int) ∧ tb = .bool bb ∧ Hid (bb = false) ∧ Hid (Below w8.heap.size w8 wi)) (fun _ i _ => u.length - (intOf i).toNat)
          case atStart => exact ⟨0, false, Nat.zero_le _, rfl, rfl, Lib.hid rfl, Lib.hid (Below.refl _ _)⟩
          case round =>
            obtain ⟨k, bb, hk, rfl, rfl, HI, HBW⟩ := hrel
            by_cases hkn : k < u.length
            · obtain ⟨x, hx⟩ : ∃ x, u[k]? = some x := ⟨u[k]'hkn, List.getElem?_eq_getElem _⟩
              obtain ⟨g, cp3, hsh, hg, _, c0', c1', c2', c3', _⟩ := HEL.out k x hx
              simp only [Value.slice.injEq] at hsh
              obtain ⟨rfl, _, rfl⟩ := hsh
              have hbw := HB8.out.trans (HBW.out.mono HB8.out.size)
              have c0 := (hbw.cell (p := ⟨g, k * 5, none⟩) hg).trans c0'
              have c1 := (hbw.cell (p := ⟨g, k * 5 + 1, none⟩) hg).trans c1'
              have c2 := (hbw.cell (p := ⟨g, k * 5 + 2, none⟩) hg).trans c2'
              have c3 := (hbw.cell (p := ⟨g, k * 5 + 3, none⟩) hg).trans c3'
              have hx8 := (HBW.out.block _ (heap_lt HX8.out)).trans HX8.out
              have q0 : ∀ o, (wr.alloc o).cell? ⟨w5.heap.size, 0, none⟩ = some _ := fun o => (box4 ((RowKit.Below.heap_alloc wr o _ (heap_lt hx8)).trans hx8)).1
              have q1 : ∀ o, (wr.alloc o).cell? ⟨w5.heap.size, 1, none⟩ = some _ := fun o => (box4 ((RowKit.Below.heap_alloc wr o _ (heap_lt hx8)).trans hx8)).2.1
              have q2 : ∀ o, (wr.alloc o).cell? ⟨w5.heap.size, 2, none⟩ = some _ := fun o => (box4 ((RowKit.Below.heap_alloc wr o _ (heap_lt hx8)).trans hx8)).2.2.1
              have q3 : ∀ o, (wr.alloc o).cell? ⟨w5.heap.size, 3, none⟩ = some _ := fun o => (box4 ((RowKit.Below.heap_alloc wr o _ (heap_lt hx8)).trans hx8)).2.2.2.1
              have hkk : (k : Int) < u.length := by omega
              have HXM := Lib.hid (List.mem_of_getElem? hx)
              have HTK : Hid (u.take (k + 1) = u.take k ++ [x]) := Lib.hid (by rw [List.take_add_one, hx]; rfl)
              have HBN : Hid (∀ o, Below w8.heap.size w8 (wr.alloc o)) := Lib.hid (fun o => HBW.out.alloc HBW.out.size o)
              clear hx hg c0' c1' c2' c3' hbw hx8
              obtain ⟨⟨xk, xv, xs, xg⟩, xh⟩ := x
              dsimp only at c0 c1 c2 c3
              by_cases hke : xk = K
              · have hke2 : K = xk := hke.symm
                clear hke
                subst hke2
                by_cases hse : xs ≤ q
                · exact absurd hse (HNO.out _ HXM.out rfl)
                · have hsi : (q : Int) < (xs : Int) := by omega
                  have HN2 := HI
                  clear hse
                  go_wp2_with fail
                  go_roundw
                  case rel => exact ⟨k + 1, _, by omega, by go_num, rfl, HN2, HBN.out _⟩
                  case measure => simp [intOf]; omega
              · have hkb : (xk.toList == K.toList) = false := beq_false_of_ne fun e => hke (str_eq e)
                have HN2 := HI
                clear hke
                go_wp2_with fail
                go_roundw
                case rel => exact ⟨k + 1, _, by omega, by go_num, rfl, HN2, HBN.out _⟩
                case measure => simp [intOf]; omega
            · obtain rfl : k = u.length := by omega
              obtain rfl : bb = false := HI.out
              clear HI
              go_wp2_with fail
              refine (HAW.out _).mono ?_
              rintro e w9 ⟨rfl, hb9⟩
              have BL := Lib.hid (B8.out (B9.out.trans ((Below.next HBW.out hb9).mono B9.out.size)))
              clear hb9
              go_wp2_with fail
              go_ret
              exact ⟨rfl, BL.out⟩
        | some e0 =>
          obtain ⟨he1, he2, he3, he4⟩ := HST.out.some_ e0 rfl
          obtain ⟨ek, ev, es, eg⟩ := e0
          dsimp only at he2 he3 he4
          subst he2
          have HE1 := Lib.hid he1; have HE4 := Lib.hid he4
          have hes : ¬ (q : Int) < (es : Int) := by omega
          clear he1 he3 he4 HST
          rw [show atV (some (⟨ek, ev, es, eg⟩ : Ent)) = .tuple #[.agg #[.string ek, .string ev, .int .u64 (es : Int), .bool eg], .bool true] from rfl] at HA1 HA2
          go_wp2_with fail
          refine HA1.out.mono ?_
          rintro e w5 ⟨rfl, hb5⟩
          have B5 := Lib.hid hb5
          clear hb5
          go_wp2_with fail
          obtain ⟨w6, hw6⟩ : ∃ w6, w6 = w5.alloc (.cells #[.string ek, .string ev, .int .u64 (es : Int), .bool eg] 32) := ⟨_, rfl⟩
          rw [← hw6]
          have hb6 : Below w5.heap.size w5 w6 := by rw [hw6]; exact alloc_below w5 _
          have hx6 : w6.heap[w5.heap.size]? = some (.cells #[.string ek, .string ev, .int .u64 (es : Int), .bool eg] 32 (0, 0)) := by rw [hw6]; exact heap_alloc_new w5 _
          have B6 := Lib.hid (Below.next B5.out hb6)
          clear hw6 hb6
          refine (HA2.out _ B6.out).mono ?_
          rintro e w7 ⟨rfl, hb7⟩
          have B7 := Lib.hid (Below.next B6.out hb7)
          have hx7 := (hb7.block _ (heap_lt hx6)).trans hx6
          have HX7 := Lib.hid hx7
          have q0 : ∀ o, (w7.alloc o).cell? ⟨w5.heap.size, 0, none⟩ = some _ := fun o => (box4 ((RowKit.Below.heap_alloc w7 o _ (heap_lt hx7)).trans hx7)).1
          have q1 : ∀ o, (w7.alloc o).cell? ⟨w5.heap.size, 1, none⟩ = some _ := fun o => (box4 ((RowKit.Below.heap_alloc w7 o _ (heap_lt hx7)).trans hx7)).2.1
          have q2 : ∀ o, (w7.alloc o).cell? ⟨w5.heap.size, 2, none⟩ = some _ := fun o => (box4 ((RowKit.Below.heap_alloc w7 o _ (heap_lt hx7)).trans hx7)).2.2.1
          have q3 : ∀ o, (w7.alloc o).cell? ⟨w5.heap.size, 3, none⟩ = some _ := fun o => (box4 ((RowKit.Below.heap_alloc w7 o _ (heap_lt hx7)).trans hx7)).2.2.2.1
          clear hb7 hx6 hx7 HA1 HA2
          go_wp2_with fail
          obtain ⟨w8, hw8⟩ : ∃ w8, w8 = w7.alloc (.cells #[.string ek, .string ev, .int .u64 (es : Int), .bool eg] 32) := ⟨_, rfl⟩
          rw [← hw8]
          have hb8 : Below w7.heap.size w7 w8 := by rw [hw8]; exact alloc_below w7 _
          have B9 := Lib.hid (Below.next B7.out hb8)
          have HX8 := Lib.hid ((hb8.block _ (heap_lt HX7.out)).trans HX7.out)
          have HB8 := Lib.hid (HB.out.trans (B9.out.mono HB.out.size))
          clear hw8 hb8 q0 q1 q2 q3
          go_loopw [15, 16] (fun tb i wi => ∃ (k : Nat) (bb : Bool), k ≤ u.length ∧ i = .int .i64 (k : Int) ∧ tb = .bool bb ∧ Hid ((∃ y ∈ u.take k, y.e = ⟨ek, ev, es, eg⟩) → bb = true) ∧ Hid (Below w8.heap.size w8 wi)) (fun _ i _ => u.length - (intOf i).toNat)
          case atStart => exact ⟨0, false, Nat.zero_le _, rfl, rfl, Lib.hid (by rintro ⟨y, hy, _⟩; simp at hy), Lib.hid (Below.refl _ _)⟩
          case round =>
            obtain ⟨k, bb, hk, rfl, rfl, HI, HBW⟩ := hrel
            by_cases hkn : k < u.length
            · obtain ⟨x, hx⟩ : ∃ x, u[k]? = some x := ⟨u[k]'hkn, List.getElem?_eq_getElem _⟩
              obtain ⟨g, cp3, hsh, hg, _, c0', c1', c2', c3', _⟩ := HEL.out k x hx
              simp only [Value.slice.injEq] at hsh
              obtain ⟨rfl, _, rfl⟩ := hsh
              have hbw := HB8.out.trans (HBW.out.mono HB8.out.size)
              have c0 := (hbw.cell (p := ⟨g, k * 5, none⟩) hg).trans c0'
              have c1 := (hbw.cell (p := ⟨g, k * 5 + 1, none⟩) hg).trans c1'
              have c2 := (hbw.cell (p := ⟨g, k * 5 + 2, none⟩) hg).trans c2'
              have c3 := (hbw.cell (p := ⟨g, k * 5 + 3, none⟩) hg).trans c3'
              have hx8 := (HBW.out.block _ (heap_lt HX8.out)).trans HX8.out
              have q0 : ∀ o, (wr.alloc o).cell? ⟨w5.heap.size, 0, none⟩ = some _ := fun o => (box4 ((RowKit.Below.heap_alloc wr o _ (heap_lt hx8)).trans hx8)).1
              have q1 : ∀ o, (wr.alloc o).cell? ⟨w5.heap.size, 1, none⟩ = some _ := fun o => (box4 ((RowKit.Below.heap_alloc wr o _ (heap_lt hx8)).trans hx8)).2.1
              have q2 : ∀ o, (wr.alloc o).cell? ⟨w5.heap.size, 2, none⟩ = some _ := fun o => (box4 ((RowKit.Below.heap_alloc wr o _ (heap_lt hx8)).trans hx8)).2.2.1
              have q3 : ∀ o, (wr.alloc o).cell? ⟨w5.heap.size, 3, none⟩ = some _ := fun o => (box4 ((RowKit.Below.heap_alloc wr o _ (heap_lt hx8)).trans hx8)).2.2.2.1
              have hkk : (k : Int) < u.length := by omega
              have HXM := Lib.hid (List.mem_of_getElem? hx)
              have HTK : Hid (u.take (k + 1) = u.take k ++ [x]) := Lib.hid (by rw [List.take_add_one, hx]; rfl)
              have HBN : Hid (∀ o, Below w8.heap.size w8 (wr.alloc o)) := Lib.hid (fun o => HBW.out.alloc HBW.out.size o)
              clear hx hg c0' c1' c2' c3' hbw hx8
              obtain ⟨⟨xk, xv, xs, xg⟩, xh⟩ := x
              dsimp only at c0 c1 c2 c3
              by_cases hke : xk = ek
              · have hke2 : ek = xk := hke.symm
                clear hke
                subst hke2
                by_cases hse : xs ≤ q
                · have hle : xs ≤ es := HE4.out _ HXM.out rfl hse
                  have hse1 : ¬ (q : Int) < (xs : Int) := by omega
                  have hse2 : ¬ (es : Int) < (xs : Int) := by omega
                  cases bb with
                  | true =>
                    have HN2 : Hid ((∃ y ∈ u.take (k + 1), y.e = ⟨ek, ev, es, eg⟩) → true = true) := Lib.hid (fun _ => rfl)
                    clear hle hse
                    go_wp2_with fail
                    go_roundw
                    case rel => exact ⟨k + 1, true, by omega, by go_num, rfl, HN2, HBN.out _⟩
                    case measure => simp [intOf]; omega
                  | false =>
                    by_cases heq : xv = ev ∧ xs = es ∧ xg = eg
                    · obtain ⟨rfl, rfl, rfl⟩ := heq
                      have HN2 : Hid ((∃ y ∈ u.take (k + 1), y.e = ⟨ek, xv, xs, xg⟩) → true = true) := Lib.hid (fun _ => rfl)
                      clear hle hse
                      go_wp2_with fail
                      go_roundw
                      case rel => exact ⟨k + 1, true, by omega, by go_num, by first | rfl | simp, HN2, HBN.out _⟩
                      case measure => simp [intOf]; omega
                    · have HN2 : ∀ b2 : Bool, Hid ((∃ y ∈ u.take (k + 1), y.e = ⟨ek, ev, es, eg⟩) → b2 = true) := fun b2 => Lib.hid (fun ⟨y, hy, hye⟩ => by
                        rw [HTK.out] at hy
                        rcases List.mem_append.1 hy with h5 | h5
                        · exact absurd (HI.out ⟨y, h5, hye⟩) (by decide)
                        · rw [List.mem_singleton.1 h5] at hye
                          injection hye with f1 f2 f3 f4
                          exact absurd ⟨f2, f3, f4⟩ heq)
                      have HNN := Lib.hid HN2
                      clear hle hse HN2
                      by_cases hv : xv = ev
                      · subst hv
                        by_cases hs : xs = es
                        · subst hs
                          cases xg with
                          | true =>
                            cases eg with
                            | true => exact absurd ⟨rfl, rfl, rfl⟩ heq
                            | false =>
                              clear heq
                              go_wp2_with fail
                              go_roundw
                              case rel => exact ⟨k + 1, _, by omega, by go_num, by first | rfl | simp, HNN.out _, HBN.out _⟩
                              case measure => simp [intOf]; omega
                          | false =>
                            cases eg with
                            | false => exact absurd ⟨rfl, rfl, rfl⟩ heq
                            | true =>
                              clear heq
                              go_wp2_with fail
                              go_roundw
                              case rel => exact ⟨k + 1, _, by omega, by go_num, by first | rfl | simp, HNN.out _, HBN.out _⟩
                              case measure => simp [intOf]; omega
                        · have hsb : ¬ (xs : Int) = (es : Int) := by omega
                          clear heq hs
                          go_wp2_with fail
                          go_roundw
                          case rel => exact ⟨k + 1, _, by omega, by go_num, by first | rfl | simp, HNN.out _, HBN.out _⟩
                          case measure => simp [intOf]; omega
                      · have hvb : (xv.toList == ev.toList) = false := beq_false_of_ne fun e => hv (str_eq e)
                        clear heq hv
                        go_wp2_with fail
                        go_roundw
                        case rel => exact ⟨k + 1, _, by omega, by go_num, by first | rfl | simp, HNN.out _, HBN.out _⟩
                        case measure => simp [intOf]; omega
                · have hsi : (q : Int) < (xs : Int) := by omega
                  have HN2 : Hid ((∃ y ∈ u.take (k + 1), y.e = ⟨ek, ev, es, eg⟩) → bb = true) := Lib.hid (fun ⟨y, hy, hye⟩ => by
                    rw [HTK.out] at hy
                    rcases List.mem_append.1 hy with h5 | h5
                    · exact HI.out ⟨y, h5, hye⟩
                    · rw [List.mem_singleton.1 h5] at hye
                      injection hye with f1 f2 f3 f4
                      omega)
                  clear hse
                  go_wp2_with fail
                  go_roundw
                  case rel => exact ⟨k + 1, _, by omega, by go_num, rfl, HN2, HBN.out _⟩
                  case measure => simp [intOf]; omega
              · have hkb : (xk.toList == ek.toList) = false := beq_false_of_ne fun e => hke (str_eq e)
                have HN2 : Hid ((∃ y ∈ u.take (k + 1), y.e = ⟨ek, ev, es, eg⟩) → bb = true) := Lib.hid (fun ⟨y, hy, hye⟩ => by
                  rw [HTK.out] at hy
                  rcases List.mem_append.1 hy with h5 | h5
                  · exact HI.out ⟨y, h5, hye⟩
                  · rw [List.mem_singleton.1 h5] at hye
                    injection hye with f1 f2 f3 f4
                    exact absurd f1 hke)
                clear hke
                go_wp2_with fail
                go_roundw
                case rel => exact ⟨k + 1, _, by omega, by go_num, rfl, HN2, HBN.out _⟩
                case measure => simp [intOf]; omega
            · obtain rfl : k = u.length := by omega
              obtain rfl : bb = true := HI.out (by
                obtain ⟨y, hy, hye⟩ := HE1.out
                exact ⟨y, by rw [List.take_of_length_le (Nat.le_refl _)]; exact hy, hye⟩)
              clear HI
              go_wp2_with fail
              refine (HAW.out _).mono ?_
              rintro e w9 ⟨rfl, hb9⟩
              have BL := Lib.hid (B8.out (B9.out.trans ((Below.next HBW.out hb9).mono B9.out.size)))
              clear hb9
              go_wp2_with fail
              go_ret
              exact ⟨rfl, BL.out⟩

/-- .. of more than statements go through. -/
theorem still_great {ao : Option Addr} {n cap : Nat} {l : List Pu} (K : ByteArray) (q : Nat) (w : World) (h : SeesQ w (.slice ao n cap) l) (hl : ¬ (SmallQ l ∧ K.size ≤ 20000)) :
    Calls Try.prog 7 #[.slice ao n cap, .string K, .int .u64 (q : Int)] w fun e w' => e = .returned (.bool true) ∧ Below w.heap.size w w' := by
  have HG := Lib.hid (great_any w h)
  have HAW := Lib.hid awake_any
  have HL := Lib.hid hl
  clear h hl
  go_enter Try.func7, Try.ntmps7
  go_wp2_with fail
  refine HG.out.mono ?_
  rintro e w1 ⟨gb, rfl, hb1, hgr⟩
  have B1 := Lib.hid hb1
  have HGR := Lib.hid hgr
  clear hb1 hgr
  cases gb with
  | true =>
    go_wp2_with fail
    refine (HAW.out _).mono ?_
    rintro e w2 ⟨rfl, hb2⟩
    have B2 := Lib.hid (Below.next B1.out hb2)
    clear hb2
    go_wp2_with fail
    go_ret
    exact ⟨rfl, B2.out⟩
  | false =>
    have hki : 20000 < (K.size : Int) := by
      have h1 := HL.out
      have h2 := HGR.out rfl
      by_cases hk : K.size ≤ 20000
      · exact absurd ⟨h2, hk⟩ h1
      · omega
    go_wp2_with fail
    refine (HAW.out _).mono ?_
    rintro e w2 ⟨rfl, hb2⟩
    have B2 := Lib.hid (Below.next B1.out hb2)
    clear hb2
    go_wp2_with fail
    go_ret
    exact ⟨rfl, B2.out⟩
theorem still_walk (ao : Option Addr) (n cap : Nat) (l : List Pu) (K : ByteArray) (q : Int) (w : World) (h : SeesQ w (.slice ao n cap) l) (_ : K.size ≤ 9223372036854775807) (hq : 0 ≤ q ∧ q ≤ 18446744073709551615) :
    Calls Try.prog 7 #[.slice ao n cap, .string K, .int .u64 q] w fun e w' => e = .returned (.bool true) ∧ Below w.heap.size w w' := by
  obtain ⟨q, rfl⟩ := Int.eq_ofNat_of_zero_le hq.1
  by_cases hs : SmallQ l ∧ K.size ≤ 20000
  · exact still_small K q w h hs.1 hs.2 (by omega)
  · exact still_great K q w h hs
end Go.Proofs.Ythopadoabdiooaa.Mm
