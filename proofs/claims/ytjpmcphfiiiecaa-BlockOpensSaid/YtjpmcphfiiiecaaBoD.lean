/- The walk of block's readEntry. -/
import Derived.Test.YtjpmcphfiiiecaaBoA
import Derived.Test.YtjpmcphfiiiecaaNumText
namespace Go.Proofs.Ytjpmcphfiiiecaa.Bo
open Go Go.RowKit
set_option linter.unusedVariables false

/-- A slice of bytes that lies in memory. -/
def SeesB (w : World) (v : Value) (p : List UInt8) : Prop :=
  ∃ (a : Option Addr) (cap : Nat), v = .slice a p.length cap ∧ p.length ≤ cap ∧ (a = none → cap = 0) ∧ (∀ A, a = some A → ∃ b, A = ⟨b, 0, none⟩ ∧ (∃ cs fz, w.heap[b]? = some (.cells cs 5 fz)) ∧ ∀ (j : Nat) (u : Value), (p.map cellOf)[j]? = some u → w.cell? ⟨b, j, none⟩ = some u)
theorem SeesB.below {w w' : World} {v : Value} {p : List UInt8} (h : SeesB w v p) (hb : Below w.heap.size w w') : SeesB w' v p := by
  obtain ⟨a, cap, e, h1, h0, h2⟩ := h
  refine ⟨a, cap, e, h1, h0, fun A hA => ?_⟩
  obtain ⟨b, e2, ⟨cs, fz, hh⟩, hc⟩ := h2 A hA
  have hlt := heap_lt hh
  exact ⟨b, e2, ⟨cs, fz, (hb.block b hlt).trans hh⟩, fun j u hu => (hb.cell (p := ⟨b, j, none⟩) hlt).trans (hc j u hu)⟩
theorem SeesB.nil (w : World) : SeesB w (.slice none 0 0) [] := ⟨none, 0, rfl, Nat.le_refl _, fun _ => rfl, fun A h => by cases h⟩
theorem SeesB.of_owns {w : World} {base : Nat} {v : Value} {l : List UInt8} (h : Owns w base v l) : SeesB w v l := by
  have h' : w.ownsRow base 5 1 v l.length (l.map cellOf) := h
  rcases h'.2 with ⟨rfl, h0⟩ | ⟨g, cap, cur, rfl, hbg, hg, hnc, hcm, hcs, htake⟩
  · obtain rfl : l = [] := List.eq_nil_of_length_eq_zero h0
    exact SeesB.nil w
  · refine ⟨_, cap, rfl, hnc, (fun h => by cases h), fun A hA => ?_⟩
    simp only [Option.some.injEq] at hA
    subst hA
    refine ⟨g, rfl, ⟨_, _, hg⟩, fun j u hu => ?_⟩
    have := h'.cells (g := g) rfl j u hu
    rwa [add_none] at this
theorem SeesB.convert {w : World} {v : Value} {l : List UInt8} (h : SeesB w v l) : (convert 22 9 v).run Try.prog w = .ok (.string ⟨l.toArray⟩) w := by
  obtain ⟨a, cap, rfl, h1, h0, h2⟩ := h
  cases a with
  | none =>
    have hc := h0 rfl
    obtain rfl : l = [] := List.eq_nil_of_length_eq_zero (by omega)
    rw [run_convert_bytes_string w _ _ _ _ _ _ Try.underlying22 Try.underlying5 Try.underlying9]
    simp [Conv.bytesToString]
    rfl
  | some A =>
    obtain ⟨b, rfl, hlt, hc⟩ := h2 A rfl
    refine run_convert_bytes_back w _ _ _ _ _ _ Try.underlying22 Try.underlying5 Try.underlying9 ?_
    intro j hj
    rw [add_none]
    refine hc j _ ?_
    simp [List.getElem?_eq_getElem hj, cellOf]
/-- It lies still where other blocks have changed. -/
theorem SeesB.frame {w w' : World} {v : Value} {p : List UInt8} (h : SeesB w v p) (hf : ∀ (b : Nat) cs fz, w.heap[b]? = some (.cells cs 5 fz) → w'.heap[b]? = w.heap[b]?) : SeesB w' v p := by
  obtain ⟨a, cap, e, h1, h0, h2⟩ := h
  refine ⟨a, cap, e, h1, h0, fun A hA => ?_⟩
  obtain ⟨b, e2, ⟨cs, fz, hh⟩, hc⟩ := h2 A hA
  have hb := hf b cs fz hh
  exact ⟨b, e2, ⟨cs, fz, hb.trans hh⟩, fun j u hu => (World.cell?_of_block (a := ⟨b, j, none⟩) hb).trans (hc j u hu)⟩
/-- append(v[:n:n], r...): what was there is as it was. -/
theorem run_append_cut (w : World) (a : Option Addr) (cap : Nat) (p : List UInt8) (hs : SeesB w (.slice a p.length cap) p) (n : Nat) (hn : n ≤ p.length) (r : ByteArray) (hl : n + r.size ≤ 100000000000) (ty : TypeId) :
    ∃ a' c' w', (Builtin.append_ #[22, 9] ty #[.slice a n n, .string r]).run Try.prog w = .ok (.slice a' (n + r.size) c') w' ∧ SeesB w' (.slice a' (n + r.size) c') (p.take n ++ r.data.toList) ∧ Below w.heap.size w w' := by
  obtain ⟨i0, hi, hz0, hz1, hz2⟩ := info_parts info_u8
  obtain ⟨a2, cap2, e, h1, h0, h2⟩ := hs
  simp only [Value.slice.injEq, true_and] at e
  obtain ⟨rfl, rfl⟩ := e
  have hlen : (p.take n ++ r.data.toList).length = n + r.size := by rw [List.length_append, List.length_take, len]; omega
  by_cases hr0 : r.size = 0
  · obtain rfl := empty_of_size hr0
    have hz : ByteArray.empty.size = 0 := rfl
    refine ⟨a, n, w, ?_, ?_, Below.refl _ _⟩
    · cases a with
      | none => simp [Builtin.append_, run_underlying Try.underlying22, run_underlying Try.underlying9, sizeOf, typeInfo, hi, Builtin.lenOf, Builtin.firstCells]
      | some A =>
        obtain ⟨b, rfl, hlt, hc⟩ := h2 A rfl
        simp [Builtin.append_, run_underlying Try.underlying22, run_underlying Try.underlying9, sizeOf, typeInfo, hi, Builtin.lenOf, Builtin.firstCells, storeCells]
    · refine ⟨a, n, by rw [hlen], by rw [hlen, hz]; omega, fun h => by have := h0 h; omega, fun A hA => ?_⟩
      obtain ⟨b, e2, hlt, hc⟩ := h2 A hA
      refine ⟨b, e2, hlt, fun j u hu => hc j u ?_⟩
      have e3 : p.take n ++ ByteArray.empty.data.toList = p.take n := by simp
      rw [e3, List.map_take, List.getElem?_take] at hu
      split at hu
      · exact hu
      · cases hu
  · have hext : ∀ w' : World, w.heap.size ≤ w'.heap.size → True := fun _ _ => trivial
    cases a with
    | none =>
      have hc0 := h0 rfl
      obtain rfl : n = 0 := by omega
      obtain ⟨ao, c, w', e1, e2, e3, _⟩ := run_append_str_lies w w.heap.size (.slice none 0 0) [] (Owns.nil _ _) r (by simpa using hl) (Nat.le_refl _) ty
      refine ⟨ao, c, w', e1, SeesB.of_owns e2, ?_⟩
      exact ⟨e3.os, e3.tape, e3.output, e3.size, fun k hk => e3.block k hk (by simp [Value.ownBlock])⟩
    | some A =>
      obtain ⟨b, rfl, hlt, hc⟩ := h2 A rfl
      have hr := Lib.run_append_grow_string (P := Try.prog) (w := w) 22 9 ty 5 i0 (.int .u8 0) Try.underlying22 Try.underlying9 hi hz0 ⟨b, 0, none⟩ n n ((p.take n).map cellOf) (by simp [hz1]; omega) (fun j u hu => by
        rw [add_none]
        refine hc j u ?_
        rw [List.map_take, List.getElem?_take] at hu
        split at hu
        · exact hu
        · cases hu) r (by omega) (by omega) (by rw [hz2]; exact growslice_fits (by omega) (by omega))
      refine ⟨_, _, _, hr, ?_, ⟨rfl, rfl, rfl, by simp, fun k hk => Below.heap_alloc w.drew _ k hk⟩⟩
      have hge := grownCap_ge w (n + r.size) n 5
      refine ⟨_, _, by rw [hlen], by rw [hlen]; exact hge, (fun h => by cases h), fun A hA => ?_⟩
      simp only [Option.some.injEq] at hA
      subst hA
      refine ⟨w.heap.size, rfl, ⟨_, _, heap_alloc_new w.drew _⟩, fun j u hu => ?_⟩
      have hh := heap_alloc_new w.drew (.cells (((p.take n).map cellOf).toArray ++ (Lib.strCells r).toArray ++ Builtin.zeroCells (Value.int .u8 0).cells (grownCap w (n + r.size) n 5 - (n + r.size))) 5)
      have hcell := cell_of (k := j) hh
      refine Eq.trans ?_ (Eq.trans hcell ?_)
      · rfl
      · have hjl := (List.getElem?_eq_some_iff.1 hu).1
        rw [List.length_map] at hjl
        rw [Array.getElem?_append_left (by simp [Lib.strCells_length]; rw [hlen] at hjl; omega)]
        rw [List.map_append] at hu
        simp only [List.append_toArray, List.getElem?_toArray]
        exact hu
theorem wpList_append_cut {w : World} {ops : Array Oper} {rest : List Oper} {o : Oper} {a : Act} {Q : Exit → Act → World → Prop} (hgd : o.guard = none) (s x : Operand)
    (ho : o.op = .call { callee := .builtin .append, args := #[s, x], argTypes := #[22, 9] })
    (ao : Option Addr) (cap : Nat) (p : List UInt8) (n : Nat) (hs : a.eval s = .slice ao n n) (hsee : SeesB w (.slice ao p.length cap) p) (hn : n ≤ p.length) (r : ByteArray) (hx : a.eval x = .string r) (hl : n + r.size ≤ 100000000000)
    (h : ∀ a' c' w', SeesB w' (.slice a' (n + r.size) c') (p.take n ++ r.data.toList) → Below w.heap.size w w' → wpList Try.prog ops Q rest (a.put o.dst (.slice a' (n + r.size) c')) w') : wpList Try.prog ops Q (o :: rest) a w := by
  refine wpList_plain hgd fun K hK => ?_
  obtain ⟨a', c', w', hr, h2, h3⟩ := run_append_cut w ao cap p hsee n hn r hl o.type
  unfold Oper.wp execOp
  simp only [ho, resolve, invoke, builtin, Sem.run_bind, Sem.run_pure, Result.andThen_ok, List.map_toArray, List.map_cons, List.map_nil, hs, hx, hr]
  exact hK _ _ (h a' c' w' h2 h3)

/-- What readEntry answers, where it reads none. -/
def noE : Value := .tuple #[.agg #[.slice none 0 0, .string ⟨#[]⟩], .int .i64 0, .bool false]
/-- An entry was read, or none. -/
def ERead (o : Option (En × Nat)) (w : World) (e : Ending) (w' : World) : Prop :=
  Below w.heap.size w w' ∧ match o with
  | none => e = .returned noE
  | some (en, k) => ∃ a c, e = .returned (.tuple #[.agg #[.slice a en.key.size c, .string en.val], .int .i64 (k : Int), .bool true]) ∧ SeesB w' (.slice a en.key.size c) en.key.data.toList

abbrev set2 (w : World) (b : Nat) (x y : Value) : World := (w.setCell ⟨b, 0, none⟩ x).setCell ⟨b, 1, none⟩ y
theorem set2_heap {w : World} {b : Nat} {x0 y0 : Value} (x y : Value) {t : TypeId} (h : w.heap[b]? = some (.cells #[x0, y0] t (0, 0))) : (set2 w b x y).heap[b]? = some (.cells #[x, y] t (0, 0)) := by
  have h1 := heap_setCell_same w b 0 _ _ x h
  exact heap_setCell_same _ b 1 _ _ y h1
theorem set2_below {w0 w : World} {B b : Nat} (x y : Value) (h : Below B w0 w) (hb : B ≤ b) : Below B w0 (set2 w b x y) :=
  (h.setCell (p := ⟨b, 0, none⟩) hb _).setCell (p := ⟨b, 1, none⟩) hb _
/-- The box of an answer under way. -/
structure Boxed (w0 : World) (x y : Value) (w' : World) : Prop where
  h : w'.heap[w0.heap.size]? = some (.cells #[x, y] 70 (0, 0))
  hb : Below w0.heap.size w0 w'
theorem Boxed.new (w : World) (x y : Value) : Boxed w x y (w.alloc (.cells #[x, y] 70)) := ⟨heap_alloc_new w _, (Below.refl _ _).alloc (Nat.le_refl _) _⟩
theorem Boxed.call {w0 w' w2 : World} {x y : Value} (h : Boxed w0 x y w') (hb : Below w'.heap.size w' w2) : Boxed w0 x y w2 := ⟨(hb.block _ (heap_lt h.h)).trans h.h, h.hb.trans (hb.mono h.hb.size)⟩
theorem Boxed.set {w0 w' : World} {x y : Value} (h : Boxed w0 x y w') (x' y' : Value) : Boxed w0 x' y' (set2 w' w0.heap.size x' y') := ⟨set2_heap _ _ h.h, set2_below _ _ h.hb (Nat.le_refl _)⟩
theorem Boxed.cells {w0 w' : World} {x y : Value} (h : Boxed w0 x y w') : w'.cell? ⟨w0.heap.size, 0, none⟩ = some x ∧ w'.cell? ⟨w0.heap.size, 1, none⟩ = some y ∧ w'.frozen? ⟨w0.heap.size, 0, none⟩ = false ∧ w'.frozen? ⟨w0.heap.size, 1, none⟩ = false :=
  ⟨by rw [cell_of h.h]; rfl, by rw [cell_of h.h]; rfl, unfrozen_of h.h 0, unfrozen_of h.h 1⟩
theorem size_mk (l : List UInt8) : (⟨l.toArray⟩ : ByteArray).size = l.length := by show l.toArray.size = _; simp

set_option maxHeartbeats 1000000 in
theorem readEntry_none (s : ByteArray) (a : Option Addr) (pl cap : Nat) (w : World) (hs : s.size ≤ 100000000) (hv : Nm.rv s.data.toList = none) :
    Calls Try.prog 46 #[.string s, .slice a pl cap] w (Gives noE w) := by
  have HV := Lib.hid (rvV_none hv)
  have hbx := Boxed.new w (.slice none 0 0) (.string ⟨#[]⟩)
  have HB := Lib.hid hbx; clear hbx hv
  go_enter Try.func46, Try.ntmps46
  go_wp2_with fail
  refine (readVar_any _ _ (by omega)).mono ?_
  rintro e w1 ⟨rfl, rfl⟩
  rw [HV.out]
  obtain ⟨c0, c1, f0, f1⟩ := HB.out.cells
  go_wp2_with fail
  exact bodyPost_ret (v := noE) (by simp [results, Try.results46, go_sem, noE]) rfl ⟨rfl, HB.out.hb⟩

set_option maxHeartbeats 1000000 in
theorem readEntry_less (s : ByteArray) (a : Option Addr) (pl cap n k : Nat) (w : World) (hs : s.size ≤ 100000000) (hv : Nm.rv s.data.toList = some (n, k)) (hpl : pl ≤ 100000000000) (h : (pl : Int) < n) :
    Calls Try.prog 46 #[.string s, .slice a pl cap] w (Gives noE w) := by
  have HV := Lib.hid (rvV_some hv)
  have hbx := Boxed.new w (.slice none 0 0) (.string ⟨#[]⟩)
  have hwr : IntKind.u64.wrap (pl : Int) = pl := by rw [IntKind.wrap_u64]; omega
  have HB := Lib.hid hbx; clear hbx hv
  go_enter Try.func46, Try.ntmps46
  go_wp2_with fail
  refine (readVar_any _ _ (by omega)).mono ?_
  rintro e w1 ⟨rfl, rfl⟩
  rw [HV.out]
  obtain ⟨c0, c1, f0, f1⟩ := HB.out.cells
  go_wp2_with fail
  exact bodyPost_ret (v := noE) (by simp [results, Try.results46, go_sem, noE]) rfl ⟨rfl, HB.out.hb⟩

set_option maxHeartbeats 1000000 in
theorem readEntry_key (s : ByteArray) (a : Option Addr) (pl cap n k : Nat) (w : World) (hs : s.size ≤ 100000000) (hv : Nm.rv s.data.toList = some (n, k)) (hpl : pl ≤ 100000000000) (h : ¬ (pl : Int) < n)
    (hr : rt (s.data.toList.drop k) 1024 = none) :
    Calls Try.prog 46 #[.string s, .slice a pl cap] w (Gives noE w) := by
  have HV := Lib.hid (rvV_some hv)
  have HR : Hid (rtV (s.data.toList.drop k) 1024 = noText) := Lib.hid (by unfold rtV; rw [hr])
  have hk := (Nm.row_rv hv).2.1
  rw [len] at hk
  have hki : (k : Int) ≤ s.size := by omega
  have hbx := Boxed.new w (.slice none 0 0) (.string ⟨#[]⟩)
  have hwr : IntKind.u64.wrap (pl : Int) = pl := by rw [IntKind.wrap_u64]; omega
  have HB := Lib.hid hbx; clear hbx hv hr hk
  go_enter Try.func46, Try.ntmps46
  go_wp2_with fail
  refine (readVar_any _ _ (by omega)).mono ?_
  rintro e w1 ⟨rfl, rfl⟩
  rw [HV.out]
  go_wp2_with fail
  refine (readText_any _ _ _ (by rw [ByteArray.size_extract]; omega) (by omega)).mono ?_
  rintro e w1 ⟨rfl, hb⟩
  rw [Lib.extract_to_end, HR.out]
  have HB1 := Lib.hid (HB.out.call hb)
  clear hb
  unfold noText
  obtain ⟨c0, c1, f0, f1⟩ := HB1.out.cells
  have HZ := Lib.hid (HB1.out.set (.slice none 0 0) (.string ⟨#[]⟩))
  go_wp2_with fail
  obtain ⟨d0, d1, -, -⟩ := HZ.out.cells
  exact bodyPost_ret (v := noE) (by simp [results, Try.results46, go_sem, noE, d0, d1]) rfl ⟨rfl, HZ.out.hb⟩

set_option maxHeartbeats 1000000 in
theorem readEntry_val (s : ByteArray) (a : Option Addr) (pl cap n k j : Nat) (r : List UInt8) (w : World) (hs : s.size ≤ 100000000) (hv : Nm.rv s.data.toList = some (n, k)) (hpl : pl ≤ 100000000000) (h : ¬ (pl : Int) < n)
    (hr : rt (s.data.toList.drop k) 1024 = some (r, j)) (hr2 : rt (s.data.toList.drop (k + j)) 1024 = none) :
    Calls Try.prog 46 #[.string s, .slice a pl cap] w (Gives noE w) := by
  have HV := Lib.hid (rvV_some hv)
  have HR : Hid (rtV (s.data.toList.drop k) 1024 = .tuple #[.string ⟨r.toArray⟩, .int .i64 (j : Int), .bool true]) := Lib.hid (by unfold rtV; rw [hr])
  have hkj : ((k + j : Nat) : Int) = (k : Int) + j := by omega
  have HR2 : Hid (rtV (s.data.toList.drop (k + j)) 1024 = noText) := Lib.hid (by unfold rtV; rw [hr2])
  have hk := (Nm.row_rv hv).2.1
  rw [len] at hk
  have hj := (txt_rt hr).2.1
  rw [List.length_drop, len] at hj
  have hki : (k : Int) ≤ s.size := by omega
  have hji : (k : Int) + j ≤ s.size := by omega
  have hbx := Boxed.new w (.slice none 0 0) (.string ⟨#[]⟩)
  have hwr : IntKind.u64.wrap (pl : Int) = pl := by rw [IntKind.wrap_u64]; omega
  have hnat : ((k : Int) + (j : Int)).toNat = k + j := by omega
  have HNT := Lib.hid hnat
  have HB := Lib.hid hbx; clear hbx hv hr hr2 hk hj hkj hnat
  go_enter Try.func46, Try.ntmps46
  go_wp2_with fail
  refine (readVar_any _ _ (by omega)).mono ?_
  rintro e w1 ⟨rfl, rfl⟩
  rw [HV.out]
  go_wp2_with fail
  refine (readText_any _ _ _ (by rw [ByteArray.size_extract]; omega) (by omega)).mono ?_
  rintro e w1 ⟨rfl, hb⟩
  rw [Lib.extract_to_end, HR.out]
  have HB1 := Lib.hid (HB.out.call hb)
  clear hb
  go_wp2_with fail
  refine (readText_any _ _ _ (by rw [ByteArray.size_extract]; omega) (by omega)).mono ?_
  rintro e w2 ⟨rfl, hb⟩
  rw [Lib.extract_to_end, HR2.out]
  have HB2 := Lib.hid (HB1.out.call hb)
  clear hb
  unfold noText
  obtain ⟨c0, c1, f0, f1⟩ := HB2.out.cells
  have HZ := Lib.hid (HB2.out.set (.slice none 0 0) (.string ⟨#[]⟩))
  go_wp2_with fail
  obtain ⟨d0, d1, -, -⟩ := HZ.out.cells
  exact bodyPost_ret (v := noE) (by simp [results, Try.results46, go_sem, noE, d0, d1]) rfl ⟨rfl, HZ.out.hb⟩

end Go.Proofs.Ytjpmcphfiiiecaa.Bo
