/- The document's reading of an edit: Decode. -/
import Derived.Test.YtlhokfildhcdhaaEdV
import Derived.Test.YtlhokfildhcdhaaEdR
namespace Go.Proofs.Ytlhokfildhcdhaa
open Go.RowKit Sk
set_option linter.unusedVariables false

/-- The box of the document's edit. -/
def Ey (w : World) (B : Nat) (av dv : Value) (lg sq nx : Nat) : Prop := w.heap[B]? = some (.cells #[av, dv, .int .u64 (lg : Nat), .int .u64 (sq : Nat), .int .u64 (nx : Nat)] 38 (0, 0))
theorem Ey.of {w : World} {B : Nat} {av dv : Value} {lg sq nx : Nat} (h : Ey w B av dv lg sq nx) : w.cell? ⟨B, 0, none⟩ = some av ∧ w.cell? ⟨B, 1, none⟩ = some dv ∧ w.cell? ⟨B, 2, none⟩ = some (.int .u64 (lg : Nat)) ∧ w.cell? ⟨B, 3, none⟩ = some (.int .u64 (sq : Nat)) ∧ w.cell? ⟨B, 4, none⟩ = some (.int .u64 (nx : Nat)) ∧ (∀ k, w.frozen? ⟨B, k, none⟩ = false) ∧ B < w.heap.size := by
  refine ⟨?_, ?_, ?_, ?_, ?_, fun k => Sk.unfrozen_of h k, Sk.heap_lt h⟩ <;> (rw [Sk.cell_of h]; rfl)
theorem Ey.fill {P : World → Prop} {w : World} {B : Nat} {av' dv' : Value} {lg' sq' nx' : Nat} (h : Ey w B av' dv' lg' sq' nx') (av dv : Value) (lg sq nx : Nat)
    (k : ∀ wF, Ey wF B av dv lg sq nx → Turns (At B) w wF → P wF) : P (((((w.setCell ⟨B, 0, none⟩ av).setCell ⟨B, 1, none⟩ dv).setCell ⟨B, 2, none⟩ (.int .u64 (lg : Nat))).setCell ⟨B, 3, none⟩ (.int .u64 (sq : Nat))).setCell ⟨B, 4, none⟩ (.int .u64 (nx : Nat))) := by
  have t : ∀ (W : World) (o : Nat) (v : Value), Turns (At B) w W → Turns (At B) w (W.setCell ⟨B, o, none⟩ v) := fun W o v hT => At.trans hT (Turns.of_setCell (P := At B) _ _ _ rfl)
  have x0 : Ey _ B av dv' lg' sq' nx' := heap_setCell_same _ _ 0 _ _ av h
  have x1 : Ey _ B av dv lg' sq' nx' := heap_setCell_same _ _ 1 _ _ dv x0
  have x2 : Ey _ B av dv lg sq' nx' := heap_setCell_same _ _ 2 _ _ (.int .u64 (lg : Nat)) x1
  have x3 : Ey _ B av dv lg sq nx' := heap_setCell_same _ _ 3 _ _ (.int .u64 (sq : Nat)) x2
  have x4 : Ey _ B av dv lg sq nx := heap_setCell_same _ _ 4 _ _ (.int .u64 (nx : Nat)) x3
  exact k _ x4 (t _ _ _ (t _ _ _ (t _ _ _ (t _ _ _ (t _ _ _ (Turns.refl _ _))))))
/-- An edit was read, or there is none. -/
def DecSeen (o : Option Edt) (w : World) (e : Ending) (w' : World) : Prop :=
  Below w.heap.size w w' ∧ ((o = none ∧ e = .returned (.tuple #[edV none 0 0 none 0 0 0 0 0, .bool false])) ∨
    ∃ ed ao ac bo bc, o = some ed ∧ e = .returned (.tuple #[edV ao ed.add.length ac bo ed.drop.length bc ed.log ed.seq ed.next, .bool true]) ∧ SeesTb w' (.slice ao ed.add.length ac) ed.add ∧ SeesU w' (.slice bo ed.drop.length bc) ed.drop)
namespace Ed
variable {l : List UInt8} {n a b m c d : Nat} {ts : List Tbl} {ns : List Nat}
theorem rd_a (h : Nm.rv l = some (n, a)) (hn : ¬ l.length < n) (h2 : seq tb l a n = none) : rd l = none := by
  unfold rd; rw [h]; simp only; rw [if_neg hn, h2]
theorem rd_b (h : Nm.rv l = some (n, a)) (hn : ¬ l.length < n) (h2 : seq tb l a n = some (ts, b)) (h3 : Nm.rv (l.drop b) = none) : rd l = none := by
  unfold rd; rw [h]; simp only; rw [if_neg hn, h2]; simp only; rw [h3]
theorem rd_c (h : Nm.rv l = some (n, a)) (hn : ¬ l.length < n) (h2 : seq tb l a n = some (ts, b)) (h3 : Nm.rv (l.drop b) = some (m, c)) (hm : l.length < m) : rd l = none := by
  unfold rd; rw [h]; simp only; rw [if_neg hn, h2]; simp only; rw [h3]; simp only; rw [if_pos hm]
theorem rd_d (h : Nm.rv l = some (n, a)) (hn : ¬ l.length < n) (h2 : seq tb l a n = some (ts, b)) (h3 : Nm.rv (l.drop b) = some (m, c)) (hm : ¬ l.length < m) (h4 : seq Nm.rv (l.drop (b + c)) 0 (m + 3) = none) : rd l = none := by
  unfold rd; rw [h]; simp only; rw [if_neg hn, h2]; simp only; rw [h3]; simp only; rw [if_neg hm, h4]
theorem rd_e (h : Nm.rv l = some (n, a)) (hn : ¬ l.length < n) (h2 : seq tb l a n = some (ts, b)) (h3 : Nm.rv (l.drop b) = some (m, c)) (hm : ¬ l.length < m) (h4 : seq Nm.rv (l.drop (b + c)) 0 (m + 3) = some (ns, d)) (h5 : b + c + d ≠ l.length) : rd l = none := by
  unfold rd; rw [h]; simp only; rw [if_neg hn, h2]; simp only; rw [h3]; simp only; rw [if_neg hm, h4]; simp only; rw [if_pos h5]
theorem rd_f (h : Nm.rv l = some (n, a)) (hn : ¬ l.length < n) (h2 : seq tb l a n = some (ts, b)) (h3 : Nm.rv (l.drop b) = some (m, c)) (hm : ¬ l.length < m) (h4 : seq Nm.rv (l.drop (b + c)) 0 (m + 3) = some (ns, d)) (h5 : b + c + d = l.length) : rd l = if chk (fin ts ns m).add (fin ts ns m).drop = 0 then some (fin ts ns m) else none := by
  unfold rd; rw [h]; simp only; rw [if_neg hn, h2]; simp only; rw [h3]; simp only; rw [if_neg hm, h4]; simp only; rw [if_neg (by omega)]
end Ed
theorem seesU_take {w : World} {g n bc m : Nat} {ns : List Nat} (h : SeesU w (.slice (some ⟨g, 0, none⟩) n bc) ns) (hm : m ≤ ns.length) : SeesU w (.slice (some ⟨g, 0, none⟩) m bc) (ns.take m) := by
  obtain ⟨hl, b, o, hc⟩ := h.get
  by_cases h0 : m = 0
  · subst h0; exact Or.inl ⟨by simp, _, _, rfl⟩
  · obtain ⟨e, hlt, -⟩ := hc 0 (by omega)
    simp only [Option.some.injEq, Addr.mk.injEq] at e
    obtain ⟨rfl, rfl, -⟩ := e
    have hml : (ns.take m).length = m := by rw [List.length_take]; omega
    refine Or.inr ⟨g, 0, bc, by rw [hml], hlt, fun i hi => ?_⟩
    rw [hml] at hi
    rw [(hc i (by omega)).2.2]
    simp [hi]
theorem own_addr {w : World} {base n bc : Nat} {bo : Option Addr} {ns : List Nat} (h : OwnsN w base (.slice bo n bc) ns) (hn : 0 < n) : ∃ g, base ≤ g ∧ bo = some ⟨g, 0, none⟩ ∧ n ≤ bc ∧ g < w.heap.size := by
  rcases h.2 with ⟨h0, _⟩ | ⟨g, cap, cur, h0, hb, hg, hnc, hcm, hcs, htake⟩
  · simp only [Value.slice.injEq] at h0; omega
  · simp only [Value.slice.injEq] at h0
    obtain ⟨rfl, rfl, rfl⟩ := h0
    exact ⟨g, hb, rfl, by omega, Sk.heap_lt hg⟩
theorem two_boxes (w : World) (A B : Obj) : ((w.alloc A).alloc B).heap[w.heap.size]? = some A ∧ ((w.alloc A).alloc B).heap[w.heap.size + 1]? = some B ∧ Below w.heap.size w ((w.alloc A).alloc B) ∧ w.heap.size + 2 ≤ ((w.alloc A).alloc B).heap.size :=
  ⟨heap_alloc2_old _ _ _, heap_alloc2_new _ _ _, Below.next_alloc ((Below.refl _ _).alloc (Nat.le_refl _) _) _, by simp⟩
theorem tb_pos {l : List UInt8} {t : Tbl} {i : Nat} (h : Ed.tb l = some (t, i)) : 1 ≤ i ∧ i ≤ l.length := by
  obtain ⟨h1, h2, -⟩ := Ed.tb_snd _ _ _ h
  have e := congrArg List.length h1
  rw [List.length_take, Nat.min_eq_left h2] at e
  have : 1 ≤ (Ed.tbRow t).length := by
    unfold Ed.tbRow varl Ed.nums
    have := (Nm.row_length t.n).1
    simp only [List.flatMap_cons, List.length_append]; omega
  omega

set_option maxHeartbeats 4000000 in
theorem decref_none (s : ByteArray) (w : World) (hs : s.size ≤ 9000) (h : Nm.rv s.data.toList = none) :
    Calls Try.prog 22 #[.string s] w (DecSeen (Ed.rd s.data.toList) w) := by
  have HV : Hid (∀ W, Calls Try.prog 42 #[.string s] W (Gives (.tuple #[.int .u64 0, .int .i64 0, .bool false]) W)) := Lib.hid (fun W => by
    have := refReadVar_any s W (by omega)
    rw [rvV_none h] at this
    exact this)
  have HN : Hid (Ed.rd s.data.toList = none) := Lib.hid (by unfold Ed.rd; rw [h])
  have g0 : ¬ (524288 : Int) < s.size := by omega
  clear h
  obtain ⟨x1, x2, x3, x4⟩ := two_boxes w (.cells #[.slice none 0 0, .slice none 0 0, .int .u64 0, .int .u64 0, .int .u64 0] 38) (.cells #[.slice none 0 0, .slice none 0 0, .int .u64 0, .int .u64 0, .int .u64 0] 38)
  have HR0 : Hid (Ey ((w.alloc (.cells #[.slice none 0 0, .slice none 0 0, .int .u64 0, .int .u64 0, .int .u64 0] 38)).alloc (.cells #[.slice none 0 0, .slice none 0 0, .int .u64 0, .int .u64 0, .int .u64 0] 38)) w.heap.size (.slice none 0 0) (.slice none 0 0) 0 0 0) := Lib.hid x1
  have HE0 : Hid (Ey ((w.alloc (.cells #[.slice none 0 0, .slice none 0 0, .int .u64 0, .int .u64 0, .int .u64 0] 38)).alloc (.cells #[.slice none 0 0, .slice none 0 0, .int .u64 0, .int .u64 0, .int .u64 0] 38)) (w.heap.size + 1) (.slice none 0 0) (.slice none 0 0) 0 0 0) := Lib.hid x2
  have HB0 := Lib.hid x3
  have HZ0 := Lib.hid x4
  clear x1 x2 x3 x4
  go_enter Try.func22, Try.ntmps22
  go_wp2_with fail
  refine (HV.out _).mono ?_
  rintro r w1 ⟨rfl, hb1⟩
  have HR1 : Hid (Ey w1 w.heap.size (.slice none 0 0) (.slice none 0 0) 0 0 0) := Lib.hid (kept_block HR0.out hb1)
  have HE1 : Hid (Ey w1 (w.heap.size + 1) (.slice none 0 0) (.slice none 0 0) 0 0 0) := Lib.hid (kept_block HE0.out hb1)
  have HB1 : Hid (Below w.heap.size w w1) := Lib.hid (Below.next HB0.out hb1)
  have HZ1 : Hid (w.heap.size + 2 ≤ w1.heap.size) := Lib.hid (Nat.le_trans HZ0.out hb1.size)
  clear hb1 HR0 HE0 HB0 HZ0
  obtain ⟨r0, r1, r2, r3, r4, rf, rlt⟩ := HR1.out.of
  go_wp2_with fail
  refine Ey.fill (P := bodyPost _ _ _ _ _) HR1.out (.slice none 0 0) (.slice none 0 0) 0 0 0 ?_
  intro wF hF hTF
  have HFB := Lib.hid (tx_below HB1.out hTF)
  clear r0 r1 r2 r3 r4 rf rlt 
  obtain ⟨r0, r1, r2, r3, r4, rf, rlt⟩ := hF.of
  exact bodyPost_ret (v := noEd) (by simp [results, Try.results22, go_sem, noEd, edV, r0, r1, r2, r3, r4]) rfl ⟨HFB.out, Or.inl ⟨HN.out, rfl⟩⟩

set_option maxHeartbeats 4000000 in
theorem decref_over (s : ByteArray) (n a : Nat) (w : World) (hs : s.size ≤ 9000) (h : Nm.rv s.data.toList = some (n, a)) (hn : s.size < n) :
    Calls Try.prog 22 #[.string s] w (DecSeen (Ed.rd s.data.toList) w) := by
  have HV : Hid (∀ W, Calls Try.prog 42 #[.string s] W (Gives (.tuple #[.int .u64 n, .int .i64 a, .bool true]) W)) := Lib.hid (fun W => by
    have := refReadVar_any s W (by omega)
    rw [show rvV s.data.toList = .tuple #[.int .u64 n, .int .i64 a, .bool true] by unfold rvV; rw [h]] at this
    exact this)
  have HN : Hid (Ed.rd s.data.toList = none) := Lib.hid (by
    unfold Ed.rd; rw [h]; simp only
    have hl : s.data.toList.length = s.size := by simp
    rw [if_pos (by omega)])
  have g0 : ¬ (524288 : Int) < s.size := by omega
  have g1 : (s.size : Int) < n := by omega
  have hws : IntKind.u64.wrap (s.size : Int) = s.size := wrap_nat _ (by omega)
  clear h hn
  obtain ⟨x1, x2, x3, x4⟩ := two_boxes w (.cells #[.slice none 0 0, .slice none 0 0, .int .u64 0, .int .u64 0, .int .u64 0] 38) (.cells #[.slice none 0 0, .slice none 0 0, .int .u64 0, .int .u64 0, .int .u64 0] 38)
  have HR0 : Hid (Ey ((w.alloc (.cells #[.slice none 0 0, .slice none 0 0, .int .u64 0, .int .u64 0, .int .u64 0] 38)).alloc (.cells #[.slice none 0 0, .slice none 0 0, .int .u64 0, .int .u64 0, .int .u64 0] 38)) w.heap.size (.slice none 0 0) (.slice none 0 0) 0 0 0) := Lib.hid x1
  have HE0 : Hid (Ey ((w.alloc (.cells #[.slice none 0 0, .slice none 0 0, .int .u64 0, .int .u64 0, .int .u64 0] 38)).alloc (.cells #[.slice none 0 0, .slice none 0 0, .int .u64 0, .int .u64 0, .int .u64 0] 38)) (w.heap.size + 1) (.slice none 0 0) (.slice none 0 0) 0 0 0) := Lib.hid x2
  have HB0 := Lib.hid x3
  have HZ0 := Lib.hid x4
  clear x1 x2 x3 x4
  go_enter Try.func22, Try.ntmps22
  go_wp2_with fail
  refine (HV.out _).mono ?_
  rintro r w1 ⟨rfl, hb1⟩
  have HR1 : Hid (Ey w1 w.heap.size (.slice none 0 0) (.slice none 0 0) 0 0 0) := Lib.hid (kept_block HR0.out hb1)
  have HE1 : Hid (Ey w1 (w.heap.size + 1) (.slice none 0 0) (.slice none 0 0) 0 0 0) := Lib.hid (kept_block HE0.out hb1)
  have HB1 : Hid (Below w.heap.size w w1) := Lib.hid (Below.next HB0.out hb1)
  have HZ1 : Hid (w.heap.size + 2 ≤ w1.heap.size) := Lib.hid (Nat.le_trans HZ0.out hb1.size)
  clear hb1 HR0 HE0 HB0 HZ0
  obtain ⟨r0, r1, r2, r3, r4, rf, rlt⟩ := HR1.out.of
  go_wp2_with fail
  refine Ey.fill (P := bodyPost _ _ _ _ _) HR1.out (.slice none 0 0) (.slice none 0 0) 0 0 0 ?_
  intro wF hF hTF
  have HFB := Lib.hid (tx_below HB1.out hTF)
  clear r0 r1 r2 r3 r4 rf rlt 
  obtain ⟨r0, r1, r2, r3, r4, rf, rlt⟩ := hF.of
  exact bodyPost_ret (v := noEd) (by simp [results, Try.results22, go_sem, noEd, edV, r0, r1, r2, r3, r4]) rfl ⟨HFB.out, Or.inl ⟨HN.out, rfl⟩⟩

set_option maxRecDepth 100000 in
set_option maxHeartbeats 16000000 in
theorem decref_main (s : ByteArray) (n a : Nat) (w : World) (hs : s.size ≤ 9000) (h : Nm.rv s.data.toList = some (n, a)) (hn : n ≤ s.size) (ha : 1 ≤ a ∧ a ≤ s.size) :
    Calls Try.prog 22 #[.string s] w (DecSeen (Ed.rd s.data.toList) w) := by
  obtain ⟨i0, hi, hz0, hz1, hz2⟩ := info_parts info_tb
  have HV : Hid (∀ W, Calls Try.prog 42 #[.string s] W (Gives (.tuple #[.int .u64 n, .int .i64 a, .bool true]) W)) := Lib.hid (fun W => by
    have := refReadVar_any s W (by omega)
    rw [show rvV s.data.toList = .tuple #[.int .u64 n, .int .i64 a, .bool true] by unfold rvV; rw [h]] at this
    exact this)
  have hll : s.data.toList.length = s.size := by simp
  have HLL := Lib.hid hll
  have H1 := Lib.hid h
  have HNL : Hid (¬ s.data.toList.length < n) := Lib.hid (by omega)
  have g0 : ¬ (524288 : Int) < s.size := by omega
  have g1 : ¬ (s.size : Int) < n := by omega
  have hws : IntKind.u64.wrap (s.size : Int) = s.size := wrap_nat _ (by omega)
  clear h hll
  obtain ⟨x1, x2, x3, x4⟩ := two_boxes w (.cells #[.slice none 0 0, .slice none 0 0, .int .u64 0, .int .u64 0, .int .u64 0] 38) (.cells #[.slice none 0 0, .slice none 0 0, .int .u64 0, .int .u64 0, .int .u64 0] 38)
  have HR0 : Hid (Ey ((w.alloc (.cells #[.slice none 0 0, .slice none 0 0, .int .u64 0, .int .u64 0, .int .u64 0] 38)).alloc (.cells #[.slice none 0 0, .slice none 0 0, .int .u64 0, .int .u64 0, .int .u64 0] 38)) w.heap.size (.slice none 0 0) (.slice none 0 0) 0 0 0) := Lib.hid x1
  have HE0 : Hid (Ey ((w.alloc (.cells #[.slice none 0 0, .slice none 0 0, .int .u64 0, .int .u64 0, .int .u64 0] 38)).alloc (.cells #[.slice none 0 0, .slice none 0 0, .int .u64 0, .int .u64 0, .int .u64 0] 38)) (w.heap.size + 1) (.slice none 0 0) (.slice none 0 0) 0 0 0) := Lib.hid x2
  have HB0 := Lib.hid x3
  have HZ0 := Lib.hid x4
  clear x1 x2 x3 x4
  go_enter Try.func22, Try.ntmps22
  go_wp2_with fail
  refine (HV.out _).mono ?_
  rintro r w1 ⟨rfl, hb1⟩
  have HR1 : Hid (Ey w1 w.heap.size (.slice none 0 0) (.slice none 0 0) 0 0 0) := Lib.hid (kept_block HR0.out hb1)
  have HE1 : Hid (Ey w1 (w.heap.size + 1) (.slice none 0 0) (.slice none 0 0) 0 0 0) := Lib.hid (kept_block HE0.out hb1)
  have HB1 : Hid (Below w.heap.size w w1) := Lib.hid (Below.next HB0.out hb1)
  have HZ1 : Hid (w.heap.size + 2 ≤ w1.heap.size) := Lib.hid (Nat.le_trans HZ0.out hb1.size)
  clear hb1 HR0 HE0 HB0 HZ0
  go_wp2_with fail
  simp only [show decide (s.size < n) = false from decide_eq_false (by omega)]
  go_loopw [6] (fun i wr => ∃ (ts : List Tbl) (j : Nat) (ao : Option Addr) (cap : Nat), Ed.seq Ed.tb s.data.toList a ts.length = some (ts, j) ∧ ts.length ≤ n ∧ ts.length ≤ j ∧ j ≤ s.size ∧ i = .int .i64 (j : Nat) ∧ Ey wr w.heap.size (.slice none 0 0) (.slice none 0 0) 0 0 0 ∧ Ey wr (w.heap.size + 1) (.slice ao ts.length cap) (.slice none 0 0) 0 0 0 ∧ OwnsTb wr (w.heap.size + 2) (.slice ao ts.length cap) ts ∧ Below w.heap.size w wr ∧ w.heap.size + 2 ≤ wr.heap.size) (fun i wr => s.size - (intOf i).toNat)
  case atStart => exact ⟨[], a, none, 0, rfl, Nat.zero_le _, Nat.zero_le _, ha.2, rfl, HR1.out, HE1.out, OwnsTb.nil _ _, HB1.out, HZ1.out⟩
  case round =>
    obtain ⟨ts, j, ao, cap, hq, htn, htj, hjs, rfl, hR, hE, hO, hB, hZ⟩ := hrel
    have HQ := Lib.hid hq; have HR := Lib.hid hR; have HE := Lib.hid hE; have HO := Lib.hid hO; have HB := Lib.hid hB; have HZ := Lib.hid hZ
    clear hq hR hE hO hB hZ HR1 HE1 HB1 HZ1 HV
    obtain ⟨c0, c1, c2, c3, c4, cf, clt⟩ := HE.out.of
    have hwz : IntKind.u64.wrap (ts.length : Int) = ts.length := wrap_nat _ (by omega)
    by_cases hlt : ts.length < n
    · have hsb : (s.extract j s.size).data.toList = s.data.toList.drop j := Lib.extract_to_end s j
      have hsz : (s.extract j s.size).size ≤ 9000 := by
        have e : (s.extract j s.size).data.toList.length = (s.extract j s.size).size := by simp
        rw [hsb, List.length_drop, HLL.out] at e
        omega
      have HTB : Hid (∀ W, Calls Try.prog 43 #[.string (s.extract j s.size)] W (TbRead (Ed.tb (s.data.toList.drop j)) W)) := Lib.hid (fun W => by
        have := tbref_any (s.extract j s.size) W (by omega)
        rw [hsb] at this
        exact this)
      clear hsb hsz
      cases hv : Ed.tb (s.data.toList.drop j) with
      | none =>
        rw [hv] at HTB
        have HN : Hid (Ed.rd s.data.toList = none) := Lib.hid (Ed.rd_a H1.out HNL.out (by
          have := Ed.seq_none (Ed.seq_no HQ.out hv) (n - (ts.length + 1))
          rw [show ts.length + 1 + (n - (ts.length + 1)) = n by omega] at this
          exact this))
        clear hv
        go_wp2_with fail
        refine (HTB.out _).mono ?_
        rintro r w2 ⟨hb2, hc⟩
        have hr : r = .returned (.tuple #[noTb, .int .i64 (-1)]) := by
          rcases hc with ⟨_, h⟩ | ⟨_, _, h, _⟩
          · exact h
          · cases h
        subst hr
        have HB2 : Hid (Below w.heap.size w (w2.alloc (.cells #[.int .u64 0, .int .i64 0, .int .i64 0, .int .i64 0, .string ⟨#[]⟩, .string ⟨#[]⟩, .int .u64 0, .int .u64 0] 31))) := Lib.hid (Below.next_alloc (Below.next HB.out hb2) _)
        have HR2 : Hid (Ey (w2.alloc (.cells #[.int .u64 0, .int .i64 0, .int .i64 0, .int .i64 0, .string ⟨#[]⟩, .string ⟨#[]⟩, .int .u64 0, .int .u64 0] 31)) w.heap.size (.slice none 0 0) (.slice none 0 0) 0 0 0) := Lib.hid (kept_block (kept_block HR.out hb2) ((Below.refl _ _).alloc (Nat.le_refl _) _))
        have HBw : Hid (Below w.heap.size w w2) := Lib.hid (Below.next HB.out hb2)
        have HRw : Hid (Ey w2 w.heap.size (.slice none 0 0) (.slice none 0 0) 0 0 0) := Lib.hid (kept_block HR.out hb2)
        clear hb2 hc c0 c1 c2 c3 c4 cf clt
        unfold noTb
        obtain ⟨r0, r1, r2, r3, r4, rf, rlt⟩ := HRw.out.of
        go_wp2_with fail
        obtain ⟨wF, hw, hF, hTF⟩ : ∃ wF, wF = (((((w2.setCell ⟨w.heap.size, 0, none⟩ (.slice none 0 0)).setCell ⟨w.heap.size, 1, none⟩ (.slice none 0 0)).setCell ⟨w.heap.size, 2, none⟩ (.int .u64 0)).setCell ⟨w.heap.size, 3, none⟩ (.int .u64 0)).setCell ⟨w.heap.size, 4, none⟩ (.int .u64 0)) ∧ Ey wF w.heap.size (.slice none 0 0) (.slice none 0 0) 0 0 0 ∧ Turns (At w.heap.size) w2 wF := ⟨_, rfl, Ey.fill (P := fun W => Ey W w.heap.size (.slice none 0 0) (.slice none 0 0) 0 0 0 ∧ Turns (At w.heap.size) w2 W) HRw.out (.slice none 0 0) (.slice none 0 0) 0 0 0 (fun wF a b => ⟨a, b⟩)⟩
        rw [← hw]
        clear hw r0 r1 r2 r3 r4 rf rlt
        have HFB : Hid (Below w.heap.size w (wF.alloc (.cells #[.int .u64 0, .int .i64 0, .int .i64 0, .int .i64 0, .string ⟨#[]⟩, .string ⟨#[]⟩, .int .u64 0, .int .u64 0] 31))) := Lib.hid (Below.next_alloc (tx_below HBw.out hTF) _)
        have hG : Ey (wF.alloc (.cells #[.int .u64 0, .int .i64 0, .int .i64 0, .int .i64 0, .string ⟨#[]⟩, .string ⟨#[]⟩, .int .u64 0, .int .u64 0] 31)) w.heap.size (.slice none 0 0) (.slice none 0 0) 0 0 0 := kept_block hF ((Below.refl _ _).alloc (Nat.le_refl _) _)
        clear hF hTF
        generalize wF.alloc (.cells #[.int .u64 0, .int .i64 0, .int .i64 0, .int .i64 0, .string ⟨#[]⟩, .string ⟨#[]⟩, .int .u64 0, .int .u64 0] 31) = wG at *
        obtain ⟨r0, r1, r2, r3, r4, rf, rlt⟩ := hG.of
        exact bodyPost_ret (v := noEd) (by simp [results, Try.results22, go_sem, noEd, edV, r0, r1, r2, r3, r4]) rfl ⟨HFB.out, Or.inl ⟨HN.out, rfl⟩⟩
      | some p =>
        obtain ⟨t, i⟩ := p
        rw [hv] at HTB
        obtain ⟨hp1, hp2⟩ := tb_pos hv
        rw [List.length_drop, HLL.out] at hp2
        have HQ2 : Hid (Ed.seq Ed.tb s.data.toList a (ts ++ [t]).length = some (ts ++ [t], j + i)) := Lib.hid (by rw [List.length_append, List.length_singleton]; exact Ed.seq_yes HQ.out hv)
        clear hv
        go_wp2_with fail
        refine (HTB.out _).mono ?_
        rintro r w2 ⟨hb2, hc⟩
        have hr : r = .returned (.tuple #[tbV t, .int .i64 (i : Nat)]) := by
          rcases hc with ⟨h, _⟩ | ⟨_, _, h, h2⟩
          · cases h
          · simp only [Option.some.injEq, Prod.mk.injEq] at h
            obtain ⟨rfl, rfl⟩ := h
            exact h2
        subst hr
        obtain ⟨tn, tlv, tct, tsz, tf, tl, tle, tmo⟩ := t
        unfold tbV
        dsimp only
        clear hc c0 c1 c2 c3 c4 cf clt
        have hbw : Below wr.heap.size wr (w2.alloc (.cells #[.int .u64 (tn : Nat), .int .i64 tlv, .int .i64 tct, .int .i64 tsz, .string tf, .string tl, .int .u64 (tle : Nat), .int .u64 (tmo : Nat)] 31)) := Below.next_alloc hb2 _
        have HB2 : Hid (Below w.heap.size w (w2.alloc (.cells #[.int .u64 (tn : Nat), .int .i64 tlv, .int .i64 tct, .int .i64 tsz, .string tf, .string tl, .int .u64 (tle : Nat), .int .u64 (tmo : Nat)] 31))) := Lib.hid (Below.next HB.out hbw)
        have HR2 : Hid (Ey (w2.alloc (.cells #[.int .u64 (tn : Nat), .int .i64 tlv, .int .i64 tct, .int .i64 tsz, .string tf, .string tl, .int .u64 (tle : Nat), .int .u64 (tmo : Nat)] 31)) w.heap.size (.slice none 0 0) (.slice none 0 0) 0 0 0) := Lib.hid (kept_block HR.out hbw)
        have HE2 : Hid (Ey (w2.alloc (.cells #[.int .u64 (tn : Nat), .int .i64 tlv, .int .i64 tct, .int .i64 tsz, .string tf, .string tl, .int .u64 (tle : Nat), .int .u64 (tmo : Nat)] 31)) (w.heap.size + 1) (.slice ao ts.length cap) (.slice none 0 0) 0 0 0) := Lib.hid (kept_block HE.out hbw)
        have hraw : OwnsTb (w2.alloc (.cells #[.int .u64 (tn : Nat), .int .i64 tlv, .int .i64 tct, .int .i64 tsz, .string tf, .string tl, .int .u64 (tle : Nat), .int .u64 (tmo : Nat)] 31)) (w.heap.size + 2) (.slice ao ts.length cap) ts := HO.out.below hbw
        have hsz2 : w.heap.size + 2 ≤ (w2.alloc (.cells #[.int .u64 (tn : Nat), .int .i64 tlv, .int .i64 tct, .int .i64 tsz, .string tf, .string tl, .int .u64 (tle : Nat), .int .u64 (tmo : Nat)] 31)).heap.size := Nat.le_trans HZ.out hbw.size
        have htx : Tx (w2.alloc (.cells #[.int .u64 (tn : Nat), .int .i64 tlv, .int .i64 tct, .int .i64 tsz, .string tf, .string tl, .int .u64 (tle : Nat), .int .u64 (tmo : Nat)] 31)) w2.heap.size tn tlv tct tsz tf tl tle tmo := heap_alloc_new _ _
        have HBw : Hid (Below w.heap.size w w2) := Lib.hid (Below.next HB.out hb2)
        have HRw : Hid (Ey w2 w.heap.size (.slice none 0 0) (.slice none 0 0) 0 0 0) := Lib.hid (kept_block HR.out hb2)
        have HEw : Hid (Ey w2 (w.heap.size + 1) (.slice ao ts.length cap) (.slice none 0 0) 0 0 0) := Lib.hid (kept_block HE.out hb2)
        obtain ⟨c0, c1, c2, c3, c4, cf, clt⟩ := HEw.out.of
        have HTL : Hid (ts.length + 1 ≤ n ∧ n ≤ 9000 ∧ ts.length + 1 ≤ j + i ∧ j + i ≤ s.size) := Lib.hid ⟨by omega, by omega, by omega, by omega⟩
        have hszw : w.heap.size + 2 ≤ w2.heap.size := Nat.le_trans HZ.out hb2.size
        clear hb2 hbw
        go_wp2_with (at_builtin; go_must (refine wpList_append_own _ rfl _ _ 25 rfl (w.heap.size + 2) 31 i0 _ 8 80 Try.underlying25 hi hz0 hz1 hz2 rfl (by decide) _ _ _ rfl (World.ownsRow.alloc hraw _) ⟨w2.heap.size + 1, 0, none⟩ 1 1 (cellsTb ⟨tn, tlv, tct, tsz, tf, tl, tle, tmo⟩) rfl rfl (World.news_of_block (cs := #[_, _, _, _, _, _, _, _]) (fr := (0, 0)) (heap_alloc2_new w2 _ _)) ?c2 ?c3 ?c4 ?c5 ?_))
        case c2 => intro u hu; simp [cellsTb] at hu; rcases hu with hu | hu | hu | hu | hu | hu | hu | hu <;> subst hu <;> rfl
        case c3 => have := HTL.out; unfold maxLen; omega
        case c4 => have := HTL.out; omega
        case c5 => simp; omega
        intro v2 w3 hown3 hgrow3 _
        have R1 : OwnsTb w3 (w.heap.size + 2) v2 (ts ++ [⟨tn, tlv, tct, tsz, tf, tl, tle, tmo⟩]) := OwnsTb.snoc hown3
        have hb3 : Below (w.heap.size + 2) w2 w3 := (((((Below.refl (w.heap.size + 2) w2).alloc hszw _).alloc (by simp; omega) _)).grown hgrow3 (by simp; omega) (fun q hq => (World.ownsRow.lt hraw q hq).1))
        obtain ⟨TS, hTS⟩ : ∃ TS : List Tbl, TS = ts ++ [⟨tn, tlv, tct, tsz, tf, tl, tle, tmo⟩] := ⟨_, rfl⟩
        rw [← hTS] at R1 HQ2
        have HLN : Hid (TS.length = ts.length + 1) := Lib.hid (by rw [hTS]; simp)
        clear hTS
        obtain ⟨ao3, cap3, rfl⟩ := R1.slice
        have hE3 : Ey w3 (w.heap.size + 1) (.slice ao ts.length cap) (.slice none 0 0) 0 0 0 := (hb3.block _ (by omega)).trans HEw.out
        have hR3 : Ey w3 w.heap.size (.slice none 0 0) (.slice none 0 0) 0 0 0 := (hb3.block _ (by omega)).trans HRw.out
        have hw3 : Below w.heap.size w w3 := HBw.out.trans (hb3.mono (by omega))
        have hs3 : w.heap.size + 2 ≤ w3.heap.size := Nat.le_trans hszw hb3.size
        clear c0 c1 c2 c3 c4 cf clt hown3 hgrow3 hraw hb3
        obtain ⟨c0, c1, c2, c3, c4, cf, clt⟩ := hE3.of
        have HE4 : Hid (Ey (w3.setCell ⟨w.heap.size + 1, 0, none⟩ (.slice ao3 TS.length cap3)) (w.heap.size + 1) (.slice ao3 TS.length cap3) (.slice none 0 0) 0 0 0) := Lib.hid (heap_setCell_same _ _ 0 _ _ _ hE3)
        have HR4 : Hid (Ey (w3.setCell ⟨w.heap.size + 1, 0, none⟩ (.slice ao3 TS.length cap3)) w.heap.size (.slice none 0 0) (.slice none 0 0) 0 0 0) := Lib.hid ((setCell_kept _ ⟨w.heap.size + 1, 0, none⟩ _ (by simp)).trans hR3)
        have HO4 : Hid (OwnsTb (w3.setCell ⟨w.heap.size + 1, 0, none⟩ (.slice ao3 TS.length cap3)) (w.heap.size + 2) (.slice ao3 TS.length cap3) TS) := Lib.hid (R1.turns (b := w.heap.size + 1) (Turns.of_setCell (P := At (w.heap.size + 1)) _ _ _ rfl) (by omega))
        have HB4 : Hid (Below w.heap.size w (w3.setCell ⟨w.heap.size + 1, 0, none⟩ (.slice ao3 TS.length cap3))) := Lib.hid (hw3.setCell (Nat.le_succ _) _)
        have HZ4 : Hid (w.heap.size + 2 ≤ (w3.setCell ⟨w.heap.size + 1, 0, none⟩ (.slice ao3 TS.length cap3)).heap.size) := Lib.hid (by simpa using hs3)
        clear R1 hE3 hR3 hw3 hs3
        go_wp2_with fail
        go_roundw
        case rel => exact ⟨TS, j + i, ao3, cap3, HQ2.out, by have := HTL.out; rw [HLN.out]; omega, by have := HTL.out; rw [HLN.out]; omega, HTL.out.2.2.2, by go_num, HR4.out, HE4.out, HO4.out, HB4.out, HZ4.out⟩
        case measure => have := HTL.out; simp [intOf]; omega
    · obtain rfl : n = ts.length := Nat.le_antisymm (Nat.le_of_not_lt hlt) htn
      have hsb : (s.extract j s.size).data.toList = s.data.toList.drop j := Lib.extract_to_end s j
      have hsz : (s.extract j s.size).size ≤ 9000 := by
        have e : (s.extract j s.size).data.toList.length = (s.extract j s.size).size := by simp
        rw [hsb, List.length_drop, HLL.out] at e
        omega
      have HV : Hid (∀ W, Calls Try.prog 42 #[.string (s.extract j s.size)] W (Gives (rvV (s.data.toList.drop j)) W)) := Lib.hid (fun W => by
        have := refReadVar_any (s.extract j s.size) W (by omega)
        rw [hsb] at this
        exact this)
      clear hsb hsz
      cases hv : Nm.rv (s.data.toList.drop j) with
      | none =>
        rw [rvV_none hv] at HV
        have HN : Hid (Ed.rd s.data.toList = none) := Lib.hid (Ed.rd_b H1.out HNL.out HQ.out hv)
        clear hv
        go_wp2_with fail
        refine (HV.out _).mono ?_
        rintro r w2 ⟨rfl, hb2⟩
        have HB2 : Hid (Below w.heap.size w w2) := Lib.hid (Below.next HB.out hb2)
        have HR2 : Hid (Ey w2 w.heap.size (.slice none 0 0) (.slice none 0 0) 0 0 0) := Lib.hid (kept_block HR.out hb2)
        clear hb2 c0 c1 c2 c3 c4 cf clt
        obtain ⟨r0, r1, r2, r3, r4, rf, rlt⟩ := HR2.out.of
        go_wp2_with fail
        refine Ey.fill (P := bodyPost _ _ _ _ _) HR2.out (.slice none 0 0) (.slice none 0 0) 0 0 0 ?_
        intro wF hF hTF
        have HFB := Lib.hid (tx_below HB2.out hTF)
        clear r0 r1 r2 r3 r4 rf rlt 
        obtain ⟨r0, r1, r2, r3, r4, rf, rlt⟩ := hF.of
        exact bodyPost_ret (v := noEd) (by simp [results, Try.results22, go_sem, noEd, edV, r0, r1, r2, r3, r4]) rfl ⟨HFB.out, Or.inl ⟨HN.out, rfl⟩⟩
      | some p =>
        obtain ⟨m, c⟩ := p
        obtain ⟨p1, p2, -, p4⟩ := Nm.row_rv hv
        rw [List.length_drop, HLL.out] at p2
        have H3 := Lib.hid hv
        rw [show rvV (s.data.toList.drop j) = .tuple #[.int .u64 m, .int .i64 c, .bool true] by unfold rvV; rw [hv]] at HV
        clear hv
        by_cases hm : s.size < m
        · have HN : Hid (Ed.rd s.data.toList = none) := Lib.hid (Ed.rd_c H1.out HNL.out HQ.out H3.out (by have := HLL.out; omega))
          have g3 : (s.size : Int) < m := by omega
          go_wp2_with fail
          refine (HV.out _).mono ?_
          rintro r w2 ⟨rfl, hb2⟩
          have HB2 : Hid (Below w.heap.size w w2) := Lib.hid (Below.next HB.out hb2)
          have HR2 : Hid (Ey w2 w.heap.size (.slice none 0 0) (.slice none 0 0) 0 0 0) := Lib.hid (kept_block HR.out hb2)
          clear hb2 c0 c1 c2 c3 c4 cf clt
          obtain ⟨r0, r1, r2, r3, r4, rf, rlt⟩ := HR2.out.of
          go_wp2_with fail
          refine Ey.fill (P := bodyPost _ _ _ _ _) HR2.out (.slice none 0 0) (.slice none 0 0) 0 0 0 ?_
          intro wF hF hTF
          have HFB := Lib.hid (tx_below HB2.out hTF)
          clear r0 r1 r2 r3 r4 rf rlt 
          obtain ⟨r0, r1, r2, r3, r4, rf, rlt⟩ := hF.of
          exact bodyPost_ret (v := noEd) (by simp [results, Try.results22, go_sem, noEd, edV, r0, r1, r2, r3, r4]) rfl ⟨HFB.out, Or.inl ⟨HN.out, rfl⟩⟩
        · have g3 : ¬ (s.size : Int) < m := by omega
          have hsb2 : (s.extract (j + c) s.size).data.toList = s.data.toList.drop (j + c) := Lib.extract_to_end s (j + c)
          have hsz2 : (s.extract (j + c) s.size).size ≤ 9000 := by
            have e : (s.extract (j + c) s.size).data.toList.length = (s.extract (j + c) s.size).size := by simp
            rw [hsb2, List.length_drop, HLL.out] at e
            omega
          have HNU : Hid (∀ W, Calls Try.prog 44 #[.string (s.extract (j + c) s.size), .int .i64 ((m : Int) + 3)] W (NumsRead (Ed.seq Nm.rv (s.data.toList.drop (j + c)) 0 (m + 3)) W)) := Lib.hid (fun W => by
            have := numsref_any (s.extract (j + c) s.size) (m + 3) W (by omega)
            rw [hsb2] at this
            exact this)
          have HML : Hid (¬ s.data.toList.length < m) := Lib.hid (by have := HLL.out; omega)
          have hwm : IntKind.i64.wrap (m : Int) = m := wrap_i _ (by omega)
          have hwm3 : IntKind.i64.wrap ((m : Int) + 3) = m + 3 := by rw [show ((m : Int) + 3) = ((m + 3 : Nat) : Int) by omega]; exact wrap_i _ (by omega)
          have hwjc : IntKind.i64.wrap ((j : Int) + c) = j + c := by rw [show ((j : Int) + c) = ((j + c : Nat) : Int) by omega]; exact wrap_i _ (by omega)
          have hjc : (j : Int) + c ≤ s.size := by omega
          clear hsb2 hsz2
          cases hv4 : Ed.seq Nm.rv (s.data.toList.drop (j + c)) 0 (m + 3) with
          | none =>
            rw [hv4] at HNU
            have HN : Hid (Ed.rd s.data.toList = none) := Lib.hid (Ed.rd_d H1.out HNL.out HQ.out H3.out HML.out hv4)
            clear hv4
            go_wp2_with fail
            refine (HV.out _).mono ?_
            rintro r w2 ⟨rfl, hb2⟩
            have HB2 : Hid (Below w.heap.size w w2) := Lib.hid (Below.next HB.out hb2)
            have HR2 : Hid (Ey w2 w.heap.size (.slice none 0 0) (.slice none 0 0) 0 0 0) := Lib.hid (kept_block HR.out hb2)
            clear hb2 c0 c1 c2 c3 c4 cf clt
            go_wp2_with fail
            refine (HNU.out _).mono ?_
            rintro r w3 ⟨hb3, hc⟩
            have hr : r = .returned (.tuple #[.slice none 0 0, .int .i64 (-1)]) := by
              rcases hc with ⟨_, h⟩ | ⟨_, _, _, _, h, _⟩
              · exact h
              · cases h
            subst hr
            have HB3 : Hid (Below w.heap.size w w3) := Lib.hid (Below.next HB2.out hb3)
            have HR3 : Hid (Ey w3 w.heap.size (.slice none 0 0) (.slice none 0 0) 0 0 0) := Lib.hid (kept_block HR2.out hb3)
            clear hb3 hc
            obtain ⟨r0, r1, r2, r3, r4, rf, rlt⟩ := HR3.out.of
            go_wp2_with fail
            refine Ey.fill (P := bodyPost _ _ _ _ _) HR3.out (.slice none 0 0) (.slice none 0 0) 0 0 0 ?_
            intro wF hF hTF
            have HFB := Lib.hid (tx_below HB3.out hTF)
            clear r0 r1 r2 r3 r4 rf rlt 
            obtain ⟨r0, r1, r2, r3, r4, rf, rlt⟩ := hF.of
            exact bodyPost_ret (v := noEd) (by simp [results, Try.results22, go_sem, noEd, edV, r0, r1, r2, r3, r4]) rfl ⟨HFB.out, Or.inl ⟨HN.out, rfl⟩⟩
          | some p =>
            obtain ⟨ns, d⟩ := p
            rw [hv4] at HNU
            obtain ⟨s1, -, s3, -, s5⟩ := Ed.seq_snd Ed.rv_snd (s.data.toList.drop (j + c)) 0 (Nat.zero_le _) (m + 3) ns d hv4
            rw [List.length_drop, HLL.out] at s3
            by_cases h5 : j + c + d = s.size
            · have HNF : Hid (Ed.rd s.data.toList = if Ed.chk (Ed.fin ts ns m).add (Ed.fin ts ns m).drop = 0 then some (Ed.fin ts ns m) else none) := Lib.hid (Ed.rd_f H1.out HNL.out HQ.out H3.out HML.out hv4 (by rw [HLL.out]; exact h5))
              have g5 : (j : Int) + c + d = s.size := by omega
              have hws5 : IntKind.i64.wrap (s.size : Int) = s.size := wrap_i _ (by omega)
              have hd0 : ¬ (d : Int) < 0 := by omega
              have HBU := Lib.hid (bound_u s5)
              clear hv4 s5
              go_wp2_with fail
              refine (HV.out _).mono ?_
              rintro r w2 ⟨rfl, hb2⟩
              have HB2 : Hid (Below w.heap.size w w2) := Lib.hid (Below.next HB.out hb2)
              have HR2 : Hid (Ey w2 w.heap.size (.slice none 0 0) (.slice none 0 0) 0 0 0) := Lib.hid (kept_block HR.out hb2)
              have HE2 : Hid (Ey w2 (w.heap.size + 1) (.slice ao ts.length cap) (.slice none 0 0) 0 0 0) := Lib.hid (kept_block HE.out hb2)
              have HO2 : Hid (OwnsTb w2 (w.heap.size + 2) (.slice ao ts.length cap) ts) := Lib.hid (HO.out.below hb2)
              have HZ2 : Hid (w.heap.size + 2 ≤ w2.heap.size) := Lib.hid (Nat.le_trans HZ.out hb2.size)
              clear hb2 c0 c1 c2 c3 c4 cf clt
              go_wp2_with fail
              refine (HNU.out _).mono ?_
              rintro r w3 ⟨hb3, hc⟩
              obtain ⟨bo, bc, hr, hon⟩ : ∃ bo bc, r = .returned (.tuple #[.slice bo ns.length bc, .int .i64 (d : Nat)]) ∧ OwnsN w3 w2.heap.size (.slice bo ns.length bc) ns := by
                rcases hc with ⟨h, _⟩ | ⟨_, _, bo, bc, h, h2, h3⟩
                · cases h
                · simp only [Option.some.injEq, Prod.mk.injEq] at h
                  obtain ⟨rfl, rfl⟩ := h
                  exact ⟨bo, bc, h2, h3⟩
              subst hr
              obtain ⟨g, hgb, rfl, hcap, hglt⟩ := own_addr hon (by omega)
              have HB3 : Hid (Below w.heap.size w w3) := Lib.hid (Below.next HB2.out hb3)
              have HR3 : Hid (Ey w3 w.heap.size (.slice none 0 0) (.slice none 0 0) 0 0 0) := Lib.hid (kept_block HR2.out hb3)
              have HE3 : Hid (Ey w3 (w.heap.size + 1) (.slice ao ts.length cap) (.slice none 0 0) 0 0 0) := Lib.hid (kept_block HE2.out hb3)
              have HO3 : Hid (OwnsTb w3 (w.heap.size + 2) (.slice ao ts.length cap) ts) := Lib.hid (HO2.out.below hb3)
              obtain ⟨-, b0, o0, hcl⟩ := hon.sees.get
              have q0 := hcl m (by omega)
              have q1 := (hcl (m + 1) (by omega)).2.2
              have q2 := (hcl (m + 2) (by omega)).2.2
              obtain ⟨q0a, -, q0⟩ := q0
              simp only [Option.some.injEq, Addr.mk.injEq] at q0a
              obtain ⟨rfl, rfl, -⟩ := q0a
              rw [Nat.zero_add] at q0 q1 q2
              have hne : ¬ g = w.heap.size + 1 := by have := HZ2.out; omega
              have HON := Lib.hid hon
              have HNS := Lib.hid s1
              have hNI : (ns.length : Int) = m + 3 := by omega
              have hwk : IntKind.i64.wrap ((ns.length : Int) - 3) = m := by rw [hNI, show (m : Int) + 3 - 3 = m by omega]; exact wrap_i _ (by omega)
              obtain ⟨lg, hlg⟩ : ∃ lg, lg = ns.getD m 0 := ⟨_, rfl⟩
              obtain ⟨sq, hsq⟩ : ∃ sq, sq = ns.getD (m + 1) 0 := ⟨_, rfl⟩
              obtain ⟨nx, hnx⟩ : ∃ nx, nx = ns.getD (m + 2) 0 := ⟨_, rfl⟩
              rw [← hlg] at q0; rw [← hsq] at q1; rw [← hnx] at q2
              have hfin : Ed.fin ts ns m = ⟨ts, ns.take m, lg, sq, nx⟩ := by unfold Ed.fin; rw [hlg, hsq, hnx]
              rw [hfin] at HNF
              have HHB : Hid (w.heap.size + 2 ≤ w2.heap.size) := HZ2
              have HTM : Hid ((ns.take m).length = m ∧ m ≤ ns.length ∧ ts.length ≤ 9000 ∧ m ≤ 9000) := Lib.hid ⟨by rw [List.length_take]; omega, by omega, by omega, by omega⟩
              clear hfin hlg hsq hnx
              clear hb3 hc hon hcl s1 HR2 HE2 HO2 HB2 HB HR HE HO HZ HV HNU
              obtain ⟨c0, c1, c2, c3, c4, cf, clt⟩ := HE3.out.of
              go_wp2_with fail
              have t : ∀ (W : World) (o : Nat) (v : Value), Turns (At (w.heap.size + 1)) w3 W → Turns (At (w.heap.size + 1)) w3 (W.setCell ⟨w.heap.size + 1, o, none⟩ v) := fun W o v hT => At.trans hT (Turns.of_setCell (P := At (w.heap.size + 1)) _ _ _ rfl)
              have x1 : Ey _ (w.heap.size + 1) (.slice ao ts.length cap) (.slice (some ⟨g, 0, none⟩) m bc) 0 0 0 := heap_setCell_same _ _ 1 _ _ (.slice (some ⟨g, 0, none⟩) m bc) HE3.out
              have x2 : Ey _ (w.heap.size + 1) (.slice ao ts.length cap) (.slice (some ⟨g, 0, none⟩) m bc) lg 0 0 := heap_setCell_same _ _ 2 _ _ (.int .u64 (lg : Nat)) x1
              have x3 : Ey _ (w.heap.size + 1) (.slice ao ts.length cap) (.slice (some ⟨g, 0, none⟩) m bc) lg sq 0 := heap_setCell_same _ _ 3 _ _ (.int .u64 (sq : Nat)) x2
              have x4 : Ey ((((w3.setCell ⟨w.heap.size + 1, 1, none⟩ (.slice (some ⟨g, 0, none⟩) m bc)).setCell ⟨w.heap.size + 1, 2, none⟩ (.int .u64 (lg : Nat))).setCell ⟨w.heap.size + 1, 3, none⟩ (.int .u64 (sq : Nat))).setCell ⟨w.heap.size + 1, 4, none⟩ (.int .u64 (nx : Nat))) (w.heap.size + 1) (.slice ao ts.length cap) (.slice (some ⟨g, 0, none⟩) m bc) lg sq nx := heap_setCell_same _ _ 4 _ _ (.int .u64 (nx : Nat)) x3
              have tt : Turns (At (w.heap.size + 1)) w3 ((((w3.setCell ⟨w.heap.size + 1, 1, none⟩ (.slice (some ⟨g, 0, none⟩) m bc)).setCell ⟨w.heap.size + 1, 2, none⟩ (.int .u64 (lg : Nat))).setCell ⟨w.heap.size + 1, 3, none⟩ (.int .u64 (sq : Nat))).setCell ⟨w.heap.size + 1, 4, none⟩ (.int .u64 (nx : Nat))) := t _ _ _ (t _ _ _ (t _ _ _ (t _ _ _ (Turns.refl _ _))))
              have HE5 := Lib.hid x4
              have HB5 : Hid (Below w.heap.size w ((((w3.setCell ⟨w.heap.size + 1, 1, none⟩ (.slice (some ⟨g, 0, none⟩) m bc)).setCell ⟨w.heap.size + 1, 2, none⟩ (.int .u64 (lg : Nat))).setCell ⟨w.heap.size + 1, 3, none⟩ (.int .u64 (sq : Nat))).setCell ⟨w.heap.size + 1, 4, none⟩ (.int .u64 (nx : Nat)))) := Lib.hid (HB3.out.trans (tt.to_below HB3.out.size (fun k hk => by rw [show k = w.heap.size + 1 from hk]; exact Nat.le_succ _)))
              have HR5 : Hid (Ey ((((w3.setCell ⟨w.heap.size + 1, 1, none⟩ (.slice (some ⟨g, 0, none⟩) m bc)).setCell ⟨w.heap.size + 1, 2, none⟩ (.int .u64 (lg : Nat))).setCell ⟨w.heap.size + 1, 3, none⟩ (.int .u64 (sq : Nat))).setCell ⟨w.heap.size + 1, 4, none⟩ (.int .u64 (nx : Nat))) w.heap.size (.slice none 0 0) (.slice none 0 0) 0 0 0) := Lib.hid (box_turn tt HR3.out (by omega))
              have HO5 : Hid (OwnsTb ((((w3.setCell ⟨w.heap.size + 1, 1, none⟩ (.slice (some ⟨g, 0, none⟩) m bc)).setCell ⟨w.heap.size + 1, 2, none⟩ (.int .u64 (lg : Nat))).setCell ⟨w.heap.size + 1, 3, none⟩ (.int .u64 (sq : Nat))).setCell ⟨w.heap.size + 1, 4, none⟩ (.int .u64 (nx : Nat))) (w.heap.size + 2) (.slice ao ts.length cap) ts) := Lib.hid (HO3.out.turns tt (by omega))
              have HN5 : Hid (OwnsN ((((w3.setCell ⟨w.heap.size + 1, 1, none⟩ (.slice (some ⟨g, 0, none⟩) m bc)).setCell ⟨w.heap.size + 1, 2, none⟩ (.int .u64 (lg : Nat))).setCell ⟨w.heap.size + 1, 3, none⟩ (.int .u64 (sq : Nat))).setCell ⟨w.heap.size + 1, 4, none⟩ (.int .u64 (nx : Nat))) w2.heap.size (.slice (some ⟨g, 0, none⟩) ns.length bc) ns) := Lib.hid (HON.out.turns tt (by have := HHB.out; omega))
              clear t x1 x2 x3 x4 tt HE3 HR3 HO3 HON HB3 q0 q1 q2 c0 c1 c2 c3 c4 cf clt
              generalize ((((w3.setCell ⟨w.heap.size + 1, 1, none⟩ (.slice (some ⟨g, 0, none⟩) m bc)).setCell ⟨w.heap.size + 1, 2, none⟩ (.int .u64 (lg : Nat))).setCell ⟨w.heap.size + 1, 3, none⟩ (.int .u64 (sq : Nat))).setCell ⟨w.heap.size + 1, 4, none⟩ (.int .u64 (nx : Nat))) = W5 at *
              have HM : Hid (∀ W, SeesTb W (.slice ao ts.length cap) ts → SeesU W (.slice (some ⟨g, 0, none⟩) m bc) (ns.take m) → Calls Try.prog 21 #[.agg #[.slice ao ts.length cap, .slice (some ⟨g, 0, none⟩) m bc, .int .u64 (lg : Nat), .int .u64 (sq : Nat), .int .u64 (nx : Nat)]] W (Gives (.bool (decide (Ed.chk ts (ns.take m) = 0))) W)) := Lib.hid (fun W h1 h2 => may_any ao ts.length cap (some ⟨g, 0, none⟩) m bc ⟨ts, ns.take m, lg, sq, nx⟩ W h1 h2 (by have := HTM.out; omega) (by have := HTM.out; omega))
              refine (HM.out _ HO5.out.sees (seesU_take HN5.out.sees HTM.out.2.1)).mono ?_
              rintro r w6 ⟨rfl, hb6⟩
              have HB6 : Hid (Below w.heap.size w w6) := Lib.hid (Below.next HB5.out hb6)
              have HR6 : Hid (Ey w6 w.heap.size (.slice none 0 0) (.slice none 0 0) 0 0 0) := Lib.hid (kept_block HR5.out hb6)
              have HE6 : Hid (Ey w6 (w.heap.size + 1) (.slice ao ts.length cap) (.slice (some ⟨g, 0, none⟩) m bc) lg sq nx) := Lib.hid (kept_block HE5.out hb6)
              have HO6 : Hid (OwnsTb w6 (w.heap.size + 2) (.slice ao ts.length cap) ts) := Lib.hid (HO5.out.below hb6)
              have HN6 : Hid (OwnsN w6 w2.heap.size (.slice (some ⟨g, 0, none⟩) ns.length bc) ns) := Lib.hid (HN5.out.below hb6)
              clear hb6 HB5 HR5 HE5 HO5 HN5 HM
              by_cases hk : Ed.chk ts (ns.take m) = 0
              · rw [decide_eq_true hk]
                have HZ : Hid (Ed.rd s.data.toList = some ⟨ts, ns.take m, lg, sq, nx⟩) := Lib.hid (by rw [HNF.out, if_pos hk])
                clear hk HNF
                obtain ⟨c0, c1, c2, c3, c4, cf, clt⟩ := HE6.out.of
                obtain ⟨r0, r1, r2, r3, r4, rf, rlt⟩ := HR6.out.of
                go_wp2_with fail
                refine Ey.fill (P := bodyPost _ _ _ _ _) HR6.out (.slice ao ts.length cap) (.slice (some ⟨g, 0, none⟩) m bc) lg sq nx ?_
                intro wF hF hTF
                have HFB := Lib.hid (tx_below HB6.out hTF)
                have HS1 : Hid (SeesTb wF (.slice ao ts.length cap) ts) := Lib.hid (HO6.out.turns hTF (by omega)).sees
                have HS2 : Hid (SeesU wF (.slice (some ⟨g, 0, none⟩) m bc) (ns.take m)) := Lib.hid (seesU_take (HN6.out.turns hTF (by have := HHB.out; omega)).sees HTM.out.2.1)
                clear r0 r1 r2 r3 r4 rf rlt c0 c1 c2 c3 c4 cf clt
                obtain ⟨r0, r1, r2, r3, r4, rf, rlt⟩ := hF.of
                exact bodyPost_ret (v := .tuple #[edV ao ts.length cap (some ⟨g, 0, none⟩) m bc lg sq nx, .bool true]) (by simp [results, Try.results22, go_sem, edV, r0, r1, r2, r3, r4]) rfl ⟨HFB.out, Or.inr ⟨_, ao, cap, some ⟨g, 0, none⟩, bc, HZ.out, by rw [HTM.out.1], HS1.out, by rw [HTM.out.1]; exact HS2.out⟩⟩
              · rw [decide_eq_false hk]
                have HN : Hid (Ed.rd s.data.toList = none) := Lib.hid (by rw [HNF.out, if_neg hk])
                clear hk HNF HE6
                obtain ⟨r0, r1, r2, r3, r4, rf, rlt⟩ := HR6.out.of
                go_wp2_with fail
                refine Ey.fill (P := bodyPost _ _ _ _ _) HR6.out (.slice none 0 0) (.slice none 0 0) 0 0 0 ?_
                intro wF hF hTF
                have HFB := Lib.hid (tx_below HB6.out hTF)
                clear r0 r1 r2 r3 r4 rf rlt 
                obtain ⟨r0, r1, r2, r3, r4, rf, rlt⟩ := hF.of
                exact bodyPost_ret (v := noEd) (by simp [results, Try.results22, go_sem, noEd, edV, r0, r1, r2, r3, r4]) rfl ⟨HFB.out, Or.inl ⟨HN.out, rfl⟩⟩
            · have HN : Hid (Ed.rd s.data.toList = none) := Lib.hid (Ed.rd_e H1.out HNL.out HQ.out H3.out HML.out hv4 (by rw [HLL.out]; exact h5))
              have g5 : ¬ (j : Int) + c + d = s.size := by omega
              have hbq : (((j : Int) + c + d) != (s.size : Int)) = true := by rw [bne_iff_ne]; exact g5
              have hwz5 : IntKind.i64.wrap ((j : Int) + c + d) = j + c + d := by rw [show ((j : Int) + c + d) = ((j + c + d : Nat) : Int) by omega]; exact wrap_i _ (by omega)
              have hd0 : ¬ (d : Int) < 0 := by omega
              clear hv4 s5 s1
              go_wp2_with fail
              refine (HV.out _).mono ?_
              rintro r w2 ⟨rfl, hb2⟩
              have HB2 : Hid (Below w.heap.size w w2) := Lib.hid (Below.next HB.out hb2)
              have HR2 : Hid (Ey w2 w.heap.size (.slice none 0 0) (.slice none 0 0) 0 0 0) := Lib.hid (kept_block HR.out hb2)
              clear hb2 c0 c1 c2 c3 c4 cf clt
              go_wp2_with fail
              refine (HNU.out _).mono ?_
              rintro r w3 ⟨hb3, hc⟩
              obtain ⟨bo, bc, N, hr⟩ : ∃ bo bc N, r = .returned (.tuple #[.slice bo N bc, .int .i64 (d : Nat)]) := by
                rcases hc with ⟨h, _⟩ | ⟨_, _, bo, bc, h, h2, h3⟩
                · cases h
                · simp only [Option.some.injEq, Prod.mk.injEq] at h
                  obtain ⟨rfl, rfl⟩ := h
                  exact ⟨bo, bc, _, h2⟩
              subst hr
              have HB3 : Hid (Below w.heap.size w w3) := Lib.hid (Below.next HB2.out hb3)
              have HR3 : Hid (Ey w3 w.heap.size (.slice none 0 0) (.slice none 0 0) 0 0 0) := Lib.hid (kept_block HR2.out hb3)
              clear hb3 hc
              obtain ⟨r0, r1, r2, r3, r4, rf, rlt⟩ := HR3.out.of
              go_wp2_with fail
              refine Ey.fill (P := bodyPost _ _ _ _ _) HR3.out (.slice none 0 0) (.slice none 0 0) 0 0 0 ?_
              intro wF hF hTF
              have HFB := Lib.hid (tx_below HB3.out hTF)
              clear r0 r1 r2 r3 r4 rf rlt 
              obtain ⟨r0, r1, r2, r3, r4, rf, rlt⟩ := hF.of
              exact bodyPost_ret (v := noEd) (by simp [results, Try.results22, go_sem, noEd, edV, r0, r1, r2, r3, r4]) rfl ⟨HFB.out, Or.inl ⟨HN.out, rfl⟩⟩

/-- The document's Decode, of every text of at most 9000 bytes. -/
theorem decref_any (s : ByteArray) (w : World) (hs : s.size ≤ 9000) :
    Calls Try.prog 22 #[.string s] w (DecSeen (Ed.decode s.data.toList) w) := by
  have hl : s.data.toList.length = s.size := by simp
  have e : Ed.decode s.data.toList = Ed.rd s.data.toList := by
    unfold Ed.decode
    rw [if_neg (by omega), Ed.rd_eq]
  rw [e]
  cases h : Nm.rv s.data.toList with
  | none => exact decref_none s w hs h
  | some p =>
    obtain ⟨n, a⟩ := p
    obtain ⟨h1, h2, -, -⟩ := Nm.row_rv h
    by_cases hn : s.size < n
    · exact decref_over s n a w hs h hn
    · exact decref_main s n a w hs h (by omega) ⟨h1, by omega⟩

end Go.Proofs.Ytlhokfildhcdhaa
