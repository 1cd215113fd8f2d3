/- The walk of edit.Decode. -/
import Derived.Test.YtbdoekogoiijeaaEdG
namespace Go.Proofs.Ytbdoekogoiijeaa
open Go.RowKit Sk
set_option linter.unusedVariables false
set_option maxRecDepth 20000

theorem many_le {α : Type} {f : Ed.St → α × Ed.St} (hf : ∀ s, (f s).2.rest.length ≤ s.rest.length) : ∀ (n : Nat) (s : Ed.St), (Ed.many f n s).2.rest.length ≤ s.rest.length
  | 0, s => Nat.le_refl _
  | n + 1, s => by
    rw [Ed.many]
    split
    · exact Nat.le_refl _
    · exact Nat.le_trans (many_le hf n _) (hf s)
theorem many_len {α : Type} {f : Ed.St → α × Ed.St} (hf : ∀ s, (f s).2.rest.length ≤ s.rest.length) (hl : ∀ s, (f s).2.bad = false → (f s).2.rest.length + 1 ≤ s.rest.length) : ∀ (n : Nat) (s : Ed.St), (Ed.many f n s).1.length ≤ s.rest.length + 1
  | 0, s => by simp [Ed.many]
  | n + 1, s => by
    rw [Ed.many]
    split
    · simp
    · simp only [List.length_cons]
      by_cases hb : (f s).2.bad = true
      · have : (Ed.many f n (f s).2).1 = [] := by
          cases n with
          | zero => rfl
          | succ n => rw [Ed.many, if_pos hb]
        rw [this]; simp
      · have h1 := many_len hf hl n (f s).2
        have h2 := hl s (by simpa using hb)
        omega
theorem lst_le {α : Type} {f : Ed.St → α × Ed.St} (hf : ∀ s, (f s).2.rest.length ≤ s.rest.length) (s : Ed.St) : (Ed.lst f s).2.rest.length ≤ s.rest.length := Nat.le_trans (many_le hf _ _) (num_le s)
theorem lst_len {α : Type} {f : Ed.St → α × Ed.St} (hf : ∀ s, (f s).2.rest.length ≤ s.rest.length) (hl : ∀ s, (f s).2.bad = false → (f s).2.rest.length + 1 ≤ s.rest.length) (s : Ed.St) : (Ed.lst f s).1.length ≤ s.rest.length + 1 :=
  Nat.le_trans (many_len hf hl _ _) (Nat.succ_le_succ (num_le s))

/-- An edit's box. -/
def Ex (w : World) (B : Nat) (av dv : Value) (lg sq nx : Nat) : Prop := w.heap[B]? = some (.cells #[av, dv, .int .u64 (lg : Nat), .int .u64 (sq : Nat), .int .u64 (nx : Nat)] 30 (0, 0))
theorem Ex.of {w : World} {B : Nat} {av dv : Value} {lg sq nx : Nat} (h : Ex w B av dv lg sq nx) : w.cell? ⟨B, 0, none⟩ = some av ∧ w.cell? ⟨B, 1, none⟩ = some dv ∧ w.cell? ⟨B, 2, none⟩ = some (.int .u64 (lg : Nat)) ∧ w.cell? ⟨B, 3, none⟩ = some (.int .u64 (sq : Nat)) ∧ w.cell? ⟨B, 4, none⟩ = some (.int .u64 (nx : Nat)) ∧ (∀ k, w.frozen? ⟨B, k, none⟩ = false) ∧ B < w.heap.size := by
  refine ⟨?_, ?_, ?_, ?_, ?_, fun k => Sk.unfrozen_of h k, Sk.heap_lt h⟩ <;> (rw [Sk.cell_of h]; rfl)

/-- An edit was read, or none. -/
def DecRead (o : Option Edt) (w : World) (e : Ending) (w' : World) : Prop :=
  Below w.heap.size w w' ∧ ((o = none ∧ e = .returned (.tuple #[edV none 0 0 none 0 0 0 0 0, .bool false])) ∨
    ∃ ed ao ac bo bc, o = some ed ∧ e = .returned (.tuple #[edV ao ed.add.length ac bo ed.drop.length bc ed.log ed.seq ed.next, .bool true]) ∧ OwnsTb w' w.heap.size (.slice ao ed.add.length ac) ed.add ∧ OwnsN w' w.heap.size (.slice bo ed.drop.length bc) ed.drop)
def noEd : Value := .tuple #[edV none 0 0 none 0 0 0 0 0, .bool false]

set_option maxHeartbeats 2000000 in
theorem decode_long (s : ByteArray) (w : World) (hs : 524288 < s.size) (hm : s.size ≤ 1000000000) :
    Calls Try.prog 46 #[.string s] w (DecRead none w) := by
  have h : (524288 : Int) < s.size := by omega
  clear hs
  go_enter Try.func46, Try.ntmps46
  go_wp2_with fail
  refine bodyPost_ret (v := noEd) (by simp [results, Try.results46, go_sem, noEd, edV]) rfl ⟨(Below.refl _ _).alloc (Nat.le_refl _) _, Or.inl ⟨rfl, rfl⟩⟩

/-- Decode under way: the result's box, the reader, the edit's box, and what has been read. -/
structure Mid (w W : World) (st : Ed.St) (av dv : Value) (lg sq nx : Nat) (tv nv : Value) (ts : List Tbl) (ns : List Nat) : Prop where
  rd : RdS W (w.heap.size + 1) st
  ex : Ex W (w.heap.size + 2) av dv lg sq nx
  res : Ex W w.heap.size (.slice none 0 0) (.slice none 0 0) 0 0 0
  below : Below w.heap.size w W
  tb : OwnsTb W (w.heap.size + 3) tv ts
  nm : OwnsN W (w.heap.size + 3) nv ns
  low : w.heap.size + 3 ≤ W.heap.size
theorem Mid.turn {w W W' : World} {st st' : Ed.St} {av dv : Value} {lg sq nx : Nat} {tv nv : Value} {ts : List Tbl} {ns : List Nat} (h : Mid w W st av dv lg sq nx tv nv ts ns) (ht : Turns (At (w.heap.size + 1)) W W') (hr : RdS W' (w.heap.size + 1) st') : Mid w W' st' av dv lg sq nx tv nv ts ns :=
  ⟨hr, (ht.block _ (Sk.heap_lt h.ex) (by simp [At])).trans h.ex, (ht.block _ (Sk.heap_lt h.res) (by simp [At])).trans h.res, h.below.trans (ht.to_below (Nat.le_trans (Nat.le_add_right _ 3) h.low) (fun k hk => by rw [show k = w.heap.size + 1 from hk]; omega)),
   h.tb.turns ht (by omega), h.nm.turns ht (by omega), Nat.le_trans h.low ht.size⟩
theorem Mid.below' {w W W' : World} {st : Ed.St} {av dv : Value} {lg sq nx : Nat} {tv nv : Value} {ts : List Tbl} {ns : List Nat} (h : Mid w W st av dv lg sq nx tv nv ts ns) (hb : Below W.heap.size W W') : Mid w W' st av dv lg sq nx tv nv ts ns :=
  ⟨h.rd.frame hb, kept_block h.ex hb, kept_block h.res hb, Below.next h.below hb, h.tb.below hb, h.nm.below hb, Nat.le_trans h.low hb.size⟩
theorem Mid.set {w W : World} {st : Ed.St} {av dv av' dv' : Value} {lg sq nx lg' sq' nx' : Nat} {tv nv : Value} {ts : List Tbl} {ns : List Nat} (h : Mid w W st av dv lg sq nx tv nv ts ns) (o : Nat) (v : Value) (hx : Ex (W.setCell ⟨w.heap.size + 2, o, none⟩ v) (w.heap.size + 2) av' dv' lg' sq' nx') : Mid w (W.setCell ⟨w.heap.size + 2, o, none⟩ v) st av' dv' lg' sq' nx' tv nv ts ns := by
  have ht : Turns (At (w.heap.size + 2)) W (W.setCell ⟨w.heap.size + 2, o, none⟩ v) := Turns.of_setCell (P := At (w.heap.size + 2)) _ _ _ rfl
  exact ⟨h.rd.setCell (by omega) _ _, hx, (ht.block _ (Sk.heap_lt h.res) (by simp [At])).trans h.res, h.below.trans (ht.to_below (Nat.le_trans (Nat.le_add_right _ 3) h.low) (fun k hk => by rw [show k = w.heap.size + 2 from hk]; omega)),
   h.tb.turns ht (by omega), h.nm.turns ht (by omega), Nat.le_trans h.low ht.size⟩
theorem OwnsTb.mono {w : World} {base base' : Nat} {v : Value} {ts : List Tbl} (h : OwnsTb w base v ts) (hb : base' ≤ base) : OwnsTb w base' v ts :=
  ⟨h.1, h.2.imp id fun ⟨g, cap, cur, e, hg, r⟩ => ⟨g, cap, cur, e, Nat.le_trans hb hg, r⟩⟩
theorem OwnsN.mono {w : World} {base base' : Nat} {v : Value} {ns : List Nat} (h : OwnsN w base v ns) (hb : base' ≤ base) : OwnsN w base' v ns :=
  ⟨h.1, h.2.imp id fun ⟨g, cap, cur, e, hg, r⟩ => ⟨g, cap, cur, e, Nat.le_trans hb hg, r⟩⟩

theorem Ex.fill {P : World → Prop} {w : World} {B : Nat} {av' dv' : Value} {lg' sq' nx' : Nat} (h : Ex w B av' dv' lg' sq' nx') (av dv : Value) (lg sq nx : Nat)
    (k : ∀ wF, Ex wF B av dv lg sq nx → Turns (At B) w wF → P wF) : P (((((w.setCell ⟨B, 0, none⟩ av).setCell ⟨B, 1, none⟩ dv).setCell ⟨B, 2, none⟩ (.int .u64 (lg : Nat))).setCell ⟨B, 3, none⟩ (.int .u64 (sq : Nat))).setCell ⟨B, 4, none⟩ (.int .u64 (nx : Nat))) := by
  have t : ∀ (W : World) (o : Nat) (v : Value), Turns (At B) w W → Turns (At B) w (W.setCell ⟨B, o, none⟩ v) := fun W o v hT => At.trans hT (Turns.of_setCell (P := At B) _ _ _ rfl)
  have x0 : Ex _ B av dv' lg' sq' nx' := heap_setCell_same _ _ 0 _ _ av h
  have x1 : Ex _ B av dv lg' sq' nx' := heap_setCell_same _ _ 1 _ _ dv x0
  have x2 : Ex _ B av dv lg sq' nx' := heap_setCell_same _ _ 2 _ _ (.int .u64 (lg : Nat)) x1
  have x3 : Ex _ B av dv lg sq nx' := heap_setCell_same _ _ 3 _ _ (.int .u64 (sq : Nat)) x2
  have x4 : Ex _ B av dv lg sq nx := heap_setCell_same _ _ 4 _ _ (.int .u64 (nx : Nat)) x3
  exact k _ x4 (t _ _ _ (t _ _ _ (t _ _ _ (t _ _ _ (t _ _ _ (Turns.refl _ _))))))
theorem Mid.end {w W wF : World} {st : Ed.St} {av dv : Value} {lg sq nx : Nat} {tv nv : Value} {ts : List Tbl} {ns : List Nat} (h : Mid w W st av dv lg sq nx tv nv ts ns) (ht : Turns (At w.heap.size) W wF) : Below w.heap.size w wF ∧ OwnsTb wF w.heap.size tv ts ∧ OwnsN wF w.heap.size nv ns :=
  ⟨h.below.trans (ht.to_below (Nat.le_trans (Nat.le_add_right _ 3) h.low) (fun k hk => by rw [show k = w.heap.size from hk]; exact Nat.le_refl _)), (h.tb.turns ht (by omega)).mono (by omega), (h.nm.turns ht (by omega)).mono (by omega)⟩

set_option maxHeartbeats 4000000 in
theorem decode_short (s : ByteArray) (w : World) (hs : s.size ≤ 524288) :
    Calls Try.prog 46 #[.string s] w (DecRead (Ed.dec s.data.toList) w) := by
  have hl : s.data.toList.length = s.size := by simp
  have hs' : (s.size : Int) ≤ 524288 := by omega
  have HSQ : Hid ((⟨s.data.toList.toArray⟩ : ByteArray) = s) := Lib.hid rfl
  have q1 := lst_le tab_le ⟨s.data.toList, false⟩
  have q2 := lst_le num_le (Ed.lst Ed.tab ⟨s.data.toList, false⟩).2
  have q3 := num_le (Ed.lst Ed.num (Ed.lst Ed.tab ⟨s.data.toList, false⟩).2).2
  have q4 := num_le (Ed.num (Ed.lst Ed.num (Ed.lst Ed.tab ⟨s.data.toList, false⟩).2).2).2
  have n1 := lst_len tab_le tab_less ⟨s.data.toList, false⟩
  have n2 := lst_len num_le num_less (Ed.lst Ed.tab ⟨s.data.toList, false⟩).2
  dsimp only at q1 n1
  have H1 : Hid (∀ (b : Nat) (W : World), RdS W b ⟨s.data.toList, false⟩ → Calls Try.prog 70 #[.pointer (some ⟨b, 0, none⟩)] W (ReadTb b (Ed.lst Ed.tab ⟨s.data.toList, false⟩) W)) := Lib.hid (fun b W h => tables_any b _ W h (by simp only; omega))
  have H2 : Hid (∀ (b : Nat) (W : World), RdS W b (Ed.lst Ed.tab ⟨s.data.toList, false⟩).2 → Calls Try.prog 71 #[.pointer (some ⟨b, 0, none⟩)] W (ReadN b (Ed.lst Ed.num (Ed.lst Ed.tab ⟨s.data.toList, false⟩).2) W)) := Lib.hid (fun b W h => numbers_any b _ W h (by omega))
  have H3 : Hid (∀ (b : Nat) (W : World), RdS W b (Ed.lst Ed.num (Ed.lst Ed.tab ⟨s.data.toList, false⟩).2).2 → Calls Try.prog 72 #[.pointer (some ⟨b, 0, none⟩)] W (Readd b (.int .u64 ((Ed.num (Ed.lst Ed.num (Ed.lst Ed.tab ⟨s.data.toList, false⟩).2).2).1 : Nat)) (Ed.num (Ed.lst Ed.num (Ed.lst Ed.tab ⟨s.data.toList, false⟩).2).2).2 W)) := Lib.hid (fun b W h => number_any b _ W h (by omega))
  have H4 : Hid (∀ (b : Nat) (W : World), RdS W b (Ed.num (Ed.lst Ed.num (Ed.lst Ed.tab ⟨s.data.toList, false⟩).2).2).2 → Calls Try.prog 72 #[.pointer (some ⟨b, 0, none⟩)] W (Readd b (.int .u64 ((Ed.num (Ed.num (Ed.lst Ed.num (Ed.lst Ed.tab ⟨s.data.toList, false⟩).2).2).2).1 : Nat)) (Ed.num (Ed.num (Ed.lst Ed.num (Ed.lst Ed.tab ⟨s.data.toList, false⟩).2).2).2).2 W)) := Lib.hid (fun b W h => number_any b _ W h (by omega))
  have H5 : Hid (∀ (b : Nat) (W : World), RdS W b (Ed.num (Ed.num (Ed.lst Ed.num (Ed.lst Ed.tab ⟨s.data.toList, false⟩).2).2).2).2 → Calls Try.prog 72 #[.pointer (some ⟨b, 0, none⟩)] W (Readd b (.int .u64 ((Ed.num (Ed.num (Ed.num (Ed.lst Ed.num (Ed.lst Ed.tab ⟨s.data.toList, false⟩).2).2).2).2).1 : Nat)) (Ed.num (Ed.num (Ed.num (Ed.lst Ed.num (Ed.lst Ed.tab ⟨s.data.toList, false⟩).2).2).2).2).2 W)) := Lib.hid (fun b W h => number_any b _ W h (by omega))
  have HE : Hid (Ed.dec s.data.toList = _) := Lib.hid (by unfold Ed.dec; exact rfl)
  clear q2 q3 q4
  generalize Ed.dec s.data.toList = D at *
  generalize Ed.lst Ed.tab ⟨s.data.toList, false⟩ = x1 at *
  obtain ⟨ts, s1⟩ := x1
  dsimp only at H1 H2 H3 H4 H5 HE n1 n2 q1
  generalize Ed.lst Ed.num s1 = x2 at *
  obtain ⟨ns, s2⟩ := x2
  dsimp only at H1 H2 H3 H4 H5 HE n1 n2
  generalize Ed.num s2 = x3 at *
  obtain ⟨lg, s3⟩ := x3
  dsimp only at H1 H2 H3 H4 H5 HE
  generalize Ed.num s3 = x4 at *
  obtain ⟨sq, s4⟩ := x4
  dsimp only at H1 H2 H3 H4 H5 HE
  generalize Ed.num s4 = x5 at *
  obtain ⟨nx, ⟨l5, bad5⟩⟩ := x5
  dsimp only at H1 H2 H3 H4 H5 HE
  have HE : Hid (D = if bad5 = false ∧ l5 = [] ∧ Ed.chk ts ns = 0 then some ⟨ts, ns, lg, sq, nx⟩ else none) := HE
  go_enter Try.func46, Try.ntmps46
  go_wp2_with fail
  have hb0 : Below w.heap.size w (((w.alloc (.cells #[.slice none 0 0, .slice none 0 0, .int .u64 0, .int .u64 0, .int .u64 0] 30)).alloc (.cells #[.string s, .bool false] 124)).alloc (.cells #[.slice none 0 0, .slice none 0 0, .int .u64 0, .int .u64 0, .int .u64 0] 30)) := Below.next_alloc (Below.next_alloc ((Below.refl _ _).alloc (Nat.le_refl _) _) _) _
  have hm0 : Mid w (((w.alloc (.cells #[.slice none 0 0, .slice none 0 0, .int .u64 0, .int .u64 0, .int .u64 0] 30)).alloc (.cells #[.string s, .bool false] 124)).alloc (.cells #[.slice none 0 0, .slice none 0 0, .int .u64 0, .int .u64 0, .int .u64 0] 30)) ⟨s.data.toList, false⟩ (.slice none 0 0) (.slice none 0 0) 0 0 0 (.slice none 0 0) (.slice none 0 0) [] [] := by
    refine ⟨?_, ?_, ?_, hb0, OwnsTb.nil _ _, OwnsN.nil _ _, by simp⟩
    · exact (heap_alloc_old _ _ (by simp)).trans (heap_alloc2_new _ _ _)
    · have h := heap_alloc2_new (w.alloc (.cells #[.slice none 0 0, .slice none 0 0, .int .u64 0, .int .u64 0, .int .u64 0] 30)) (.cells #[.string s, .bool false] 124) (.cells #[.slice none 0 0, .slice none 0 0, .int .u64 0, .int .u64 0, .int .u64 0] 30)
      rw [World.size_alloc] at h
      exact h
    · exact (heap_alloc_old _ _ (by simp; omega)).trans (heap_alloc2_old _ _ _)
  generalize (((w.alloc (.cells #[.slice none 0 0, .slice none 0 0, .int .u64 0, .int .u64 0, .int .u64 0] 30)).alloc (.cells #[.string s, .bool false] 124)).alloc (.cells #[.slice none 0 0, .slice none 0 0, .int .u64 0, .int .u64 0, .int .u64 0] 30)) = W at *
  have HM0 := Lib.hid hm0
  clear hb0 hm0
  refine (H1.out _ _ HM0.out.rd).mono ?_
  rintro e w1 ⟨v1, rfl, ho1, hr1, ht1⟩
  have HM1 : Hid (Mid w w1 s1 (.slice none 0 0) (.slice none 0 0) 0 0 0 v1 (.slice none 0 0) ts []) := Lib.hid ((fun m => ⟨m.rd, m.ex, m.res, m.below, ho1.mono HM0.out.low, m.nm, m.low⟩) (HM0.out.turn ht1 hr1))
  clear ho1 hr1 ht1
  go_wp2_with fail
  refine (H2.out _ _ HM1.out.rd).mono ?_
  rintro e w2 ⟨v2, rfl, ho2, hr2, ht2⟩
  have HM2 : Hid (Mid w w2 s2 (.slice none 0 0) (.slice none 0 0) 0 0 0 v1 v2 ts ns) := Lib.hid ((fun m => ⟨m.rd, m.ex, m.res, m.below, m.tb, ho2.mono HM1.out.low, m.low⟩) (HM1.out.turn ht2 hr2))
  clear ho2 hr2 ht2
  obtain ⟨ao, ac, rfl⟩ := HM2.out.tb.slice
  obtain ⟨bo, bc, rfl⟩ := HM2.out.nm.slice
  obtain ⟨a0, a1, a2, a3, a4, af, alt⟩ := HM2.out.ex.of
  have HM3 := Lib.hid (HM2.out.set 0 (.slice ao ts.length ac) (heap_setCell_same _ _ 0 _ _ _ HM2.out.ex))
  have HM4 := Lib.hid (HM3.out.set 1 (.slice bo ns.length bc) (heap_setCell_same _ _ 1 _ _ _ HM3.out.ex))
  clear HM0 HM1
  go_wp2_with fail
  refine (H3.out _ _ HM4.out.rd).mono ?_
  rintro e w5 ⟨rfl, hr5, ht5⟩
  have HM5 := Lib.hid (HM4.out.turn ht5 hr5)
  clear hr5 ht5 HM2 HM3
  go_wp2_with fail
  refine (H4.out _ _ HM5.out.rd).mono ?_
  rintro e w6 ⟨rfl, hr6, ht6⟩
  have HM6 := Lib.hid (HM5.out.turn ht6 hr6)
  clear hr6 ht6
  go_wp2_with fail
  refine (H5.out _ _ HM6.out.rd).mono ?_
  rintro e w7 ⟨rfl, hr7, ht7⟩
  have HM7 := Lib.hid (HM6.out.turn ht7 hr7)
  clear hr7 ht7 a0 a1 a2 a3 a4 af alt
  obtain ⟨a0, a1, a2, a3, a4, af, alt⟩ := HM7.out.ex.of
  have HM8 := Lib.hid (HM7.out.set 2 (.int .u64 (lg : Nat)) (heap_setCell_same _ _ 2 _ _ _ HM7.out.ex))
  have HM9 := Lib.hid (HM8.out.set 3 (.int .u64 (sq : Nat)) (heap_setCell_same _ _ 3 _ _ _ HM8.out.ex))
  have HM := Lib.hid (HM9.out.set 4 (.int .u64 (nx : Nat)) (heap_setCell_same _ _ 4 _ _ _ HM9.out.ex))
  clear HM4 HM5 HM6
  obtain ⟨c0, c1, cf0, cf1, clt⟩ := Rd.cells HM.out.rd
  obtain ⟨d0, d1, d2, d3, d4, df, dlt⟩ := HM.out.ex.of
  obtain ⟨r0, r1, r2, r3, r4, rf, rlt⟩ := HM.out.res.of
  dsimp only at c0 c1
  clear HM7 HM8 HM9
  cases bad5 with
  | true =>
    have HN : Hid (D = none) := Lib.hid (by rw [HE.out, if_neg (by simp)])
    go_wp2_with fail
    refine Ex.fill (P := bodyPost _ _ _ _ _) HM.out.res (.slice none 0 0) (.slice none 0 0) 0 0 0 ?_
    intro wF hF hTF
    have HFB := Lib.hid (HM.out.end hTF).1
    clear c0 c1 cf0 cf1 clt d0 d1 d2 d3 d4 df dlt r0 r1 r2 r3 r4 rf rlt
    obtain ⟨r0, r1, r2, r3, r4, rf, rlt⟩ := hF.of
    exact bodyPost_ret (v := noEd) (by simp [results, Try.results46, go_sem, noEd, edV, r0, r1, r2, r3, r4]) rfl ⟨HFB.out, Or.inl ⟨HN.out, rfl⟩⟩
  | false =>
    cases l5 with
    | cons y ys =>
      have HN : Hid (D = none) := Lib.hid (by rw [HE.out, if_neg (by simp)])
      have he := isEmpty_of_size (s := (⟨(y :: ys).toArray⟩ : ByteArray)) (by rw [size_mk]; simp)
      generalize (⟨(y :: ys).toArray⟩ : ByteArray) = S5 at *
      go_wp2_with fail
      refine Ex.fill (P := bodyPost _ _ _ _ _) HM.out.res (.slice none 0 0) (.slice none 0 0) 0 0 0 ?_
      intro wF hF hTF
      have HFB := Lib.hid (HM.out.end hTF).1
      clear c0 c1 cf0 cf1 clt d0 d1 d2 d3 d4 df dlt r0 r1 r2 r3 r4 rf rlt
      obtain ⟨r0, r1, r2, r3, r4, rf, rlt⟩ := hF.of
      exact bodyPost_ret (v := noEd) (by simp [results, Try.results46, go_sem, noEd, edV, r0, r1, r2, r3, r4]) rfl ⟨HFB.out, Or.inl ⟨HN.out, rfl⟩⟩
    | nil =>
      have he := isEmpty_yes (s := (⟨([] : List UInt8).toArray⟩ : ByteArray)) (by rw [size_mk]; rfl)
      have HN0 : Hid (D = if Ed.chk ts ns = 0 then some ⟨ts, ns, lg, sq, nx⟩ else none) := Lib.hid (by rw [HE.out]; simp)
      have HCK := Lib.hid (check_any ao ts.length ac bo ns.length bc ⟨ts, ns, lg, sq, nx⟩ _ HM.out.tb.sees HM.out.nm.sees (by omega) (by omega))
      unfold edV at HCK
      dsimp only at HCK
      generalize (⟨([] : List UInt8).toArray⟩ : ByteArray) = S5 at *
      clear HE
      generalize Ed.chk ts ns = c at *
      by_cases hc : c = 0
      · subst hc
        have HN : Hid (D = some ⟨ts, ns, lg, sq, nx⟩) := Lib.hid (by rw [HN0.out, if_pos rfl])
        go_wp2_with fail
        refine HCK.out.mono ?_
        rintro e w9 ⟨rfl, hb9⟩
        have HM' := Lib.hid (HM.out.below' hb9)
        clear c0 c1 cf0 cf1 clt d0 d1 d2 d3 d4 df dlt r0 r1 r2 r3 r4 rf rlt HCK HN0 hb9
        obtain ⟨d0, d1, d2, d3, d4, df, dlt⟩ := HM'.out.ex.of
        obtain ⟨r0, r1, r2, r3, r4, rf, rlt⟩ := HM'.out.res.of
        go_wp2_with fail
        refine Ex.fill (P := bodyPost _ _ _ _ _) HM'.out.res (.slice ao ts.length ac) (.slice bo ns.length bc) lg sq nx ?_
        intro wF hF hTF
        have HFB := Lib.hid (HM'.out.end hTF)
        clear d0 d1 d2 d3 d4 df dlt r0 r1 r2 r3 r4 rf rlt
        obtain ⟨r0, r1, r2, r3, r4, rf, rlt⟩ := hF.of
        exact bodyPost_ret (v := .tuple #[edV ao ts.length ac bo ns.length bc lg sq nx, .bool true]) (by simp [results, Try.results46, go_sem, edV, r0, r1, r2, r3, r4]) rfl ⟨HFB.out.1, Or.inr ⟨_, ao, ac, bo, bc, HN.out, rfl, HFB.out.2.1, HFB.out.2.2⟩⟩
      · have HN : Hid (D = none) := Lib.hid (by rw [HN0.out, if_neg hc])
        have hc' : ¬ ((c : Int) = 0) := by omega
        clear hc
        go_wp2_with fail
        refine HCK.out.mono ?_
        rintro e w9 ⟨rfl, hb9⟩
        have HM' := Lib.hid (HM.out.below' hb9)
        clear c0 c1 cf0 cf1 clt d0 d1 d2 d3 d4 df dlt r0 r1 r2 r3 r4 rf rlt HCK HN0 hb9
        obtain ⟨r0, r1, r2, r3, r4, rf, rlt⟩ := HM'.out.res.of
        go_wp2_with fail
        refine Ex.fill (P := bodyPost _ _ _ _ _) HM'.out.res (.slice none 0 0) (.slice none 0 0) 0 0 0 ?_
        intro wF hF hTF
        have HFB := Lib.hid (HM'.out.end hTF).1
        clear r0 r1 r2 r3 r4 rf rlt
        obtain ⟨r0, r1, r2, r3, r4, rf, rlt⟩ := hF.of
        exact bodyPost_ret (v := noEd) (by simp [results, Try.results46, go_sem, noEd, edV, r0, r1, r2, r3, r4]) rfl ⟨HFB.out, Or.inl ⟨HN.out, rfl⟩⟩

/-- Decode, of every text of at most 10^9 bytes. -/
theorem decode_any (s : ByteArray) (w : World) (hm : s.size ≤ 1000000000) :
    Calls Try.prog 46 #[.string s] w (DecRead (Ed.decode s.data.toList) w) := by
  have hl : s.data.toList.length = s.size := by simp
  by_cases h : 524288 < s.size
  · have e : Ed.decode s.data.toList = none := by unfold Ed.decode; rw [if_pos (by rw [hl]; exact h)]
    rw [e]
    exact decode_long s w h hm
  · have e : Ed.decode s.data.toList = Ed.dec s.data.toList := by unfold Ed.decode; rw [if_neg (by rw [hl]; exact h)]
    rw [e]
    exact decode_short s w (by omega)

end Go.Proofs.Ytbdoekogoiijeaa
