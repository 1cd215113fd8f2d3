/- The walk of Twin. -/
import Derived.Test.YtefoijamedciiaaDkTw
import Derived.Test.YtefoijamedciiaaDkEqf
import Derived.BigRegion
namespace Go.Proofs.Ytefoijamedciiaa
open Go.RowKit Go.Maps
open Dk (Dir Chg Disk File Str)

/-- The first loop of a twin: so far so many of the files that last are twinned. -/
structure TwinIn (wz w : World) (S : Disk) (bm t r : Nat) (ss : List Str) (loc : Nat → Nat) (dat : Nat → Value) (d : Dir) : Prop where
  map : w.ownsMap Try.prog 9 ptrElem bm d.length (toD loc d)
  mem : ∀ p, p ∈ d ↔ p ∈ S.lasting ∧ p.1 ∈ ss
  len : d.length ≤ ss.length
  twins : Twins w (r + 1) loc dat (fun i => ∃ p ∈ d, p.2 = i) S
  box : w.heap[t]? = some (.cells #[.int .i64 S.room, .int .i64 S.used, .int .i64 (S.fuse : Int), .bool S.down, .map none, .map (some bm), .slice none 0 0] 57 (0, 0))
  below : Below wz.heap.size wz w
  lo : r < w.heap.size
theorem put_len {x : Str} {i : Nat} {d : Dir} {ss : List Str} (h : d.length ≤ ss.length) : (Dk.put x i d).length ≤ (ss ++ [x]).length := by
  unfold Dk.put Dk.del
  rw [length_ins, List.length_append, List.length_singleton]
  have := List.length_filter_le (fun p : Str × Nat => !(p.1 == x)) d
  omega
theorem lt_of_heap {w : World} {b : Nat} {o : Obj} (h : w.heap[b]? = some o) : b < w.heap.size := heap_lt h
/-- A round: the range's state turns (w8), a file is twinned (w9), its name is set (w10). -/
theorem TwinIn.step {wz w w8 w9 w10 : World} {S : Disk} {bm t r : Nat} {ss : List Str} {loc : Nat → Nat} {dat : Nat → Value} {d : Dir} {x : Str} {i b' : Nat} {v' : Value} {n : Nat} (h : TwinIn wz w S bm t r ss loc dat d)
    (h8 : w.grownBy w8 (some r)) (hs8 : w8.heap.size = w.heap.size) (hb : Below w8.heap.size w8 w9) (hf : FileAt w9 b' v' (S.file i)) (hlo : w8.heap.size ≤ b') (hv : ∀ g, v'.ownBlock = some g → w8.heap.size ≤ g)
    (hm : w10.ownsMap Try.prog 9 ptrElem bm n ((toD loc d).put (.string x) (.lit (.int .i64 b')))) (hg : w9.grownBy w10 (some bm)) (hs10 : w10.heap.size = w9.heap.size)
    (hl : Dk.look x S.lasting = some i) (hx : x ∉ ss) (hu : Dk.Uniq S.lasting) (hri : S.lasting.Pairwise (fun p q => bytesBefore p.1 q.1 = true)) (hbt : bm < t) (htr : t < r) (hwz : wz.heap.size ≤ bm) :
    TwinIn wz w10 S bm t r (ss ++ [x]) (fun j => if j = i then b' else loc j) (fun j => if j = i then v' else dat j) (Dk.put x i d) := by
  have hmem := Dk.mem_of_look hl
  have hnl : ¬ ∃ p ∈ d, p.2 = i := fun ⟨p, hp, e⟩ => by
    have h1 := (h.mem p).1 hp
    have h2 : p.1 = x := hu p h1.1 (x, i) hmem e
    exact hx (h2 ▸ h1.2)
  have hlt8 : r + 1 ≤ w8.heap.size := by have := h.lo; omega
  have T8 : Twins w8 (r + 1) loc dat (fun i => ∃ p ∈ d, p.2 = i) S := h.twins.frame fun b h1 h2 => h8.block b h2 (fun e => by have := Option.some.inj e; omega)
  have T9 := T8.more i hnl hf hb hlo hv hlt8
  have T10 := T9.frame (w' := w10) fun b h1 h2 => hg.block b h2 (fun e => by have := Option.some.inj e; omega)
  have hlw := h.lo
  have mem' : ∀ p, p ∈ Dk.put x i d ↔ p ∈ S.lasting ∧ p.1 ∈ ss ++ [x] := fun p => by
    rw [Dk.mem_put, h.mem, List.mem_append]
    constructor
    · rintro (rfl | ⟨⟨h1, h2⟩, _⟩)
      · exact ⟨hmem, Or.inr (by simp)⟩
      · exact ⟨h1, Or.inl h2⟩
    · rintro ⟨h1, h2 | h2⟩
      · exact Or.inr ⟨⟨h1, h2⟩, fun e => hx (by rw [← e]; exact h2)⟩
      · left
        have e : p.1 = x := by simpa using h2
        obtain ⟨j, hj, e2⟩ := List.getElem_of_mem h1
        have h3 := look_at hri (i := j) (p := p) (by rw [List.getElem?_eq_getElem hj, e2])
        rw [e, hl] at h3
        have h4 : i = p.2 := by simpa using h3
        obtain ⟨p1, p2⟩ := p
        simp only at e h4
        rw [e, h4]
  refine ⟨?_, mem', put_len h.len, ?_, ?_, ?_, ?_⟩
  · have e : (toD loc d).put (.string x) (.lit (.int .i64 b')) = toD (fun j => if j = i then b' else loc j) (Dk.put x i d) := by
      rw [← toD_put, if_pos rfl]
      congr 1
      exact toD_congr fun p hp => (if_neg fun e => hnl ⟨p, hp, e⟩).symm
    rw [e] at hm
    have := ownsMap_sized hm
    rw [toD_size] at this
    exact this
  · refine T10.congr fun j => ?_
    constructor
    · rintro ⟨p, hp, rfl⟩
      rcases Dk.mem_put.1 hp with rfl | ⟨hp, _⟩
      · exact Or.inl rfl
      · exact Or.inr ⟨p, hp, rfl⟩
    · rintro (rfl | ⟨p, hp, rfl⟩)
      · exact ⟨(x, j), Dk.mem_put.2 (Or.inl rfl), rfl⟩
      · exact ⟨p, Dk.mem_put.2 (Or.inr ⟨hp, fun e => hx (by rw [← e]; exact ((h.mem p).1 hp).2)⟩), rfl⟩
  · exact (hg.block t (by have := hb.size; omega) (fun e => by have := Option.some.inj e; omega)).trans ((hb.block t (by omega)).trans ((h8.block t (by omega) (fun e => by have := Option.some.inj e; omega)).trans h.box))
  · have hbz := h.below.size
    refine ⟨hg.os.trans (hb.os.trans (h8.os.trans h.below.os)), hg.tape.trans (hb.tape.trans (h8.tape.trans h.below.tape)), hg.output.trans (hb.output.trans (h8.output.trans h.below.output)), by have := hb.size; omega, fun k hk => ?_⟩
    exact (hg.block k (by have := hb.size; omega) (fun e => by have := Option.some.inj e; omega)).trans ((hb.block k (by omega)).trans ((h8.block k (by omega) (fun e => by have := Option.some.inj e; omega)).trans (h.below.block k hk)))
  · have := hb.size; omega

theorem stands_succ {S : Disk} {k : Nat} {c : Chg} (h : S.changes[k]? = some c) (j : Nat) : Dk.stands S (k + 1) j ↔ Dk.stands S k j ∨ c.made = some j := by
  have hk : k < S.changes.length := by
    rcases Nat.lt_or_ge k S.changes.length with h1 | h1
    · exact h1
    · rw [List.getElem?_eq_none h1] at h; cases h
  have e : S.changes.take (k + 1) = S.changes.take k ++ [c] := by
    rw [List.take_succ_eq_append_getElem hk]
    rw [List.getElem?_eq_getElem hk] at h
    simp only [Option.some.injEq] at h
    rw [h]
  unfold Dk.stands
  rw [e]
  constructor
  · rintro (h1 | ⟨x, hx, h1⟩)
    · exact Or.inl (Or.inl h1)
    · rcases List.mem_append.1 hx with hx | hx
      · exact Or.inl (Or.inr ⟨x, hx, h1⟩)
      · obtain rfl : x = c := by simpa using hx
        exact Or.inr h1
  · rintro ((h1 | ⟨x, hx, h1⟩) | h1)
    · exact Or.inl h1
    · exact Or.inr ⟨x, List.mem_append.2 (Or.inl hx), h1⟩
    · exact Or.inr ⟨c, List.mem_append.2 (Or.inr (by simp)), h1⟩
theorem take_one {cs : List Chg} {k : Nat} {c : Chg} (h : cs[k]? = some c) : cs.take (k + 1) = cs.take k ++ [c] := by
  have hk : k < cs.length := by
    rcases Nat.lt_or_ge k cs.length with h1 | h1
    · exact h1
    · rw [List.getElem?_eq_none h1] at h; cases h
  rw [List.take_succ_eq_append_getElem hk]
  rw [List.getElem?_eq_getElem hk] at h
  simp only [Option.some.injEq] at h
  rw [h]
theorem made_once {cs : List Chg} (h : cs.Pairwise fun a b => ∀ i, a.made = some i → b.made ≠ some i) {k : Nat} {c x : Chg} (hc : cs[k]? = some c) (hx : x ∈ cs.take k) {i : Nat} (h1 : c.made = some i) (h2 : x.made = some i) : False := by
  have hs : (cs.take k ++ [c]).Pairwise fun a b => ∀ i, a.made = some i → b.made ≠ some i := by
    rw [← take_one hc]
    exact h.sublist (List.take_sublist _ _)
  rw [List.pairwise_append] at hs
  exact hs.2.2 x hx c (by simp) i h2 h1
theorem twin_start {wz wr w3 : World} {L : Lay} {S : Disk} {bm t r : Nat} {ss : List Str} {loc : Nat → Nat} {dat : Nat → Value} {n : Nat} (h : Holds wz L S) (tw : TwinIn wz wr S bm t r ss loc dat S.lasting) (hb : Below wr.heap.size wr w3)
    (ho : w3.ownsMap Try.prog 9 ptrElem wr.heap.size n (toD loc S.lasting)) (hbt : bm < t) (htr : t < r) (hz : wz.heap.size = bm) :
    Holds (w3.setCell ⟨t, 4, none⟩ (.map (some wr.heap.size))) ⟨t, wr.heap.size, bm, .slice none 0 0, loc, dat, fun i => ∃ p ∈ S.lasting, p.2 = i⟩ { S with now := S.lasting, changes := [] } ∧
      (∀ b, Own ⟨t, wr.heap.size, bm, .slice none 0 0, loc, dat, fun i => ∃ p ∈ S.lasting, p.2 = i⟩ b → bm ≤ b) ∧ Below wz.heap.size wz (w3.setCell ⟨t, 4, none⟩ (.map (some wr.heap.size))) := by
  have hlo := tw.lo
  have kept : ∀ b, b ≠ t → (w3.setCell ⟨t, 4, none⟩ (.map (some wr.heap.size))).heap[b]? = w3.heap[b]? := fun b hb => setCell_kept w3 _ _ hb
  have hx3 := (hb.block t (by omega)).trans tw.box
  have ho' := ownsMap_sized ho
  rw [toD_size] at ho'
  have hm3 : w3.ownsMap Try.prog 9 ptrElem bm S.lasting.length (toD loc S.lasting) := ownsMap_frame tw.map (hb.block bm tw.map.lt)
  refine ⟨⟨heap_setCell_same w3 t 4 _ _ _ hx3, ownsMap_frame ho' (kept wr.heap.size (by omega)), ownsMap_frame hm3 (kept bm (by omega)), by show wr.heap.size ≠ bm; omega, World.ownsRow_nil .., fun i hi => ?_, tw.twins.apart, fun p hp => ⟨p, hp, rfl⟩, fun p hp => ⟨p, hp, rfl⟩, fun c hc => by simp at hc, fun i hi => ?_⟩, fun b hb2 => ?_, ?_⟩
  · have h1 := (tw.twins.file i hi).under hb
    have h2 := tw.twins.lo i hi
    exact h1.frame (kept (loc i) (by omega)) fun g hg => kept g (by have := h2.2 g hg; omega)
  · obtain ⟨p, hp, rfl⟩ := hi
    exact h.lt _ (h.inOld p hp)
  · rcases hb2 with h1 | h1 | h1 | h1 | ⟨i, hi, h1 | h1⟩
    · dsimp only at h1; omega
    · dsimp only at h1; omega
    · dsimp only at h1; omega
    · simp [Value.ownBlock] at h1
    · have := (tw.twins.lo i hi).1; dsimp only at h1; omega
    · have := (tw.twins.lo i hi).2 b h1; omega
  · have hbl := Below.next tw.below hb
    exact ⟨hbl.os, hbl.tape, hbl.output, by show _ ≤ (w3.setCell _ _).heap.size; simp only [World.setCell, Array.size_modify]; exact hbl.size, fun k hk => (kept k (by omega)).trans (hbl.block k hk)⟩
theorem one_keep {w w' : World} {t : Nat} {v : Value} {j : Nat} (h : w.cell? ⟨t, j, none⟩ = some v ∧ t < w.heap.size) (hb : Below w.heap.size w w') : w'.cell? ⟨t, j, none⟩ = some v ∧ t < w'.heap.size :=
  ⟨cell_kept h.1 (hb.block t h.2), Nat.lt_of_lt_of_le h.2 hb.size⟩
theorem one_turn {w w' : World} {t b : Nat} {v : Value} {j : Nat} (h : w.cell? ⟨t, j, none⟩ = some v ∧ t < w.heap.size) (hn : t ≠ b) (hb : w.mapTurned w' b) : w'.cell? ⟨t, j, none⟩ = some v ∧ t < w'.heap.size :=
  ⟨cell_kept h.1 (hb.grown.block t h.2 (fun e => hn (Option.some.inj e))), Nat.lt_of_lt_of_le h.2 hb.grown.size⟩

set_option maxHeartbeats 8000000 in
set_option maxRecDepth 100000 in
theorem twin_any (w : World) {L : Lay} {S : Disk} (h : Holds w L S) (F : Fits S) (M : Dk.Made S) (U : Dk.Uniq S.lasting) (hcan : Dk.Cans S.changes S.lasting) (hrun : S.now = Dk.runs S.changes S.lasting) (hsz : ∀ c ∈ S.changes, c.src.length ≤ maxLen ∧ c.dst.length ≤ maxLen) :
    Calls Try.prog 14 #[.pointer (some ⟨L.d, 0, none⟩)] w fun e w' => ∃ L' : Lay, e = .returned (.pointer (some ⟨L'.d, 0, none⟩)) ∧ Holds w' L' S ∧ (∀ b, Own L' b → w.heap.size ≤ b) ∧ Below w.heap.size w w' := by
  have M1 := Lib.hid (made_any w h)
  obtain ⟨c0, c1, c2, c3, c4, c5, c6⟩ := h.cells
  have hl : L.d < w.heap.size := heap_lt h.box
  have HH := Lib.hid h; have HF := Lib.hid F; have HM := Lib.hid M; have HU := Lib.hid U; have HC := Lib.hid hcan; have HR := Lib.hid hrun; have HZ := Lib.hid hsz
  clear h F M U hcan hrun hsz
  go_enter Try.func14, Try.ntmps14
  go_wp2_with fail
  refine M1.out.mono ?_
  rintro e wz ⟨rfl, rfl⟩
  have hmm := @run_makeMap Try.prog
  clear c6 M1
  go_wp2_with fail
  go_region
  obtain ⟨w1, hw1⟩ : ∃ w1, w1 = ((wz.alloc (.map #[] 0)).alloc (.cells #[.int .i64 S.room, .int .i64 S.used, .int .i64 (S.fuse : Int), .bool S.down, .map none, .map (some wz.heap.size), .slice none 0 0] 57)).drew := ⟨_, rfl⟩
  have hs1 : w1.heap.size = wz.heap.size + 2 := by rw [hw1]; show ((wz.alloc _).alloc _).heap.size = _; rw [World.size_alloc, World.size_alloc]
  have hb1 : Below wz.heap.size wz w1 := by
    have h0 := ((Below.refl wz.heap.size wz).alloc (Nat.le_refl _) (.map #[] 0)).alloc (by simp) (.cells #[.int .i64 S.room, .int .i64 S.used, .int .i64 (S.fuse : Int), .bool S.down, .map none, .map (some wz.heap.size), .slice none 0 0] 57)
    rw [hw1]
    exact ⟨h0.os, h0.tape, h0.output, h0.size, h0.block⟩
  have hm1 : w1.ownsMap Try.prog 9 ptrElem wz.heap.size 0 (.map [] : DataW Unit) := by
    rw [hw1]
    exact ownsMap_frame ((World.ownsMap_made (H := Unit) wz Try.prog 9 ptrElem).alloc _) rfl
  have hx1 : w1.heap[wz.heap.size + 1]? = some (.cells #[.int .i64 S.room, .int .i64 S.used, .int .i64 (S.fuse : Int), .bool S.down, .map none, .map (some wz.heap.size), .slice none 0 0] 57 (0, 0)) := by
    rw [hw1]
    have := heap_alloc_new (wz.alloc (.map #[] 0)) (.cells #[.int .i64 S.room, .int .i64 S.used, .int .i64 (S.fuse : Int), .bool S.down, .map none, .map (some wz.heap.size), .slice none 0 0] 57)
    rw [World.size_alloc] at this
    exact this
  have H1 := HH.out.below hb1
  rw [← hw1]
  obtain ⟨bm, hbm⟩ : ∃ bm, bm = wz.heap.size := ⟨_, rfl⟩
  obtain ⟨t, ht⟩ : ∃ t, t = bm + 1 := ⟨_, rfl⟩
  obtain ⟨r, hr⟩ : ∃ r, r = bm + 2 := ⟨_, rfl⟩
  have hr1 : w1.heap.size = r := by omega
  rw [← hbm] at hx1 hm1
  rw [← hbm, ← ht]
  rw [← ht] at hx1
  have HM1 := Lib.hid hm1; have HX1 := Lib.hid hx1; have HB1 := Lib.hid hb1
  have HR1 := Lib.hid (And.intro hbm (And.intro ht (And.intro hr hr1)))
  have k5 := H1.cells.2.2.2.2.2.1
  have hown := H1.old
  have HH1 := Lib.hid H1
  clear hw1 hs1 hb1 hm1 hx1 H1 hbm ht hr c0 c1 c2 c3 c4 c5 hl hmm
  go_wp2_with (first
    | (at_range; refine wpList_range_own _ rfl _ 54 rfl 9 58 law Try.underlying54 ptrElem L.bl S.lasting.length _ rfl hown ?_; intro w2 hrg2 hg2 hs2)
    | go_in)
  go_frame
  rw [hr1] at hrg2 ⊢
  have TW0 : Hid (TwinIn wz w2 S bm t r [] (fun _ => 0) (fun _ => .slice none 0 0) [] ∧ r < w2.heap.size) := by
    obtain ⟨e1, e2, e3, e4⟩ := HR1.out
    have hb2 := Below.next HB1.out (grown_below hg2)
    refine Lib.hid ⟨⟨ownsMap_frame HM1.out (hg2.block bm (by omega) (by simp)), fun p => by simp, by simp, ⟨fun i hi => by obtain ⟨p, hp, _⟩ := hi; simp at hp, fun i hi => by obtain ⟨p, hp, _⟩ := hi; simp at hp, fun i _ hi => by obtain ⟨p, hp, _⟩ := hi; simp at hp⟩, (hg2.block t (by omega) (by simp)).trans HX1.out, hb2, by omega⟩, by omega⟩
  have HSZ : Hid (Maps.size (toD L.loc S.lasting) = S.lasting.length) := Lib.hid (toD_size _ _)
  have HRG := Lib.hid hrg2
  have HRI : Hid (S.lasting.Pairwise (fun p q => bytesBefore p.1 q.1 = true)) := Lib.hid (rising HH.out.old)
  have HLL : Hid (S.lasting.length ≤ 1099511627776) := Lib.hid HF.out.old
  clear hrg2 hg2 hs2 hown k5 HM1 HX1 HB1 HH1 hr1
  go_loopw [] (fun wr => ∃ (left : Lit → Bool) (cnt : Nat) (ss : List Str) (loc : Nat → Nat) (dat : Nat → Value) (d : Dir), wr.ranges Try.prog 9 ptrElem L.bl r S.lasting.length (toD L.loc S.lasting) left cnt ∧
      Hid (ss.length + cnt ≤ S.lasting.length ∧ Collected (toD L.loc S.lasting) left ss ∧ TwinIn wz wr S bm t r ss loc dat d)) (fun wr => wr.rangeLeft L.bl r)
  case atStart => exact ⟨_, _, [], _, _, [], HRG.out, Lib.hid ⟨by rw [HSZ.out]; simp, Collected.start _, TW0.out.1⟩⟩
  case round =>
    obtain ⟨left, cnt, ss, loc, dat, d, hrg, HK⟩ := hrel
    go_wp2_with (first
      | (at_next; refine wpList_next_ranges _ rfl _ rfl 9 law ptrElem encStr Value.pointer (fun key kl hk => by obtain ⟨x, hx, _⟩ := Maps.keyOf_str Try.underlying9 hk; exact ⟨x, hx⟩) ptr_inv L.bl r S.lasting.length _ _ _ rfl hrg ?_ ?_)
      | go_in)
    · intro hc0 hl0
      obtain ⟨e1, e2, e3, e4⟩ := HR1.out
      have hperm := HK.out.2.1.perm hrg.owns law Try.underlying9 hl0
      rw [toD_keys] at hperm
      have tw := HK.out.2.2
      have hd : d = S.lasting := rising_eq (rising tw.map) HRI.out fun p => by
        rw [tw.mem]
        exact ⟨fun h => h.1, fun h => ⟨h, hperm.mem_iff.2 (List.mem_map.2 ⟨p, h, rfl⟩)⟩⟩
      subst hd
      have HTI := Lib.hid tw
      have c5 : wr.cell? ⟨t, 5, none⟩ = some (.map (some bm)) := by rw [cell_of tw.box]; rfl
      have ht : t < wr.heap.size := by have := tw.lo; omega
      have c4 : wr.cell? ⟨t, 4, none⟩ = some (.map none) := by rw [cell_of tw.box]; rfl
      have f4 := unfrozen_of tw.box 4
      have HCD := Lib.hid (clone_dir tw.map)
      clear e1 e2 e3 e4 hperm tw hrg HK HRG TW0 hl0 hc0
      go_wp2_with fail
      refine HCD.out.mono ?_
      rintro e w3 ⟨rfl, ho3, hb3⟩
      have c4b := (hb3.cell (p := ⟨t, 4, none⟩) ht).trans c4
      have f4b := (hb3.frozen (p := ⟨t, 4, none⟩) ht).trans f4
      have hst := twin_start HH.out HTI.out hb3 ho3 (by have := HR1.out; omega) (by have := HR1.out; omega) (by have := HR1.out; omega)
      have hne1 : L.d ≠ t := fun e => by have := HH.out.own_lt (Or.inl rfl); have := HR1.out; omega
      have hne2 : t ≠ L.d := fun e => hne1 e.symm
      have HL3 : Hid (Holds w3 L S) := Lib.hid ((HH.out.below HTI.out.below).below hb3)
      have c6 := HL3.out.cells.2.2.2.2.2.2
      obtain ⟨va, vc, hv⟩ := row_shape HH.out.chg
      rw [hv] at c6
      obtain ⟨n, hn⟩ : ∃ n, n = S.changes.length := ⟨_, rfl⟩
      rw [← hn] at c6 hv
      have hni : (n : Int) ≤ 1099511627776 := by have := HF.out.chg; omega
      have HST := Lib.hid hst; have HV := Lib.hid hv; have HN := Lib.hid hn
      clear c4 f4 c5 hst ho3 hb3 HCD hv hn ht
      go_wp2_with fail
      obtain ⟨w4, hw4⟩ : ∃ w4, w4 = w3.setCell ⟨t, 4, none⟩ (.map (some wr.heap.size)) := ⟨_, rfl⟩
      rw [← hw4] at HST ⊢
      clear hw4 c4b f4b c6
      have HOB : Hid (bm = wz.heap.size ∧ t = bm + 1) := Lib.hid ⟨HR1.out.1, HR1.out.2.1⟩
      go_loopw [60] (fun z wk => ∃ (k : Nat) (M : Lay), k ≤ n ∧ z = .int .i64 (k : Int) ∧ Hid (M.d = t ∧ Holds wk M { S with now := Dk.runs (S.changes.take k) S.lasting, changes := S.changes.take k } ∧ (∀ b, Own M b → bm ≤ b) ∧ Below wz.heap.size wz wk ∧ ∀ i, M.live i ↔ Dk.stands S k i)) (fun z _ => n - (intOf z).toNat)
      case atStart => exact ⟨0, _, by omega, rfl, Lib.hid ⟨rfl, HST.out.1, HST.out.2.1, HST.out.2.2, fun i => by simp [Dk.stands]⟩⟩
      case round =>
        obtain ⟨k, M, hk, rfl, HK⟩ := hrel
        by_cases hlt : k < n
        · have hlt2 : (k : Int) < n := by omega
          obtain ⟨c, hc⟩ : ∃ c, S.changes[k]? = some c := ⟨_, List.getElem?_eq_getElem (by have := HN.out; omega)⟩
          have HLk : Holds wr L S := HH.out.below HK.out.2.2.2.1
          obtain ⟨g, cap, hv1, _, hgl⟩ := HLk.chg.form (by have := HN.out; omega)
          obtain ⟨a0, a1, a2⟩ := HLk.chgAt hv1 hc
          rw [HV.out] at hv1
          simp only [Value.slice.injEq] at hv1
          obtain ⟨rfl, hvn, rfl⟩ := hv1
          clear hvn
          have HCC := Lib.hid hc
          generalize hsf : (⟨c.src.toArray⟩ : ByteArray) = sf at a0
          generalize hst : (⟨c.dst.toArray⟩ : ByteArray) = st at a1
          have HSF := Lib.hid hsf; have HST2 := Lib.hid hst
          obtain ⟨p, hp⟩ : ∃ p, p = wr.heap.size := ⟨_, rfl⟩
          have HP := Lib.hid hp
          have HLK := Lib.hid HLk
          clear hsf hst hc HLk hgl hp
          cases hmk : c.made with
          | none =>
            rw [hmk] at a2
            unfold fileV at a2
            have HMK := Lib.hid hmk
            clear hmk
            go_wp2_with fail
            obtain ⟨M2, hM2⟩ : ∃ M2, M2 = M := ⟨_, rfl⟩
            have HB5 := Lib.hid ((Below.refl wr.heap.size wr).alloc (Nat.le_refl _) (.cells #[.string sf, .string st, .pointer none] 62))
            have b0 := box_new wr #[.string sf, .string st, .pointer none] 62 0
            have b1 := box_new wr #[.string sf, .string st, .pointer none] 62 1
            have b2 := box_new wr #[.string sf, .string st, .pointer none] 62 2
            have hp5 : p < (wr.alloc (.cells #[.string sf, .string st, .pointer none] 62)).heap.size := by rw [World.size_alloc]; have := HP.out; omega
            have HT : Hid (M2.d = t ∧ Holds (wr.alloc (.cells #[.string sf, .string st, .pointer none] 62)) M2 { S with now := Dk.runs (S.changes.take k) S.lasting, changes := S.changes.take k } ∧ (∀ b, Own M2 b → bm ≤ b) ∧ Below wz.heap.size wz (wr.alloc (.cells #[.string sf, .string st, .pointer none] 62)) ∧
                (∀ j, M2.live j ↔ Dk.stands S (k + 1) j) ∧ (∀ b, Own M2 b → b ≠ p) ∧ fileV M2.loc c.made = .pointer none) := by
              obtain ⟨h1, h2, h3, h4, h5⟩ := HK.out
              rw [hM2]
              refine Lib.hid ⟨h1, h2.below HB5.out, h3, Below.next h4 HB5.out, fun j => ?_, fun b hb e => ?_, by rw [HMK.out]; rfl⟩
              · rw [h5, stands_succ HCC.out, HMK.out]
                simp
              · have := h2.own_lt hb; have := HP.out; omega
            rw [← HP.out] at b0 b1 b2 ⊢
            clear hM2 HB5 a0 a1 a2
            generalize wr.alloc (.cells #[.string sf, .string st, .pointer none] 62) = w5 at *
            obtain ⟨hMd, hH5, hOw, hB5, hLv, hOp, hFv⟩ := HT.out
            have c4 := hH5.cells.2.2.2.2.1
            rw [hMd] at c4
            have ht5 : t < w5.heap.size := by have := heap_lt hH5.box; rw [hMd] at this; exact this
            have hpn : p ≠ M2.bn := fun e => hOp M2.bn (Or.inr (Or.inl rfl)) e.symm
            have htn : t ≠ M2.bn := fun e => hH5.lone.bn_d (e.symm.trans hMd.symm)
            obtain ⟨hca, hru⟩ := cans_take HC.out HCC.out
            obtain ⟨z1, z2⟩ := HZ.out c (List.mem_of_getElem? HCC.out)
            have hll : (Dk.runs (S.changes.take k) S.lasting).length < maxLen := by
              have h1 := length_runs (S.changes.take k) S.lasting
              have h2 := HF.out.old
              have h3 := HF.out.chg
              rw [List.length_take] at h1
              unfold maxLen
              omega
            have HRU := Lib.hid hru
            have HD := fun w' h' => Lib.hid (do_any M2.loc sf st c.made (Dk.runs (S.changes.take k) S.lasting) M2.bn w' h' (by rw [← HSF.out, ← HST2.out]; exact hca) (by rw [← HSF.out]; exact z1) (by rw [← HST2.out]; exact z2) hll)
            have hct : (⟨sf.data.toList, st.data.toList, c.made⟩ : Chg) = c := by rw [← HSF.out, ← HST2.out]
            rw [hct] at HD
            have hFv2 := hFv
            rw [HMK.out] at hFv2
            simp only [HMK.out, hFv2] at HD
            clear hca hru z1 z2 hll hct hMd hH5 hOw hB5 hLv hOp hFv hFv2
            go_region_held3 (fun w' => w'.cell? ⟨p, 0, none⟩ = some (.string sf) ∧ w'.cell? ⟨p, 1, none⟩ = some (.string st) ∧ w'.cell? ⟨p, 2, none⟩ = some (.pointer none) ∧ w'.cell? ⟨t, 4, none⟩ = some (.map (some M2.bn)) ∧ p < w'.heap.size ∧ t < w'.heap.size)
              (first | exact ⟨b0, b1, b2, c4, hp5, ht5⟩ | exact four_keep (by assumption) hpn htn ht6)
              (first | (go_at_call 32; refine (HD _ HT.out.2.1.now.drew).out.mono ?_; rintro e w6 ⟨rfl, ⟨n6, ho6⟩, ht6⟩))
            have hS := ‹w6.cell? ⟨p, 0, none⟩ = some (.string sf) ∧ _›
            rename_i hx3
            clear hx3 b0 b1 b2 c4 hp5 ht5 HD hpn htn
            obtain ⟨a0, a1, a2, _, hp6, ht6s⟩ := hS
            have HH6 : Hid (Holds w6 M2 { S with now := Dk.runs (S.changes.take (k + 1)) S.lasting, changes := S.changes.take k }) := by
              rw [HRU.out]
              refine Lib.hid (HT.out.2.1.drew.setNow ⟨ht6.os, ht6.tape, ht6.output, ht6.size, fun q hq hne => ht6.block q hq (fun e => hne (by rw [e]))⟩ _ ho6 (fun q hq => ?_))
              rcases Dk.id_run hq with ⟨z, hz, he⟩ | he
              · rw [← he]; exact HT.out.2.1.inNow z hz
              · rw [HT.out.2.2.2.2.1, stands_succ HCC.out]; exact Or.inr he
            have HB6 : Hid (Below wz.heap.size wz w6) := Lib.hid (HT.out.2.2.2.1.trans (Turns.to_below (P := fun q => q = M2.bn) (w := w5) ⟨ht6.os, ht6.tape, ht6.output, ht6.size, ht6.block⟩ HT.out.2.2.2.1.size (fun q hq => by rw [hq]; have := HT.out.2.2.1 M2.bn (Or.inr (Or.inl rfl)); have := HOB.out.1; omega)))
            clear ht6 ho6
            obtain ⟨i0, hi, hz0, hz1, hz2⟩ := info_parts info_chg
            have htk : (S.changes.take k).length = k := by rw [List.length_take]; have := HN.out; omega
            have hraw : w6.ownsRow 0 62 3 M2.vec k ((S.changes.take k).flatMap (chgCells M2.loc)) := by
              have := HH6.out.chg
              dsimp only at this
              rw [htk] at this
              exact this
            have c6 := HH6.out.cells.2.2.2.2.2.2
            have f6 := HH6.out.soft 6
            rw [HT.out.1] at c6 f6
            have hvd : ∀ e : M2.vec.ownBlock = some t, False := fun e => (HH6.out.lone.vec_d t e).1 HT.out.1.symm
            have hone : ∀ u ∈ [Value.string sf, .string st, .pointer none], u.oneCell' = true := by
              intro u hu
              simp only [List.mem_cons, List.not_mem_nil, or_false] at hu
              rcases hu with rfl | rfl | rfl <;> rfl
            have HONE := Lib.hid hone
            have HTK := Lib.hid htk
            have kk : ∀ o, Hid ((w6.alloc o).cell? ⟨t, 6, none⟩ = some M2.vec) := fun o => (((Below.refl _ w6).alloc (Nat.le_refl _) o).cell (p := ⟨t, 6, none⟩) ht6s).trans c6
            have kf : ∀ o, Hid ((w6.alloc o).frozen? ⟨t, 6, none⟩ = false) := fun o => (((Below.refl _ w6).alloc (Nat.le_refl _) o).frozen (p := ⟨t, 6, none⟩) ht6s).trans f6
            clear hone htk
            have hkb : k ≤ 1099511627776 := by omega
            go_wp2_with fail
            go_region_law (first
              | (refine step_append_lies _ (by rfl) _ _ _ (by rfl) 0 62 i0 _ 3 40 Try.underlying55 hi hz0 hz1 hz2 (by rfl) (by omega) M2.vec _ _ (by rfl) ((hraw.alloc _).drew)
                  ⟨w6.heap.size, 0, none⟩ 1 1 [.string sf, .string st, .pointer none] (by rfl) (by rfl) (World.news_of_block (cs := #[.string sf, .string st, .pointer none]) (t := 62) (fr := (0, 0)) (heap_alloc_new w6 _)) HONE.out
                  (by omega) (by unfold maxLen; omega) (by omega) (by omega) (w6.heap.size + 1) (by simp) ?_; intro gg cap7 w7 hown7 hg7 hat7 hlt7
                 have k6 : w7.cell? ⟨t, 6, none⟩ = some M2.vec := (hg7.cell_far ⟨t, 6, none⟩ (by simp; omega) (fun e => hvd e.symm)).trans (kk _).out
                 have k7 : w7.frozen? ⟨t, 6, none⟩ = false := (hg7.frozen_far ⟨t, 6, none⟩ (by simp; omega) (fun e => hvd e.symm)).trans (kf _).out))
            all_goals
              have HE : Hid (∃ M3 : Lay, M3.d = t ∧ Holds (w7.setCell ⟨t, 6, none⟩ (.slice (some ⟨gg, 0, none⟩) (k + 1) cap7)) M3 { S with now := Dk.runs (S.changes.take (k + 1)) S.lasting, changes := S.changes.take (k + 1) } ∧ (∀ b, Own M3 b → bm ≤ b) ∧ Below wz.heap.size wz (w7.setCell ⟨t, 6, none⟩ (.slice (some ⟨gg, 0, none⟩) (k + 1) cap7)) ∧ ∀ j, M3.live j ↔ Dk.stands S (k + 1) j) := by
                obtain ⟨hMd, _, hOw, _, hLv, _, hFv⟩ := HT.out
                have etk : S.changes.take (k + 1) = S.changes.take k ++ [c] := take_one HCC.out
                have hh := ((HH6.out.alloc (.cells #[.string sf, .string st, .pointer none] 62)).drew).setVec (w1 := w7) (.slice (some ⟨gg, 0, none⟩) (k + 1) cap7) (S.changes.take (k + 1)) hg7
                  (by
                    rw [etk, List.length_append, HTK.out, List.flatMap_append]
                    have e : [c].flatMap (chgCells M2.loc) = [.string sf, .string st, .pointer none] := by
                      rw [← HSF.out, ← HST2.out, ← hFv]
                      rfl
                    rw [e]
                    exact hown7)
                  (fun b hb => by
                    rcases hat7 with h1 | h1
                    · left; rw [h1, ← hb]; rfl
                    · right
                      have : gg = b := by simpa [Value.ownBlock] using hb
                      simp
                      omega)
                  (fun x hx j hj => by
                    rw [hLv]
                    exact Or.inr ⟨x, hx, hj⟩)
                rw [hMd] at hh
                have hlo6 := HB6.out.size
                have hvb : ∀ b, M2.vec.ownBlock = some b → wz.heap.size ≤ b := fun b hb => by have := hOw b (Or.inr (Or.inr (Or.inr (Or.inl hb)))); have := HOB.out.1; omega
                refine Lib.hid ⟨⟨t, M2.bn, M2.bl, .slice (some ⟨gg, 0, none⟩) (k + 1) cap7, M2.loc, M2.dat, M2.live⟩, rfl, hh, fun b hb => ?_, ?_, hLv⟩
                · rcases hb with h | h | h | h | h
                  · exact hOw b (Or.inl (h.trans hMd.symm))
                  · exact hOw b (Or.inr (Or.inl h))
                  · exact hOw b (Or.inr (Or.inr (Or.inl h)))
                  · dsimp only at h
                    have hgb : gg = b := by simpa [Value.ownBlock] using h
                    rcases hat7 with h1 | h1
                    · exact hOw b (Or.inr (Or.inr (Or.inr (Or.inl (by rw [h1, ← hgb])))))
                    · have := HOB.out.1; omega
                  · exact hOw b (Or.inr (Or.inr (Or.inr (Or.inr h))))
                · have hb7 : Below wz.heap.size wz w7 := (HB6.out.alloc hlo6 _).drew.grown hg7 (by show _ ≤ (w6.alloc _).heap.size; rw [World.size_alloc]; omega) (fun j hj => hvb j hj)
                  exact ⟨hb7.os, hb7.tape, hb7.output, by simp only [World.setCell, Array.size_modify]; exact hb7.size, fun q hq => (setCell_kept w7 _ _ (by have := HOB.out; dsimp only; omega)).trans (hb7.block q hq)⟩
              clear hown7 hg7 hat7 hlt7 k6 k7 a0 a1 a2 c6 f6 hvd kk kf hraw HH6 HB6 HT HONE
              go_wp2_with fail
              obtain ⟨M3, hM3⟩ := HE.out
              go_roundw
              case rel => exact ⟨k + 1, M3, by omega, by go_num, Lib.hid hM3⟩
              case measure => simp [intOf]; omega
          | some i =>
            rw [hmk] at a2
            unfold fileV at a2
            have HMK := Lib.hid hmk
            clear hmk
            have HB5 := Lib.hid ((Below.refl wr.heap.size wr).alloc (Nat.le_refl _) (.cells #[.string sf, .string st, .pointer (some ⟨L.loc i, 0, none⟩)] 62))
            have hli : L.live i := HH.out.inChg c (List.mem_of_getElem? HCC.out) i HMK.out
            have HTW := Lib.hid (fileTwin_any (wr.alloc (.cells #[.string sf, .string st, .pointer (some ⟨L.loc i, 0, none⟩)] 62)) (L.loc i) (L.dat i) (S.file i) ((HLK.out.file i hli).under HB5.out) (HF.out.dat i))
            have HLI := Lib.hid hli
            clear hli
            go_wp2_with fail
            refine HTW.out.mono ?_
            rintro e w4 ⟨b', v', rfl, hf4, hb4, hlo4, hv4⟩
            have hpx : w4.heap[p]? = some (.cells #[.string sf, .string st, .pointer (some ⟨L.loc i, 0, none⟩)] 62 (0, 0)) := by
              rw [HP.out]
              exact (hb4.block _ (by rw [World.size_alloc]; omega)).trans (heap_alloc_new wr _)
            have bx2 : w4.cell? ⟨p, 2, none⟩ = some (.pointer (some ⟨L.loc i, 0, none⟩)) := by rw [cell_of hpx]; rfl
            have f2 := unfrozen_of hpx 2
            rw [← HP.out]
            clear a0 a1 a2
            go_wp2_with fail
            have hpx5 : (w4.setCell ⟨p, 2, none⟩ (.pointer (some ⟨b', 0, none⟩))).heap[p]? = some (.cells #[.string sf, .string st, .pointer (some ⟨b', 0, none⟩)] 62 (0, 0)) := heap_setCell_same w4 p 2 _ _ _ hpx
            have kept : ∀ b, b ≠ p → (w4.setCell ⟨p, 2, none⟩ (.pointer (some ⟨b', 0, none⟩))).heap[b]? = w4.heap[b]? := fun b hb => setCell_kept w4 _ _ hb
            have hsz5 : (w4.setCell ⟨p, 2, none⟩ (.pointer (some ⟨b', 0, none⟩))).heap.size = w4.heap.size := by simp [World.setCell]
            obtain ⟨M2, hM2⟩ : ∃ M2 : Lay, M2 = { M with loc := fun j => if j = i then b' else M.loc j, dat := fun j => if j = i then v' else M.dat j, live := fun j => j = i ∨ M.live j } := ⟨_, rfl⟩
            have HT : Hid (M2.d = t ∧ Holds (w4.setCell ⟨p, 2, none⟩ (.pointer (some ⟨b', 0, none⟩))) M2 { S with now := Dk.runs (S.changes.take k) S.lasting, changes := S.changes.take k } ∧ (∀ b, Own M2 b → bm ≤ b) ∧ Below wz.heap.size wz (w4.setCell ⟨p, 2, none⟩ (.pointer (some ⟨b', 0, none⟩))) ∧
                (∀ j, M2.live j ↔ Dk.stands S (k + 1) j) ∧ (∀ b, Own M2 b → b ≠ p) ∧ fileV M2.loc c.made = .pointer (some ⟨b', 0, none⟩)) := by
              obtain ⟨h1, h2, h3, h4, h5⟩ := HK.out
              have hnl : ¬ M.live i := fun hl => by
                rcases (h5 i).1 hl with ⟨q, hq, e⟩ | ⟨x, hx, e⟩
                · exact HM.out.old c (List.mem_of_getElem? HCC.out) i HMK.out q hq e
                · exact made_once HM.out.one HCC.out hx HMK.out e
              have hb5 := Below.next HB5.out hb4
              have hpo : ∀ b, Own M b → b ≠ p := fun b hb e => by have := h2.own_lt hb; have := HP.out; omega
              have hsa : wr.heap.size + 1 ≤ b' := by rw [World.size_alloc] at hlo4; exact hlo4
              have hga : ∀ g, v'.ownBlock = some g → wr.heap.size + 1 ≤ g := fun g hg => by have := (hv4 g hg).1; rw [World.size_alloc] at this; exact this
              have hadd := h2.addFile (w' := w4) i hnl (HH.out.lt i HLI.out) (b' := b') (v' := v') hf4 hb5 (by omega) (fun g hg => by have := hga g hg; omega)
              rw [← hM2] at hadd
              have hsp : ∀ b, Own M2 b → Own M b ∨ wr.heap.size + 1 ≤ b := fun b hb => by
                rw [hM2] at hb
                rcases hb with h | h | h | h | ⟨j, hj, h⟩
                · exact Or.inl (Or.inl h)
                · exact Or.inl (Or.inr (Or.inl h))
                · exact Or.inl (Or.inr (Or.inr (Or.inl h)))
                · exact Or.inl (Or.inr (Or.inr (Or.inr (Or.inl h))))
                · dsimp only at h hj
                  by_cases e : j = i
                  · simp only [if_pos e] at h
                    rcases h with h | h
                    · right; omega
                    · right; exact hga b h
                  · simp only [if_neg e] at h
                    exact Or.inl (Or.inr (Or.inr (Or.inr (Or.inr ⟨j, hj.resolve_left e, h⟩))))
              have hop : ∀ b, Own M2 b → b ≠ p := fun b hb => by
                rcases hsp b hb with h | h
                · exact hpo b h
                · have := HP.out; omega
              have hwzr := h4.size
              refine Lib.hid ⟨by rw [hM2]; exact h1, hadd.frame (fun b hb => kept b (hop b hb)), fun b hb => ?_, ?_, fun j => ?_, hop, ?_⟩
              · rcases hsp b hb with h | h
                · exact h3 b h
                · have := HOB.out.1; omega
              · have hbl := Below.next h4 hb5
                exact ⟨hbl.os, hbl.tape, hbl.output, by rw [hsz5]; exact hbl.size, fun q hq => (kept q (by have := HP.out; omega)).trans (hbl.block q hq)⟩
              · rw [stands_succ HCC.out, HMK.out, ← h5]
                rw [hM2]
                dsimp only
                constructor
                · rintro (h | h)
                  · right; rw [h]
                  · exact Or.inl h
                · rintro (h | h)
                  · exact Or.inr h
                  · left; simpa using h.symm
              · rw [HMK.out, hM2]
                show Value.pointer (some ⟨if i = i then b' else M.loc i, 0, none⟩) = _
                rw [if_pos rfl]
            have b0 : (w4.setCell ⟨p, 2, none⟩ (.pointer (some ⟨b', 0, none⟩))).cell? ⟨p, 0, none⟩ = some (.string sf) := by rw [cell_of hpx5]; rfl
            have b1 : (w4.setCell ⟨p, 2, none⟩ (.pointer (some ⟨b', 0, none⟩))).cell? ⟨p, 1, none⟩ = some (.string st) := by rw [cell_of hpx5]; rfl
            have b2 : (w4.setCell ⟨p, 2, none⟩ (.pointer (some ⟨b', 0, none⟩))).cell? ⟨p, 2, none⟩ = some (.pointer (some ⟨b', 0, none⟩)) := by rw [cell_of hpx5]; rfl
            have hp5 : p < (w4.setCell ⟨p, 2, none⟩ (.pointer (some ⟨b', 0, none⟩))).heap.size := heap_lt hpx5
            clear hM2 HB5 hf4 hb4 hlo4 hv4 hpx f2 hpx5 kept hsz5 HTW HLI bx2
            generalize w4.setCell ⟨p, 2, none⟩ (.pointer (some ⟨b', 0, none⟩)) = w5 at *
            obtain ⟨hMd, hH5, hOw, hB5, hLv, hOp, hFv⟩ := HT.out
            have c4 := hH5.cells.2.2.2.2.1
            rw [hMd] at c4
            have ht5 : t < w5.heap.size := by have := heap_lt hH5.box; rw [hMd] at this; exact this
            have hpn : p ≠ M2.bn := fun e => hOp M2.bn (Or.inr (Or.inl rfl)) e.symm
            have htn : t ≠ M2.bn := fun e => hH5.lone.bn_d (e.symm.trans hMd.symm)
            obtain ⟨hca, hru⟩ := cans_take HC.out HCC.out
            obtain ⟨z1, z2⟩ := HZ.out c (List.mem_of_getElem? HCC.out)
            have hll : (Dk.runs (S.changes.take k) S.lasting).length < maxLen := by
              have h1 := length_runs (S.changes.take k) S.lasting
              have h2 := HF.out.old
              have h3 := HF.out.chg
              rw [List.length_take] at h1
              unfold maxLen
              omega
            have HRU := Lib.hid hru
            have HD := fun w' h' => Lib.hid (do_any M2.loc sf st c.made (Dk.runs (S.changes.take k) S.lasting) M2.bn w' h' (by rw [← HSF.out, ← HST2.out]; exact hca) (by rw [← HSF.out]; exact z1) (by rw [← HST2.out]; exact z2) hll)
            have hct : (⟨sf.data.toList, st.data.toList, c.made⟩ : Chg) = c := by rw [← HSF.out, ← HST2.out]
            rw [hct] at HD
            have hFv2 := hFv
            rw [HMK.out] at hFv2
            simp only [HMK.out, hFv2] at HD
            clear hca hru z1 z2 hll hct hMd hH5 hOw hB5 hLv hOp hFv hFv2
            go_region_held3 (fun w' => w'.cell? ⟨p, 0, none⟩ = some (.string sf) ∧ w'.cell? ⟨p, 1, none⟩ = some (.string st) ∧ w'.cell? ⟨p, 2, none⟩ = some (.pointer (some ⟨b', 0, none⟩)) ∧ w'.cell? ⟨t, 4, none⟩ = some (.map (some M2.bn)) ∧ p < w'.heap.size ∧ t < w'.heap.size)
              (first | exact ⟨b0, b1, b2, c4, hp5, ht5⟩ | exact four_keep (by assumption) hpn htn ht6)
              (first | (go_at_call 32; refine (HD _ HT.out.2.1.now.drew).out.mono ?_; rintro e w6 ⟨rfl, ⟨n6, ho6⟩, ht6⟩))
            have hS := ‹w6.cell? ⟨p, 0, none⟩ = some (.string sf) ∧ _›
            rename_i hx3
            clear hx3 b0 b1 b2 c4 hp5 ht5 HD hpn htn
            obtain ⟨a0, a1, a2, _, hp6, ht6s⟩ := hS
            have HH6 : Hid (Holds w6 M2 { S with now := Dk.runs (S.changes.take (k + 1)) S.lasting, changes := S.changes.take k }) := by
              rw [HRU.out]
              refine Lib.hid (HT.out.2.1.drew.setNow ⟨ht6.os, ht6.tape, ht6.output, ht6.size, fun q hq hne => ht6.block q hq (fun e => hne (by rw [e]))⟩ _ ho6 (fun q hq => ?_))
              rcases Dk.id_run hq with ⟨z, hz, he⟩ | he
              · rw [← he]; exact HT.out.2.1.inNow z hz
              · rw [HT.out.2.2.2.2.1, stands_succ HCC.out]; exact Or.inr he
            have HB6 : Hid (Below wz.heap.size wz w6) := Lib.hid (HT.out.2.2.2.1.trans (Turns.to_below (P := fun q => q = M2.bn) (w := w5) ⟨ht6.os, ht6.tape, ht6.output, ht6.size, ht6.block⟩ HT.out.2.2.2.1.size (fun q hq => by rw [hq]; have := HT.out.2.2.1 M2.bn (Or.inr (Or.inl rfl)); have := HOB.out.1; omega)))
            clear ht6 ho6
            obtain ⟨i0, hi, hz0, hz1, hz2⟩ := info_parts info_chg
            have htk : (S.changes.take k).length = k := by rw [List.length_take]; have := HN.out; omega
            have hraw : w6.ownsRow 0 62 3 M2.vec k ((S.changes.take k).flatMap (chgCells M2.loc)) := by
              have := HH6.out.chg
              dsimp only at this
              rw [htk] at this
              exact this
            have c6 := HH6.out.cells.2.2.2.2.2.2
            have f6 := HH6.out.soft 6
            rw [HT.out.1] at c6 f6
            have hvd : ∀ e : M2.vec.ownBlock = some t, False := fun e => (HH6.out.lone.vec_d t e).1 HT.out.1.symm
            have hone : ∀ u ∈ [Value.string sf, .string st, .pointer (some ⟨b', 0, none⟩)], u.oneCell' = true := by
              intro u hu
              simp only [List.mem_cons, List.not_mem_nil, or_false] at hu
              rcases hu with rfl | rfl | rfl <;> rfl
            have HONE := Lib.hid hone
            have HTK := Lib.hid htk
            have kk : ∀ o, Hid ((w6.alloc o).cell? ⟨t, 6, none⟩ = some M2.vec) := fun o => (((Below.refl _ w6).alloc (Nat.le_refl _) o).cell (p := ⟨t, 6, none⟩) ht6s).trans c6
            have kf : ∀ o, Hid ((w6.alloc o).frozen? ⟨t, 6, none⟩ = false) := fun o => (((Below.refl _ w6).alloc (Nat.le_refl _) o).frozen (p := ⟨t, 6, none⟩) ht6s).trans f6
            clear hone htk
            have hkb : k ≤ 1099511627776 := by omega
            go_wp2_with fail
            go_region_law (first
              | (refine step_append_lies _ (by rfl) _ _ _ (by rfl) 0 62 i0 _ 3 40 Try.underlying55 hi hz0 hz1 hz2 (by rfl) (by omega) M2.vec _ _ (by rfl) ((hraw.alloc _).drew)
                  ⟨w6.heap.size, 0, none⟩ 1 1 [.string sf, .string st, .pointer (some ⟨b', 0, none⟩)] (by rfl) (by rfl) (World.news_of_block (cs := #[.string sf, .string st, .pointer (some ⟨b', 0, none⟩)]) (t := 62) (fr := (0, 0)) (heap_alloc_new w6 _)) HONE.out
                  (by omega) (by unfold maxLen; omega) (by omega) (by omega) (w6.heap.size + 1) (by simp) ?_; intro gg cap7 w7 hown7 hg7 hat7 hlt7
                 have k6 : w7.cell? ⟨t, 6, none⟩ = some M2.vec := (hg7.cell_far ⟨t, 6, none⟩ (by simp; omega) (fun e => hvd e.symm)).trans (kk _).out
                 have k7 : w7.frozen? ⟨t, 6, none⟩ = false := (hg7.frozen_far ⟨t, 6, none⟩ (by simp; omega) (fun e => hvd e.symm)).trans (kf _).out))
            all_goals
              have HE : Hid (∃ M3 : Lay, M3.d = t ∧ Holds (w7.setCell ⟨t, 6, none⟩ (.slice (some ⟨gg, 0, none⟩) (k + 1) cap7)) M3 { S with now := Dk.runs (S.changes.take (k + 1)) S.lasting, changes := S.changes.take (k + 1) } ∧ (∀ b, Own M3 b → bm ≤ b) ∧ Below wz.heap.size wz (w7.setCell ⟨t, 6, none⟩ (.slice (some ⟨gg, 0, none⟩) (k + 1) cap7)) ∧ ∀ j, M3.live j ↔ Dk.stands S (k + 1) j) := by
                obtain ⟨hMd, _, hOw, _, hLv, _, hFv⟩ := HT.out
                have etk : S.changes.take (k + 1) = S.changes.take k ++ [c] := take_one HCC.out
                have hh := ((HH6.out.alloc (.cells #[.string sf, .string st, .pointer (some ⟨b', 0, none⟩)] 62)).drew).setVec (w1 := w7) (.slice (some ⟨gg, 0, none⟩) (k + 1) cap7) (S.changes.take (k + 1)) hg7
                  (by
                    rw [etk, List.length_append, HTK.out, List.flatMap_append]
                    have e : [c].flatMap (chgCells M2.loc) = [.string sf, .string st, .pointer (some ⟨b', 0, none⟩)] := by
                      rw [← HSF.out, ← HST2.out, ← hFv]
                      rfl
                    rw [e]
                    exact hown7)
                  (fun b hb => by
                    rcases hat7 with h1 | h1
                    · left; rw [h1, ← hb]; rfl
                    · right
                      have : gg = b := by simpa [Value.ownBlock] using hb
                      simp
                      omega)
                  (fun x hx j hj => by
                    rw [hLv]
                    exact Or.inr ⟨x, hx, hj⟩)
                rw [hMd] at hh
                have hlo6 := HB6.out.size
                have hvb : ∀ b, M2.vec.ownBlock = some b → wz.heap.size ≤ b := fun b hb => by have := hOw b (Or.inr (Or.inr (Or.inr (Or.inl hb)))); have := HOB.out.1; omega
                refine Lib.hid ⟨⟨t, M2.bn, M2.bl, .slice (some ⟨gg, 0, none⟩) (k + 1) cap7, M2.loc, M2.dat, M2.live⟩, rfl, hh, fun b hb => ?_, ?_, hLv⟩
                · rcases hb with h | h | h | h | h
                  · exact hOw b (Or.inl (h.trans hMd.symm))
                  · exact hOw b (Or.inr (Or.inl h))
                  · exact hOw b (Or.inr (Or.inr (Or.inl h)))
                  · dsimp only at h
                    have hgb : gg = b := by simpa [Value.ownBlock] using h
                    rcases hat7 with h1 | h1
                    · exact hOw b (Or.inr (Or.inr (Or.inr (Or.inl (by rw [h1, ← hgb])))))
                    · have := HOB.out.1; omega
                  · exact hOw b (Or.inr (Or.inr (Or.inr (Or.inr h))))
                · have hb7 : Below wz.heap.size wz w7 := (HB6.out.alloc hlo6 _).drew.grown hg7 (by show _ ≤ (w6.alloc _).heap.size; rw [World.size_alloc]; omega) (fun j hj => hvb j hj)
                  exact ⟨hb7.os, hb7.tape, hb7.output, by simp only [World.setCell, Array.size_modify]; exact hb7.size, fun q hq => (setCell_kept w7 _ _ (by have := HOB.out; dsimp only; omega)).trans (hb7.block q hq)⟩
              clear hown7 hg7 hat7 hlt7 k6 k7 a0 a1 a2 c6 f6 hvd kk kf hraw HH6 HB6 HT HONE
              go_wp2_with fail
              obtain ⟨M3, hM3⟩ := HE.out
              go_roundw
              case rel => exact ⟨k + 1, M3, by omega, by go_num, Lib.hid hM3⟩
              case measure => simp [intOf]; omega
        · obtain rfl : k = n := by omega
          clear hlt
          have HE : Hid (M.d = t ∧ Holds wr M S ∧ (∀ b, Own M b → wz.heap.size ≤ b) ∧ Below wz.heap.size wz wr) := by
            obtain ⟨h1, h2, h3, h4, h5⟩ := HK.out
            rw [HN.out, List.take_length, ← HR.out] at h2
            exact Lib.hid ⟨h1, h2, fun b hb => by have := h3 b hb; have := HOB.out.1; omega, h4⟩
          clear HK
          go_wp2_with fail
          go_ret
          exact ⟨M, by rw [HE.out.1]; rfl, HE.out.2⟩
    · intro x c kl yd yp w8 cnt2 hkey hlk hv hat hrg2 hlt hg8 hs8 hen
      obtain ⟨x', ex, hkl, hxl⟩ := Maps.keyOf_str Try.underlying9 hkey
      obtain rfl : x = x' := encStr_inj ex
      subst hkl
      obtain ⟨i, hi, rfl⟩ := entry_of rfl hat hv
      obtain ⟨e1, e2, e3, e4⟩ := HR1.out
      have tw := HK.out.2.2
      have hnx : x ∉ ss := fun h => by have := ((HK.out.2.1.2 x).1 h).2; rw [hlk] at this; cases this
      have hh8 : Holds w8 L S := (HH.out.below tw.below).frame fun b hb => hg8.block b (by have := HH.out.own_lt hb; have := tw.below.size; omega) (fun e => by have := Option.some.inj e; have := HH.out.own_lt hb; omega)
      have hfa := hh8.file i (hh8.inOld (x, i) (Dk.mem_of_look hi))
      have k5 : w8.cell? ⟨t, 5, none⟩ = some (.map (some bm)) := by
        have hx8 := (hg8.block t (by have := tw.lo; omega) (fun e => by have := Option.some.inj e; omega)).trans tw.box
        rw [cell_of hx8]; rfl
      have ht8 : t < w8.heap.size := by have := tw.lo; omega
      have hm8 : w8.ownsMap Try.prog 9 ptrElem bm d.length (toD loc d) := ownsMap_frame tw.map (hg8.block bm (by have := tw.lo; omega) (fun e => by have := Option.some.inj e; omega))
      have hdl : d.length < maxLen := by have := tw.len; have := HK.out.1; have := HLL.out; unfold maxLen; omega
      have htb : t ≠ bm := by omega
      have HTW : Hid (∀ w', Below w8.heap.size w8 w' → Calls Try.prog 30 #[.pointer (some ⟨L.loc i, 0, none⟩)] w' fun e w'' => ∃ b' v', e = .returned (.pointer (some ⟨b', 0, none⟩)) ∧ FileAt w'' b' v' (S.file i) ∧ Below w'.heap.size w' w'' ∧ w'.heap.size ≤ b' ∧ ∀ k, v'.ownBlock = some k → w'.heap.size ≤ k ∧ k < b') :=
        Lib.hid fun w' hb => fileTwin_any w' (L.loc i) (L.dat i) (S.file i) (hfa.under hb) (HF.out.dat i)
      have HX := Lib.hid (And.intro hi (And.intro hnx (And.intro hg8 (And.intro hs8 (And.intro hlk (And.intro hat (And.intro hrg2 (And.intro hlt hrg))))))))
      have HM8 := Lib.hid hm8; have HKEY := Lib.hid hkey; have HDL := Lib.hid hdl
      clear e1 e2 e3 e4 tw hnx hh8 hfa hm8 hi hlk hv hat hrg2 hlt hg8 hs8 hkey hxl ex hdl hrg
      unfold encStr at hen ⊢
      go_wp2_with fail
      go_region_held3 (fun w' => w'.cell? ⟨t, 5, none⟩ = some (.map (some bm)) ∧ t < w'.heap.size)
        (first | exact ⟨k5, ht8⟩ | exact one_keep (by assumption) hb9 | exact one_turn (by assumption) htb hturn10)
        (first | (go_at_call 30; refine Calls.mono (HTW.out _ (by first | exact Below.refl _ _ | exact ⟨rfl, rfl, rfl, Nat.le_refl _, fun _ _ => rfl⟩)) ?_; rintro e w9 ⟨b', v', rfl, hf9, hb9, hlo9, hv9⟩
                  have hm9 : w9.ownsMap Try.prog 9 ptrElem bm d.length (toD loc d) := ownsMap_frame HM8.out (hb9.block bm HM8.out.lt)
                  obtain ⟨w10, hrun10, hown10, hturn10⟩ := hm9.store (t := 54) law Try.underlying54 HDL.out HKEY.out (val := .pointer (some ⟨b', 0, none⟩)) (d := .lit (.int .i64 b')) (ps := []) rfl
                  unfold encStr at hrun10))
      obtain ⟨hi, hnx, hg8, hs8, hlk, hat, hrg2, hlt, hrg⟩ := HX.out
      obtain ⟨e1, e2, e3, e4⟩ := HR1.out
      have hb9' : Below w8.heap.size w8 w9 := ⟨hb9.os, hb9.tape, hb9.output, hb9.size, hb9.block⟩
      have hs10 : w10.heap.size = w9.heap.size := by
        obtain ⟨_, _, _, _, _, rfl⟩ := hturn10
        simp [ChangeMaps.setBlock]
      have st := HK.out.2.2.step (b' := b') (v' := v') hg8 hs8 hb9' hf9 hlo9 (fun g hg => (hv9 g hg).1) hown10 hturn10.grown hs10 hi hnx HU.out HRI.out (by omega) (by omega) (by omega)
      have hblw := HH.out.old.lt
      have hrg9 := hrg2.kept (w' := w9) (row := none) ⟨hb9'.os, hb9'.tape, hb9'.output, hb9'.size, fun k hk _ => hb9'.block k hk⟩ (by simp) (by simp)
      have hrg10 := hrg9.kept hturn10.grown (by simp; omega) (by simp; omega)
      have HY := Lib.hid (And.intro hrg10 (And.intro (HK.out.2.1.step hlk hat) (And.intro st (And.intro hlt hrg))))
      rename_i hHeld
      clear hHeld hi hnx hg8 hs8 hlk hat hrg2 hlt hrg e1 e2 e3 e4 hb9' hb9 hf9 hlo9 hv9 hs10 st hblw hrg9 hrg10 hown10 hrun10 hturn10 hm9 HX HTW k5 ht8 htb
      go_wp2_with fail
      go_roundw
      case rel => exact ⟨_, cnt2, ss ++ [x], _, _, _, HY.out.1, Lib.hid ⟨by rw [List.length_append, List.length_singleton]; have := HK.out.1; have := HY.out.2.2.2.1; omega, HY.out.2.1, HY.out.2.2.1⟩⟩
      case measure => rw [HY.out.1.left_eq, HY.out.2.2.2.2.left_eq]; exact HY.out.2.2.2.1

end Go.Proofs.Ytefoijamedciiaa
