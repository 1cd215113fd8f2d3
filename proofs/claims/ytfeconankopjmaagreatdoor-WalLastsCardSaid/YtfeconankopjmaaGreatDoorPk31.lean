/- Texts on the program's own functions, several in one: WlNext, WlArg, WlGoes. -/
import Derived.Test.YtfeconankopjmaaGreatDoorPk24
import Derived.Test.YtfeconankopjmaaGreatDoorPk28
import Derived.Deep.AppendLies

/- The walk of layer 7's next. -/
namespace Go.Proofs.YtfeconankopjmaaGreatDoor
set_option linter.unusedVariables false
open Go.RowKit Go.Maps
open Dk (Dir Chg Disk File Str)

/-- A log was begun, or not; the disk went on. -/
def BegunOn (w : World) (base : Nat) (L : Lay) (R : Int × Disk) (N n m : Nat) (e : Ending) (w' : World) : Prop :=
  ∃ p L', e = .returned (.tuple #[.pointer p, errV R.1]) ∧ L'.d = L.d ∧ Disc w' base L' R.2 n m ∧ Below base w w' ∧ Kept w L w' L' ∧ ((R.1 = 0 ∧ ∃ g, p = some ⟨g, 0, none⟩ ∧ Live w' L' g L.d N) ∨ (R.1 ≠ 0 ∧ p = none))
theorem BegunOn.after {w w1 : World} {base : Nat} {L : Lay} {R : Int × Disk} {N n m : Nat} {e : Ending} {w' : World} (hb : Below w.heap.size w w1) (hlo : base ≤ w.heap.size) (h : BegunOn w1 base L R N n m e w') : BegunOn w base L R N n m e w' := by
  obtain ⟨p, L', he, hld, hD, hB, hl, hc⟩ := h
  exact ⟨p, L', he, hld, hD, (hb.mono hlo).trans hB, hl.below hb, hc⟩

theorem nxt_nil : Wl.nxt [] = 1 := rfl
theorem nxt_last {us : List Nat} {k : Nat} (h : k + 1 = us.length) : Wl.nxt us = us.getD k 0 + 1 := by
  unfold Wl.nxt
  have : us.getLast? = some (us.getD k 0) := by
    rw [List.getLast?_eq_getElem?, show us.length - 1 = k by omega, List.getD_eq_getElem?_getD]
    rw [List.getElem?_eq_getElem (by omega)]
    rfl
  rw [this]

set_option maxHeartbeats 4000000 in
set_option maxRecDepth 100000 in
theorem next_disc {w : World} {base : Nat} {L : Lay} {S : Disk} {n m : Nat} (D : Disc w base L S n m) (hn : n < 4000) (hm : m ≤ 100000000) (K : Knows base w) (hr : Rise (Wl.nums S.now)) (hfew : (Wl.nums S.now).length ≤ 400) (hlt : Wl.nxt (Wl.nums S.now) < 18446744073709551616) :
    Calls Tryz.prog 34 #[.pointer (some ⟨L.d, 0, none⟩)] w (BegunOn w base L (Wl.beg S (Wl.nxt (Wl.nums S.now))) (Wl.nxt (Wl.nums S.now)) (n + 2) m) := by
  have HLO := Lib.hid (logs_any w D.holds D.good (by omega) hm K D.lo hr hfew)
  have HBE := Lib.hid (fun W (hb : Below w.heap.size w W) => (show Calls _ _ _ W (BegunOn W base L (Wl.beg S (Wl.nxt (Wl.nums S.now))) (Wl.nxt (Wl.nums S.now)) (n + 2) m) from begin_disc (D.below hb) hn hm (Wl.nxt (Wl.nums S.now)) hlt (K.next (hb.mono D.lo))))
  have HLO2 := Lib.hid D.lo
  have HLT := Lib.hid hlt
  generalize Wl.nums S.now = us at *
  clear D K hr hlt
  cases hq : us.length with
  | zero =>
    obtain rfl := List.eq_nil_of_length_eq_zero hq
    rw [nxt_nil] at HBE ⊢
    clear hq
    go_enter Tryz.func34, Tryz.ntmps34
    go_wp2_with fail
    refine HLO.out.mono ?_
    rintro e w1 ⟨v, rfl, hrow, hb⟩
    obtain ⟨a, c, rfl⟩ := row_shape hrow
    have HB := Lib.hid hb
    clear hrow hb HLO
    go_wp2_with fail
    refine (HBE.out _ HB.out).mono ?_
    rintro e w2 hbg
    have HBG := Lib.hid (hbg.after HB.out HLO2.out)
    obtain ⟨p, L', rfl, _⟩ := hbg
    go_wp2_with fail
    go_ret2
    exact HBG.out
  | succ k =>
    rw [hq] at HLO
    rw [nxt_last hq.symm] at HBE HLT ⊢
    have hx : (numCells us)[k]? = some (.int .u64 (us.getD k 0 : Nat)) := by
      unfold numCells
      rw [List.getElem?_map, List.getElem?_eq_getElem (show k < us.length by omega)]
      simp [show k < us.length by omega]
    have HX := Lib.hid hx
    have hk4 : (k : Int) + 1 ≤ 400 := by omega
    clear hx hq hfew
    generalize us.getD k 0 = N at *
    go_enter Tryz.func34, Tryz.ntmps34
    go_wp2_with fail
    refine HLO.out.mono ?_
    rintro e w1 ⟨v, rfl, hrow, hb⟩
    obtain ⟨a, c, rfl⟩ := row_shape hrow
    obtain ⟨g, rfl, c0⟩ := row_at hrow HX.out (by omega)
    have HB := Lib.hid hb
    clear hrow hb HLO
    have hk0 : (0 : Int) ≤ k := by omega
    go_wp2_with fail
    have hw : IntKind.u64.wrap ((N : Int) + 1) = ((N + 1 : Nat) : Int) := by
      have := HLT.out
      rw [IntKind.wrap_u64] <;> omega
    rw [hw]
    clear hw
    refine (HBE.out _ HB.out).mono ?_
    rintro e w2 hbg
    have HBG := Lib.hid (hbg.after HB.out HLO2.out)
    obtain ⟨p, L', rfl, _⟩ := hbg
    go_wp2_with fail
    go_ret2
    exact HBG.out

end Go.Proofs.YtfeconankopjmaaGreatDoor

/- Batches that came in, and rows of them. -/
namespace Go.Proofs.YtfeconankopjmaaGreatDoor
set_option linter.unusedVariables false
open Go.RowKit Go.Maps
open Dk (Dir Chg Disk File Str)

/-- Operations that lie below a base. -/
def ArgO (base : Nat) (w : World) (v : Value) (ps : List Bn.Ob) : Prop :=
  (ps = [] ∧ ∃ a cap, v = .slice a 0 cap) ∨ ∃ b off cap, v = .slice (some ⟨b, off, none⟩) ps.length cap ∧ b < base ∧ ∀ i, i < ps.length → Bn.ObAt w b (off + i * 3) (ps.getD i Bn.obd)
theorem ArgO.below {base : Nat} {w w' : World} {v : Value} {ps : List Bn.Ob} (h : ArgO base w v ps) (hb : Below base w w') : ArgO base w' v ps := by
  rcases h with h | ⟨b, off, cap, rfl, hlt, hc⟩
  · exact Or.inl h
  · exact Or.inr ⟨b, off, cap, rfl, hlt, fun i hi => (hc i hi).below hb hlt⟩
theorem ArgO.sees {base : Nat} {w : World} {v : Value} {ps : List Bn.Ob} (h : ArgO base w v ps) (hb : base ≤ w.heap.size) : Bn.SeesO w v ps := by
  rcases h with h | ⟨b, off, cap, rfl, hlt, hc⟩
  · exact Or.inl h
  · exact Or.inr ⟨b, off, cap, rfl, Nat.lt_of_lt_of_le hlt hb, hc⟩
theorem ArgO.slice {base : Nat} {w : World} {v : Value} {ps : List Bn.Ob} (h : ArgO base w v ps) : ∃ a c, v = .slice a ps.length c := by
  rcases h with ⟨rfl, a, c, rfl⟩ | ⟨b, off, cap, rfl, _⟩
  · exact ⟨a, c, rfl⟩
  · exact ⟨_, _, rfl⟩
/-- A batch of a slice of batches that came in. -/
def ArgAt (base : Nat) (w : World) (a : Option Addr) (i : Nat) (b : Wl.Bat) : Prop :=
  ∃ g off vi, a = some ⟨g, off, none⟩ ∧ g < base ∧ w.cell? ⟨g, off + i * 2, none⟩ = some (.int .u64 (b.1 : Nat)) ∧ w.cell? ⟨g, off + i * 2 + 1, none⟩ = some vi ∧ ArgO base w vi b.2 ∧ b.1 < 18446744073709551616
def ArgB (base : Nat) (w : World) (a : Option Addr) (bs : List Wl.Bat) : Prop := ∀ i b, bs[i]? = some b → ArgAt base w a i b
theorem ArgB.below {base : Nat} {w w' : World} {a : Option Addr} {bs : List Wl.Bat} (h : ArgB base w a bs) (hb : Below base w w') : ArgB base w' a bs := fun i b hi => by
  obtain ⟨g, off, vi, ha, hg, c0, c1, ho, hs⟩ := h i b hi
  exact ⟨g, off, vi, ha, hg, (hb.cell (p := ⟨g, off + i * 2, none⟩) hg).trans c0, (hb.cell (p := ⟨g, off + i * 2 + 1, none⟩) hg).trans c1, ho.below hb, hs⟩
/-- Truths of a slice that came in. -/
def ArgT (base : Nat) (w : World) (a : Option Addr) (ts : List Bool) : Prop := ∀ i t, ts[i]? = some t → ∃ g off, a = some ⟨g, off, none⟩ ∧ g < base ∧ w.cell? ⟨g, off + i, none⟩ = some (.bool t)
theorem ArgT.below {base : Nat} {w w' : World} {a : Option Addr} {ts : List Bool} (h : ArgT base w a ts) (hb : Below base w w') : ArgT base w' a ts := fun i t hi => by
  obtain ⟨g, off, ha, hg, c0⟩ := h i t hi
  exact ⟨g, off, ha, hg, (hb.cell (p := ⟨g, off + i, none⟩) hg).trans c0⟩

/-- Which raw batches are which, their operations lying below a base. -/
def AreA (base : Nat) (w : World) : List (Nat × Value) → List Wl.Bat → Prop
  | [], [] => True
  | p :: ps, b :: bs => p.1 = b.1 ∧ ArgO base w p.2 b.2 ∧ AreA base w ps bs
  | _, _ => False
theorem AreA.append {base : Nat} {w : World} : ∀ {ps : List (Nat × Value)} {bs : List Wl.Bat} {qs : List (Nat × Value)} {cs : List Wl.Bat}, AreA base w ps bs → AreA base w qs cs → AreA base w (ps ++ qs) (bs ++ cs)
  | [], [], _, _, _, k => k
  | p :: ps, b :: bs, _, _, h, k => ⟨h.1, h.2.1, AreA.append h.2.2 k⟩
theorem AreA.below {base : Nat} {w w' : World} (hb : Below base w w') : ∀ {ps : List (Nat × Value)} {bs : List Wl.Bat}, AreA base w ps bs → AreA base w' ps bs
  | [], [], _ => trivial
  | p :: ps, b :: bs, h => ⟨h.1, h.2.1.below hb, AreA.below hb h.2.2⟩
theorem AreA.one {base : Nat} {w : World} : ∀ {ps : List (Nat × Value)} {bs : List Wl.Bat}, AreA base w ps bs → ∀ u ∈ ps.flatMap cellsB, u.oneCell' = true
  | [], [], _, u, hu => by simp at hu
  | p :: ps, b :: bs, h, u, hu => by
    rw [List.flatMap_cons, List.mem_append] at hu
    rcases hu with hu | hu
    · simp only [cellsB, List.mem_cons, List.not_mem_nil, or_false] at hu
      rcases hu with rfl | rfl
      · rfl
      · obtain ⟨ao, cap, e⟩ := h.2.1.slice
        rw [e]; rfl
    · exact AreA.one h.2.2 u hu
theorem AreA.length {base : Nat} {w : World} : ∀ {ps : List (Nat × Value)} {bs : List Wl.Bat}, AreA base w ps bs → ps.length = bs.length
  | [], [], _ => rfl
  | p :: ps, b :: bs, h => by rw [List.length_cons, List.length_cons, AreA.length h.2.2]
theorem AreA.at {base : Nat} {w : World} : ∀ {ps : List (Nat × Value)} {bs : List Wl.Bat} {i : Nat} {b : Wl.Bat}, AreA base w ps bs → bs[i]? = some b → ∃ v, ps[i]? = some (b.1, v) ∧ ArgO base w v b.2
  | [], [], i, b, _, hi => by simp at hi
  | p :: ps, c :: bs, 0, b, h, hi => by
    simp only [List.getElem?_cons_zero, Option.some.injEq] at hi
    subst hi
    exact ⟨p.2, by rw [List.getElem?_cons_zero, ← h.1], h.2.1⟩
  | p :: ps, c :: bs, i + 1, b, h, hi => by
    rw [List.getElem?_cons_succ] at hi ⊢
    exact AreA.at h.2.2 hi
/-- A row of batches of the call's own (from a block 'lo' on), their operations lying below a base. -/
def OwnsA (base lo : Nat) (w : World) (v : Value) (bs : List Wl.Bat) : Prop := ∃ ps, w.ownsRow lo 32 2 v bs.length (ps.flatMap cellsB) ∧ AreA base w ps bs
theorem OwnsA.nil (base lo : Nat) (w : World) : OwnsA base lo w (.slice none 0 0) [] := ⟨[], World.ownsRow_nil .., trivial⟩
theorem OwnsA.slice {base lo : Nat} {w : World} {v : Value} {bs : List Wl.Bat} (h : OwnsA base lo w v bs) : ∃ ao cap, v = .slice ao bs.length cap := by
  obtain ⟨ps, h, _⟩ := h
  exact row_shape h
theorem OwnsA.below {base lo : Nat} {w w' : World} {v : Value} {bs : List Wl.Bat} (h : OwnsA base lo w v bs) (hb : Below w.heap.size w w') (hl : base ≤ w.heap.size) : OwnsA base lo w' v bs := by
  obtain ⟨ps, h1, h2⟩ := h
  exact ⟨ps, ownsRow_below h1 hb, h2.below (hb.mono hl)⟩
theorem OwnsA.kept {base lo : Nat} {w w' : World} {L L' : Lay} {v : Value} {bs : List Wl.Bat} (h : OwnsA base lo w v bs) (hk : Kept w L w' L') (hb : Below base w w') (ho : Off L v) : OwnsA base lo w' v bs ∧ Off L' v := by
  obtain ⟨ps, h1, h2⟩ := h
  exact ⟨⟨ps, (hk.row h1 ho).1, h2.below hb⟩, (hk.row h1 ho).2⟩
theorem off_nil (L : Lay) : Off L (.slice none 0 0) := fun b hb => by simp [Value.ownBlock] at hb
/-- The disk stays while a row that is not its own grows. -/
theorem Disc.grown {w w' : World} {base : Nat} {L : Lay} {S : Disk} {n m : Nat} (D : Disc w base L S n m) {v : Value} (ho : Off L v) (hg : w.grownBy w' v.ownBlock) : Disc w' base L S n m :=
  ⟨D.holds.frame fun b hb => hg.block b (D.holds.own_lt hb) fun e => ho b e.symm hb, D.good, D.own, Nat.le_trans D.lo hg.size⟩
theorem Live.grown {w w' : World} {L : Lay} {g d N : Nat} (h : Live w L g d N) {lo k : Nat} {v : Value} {xs : List Value} (hr : w.ownsRow lo 32 2 v k xs) (hg : w.grownBy w' v.ownBlock) : Live w' L g d N := by
  refine ⟨(hg.block g (heap_lt h.at') fun e => ?_).trans h.at', h.off⟩
  obtain ⟨cur, hc⟩ := ownsRow_obj hr e.symm
  have h1 := h.at'
  unfold LogAt at h1
  rw [h1] at hc
  simp only [Option.some.injEq, Obj.cells.injEq] at hc
  exact absurd hc.2.1 (by decide)
theorem off_grown {w : World} {base : Nat} {L : Lay} {S : Disk} {n m : Nat} (D : Disc w base L S n m) {v v' : Value} (ho : Off L v) (h : v'.ownBlock = v.ownBlock ∨ v'.ownBlock = some w.heap.size) : Off L v' := fun b hb hn => by
  rcases h with h | h
  · exact ho b (h ▸ hb) hn
  · rw [hb] at h
    have := D.holds.own_lt hn
    simp only [Option.some.injEq] at h
    omega
/-- append of an own row: where the longer one lies. -/
theorem wpList_append_at {P : Program} {w : World} {ops : Array Oper} {rest : List Oper} {o : Oper} {a : Go.Act} {Q : Exit → Go.Act → World → Prop} (hgd : o.guard = none) (s x : Operand) (t : TypeId)
    (ho : o.op = .call { callee := .builtin .append, args := #[s, x], argTypes := #[t, t] })
    (base : Nat) (e : TypeId) (i : TypeInfo) (z : Value) (size bytes : Nat) (ht : P.underlying t = some (.slice e)) (hi : P.info? e = some i) (hz : i.zero = some z)
    (hsize : i.size = size) (hby : i.bytes = bytes) (hzs : z.cells.size = size) (hsz : 0 < size)
    (v : Value) (n : Nat) (xs : List Value) (hs : a.eval s = v) (hown : w.ownsRow base e size v n xs)
    (ad : Addr) (m c : Nat) (news : List Value) (hx : a.eval x = .slice (some ad) m c) (hl : news.length = m * size) (hnews : ∀ j u, news[j]? = some u → w.cell? (ad.add j) = some u) (h1 : ∀ u ∈ news, u.oneCell' = true)
    (h63 : n + m ≤ maxLen) (hbytes : (n + m) * bytes ≤ 140737488355328) (hbase : base ≤ w.heap.size)
    (h : ∀ v' w', w'.ownsRow base e size v' (n + m) (xs ++ news) → w.grownBy w' v.ownBlock → (v'.ownBlock = v.ownBlock ∨ v'.ownBlock = some w.heap.size) → wpList P ops Q rest (a.put o.dst v') w') : wpList P ops Q (o :: rest) a w := by
  refine wpList_plain hgd fun K hK => ?_
  obtain ⟨v', w', hr, h2, h3, _, h5⟩ := run_append_own_at (P := P) w base t o.type e i z size bytes ht hi hz hsize hby hzs hsz v n xs hown ad m c news hl hnews h1 h63 hbytes hbase
  unfold Oper.wp execOp
  simp only [ho, resolve, invoke, builtin, Sem.run_bind, Sem.run_pure, Result.andThen_ok, List.map_toArray, List.map_cons, List.map_nil, hs, hx, hr]
  exact hK _ _ (h v' w' h2 h3 h5)

end Go.Proofs.YtfeconankopjmaaGreatDoor

/- The walk of layer 7's goes: a round to its crash. -/
namespace Go.Proofs.YtfeconankopjmaaGreatDoor
set_option linter.unusedVariables false
open Go.RowKit Go.Maps
open Dk (Dir Chg Disk File Str)

def roundV (ab : Option Addr) (nb cb : Nat) (an : Option Addr) (nn cn : Nat) (fuse names : Int) (vk vs : Value) : Value := .agg #[.slice ab nb cb, .slice an nn cn, .int .i64 fuse, .int .i64 names, vk, vs]
/-- A round was played to its crash. -/
def Played (w : World) (base : Nat) (L : Lay) (T : List Wl.Bat) (M n m : Nat) (e : Ending) (w' : World) : Prop :=
  ∃ v1 v2 L' S' ts U, e = .returned (.tuple #[v1, v2]) ∧ L'.d = L.d ∧ Disc w' base L' S' n m ∧ Below base w w' ∧ Kept w L w' L' ∧ Wl.Fin S' M (T ++ ts) U ∧ ts.length ≤ 20 ∧ U.length ≤ 1 ∧
    OwnsA base w.heap.size w' v1 ts ∧ OwnsA base w.heap.size w' v2 U ∧ Off L' v1 ∧ Off L' v2
theorem rise_of {us : List (Nat × Nat)} (h : us.Pairwise (·.1 < ·.1)) : Rise (us.map (·.1)) := by
  induction us with
  | nil => trivial
  | cons p us ih =>
    cases us with
    | nil => trivial
    | cons q us => exact ⟨Nat.le_of_lt (List.rel_of_pairwise_cons h (List.mem_cons_self ..)), ih (List.Pairwise.of_cons h)⟩
/-- The next log, of a disk on which nothing is under way. -/
theorem next_calm {w : World} {base : Nat} {L : Lay} {S : Disk} {n m : Nat} (D : Disc w base L S n m) (hn : n < 4000) (hm : m ≤ 100000000) (K : Knows base w) {us : List (Nat × Nat)} {M : Nat} (C : Wl.Calm S us) (hM : Wl.Most us M) (h4 : M ≤ 399) :
    Calls Tryz.prog 34 #[.pointer (some ⟨L.d, 0, none⟩)] w (BegunOn w base L (Wl.beg S (Wl.nxt (us.map (·.1)))) (Wl.nxt (us.map (·.1))) (n + 2) m) := by
  have h1 := Wl.nxt_le hM
  have e := C.nums
  have := next_disc D hn hm K (by rw [e]; exact rise_of C.rise) (by rw [e, List.length_map]; have := hM.1; omega) (by rw [e]; omega)
  rw [e] at this
  exact this

/-- The round's own box. -/
def BoxAt (w : World) (L : Lay) (B : Nat) (cs : Array Value) : Prop := w.heap[B]? = some (.cells cs 72 (0, 0)) ∧ ¬ Own L B
theorem BoxAt.kept {w w' : World} {L L' : Lay} {B : Nat} {cs : Array Value} (h : BoxAt w L B cs) (hk : Kept w L w' L') : BoxAt w' L' B cs := hk B _ h.1 h.2
theorem BoxAt.below {w w' : World} {L : Lay} {B : Nat} {cs : Array Value} (h : BoxAt w L B cs) (hb : Below w.heap.size w w') : BoxAt w' L B cs := ⟨(hb.block B (heap_lt h.1)).trans h.1, h.2⟩
theorem BoxAt.grown {w w' : World} {L : Lay} {B : Nat} {cs : Array Value} (h : BoxAt w L B cs) {lo k : Nat} {v : Value} {xs : List Value} (hr : w.ownsRow lo 32 2 v k xs) (hg : w.grownBy w' v.ownBlock) : BoxAt w' L B cs := by
  refine ⟨(hg.block B (heap_lt h.1) fun e => ?_).trans h.1, h.2⟩
  obtain ⟨cur, hc⟩ := ownsRow_obj hr e.symm
  rw [h.1] at hc
  simp only [Option.some.injEq, Obj.cells.injEq] at hc
  exact absurd hc.2.1 (by decide)
theorem BoxAt.cell {w : World} {L : Lay} {B : Nat} {cs : Array Value} (h : BoxAt w L B cs) (j : Nat) : w.cell? ⟨B, j, none⟩ = cs[j]? := cell_of h.1 j

theorem Kept.grown {w W w6 : World} {L Lr : Lay} (h : Kept w L W Lr) {k : Nat} {v : Value} {xs : List Value} (hr : W.ownsRow w.heap.size 32 2 v k xs) (hg : W.grownBy w6 v.ownBlock) : Kept w L w6 Lr := fun g o ho hn => by
  obtain ⟨h1, h2⟩ := h g o ho hn
  refine ⟨(hg.block g (heap_lt h1) fun e => ?_).trans h1, h2⟩
  have h3 := (hr.lt g e.symm).1
  have h4 := heap_lt ho
  omega
/-- One batch more in a row: what stands beside it. -/
theorem row_pushed {w W w6 : World} {base : Nat} {L Lr : Lay} {S : Disk} {n m B : Nat} {cs : Array Value} {v1 v' vi : Value} {told : List Wl.Bat} {ps : List (Nat × Value)} {seq : Nat} {ops : List Bn.Ob} (hlo : base ≤ w.heap.size)
    (D : Disc W base Lr S n m) (hk : Kept w L W Lr) (hb : BoxAt W Lr B cs) (hr : W.ownsRow w.heap.size 32 2 v1 told.length (ps.flatMap cellsB)) (ha : AreA base W ps told) (ho : Off Lr v1) (hvi : ArgO base W vi ops)
    (hown : w6.ownsRow w.heap.size 32 2 v' (told.length + 1) (ps.flatMap cellsB ++ [.int .u64 (seq : Nat), vi])) (hg : W.grownBy w6 v1.ownBlock) (hv : v'.ownBlock = v1.ownBlock ∨ v'.ownBlock = some W.heap.size) :
    OwnsA base w.heap.size w6 v' (told ++ [(seq, ops)]) ∧ Off Lr v' ∧ Disc w6 base Lr S n m ∧ Kept w L w6 Lr ∧ BoxAt w6 Lr B cs ∧ Below base W w6 ∧ ∀ g d N, Live W Lr g d N → Live w6 Lr g d N := by
  have hbel : Below base W w6 := (Below.refl base W).grown hg D.lo (fun q hq => Nat.le_trans hlo (hr.lt q hq).1)
  refine ⟨⟨ps ++ [(seq, vi)], ?_, ?_⟩, off_grown D ho hv, D.grown ho hg, hk.grown hr hg, hb.grown hr hg, hbel, fun g d N hl => hl.grown hr hg⟩
  · rw [List.length_append, List.flatMap_append, List.flatMap_singleton]
    exact hown
  · exact (ha.append (qs := [(seq, vi)]) (cs := [(seq, ops)]) ⟨rfl, hvi, trivial⟩).below hbel

/-- Where a round stands: it goes on, or the power is gone. -/
structure Stand (w : World) (base : Nat) (L : Lay) (T : List Wl.Bat) (M n m : Nat) (cs : Array Value) (B : Nat) (wr : World) (v1 v2 : Value) (p : Option Addr) (E : Int) (told : List Wl.Bat) (Lr : Lay) (Sr : Disk) : Prop where
  hd : Lr.d = L.d
  disc : Disc wr base Lr Sr n m
  below : Below base w wr
  kept : Kept w L wr Lr
  box : BoxAt wr Lr B cs
  row1 : OwnsA base w.heap.size wr v1 told
  off1 : Off Lr v1
  how : (E ≠ 7 ∧ v2 = .slice none 0 0 ∧ ∃ g us k i xs, p = some ⟨g, 0, none⟩ ∧ Live wr Lr g L.d k ∧ Wl.Mid Sr us k i M xs (T ++ told) ∧ k < 18446744073709551616) ∨
    (E = 7 ∧ ∃ U, Wl.Fin Sr M (T ++ told) U ∧ U.length ≤ 1 ∧ OwnsA base w.heap.size wr v2 U ∧ Off Lr v2)
theorem Wl.Most.mono {us : List (Nat × Nat)} {M M' : Nat} (h : Wl.Most us M) (hM : M ≤ M') : Wl.Most us M' := ⟨Nat.le_trans h.1 hM, fun p hp => Nat.le_trans (h.2 p hp) hM⟩
theorem Wl.Fin.mono {S : Disk} {M M' : Nat} {T U : List Wl.Bat} (h : Wl.Fin S M T U) (hM : M ≤ M') : Wl.Fin S M' T U := fun c => by
  obtain ⟨us, h1, h2, h3⟩ := h c
  exact ⟨us, h1, Wl.Most.mono h2 hM, h3⟩
theorem Wl.Mid.mono {S : Disk} {us : List (Nat × Nat)} {k i M M' : Nat} {cs T : List Wl.Bat} (h : Wl.Mid S us k i M cs T) (hM : M ≤ M') : Wl.Mid S us k i M' cs T := ⟨h.calm, h.on, Wl.Most.mono h.most hM, h.dat, h.sound, h.all⟩
/-- What a Begin behind a calm disk makes of it. -/
theorem begun_how {S : Disk} {us : List (Nat × Nat)} {M : Nat} {T : List Wl.Bat} {E : Int} {S' : Disk} (hR : Wl.beg S (Wl.nxt (us.map (·.1))) = (E, S')) (C : Wl.Calm S us) (hd : S.down = false) (hm : Wl.Most us M) (hM : M < 99999999) (hT : Wl.holds S.file us = T) :
    (E = 0 ∧ Wl.Mid S' us (Wl.nxt (us.map (·.1))) S.next (M + 1) [] T) ∨ (E = 7 ∧ ∀ U, Wl.Fin S' (M + 1) T U) := by
  rcases Wl.beg_step C hd hm hM hT with ⟨X, h1, h2, h3, h4, h5, h6⟩ | ⟨X, h1, h2⟩
  · rw [h1] at hR
    simp only [Prod.mk.injEq] at hR
    obtain ⟨rfl, rfl⟩ := hR
    exact Or.inl ⟨rfl, h3, h2, h6, h4, by simp, by rw [List.append_nil]; exact h5⟩
  · rw [h1] at hR
    simp only [Prod.mk.injEq] at hR
    obtain ⟨rfl, rfl⟩ := hR
    exact Or.inr ⟨rfl, h2⟩

set_option maxHeartbeats 16000000 in
set_option maxRecDepth 100000 in
theorem goes_any {w : World} {base : Nat} {L : Lay} {S : Disk} {n m : Nat} (D : Disc w base L S n m) (hn : n < 3800) (hm : m ≤ 80000000) (K : Knows base w) {us : List (Nat × Nat)} {M : Nat} {T : List Wl.Bat} (C : Wl.Calm S us) (hd : S.down = false) (hM : Wl.Most us M) (h4 : M ≤ 370) (hT : Wl.holds S.file us = T)
    (ab : Option Addr) (nb cb : Nat) (bs : List Wl.Bat) (hbs : bs.length = nb) (hb20 : nb ≤ 20) (AB : ArgB base w ab bs) (an : Option Addr) (nn cn : Nat) (ts : List Bool) (hts : ts.length = nn) (hn20 : nn ≤ 20) (AT : ArgT base w an ts) (fuse : Int) (hf : fuse ≤ 9223372036854775807) (names : Int) (vk vs : Value) :
    Calls Tryz.prog 26 #[.pointer (some ⟨L.d, 0, none⟩), roundV ab nb cb an nn cn fuse names vk vs] w (Played w base L T (M + 30) (n + 100) (m + 300000)) := by
  unfold roundV
  obtain ⟨i0, hi, hz0, hz1, hz2⟩ := info_parts info_bat
  obtain ⟨cs, hcs⟩ : ∃ cs : Array Value, cs = #[.slice ab nb cb, .slice an nn cn, .int .i64 fuse, .int .i64 names, vk, vs] := ⟨_, rfl⟩
  have hbx : Below w.heap.size w (w.alloc (.cells cs 72)) := (Below.refl _ _).alloc (Nat.le_refl _) _
  have hb0 : BoxAt (w.alloc (.cells cs 72)) L w.heap.size cs := ⟨heap_alloc_new w _, fun h => absurd (D.holds.own_lt h) (Nat.lt_irrefl _)⟩
  have D0 := D.below hbx
  have c2 := hb0.cell 2
  have HFU := Lib.hid (fuse_any _ D0.holds fuse)
  rw [hcs] at HFU c2
  have HB0 := Lib.hid hb0; have HD0 := Lib.hid D0; have HBX := Lib.hid hbx; have HCS := Lib.hid hcs
  have HK := Lib.hid (fun W (hb : Below base w W) => K.next hb)
  have HLO := Lib.hid D.lo
  have HG := Lib.hid (D.good.light fuse hf)
  have HNX := Lib.hid (fun (W : World) (L1 : Lay) (hD : Disc W base L1 (S.light fuse) n m) (hb : Below base w W) => next_calm hD (by omega) (by omega) (K.next hb) (C.like rfl rfl rfl rfl rfl) hM (by omega))
  obtain ⟨N, hN⟩ : ∃ N, N = Wl.nxt (us.map (·.1)) := ⟨_, rfl⟩
  have HN : Hid (N < 18446744073709551616) := Lib.hid (by have := Wl.nxt_le hM; omega)
  have HHOW := Lib.hid (fun E S' (hR : Wl.beg (S.light fuse) (Wl.nxt (us.map (·.1))) = (E, S')) => begun_how (T := T) hR (C.like rfl rfl rfl rfl rfl) hd hM (by omega) hT)
  rw [← hN] at HNX HHOW
  generalize Wl.beg (S.light fuse) N = R at *
  obtain ⟨E0, S0⟩ := R
  have HHOW0 := Lib.hid (HHOW.out E0 S0 rfl)
  have HBS := Lib.hid (And.intro hbs AB); have HTS := Lib.hid (And.intro hts AT)
  have hbi : (nb : Int) ≤ 20 := by omega
  have hni : (nn : Int) ≤ 20 := by omega
  clear hcs hbx hb0 D0 hN HHOW C hM hT K D AB AT hbs hts
  go_enter Tryz.func26, Tryz.ntmps26
  go_wp2_with fail
  refine HFU.out.mono ?_
  rintro e w1 ⟨rfl, hg⟩
  rw [← HCS.out] at hg
  obtain ⟨L1, hld1, hD1, hB1, hK1⟩ := HD0.out.onward hg HG.out
  have hbw1 : Below base w w1 := (HBX.out.mono HLO.out).trans hB1
  have hn1 := HNX.out w1 L1 hD1 hbw1
  rw [hld1] at hn1
  have HN1 := Lib.hid hn1
  have HL1 := Lib.hid (And.intro hld1 (And.intro hbw1 (And.intro (hK1.below HBX.out) (HB0.out.kept hK1))))
  clear hg hld1 hD1 hB1 hK1 hbw1 hn1 HNX HFU c2
  go_wp2_with fail
  refine HN1.out.mono ?_
  rintro e w2 ⟨p, L2, rfl, hld2, hD2, hB2, hK2, hc2⟩
  dsimp only at hD2 hc2
  have HST : Hid (Stand w base L T (M + 1) (n + 2) m cs w.heap.size w2 (.slice none 0 0) (.slice none 0 0) p E0 [] L2 S0) := Lib.hid ⟨hld2.trans HL1.out.1, hD2, HL1.out.2.1.trans hB2, HL1.out.2.2.1.trans hK2, HL1.out.2.2.2.kept hK2, OwnsA.nil _ _ _, off_nil _, by
    rw [List.append_nil]
    rcases HHOW0.out with ⟨rfl, hmid⟩ | ⟨rfl, hfin⟩
    · rcases hc2 with ⟨_, g, rfl, hl⟩ | ⟨h, _⟩
      · rw [HL1.out.1] at hl
        exact Or.inl ⟨by decide, rfl, g, us, N, S.next, [], rfl, hl, hmid, HN.out⟩
      · exact absurd rfl h
    · exact Or.inr ⟨rfl, [], hfin [], by simp, OwnsA.nil _ _ _, off_nil _⟩⟩
  clear hld2 hD2 hB2 hK2 hc2 HL1 HN1 HHOW0
  unfold errV
  dsimp only
  go_wp2_with fail
  -- the loop
  go_loopw [4, 5, 6, 7, 8] (fun v1 v2 l e z wr => ∃ (j : Nat) (p : Option Addr) (E : Int), j ≤ nb ∧ l = .pointer p ∧ e = .int .i64 E ∧ z = .int .i64 (j : Int) ∧ Hid (∃ told Lr Sr, told.length ≤ j ∧ Stand w base L T (M + 1 + j) (n + 2 + 4 * j) (m + 14000 * j) cs w.heap.size wr v1 v2 p E told Lr Sr)) (fun _ _ _ _ z _ => nb - (intOf z).toNat)
  case atStart => exact ⟨0, p, E0, Nat.zero_le _, rfl, rfl, rfl, Lib.hid ⟨[], L2, S0, Nat.le_refl _, HST.out⟩⟩
  case round =>
    obtain ⟨j, p, E, hj, rfl, rfl, rfl, HK0⟩ := hrel
    obtain ⟨told, Lr, Sr, htl, ST⟩ := HK0.out
    have HTL := Lib.hid htl
    have b0 := ST.box.cell 0
    have b1 := ST.box.cell 1
    rw [HCS.out] at b0 b1
    clear HST HK0
    rcases ST.how with ⟨hE, hv2, g, us', k, i', xs, hp, hl, hmid, hk⟩ | ⟨hE, U, hfin, hU, hr2, ho2⟩
    case inr =>
      subst hE
      have HF := Lib.hid (And.intro hfin (And.intro hU (And.intro hr2 ho2)))
      clear hfin hU hr2 ho2
      by_cases hlt : j < nb
      · have hlt2 : (j : Int) < nb := by omega
        go_wp2_with fail
        go_ret2
        exact ⟨_, _, Lr, Sr, told, U, rfl, ST.hd, ST.disc.mono (by omega) (by omega), ST.below, ST.kept, Wl.Fin.mono HF.out.1 (by omega), by omega, HF.out.2.1, ST.row1, HF.out.2.2.1, ST.off1, HF.out.2.2.2⟩
      · have hlt2 : ¬ (j : Int) < nb := by omega
        go_wp2_with fail
        go_ret2
        exact ⟨_, _, Lr, Sr, told, U, rfl, ST.hd, ST.disc.mono (by omega) (by omega), ST.below, ST.kept, Wl.Fin.mono HF.out.1 (by omega), by omega, HF.out.2.1, ST.row1, HF.out.2.2.1, ST.off1, HF.out.2.2.2⟩
    case inl =>
      subst hv2 hp
      have HMQ := Lib.hid hmid; have HLV := Lib.hid hl; have HKQ := Lib.hid hk
      clear hmid hl hk
      have hE7 : ¬ E = 7 := hE
      by_cases hlt : j < nb
      · have hlt2 : (j : Int) < nb := by omega
        obtain ⟨⟨seq, ops⟩, hbj⟩ : ∃ b, bs[j]? = some b := ⟨_, List.getElem?_eq_getElem (by have := HBS.out.1; omega)⟩
        have HBJ := Lib.hid hbj
        obtain ⟨gb, ob, _, hab, _⟩ := HBS.out.2 j (seq, ops) hbj
        subst hab
        clear hbj
        have SQ := Lib.hid ST
        by_cases hnew : ts[j]? = some true
        · have hjn : (j : Int) < nn := by
            have := (List.getElem?_eq_some_iff.1 hnew).1
            have := HTS.out.1
            omega
          obtain ⟨gt, ot, hat, hgt, t0⟩ := HTS.out.2.below ST.below j true hnew
          subst hat
          clear hnew
          have hml := Wl.nxt_le HMQ.out.most
          have HNC := next_calm ST.disc (by omega) (by omega) (HK.out _ ST.below) HMQ.out.calm HMQ.out.most (by omega)
          have HHW := Lib.hid (fun E S' hR => begun_how (E := E) (S' := S') hR HMQ.out.calm HMQ.out.on HMQ.out.most (by omega) HMQ.out.held)
          rw [ST.hd] at HNC
          generalize Wl.nxt ((us' ++ [(k, i')]).map (·.1)) = N2 at *
          generalize Wl.beg Sr N2 = R2 at *
          obtain ⟨E2, S2⟩ := R2
          have HH2 := Lib.hid (HHW.out E2 S2 rfl)
          have HNC2 := Lib.hid HNC
          have HKN : Hid (N2 < 18446744073709551616) := Lib.hid (by omega)
          clear HNC HHW hml SQ
          have ST0 := Lib.hid ST
          clear ST
          go_wp2_with fail
          refine HNC2.out.mono ?_
          rintro x w3 ⟨p3, L3, rfl, hld, hD, hB, hK, hc⟩
          dsimp only at hD hc
          have hrow := ST0.out.row1.kept hK hB ST0.out.off1
          rcases HH2.out with ⟨hE2, hmid2⟩ | ⟨hE2, hfin2⟩
          · subst hE2
            obtain ⟨g3, rfl, hl3⟩ : ∃ g3, p3 = some ⟨g3, 0, none⟩ ∧ Live w3 L3 g3 L.d N2 := by
              rcases hc with ⟨_, g3, h1, h2⟩ | ⟨h, _⟩
              · rw [ST0.out.hd] at h2; exact ⟨g3, h1, h2⟩
              · exact absurd rfl h
            have SQ : Hid (Stand w base L T (M + 1 + j + 1) (n + 2 + 4 * j + 2) (m + 14000 * j) cs w.heap.size w3 u4 (.slice none 0 0) (some ⟨g3, 0, none⟩) 0 told L3 S2) := Lib.hid ⟨hld.trans ST0.out.hd, hD, ST0.out.below.trans hB, ST0.out.kept.trans hK, ST0.out.box.kept hK, hrow.1, hrow.2, Or.inl ⟨by decide, rfl, g3, _, N2, _, _, rfl, hl3, hmid2, HKN.out⟩⟩
            have HMQ := Lib.hid hmid2; have HLV := Lib.hid hl3; have HKQ := HKN
            clear hmid2 hl3 hc hrow hld hD hB hK b0 b1 t0 hgt HH2 HNC2 ST0 HKN
            unfold errV
            dsimp only
            obtain ⟨gb2, ob2, vi2, hab2, hgb2, e0, e1, hob, hsq⟩ := HBS.out.2.below SQ.out.below j (seq, ops) HBJ.out
            simp only [Option.some.injEq, Addr.mk.injEq, and_true] at hab2
            obtain ⟨rfl, rfl⟩ := hab2
            obtain ⟨a3, c3, rfl⟩ := hob.slice
            dsimp only at e0 e1 hob hsq
            have hlv := HLV.out
            rw [← SQ.out.hd] at hlv
            have had := add_disc SQ.out.disc (by omega) (by omega) hlv HKQ.out (HK.out _ SQ.out.below) seq a3 ops.length c3 ops (hob.sees SQ.out.disc.lo) hsq
            have HOB := Lib.hid hob
            obtain ⟨ol, hol⟩ : ∃ ol, ol = ops.length := ⟨_, rfl⟩
            rw [← hol] at had e1 HOB
            clear hol
            unfold Bn.batV at had
            have b0 : World.cell? w3 ⟨w.heap.size, 0, none⟩ = some (.slice (some ⟨gb, ob, none⟩) nb cb) := by rw [SQ.out.box.cell 0, HCS.out]; rfl
            rcases Wl.add_step HMQ.out (seq, ops) with ⟨e, he, h0, h7, _⟩ | ⟨S', he, hmid'⟩ | ⟨S', he, hfin⟩
            · rw [he] at had
              have HAD := Lib.hid had
              clear had hlv he hob
              have h0' : ¬ e = 0 := h0
              have h7' : ¬ e = 7 := h7
              go_wp2_with fail
              refine HAD.out.mono ?_
              rintro x w4 ⟨rfl, L4, hld, hD, hB, hK⟩
              have hrow := SQ.out.row1.kept hK hB SQ.out.off1
              have HS4 : Hid (Stand w base L T (M + 1 + (j + 1)) (n + 2 + 4 * (j + 1)) (m + 14000 * (j + 1)) cs w.heap.size w4 u4 (.slice none 0 0) (some ⟨g3, 0, none⟩) e told L4 S2) := Lib.hid ⟨hld.trans SQ.out.hd, hD.mono (by omega) (by omega), SQ.out.below.trans hB, SQ.out.kept.trans hK, SQ.out.box.kept hK, hrow.1, hrow.2, Or.inl ⟨h7, rfl, g3, _, N2, _, _, rfl, hK.live HLV.out, HMQ.out.mono (by omega), HKQ.out⟩⟩
              unfold errV
              clear hld hD hB hK hrow e0 e1 b0 HAD
              go_wp2_with fail
              go_roundw
              case rel => exact ⟨j + 1, _, e, by omega, rfl, rfl, by go_num, Lib.hid ⟨told, L4, S2, by have := HTL.out; omega, HS4.out⟩⟩
              case measure => simp [intOf]; omega
            · rw [he] at had
              have HAD := Lib.hid had
              have HM' := Lib.hid hmid'
              clear had hlv he hob hmid'
              go_wp2_with fail
              refine HAD.out.mono ?_
              rintro x w4 ⟨rfl, L4, hld, hD, hB, hK⟩
              have hrow := SQ.out.row1.kept hK hB SQ.out.off1
              obtain ⟨⟨ps, hr0, ha0⟩, ho0⟩ := hrow
              have hbx4 := SQ.out.box.kept hK
              have b0' : w4.cell? ⟨w.heap.size, 0, none⟩ = some (.slice (some ⟨gb, ob, none⟩) nb cb) := by rw [hbx4.cell 0, HCS.out]; rfl
              have f0 : w4.cell? ⟨gb, ob + j * 2, none⟩ = some (.int .u64 (seq : Nat)) := (hB.cell (p := ⟨gb, ob + j * 2, none⟩) hgb2).trans e0
              have f1 : w4.cell? ⟨gb, ob + j * 2 + 1, none⟩ = some (.slice a3 ol c3) := (hB.cell (p := ⟨gb, ob + j * 2 + 1, none⟩) hgb2).trans e1
              have HX4 := Lib.hid (And.intro hld (And.intro hD (And.intro hB (And.intro hK (And.intro ha0 (And.intro ho0 hbx4))))))
              have HOB4 := Lib.hid (HOB.out.below hB)
              have hsz4 : w.heap.size ≤ w4.heap.size := by have := SQ.out.below.size; have := hB.size; omega
              have HTL2 : Hid (told.length ≤ 20) := Lib.hid (by have := HTL.out; omega)
              unfold errV
              clear hld hD hB hK ha0 ho0 hbx4 e0 e1 b0 HAD
              go_wp2_with (at_builtin; go_must (refine wpList_append_at rfl _ _ 36 rfl w.heap.size 32 i0 _ 2 32 Tryz.underlying36 hi hz0 hz1 hz2 rfl (by decide) _ _ _ rfl (hr0.alloc _) ⟨w4.heap.size, 0, none⟩ 1 1 [_, _] rfl rfl (World.news_of_block (cs := #[_, _]) (fr := (0, 0)) (heap_alloc_new w4 _)) ?c2 ?c3 ?c4 ?c5 ?_))
              case c2 => intro u hu; simp at hu; rcases hu with hu | hu <;> subst hu <;> rfl
              case c3 => have := HTL2.out; unfold maxLen; omega
              case c4 => have := HTL2.out; omega
              case c5 => simp; omega
              intro v6 w6 hown6 hgrow6 hv6
              obtain ⟨W5, hW5⟩ : ∃ W, W = w4.alloc (.cells #[.int .u64 (seq : Nat), .slice a3 ol c3] 32) := ⟨_, rfl⟩
              have hb45 : Below w4.heap.size w4 W5 := by rw [hW5]; exact (Below.refl _ _).alloc (Nat.le_refl _) _
              have hr5 : W5.ownsRow w.heap.size 32 2 u4 told.length (ps.flatMap cellsB) := by rw [hW5]; exact hr0.alloc _
              rw [← hW5] at hgrow6
              have hv6' := hv6
              rw [show w4.heap.size + 1 = W5.heap.size by rw [hW5, World.size_alloc]] at hv6'
              have hb45' := hb45.mono HX4.out.2.1.lo
              obtain ⟨R1, R2, R3, R4, R5, R6, R7⟩ := row_pushed (seq := seq) (ops := ops) HLO.out (HX4.out.2.1.below hb45) ((SQ.out.kept.trans HX4.out.2.2.2.1).trans (fun g o hg hn => ⟨(hb45.block g (heap_lt hg)).trans hg, hn⟩)) (HX4.out.2.2.2.2.2.2.below hb45) hr5 (HX4.out.2.2.2.2.1.below hb45') HX4.out.2.2.2.2.2.1 (HOB4.out.below hb45') hown6 hgrow6 hv6'
              have HS6 : Hid (Stand w base L T (M + 1 + (j + 1)) (n + 2 + 4 * (j + 1)) (m + 14000 * (j + 1)) cs w.heap.size w6 v6 (.slice none 0 0) (some ⟨g3, 0, none⟩) 0 (told ++ [(seq, ops)]) L4 S') := Lib.hid ⟨HX4.out.1.trans SQ.out.hd, R3.mono (by omega) (by omega), ((SQ.out.below.trans HX4.out.2.2.1).trans hb45').trans R6, R4, R5, R1, R2, Or.inl ⟨by decide, rfl, g3, _, N2, _, _, rfl, R7 _ _ _ ((HX4.out.2.2.2.1.live HLV.out).below hb45), by rw [← List.append_assoc]; exact HM'.out.mono (by omega), HKQ.out⟩⟩
              clear R1 R2 R3 R4 R5 R6 R7 hr0 hr5 hb45 hb45' hown6 hgrow6 hv6 hv6' hW5 b0' f0 f1
              go_wp2_with fail
              go_roundw
              case rel => exact ⟨j + 1, _, 0, by omega, rfl, rfl, by go_num, Lib.hid ⟨told ++ [(seq, ops)], L4, S', by rw [List.length_append]; have := HTL.out; simp; omega, HS6.out⟩⟩
              case measure => simp [intOf]; omega
            · rw [he] at had
              have HAD := Lib.hid had
              have HF' := Lib.hid hfin
              clear had hlv he hob hfin
              go_wp2_with fail
              refine HAD.out.mono ?_
              rintro x w4 ⟨rfl, L4, hld, hD, hB, hK⟩
              have hrow := SQ.out.row1.kept hK hB SQ.out.off1
              have hbx4 := SQ.out.box.kept hK
              have b0' : w4.cell? ⟨w.heap.size, 0, none⟩ = some (.slice (some ⟨gb, ob, none⟩) nb cb) := by rw [hbx4.cell 0, HCS.out]; rfl
              have f0 : w4.cell? ⟨gb, ob + j * 2, none⟩ = some (.int .u64 (seq : Nat)) := (hB.cell (p := ⟨gb, ob + j * 2, none⟩) hgb2).trans e0
              have f1 : w4.cell? ⟨gb, ob + j * 2 + 1, none⟩ = some (.slice a3 ol c3) := (hB.cell (p := ⟨gb, ob + j * 2 + 1, none⟩) hgb2).trans e1
              have HX4 := Lib.hid (And.intro hld (And.intro hD (And.intro hB (And.intro hK (And.intro hrow.1 (And.intro hrow.2 hbx4))))))
              have HOB4 := Lib.hid (HOB.out.below hB)
              have hsz4 : w.heap.size ≤ w4.heap.size := by have := SQ.out.below.size; have := hB.size; omega
              have hr0 : w4.ownsRow w.heap.size 32 2 (.slice none 0 0) 0 [] := World.ownsRow_nil ..
              unfold errV
              clear hld hD hB hK hrow hbx4 e0 e1 b0 HAD
              go_wp2_with (at_builtin; go_must (refine wpList_append_at rfl _ _ 36 rfl w.heap.size 32 i0 _ 2 32 Tryz.underlying36 hi hz0 hz1 hz2 rfl (by decide) _ _ _ rfl (hr0.alloc _) ⟨w4.heap.size, 0, none⟩ 1 1 [_, _] rfl rfl (World.news_of_block (cs := #[_, _]) (fr := (0, 0)) (heap_alloc_new w4 _)) ?c2 ?c3 ?c4 ?c5 ?_))
              case c2 => intro u hu; simp at hu; rcases hu with hu | hu <;> subst hu <;> rfl
              case c3 => unfold maxLen; omega
              case c4 => omega
              case c5 => simp; omega
              intro v6 w6 hown6 hgrow6 hv6
              obtain ⟨W5, hW5⟩ : ∃ W, W = w4.alloc (.cells #[.int .u64 (seq : Nat), .slice a3 ol c3] 32) := ⟨_, rfl⟩
              have hb45 : Below w4.heap.size w4 W5 := by rw [hW5]; exact (Below.refl _ _).alloc (Nat.le_refl _) _
              have hr5 : W5.ownsRow w.heap.size 32 2 (.slice none 0 0) 0 [] := by rw [hW5]; exact hr0.alloc _
              rw [← hW5] at hgrow6
              have hv6' := hv6
              rw [show w4.heap.size + 1 = W5.heap.size by rw [hW5, World.size_alloc]] at hv6'
              have hb45' := hb45.mono HX4.out.2.1.lo
              have hb56 : Below W5.heap.size W5 w6 := ⟨hgrow6.os, hgrow6.tape, hgrow6.output, hgrow6.size, fun k hk => hgrow6.block k hk (by simp [Value.ownBlock])⟩
              obtain ⟨R1, R2, R3, R4, R5, R6, R7⟩ := row_pushed (seq := seq) (ops := ops) (told := []) (ps := []) HLO.out (HX4.out.2.1.below hb45) ((SQ.out.kept.trans HX4.out.2.2.2.1).trans (fun g o hg hn => ⟨(hb45.block g (heap_lt hg)).trans hg, hn⟩)) (HX4.out.2.2.2.2.2.2.below hb45) hr5 trivial (off_nil _) (HOB4.out.below hb45') hown6 hgrow6 hv6'
              have HR1 := Lib.hid ((HX4.out.2.2.2.2.1.below hb45 HX4.out.2.1.lo).below hb56 (HX4.out.2.1.below hb45).lo)
              have HS6 : Hid (Stand w base L T (M + 1 + (j + 1)) (n + 2 + 4 * (j + 1)) (m + 14000 * (j + 1)) cs w.heap.size w6 u4 v6 (some ⟨g3, 0, none⟩) 7 told L4 S') := Lib.hid ⟨HX4.out.1.trans SQ.out.hd, R3.mono (by omega) (by omega), ((SQ.out.below.trans HX4.out.2.2.1).trans hb45').trans R6, R4, R5, HR1.out, HX4.out.2.2.2.2.2.1, Or.inr ⟨rfl, [(seq, ops)], Wl.Fin.mono HF'.out (by omega), by simp, R1, R2⟩⟩
              clear R1 R2 R3 R4 R5 R6 R7 hr0 hr5 hb45 hb45' hb56 hown6 hgrow6 hv6 hv6' hW5 b0' f0 f1
              go_wp2_with fail
              go_roundw
              case rel => exact ⟨j + 1, _, 7, by omega, rfl, rfl, by go_num, Lib.hid ⟨told, L4, S', by have := HTL.out; omega, HS6.out⟩⟩
              case measure => simp [intOf]; omega
          · subst hE2
            have HF2 := Lib.hid (hfin2 [])
            have HX := Lib.hid (And.intro (hld.trans ST0.out.hd) (And.intro hD (And.intro hB (And.intro hK hrow))))
            clear hc hrow hld hD hB hK b0 b1 t0 hgt HH2 HNC2 hfin2
            unfold errV
            dsimp only
            go_wp2_with fail
            go_ret2
            exact ⟨_, _, L3, S2, told, [], rfl, HX.out.1, HX.out.2.1.mono (by omega) (by omega), ST0.out.below.trans HX.out.2.2.1, ST0.out.kept.trans HX.out.2.2.2.1, Wl.Fin.mono HF2.out (by omega), by have := HTL.out; omega, by simp, HX.out.2.2.2.2.1, OwnsA.nil _ _ _, HX.out.2.2.2.2.2, off_nil _⟩
        · by_cases hjn2 : j < nn
          · have hjn : (j : Int) < nn := by omega
            obtain ⟨t, ht⟩ : ∃ t, ts[j]? = some t := ⟨_, List.getElem?_eq_getElem (by have := HTS.out.1; omega)⟩
            have htf : t = false := by
              cases t with
              | false => rfl
              | true => exact absurd ht hnew
            subst htf
            obtain ⟨gt, ot, hat, hgt, t0⟩ := HTS.out.2.below ST.below j false ht
            subst hat
            clear hnew ht ST
            obtain ⟨gb2, ob2, vi2, hab2, hgb2, e0, e1, hob, hsq⟩ := HBS.out.2.below SQ.out.below j (seq, ops) HBJ.out
            simp only [Option.some.injEq, Addr.mk.injEq, and_true] at hab2
            obtain ⟨rfl, rfl⟩ := hab2
            obtain ⟨a3, c3, rfl⟩ := hob.slice
            dsimp only at e0 e1 hob hsq
            have hlv := HLV.out
            rw [← SQ.out.hd] at hlv
            have had := add_disc SQ.out.disc (by omega) (by omega) hlv HKQ.out (HK.out _ SQ.out.below) seq a3 ops.length c3 ops (hob.sees SQ.out.disc.lo) hsq
            have HOB := Lib.hid hob
            obtain ⟨ol, hol⟩ : ∃ ol, ol = ops.length := ⟨_, rfl⟩
            rw [← hol] at had e1 HOB
            clear hol
            unfold Bn.batV at had
            have b0 : World.cell? wr ⟨w.heap.size, 0, none⟩ = some (.slice (some ⟨gb, ob, none⟩) nb cb) := by rw [SQ.out.box.cell 0, HCS.out]; rfl
            rcases Wl.add_step HMQ.out (seq, ops) with ⟨e, he, h0, h7, _⟩ | ⟨S', he, hmid'⟩ | ⟨S', he, hfin⟩
            · rw [he] at had
              have HAD := Lib.hid had
              clear had hlv he hob
              have h0' : ¬ e = 0 := h0
              have h7' : ¬ e = 7 := h7
              go_wp2_with fail
              refine HAD.out.mono ?_
              rintro x w4 ⟨rfl, L4, hld, hD, hB, hK⟩
              have hrow := SQ.out.row1.kept hK hB SQ.out.off1
              have HS4 : Hid (Stand w base L T (M + 1 + (j + 1)) (n + 2 + 4 * (j + 1)) (m + 14000 * (j + 1)) cs w.heap.size w4 u4 (.slice none 0 0) (some ⟨g, 0, none⟩) e told L4 Sr) := Lib.hid ⟨hld.trans SQ.out.hd, hD.mono (by omega) (by omega), SQ.out.below.trans hB, SQ.out.kept.trans hK, SQ.out.box.kept hK, hrow.1, hrow.2, Or.inl ⟨h7, rfl, g, _, k, _, _, rfl, hK.live HLV.out, HMQ.out.mono (by omega), HKQ.out⟩⟩
              unfold errV
              clear hld hD hB hK hrow e0 e1 b0 HAD
              go_wp2_with fail
              go_roundw
              case rel => exact ⟨j + 1, _, e, by omega, rfl, rfl, by go_num, Lib.hid ⟨told, L4, Sr, by have := HTL.out; omega, HS4.out⟩⟩
              case measure => simp [intOf]; omega
            · rw [he] at had
              have HAD := Lib.hid had
              have HM' := Lib.hid hmid'
              clear had hlv he hob hmid'
              go_wp2_with fail
              refine HAD.out.mono ?_
              rintro x w4 ⟨rfl, L4, hld, hD, hB, hK⟩
              have hrow := SQ.out.row1.kept hK hB SQ.out.off1
              obtain ⟨⟨ps, hr0, ha0⟩, ho0⟩ := hrow
              have hbx4 := SQ.out.box.kept hK
              have b0' : w4.cell? ⟨w.heap.size, 0, none⟩ = some (.slice (some ⟨gb, ob, none⟩) nb cb) := by rw [hbx4.cell 0, HCS.out]; rfl
              have f0 : w4.cell? ⟨gb, ob + j * 2, none⟩ = some (.int .u64 (seq : Nat)) := (hB.cell (p := ⟨gb, ob + j * 2, none⟩) hgb2).trans e0
              have f1 : w4.cell? ⟨gb, ob + j * 2 + 1, none⟩ = some (.slice a3 ol c3) := (hB.cell (p := ⟨gb, ob + j * 2 + 1, none⟩) hgb2).trans e1
              have HX4 := Lib.hid (And.intro hld (And.intro hD (And.intro hB (And.intro hK (And.intro ha0 (And.intro ho0 hbx4))))))
              have HOB4 := Lib.hid (HOB.out.below hB)
              have hsz4 : w.heap.size ≤ w4.heap.size := by have := SQ.out.below.size; have := hB.size; omega
              have HTL2 : Hid (told.length ≤ 20) := Lib.hid (by have := HTL.out; omega)
              unfold errV
              clear hld hD hB hK ha0 ho0 hbx4 e0 e1 b0 HAD
              go_wp2_with (at_builtin; go_must (refine wpList_append_at rfl _ _ 36 rfl w.heap.size 32 i0 _ 2 32 Tryz.underlying36 hi hz0 hz1 hz2 rfl (by decide) _ _ _ rfl (hr0.alloc _) ⟨w4.heap.size, 0, none⟩ 1 1 [_, _] rfl rfl (World.news_of_block (cs := #[_, _]) (fr := (0, 0)) (heap_alloc_new w4 _)) ?c2 ?c3 ?c4 ?c5 ?_))
              case c2 => intro u hu; simp at hu; rcases hu with hu | hu <;> subst hu <;> rfl
              case c3 => have := HTL2.out; unfold maxLen; omega
              case c4 => have := HTL2.out; omega
              case c5 => simp; omega
              intro v6 w6 hown6 hgrow6 hv6
              obtain ⟨W5, hW5⟩ : ∃ W, W = w4.alloc (.cells #[.int .u64 (seq : Nat), .slice a3 ol c3] 32) := ⟨_, rfl⟩
              have hb45 : Below w4.heap.size w4 W5 := by rw [hW5]; exact (Below.refl _ _).alloc (Nat.le_refl _) _
              have hr5 : W5.ownsRow w.heap.size 32 2 u4 told.length (ps.flatMap cellsB) := by rw [hW5]; exact hr0.alloc _
              rw [← hW5] at hgrow6
              have hv6' := hv6
              rw [show w4.heap.size + 1 = W5.heap.size by rw [hW5, World.size_alloc]] at hv6'
              have hb45' := hb45.mono HX4.out.2.1.lo
              obtain ⟨R1, R2, R3, R4, R5, R6, R7⟩ := row_pushed (seq := seq) (ops := ops) HLO.out (HX4.out.2.1.below hb45) ((SQ.out.kept.trans HX4.out.2.2.2.1).trans (fun g o hg hn => ⟨(hb45.block g (heap_lt hg)).trans hg, hn⟩)) (HX4.out.2.2.2.2.2.2.below hb45) hr5 (HX4.out.2.2.2.2.1.below hb45') HX4.out.2.2.2.2.2.1 (HOB4.out.below hb45') hown6 hgrow6 hv6'
              have HS6 : Hid (Stand w base L T (M + 1 + (j + 1)) (n + 2 + 4 * (j + 1)) (m + 14000 * (j + 1)) cs w.heap.size w6 v6 (.slice none 0 0) (some ⟨g, 0, none⟩) 0 (told ++ [(seq, ops)]) L4 S') := Lib.hid ⟨HX4.out.1.trans SQ.out.hd, R3.mono (by omega) (by omega), ((SQ.out.below.trans HX4.out.2.2.1).trans hb45').trans R6, R4, R5, R1, R2, Or.inl ⟨by decide, rfl, g, _, k, _, _, rfl, R7 _ _ _ ((HX4.out.2.2.2.1.live HLV.out).below hb45), by rw [← List.append_assoc]; exact HM'.out.mono (by omega), HKQ.out⟩⟩
              clear R1 R2 R3 R4 R5 R6 R7 hr0 hr5 hb45 hb45' hown6 hgrow6 hv6 hv6' hW5 b0' f0 f1
              go_wp2_with fail
              go_roundw
              case rel => exact ⟨j + 1, _, 0, by omega, rfl, rfl, by go_num, Lib.hid ⟨told ++ [(seq, ops)], L4, S', by rw [List.length_append]; have := HTL.out; simp; omega, HS6.out⟩⟩
              case measure => simp [intOf]; omega
            · rw [he] at had
              have HAD := Lib.hid had
              have HF' := Lib.hid hfin
              clear had hlv he hob hfin
              go_wp2_with fail
              refine HAD.out.mono ?_
              rintro x w4 ⟨rfl, L4, hld, hD, hB, hK⟩
              have hrow := SQ.out.row1.kept hK hB SQ.out.off1
              have hbx4 := SQ.out.box.kept hK
              have b0' : w4.cell? ⟨w.heap.size, 0, none⟩ = some (.slice (some ⟨gb, ob, none⟩) nb cb) := by rw [hbx4.cell 0, HCS.out]; rfl
              have f0 : w4.cell? ⟨gb, ob + j * 2, none⟩ = some (.int .u64 (seq : Nat)) := (hB.cell (p := ⟨gb, ob + j * 2, none⟩) hgb2).trans e0
              have f1 : w4.cell? ⟨gb, ob + j * 2 + 1, none⟩ = some (.slice a3 ol c3) := (hB.cell (p := ⟨gb, ob + j * 2 + 1, none⟩) hgb2).trans e1
              have HX4 := Lib.hid (And.intro hld (And.intro hD (And.intro hB (And.intro hK (And.intro hrow.1 (And.intro hrow.2 hbx4))))))
              have HOB4 := Lib.hid (HOB.out.below hB)
              have hsz4 : w.heap.size ≤ w4.heap.size := by have := SQ.out.below.size; have := hB.size; omega
              have hr0 : w4.ownsRow w.heap.size 32 2 (.slice none 0 0) 0 [] := World.ownsRow_nil ..
              unfold errV
              clear hld hD hB hK hrow hbx4 e0 e1 b0 HAD
              go_wp2_with (at_builtin; go_must (refine wpList_append_at rfl _ _ 36 rfl w.heap.size 32 i0 _ 2 32 Tryz.underlying36 hi hz0 hz1 hz2 rfl (by decide) _ _ _ rfl (hr0.alloc _) ⟨w4.heap.size, 0, none⟩ 1 1 [_, _] rfl rfl (World.news_of_block (cs := #[_, _]) (fr := (0, 0)) (heap_alloc_new w4 _)) ?c2 ?c3 ?c4 ?c5 ?_))
              case c2 => intro u hu; simp at hu; rcases hu with hu | hu <;> subst hu <;> rfl
              case c3 => unfold maxLen; omega
              case c4 => omega
              case c5 => simp; omega
              intro v6 w6 hown6 hgrow6 hv6
              obtain ⟨W5, hW5⟩ : ∃ W, W = w4.alloc (.cells #[.int .u64 (seq : Nat), .slice a3 ol c3] 32) := ⟨_, rfl⟩
              have hb45 : Below w4.heap.size w4 W5 := by rw [hW5]; exact (Below.refl _ _).alloc (Nat.le_refl _) _
              have hr5 : W5.ownsRow w.heap.size 32 2 (.slice none 0 0) 0 [] := by rw [hW5]; exact hr0.alloc _
              rw [← hW5] at hgrow6
              have hv6' := hv6
              rw [show w4.heap.size + 1 = W5.heap.size by rw [hW5, World.size_alloc]] at hv6'
              have hb45' := hb45.mono HX4.out.2.1.lo
              have hb56 : Below W5.heap.size W5 w6 := ⟨hgrow6.os, hgrow6.tape, hgrow6.output, hgrow6.size, fun k hk => hgrow6.block k hk (by simp [Value.ownBlock])⟩
              obtain ⟨R1, R2, R3, R4, R5, R6, R7⟩ := row_pushed (seq := seq) (ops := ops) (told := []) (ps := []) HLO.out (HX4.out.2.1.below hb45) ((SQ.out.kept.trans HX4.out.2.2.2.1).trans (fun g o hg hn => ⟨(hb45.block g (heap_lt hg)).trans hg, hn⟩)) (HX4.out.2.2.2.2.2.2.below hb45) hr5 trivial (off_nil _) (HOB4.out.below hb45') hown6 hgrow6 hv6'
              have HR1 := Lib.hid ((HX4.out.2.2.2.2.1.below hb45 HX4.out.2.1.lo).below hb56 (HX4.out.2.1.below hb45).lo)
              have HS6 : Hid (Stand w base L T (M + 1 + (j + 1)) (n + 2 + 4 * (j + 1)) (m + 14000 * (j + 1)) cs w.heap.size w6 u4 v6 (some ⟨g, 0, none⟩) 7 told L4 S') := Lib.hid ⟨HX4.out.1.trans SQ.out.hd, R3.mono (by omega) (by omega), ((SQ.out.below.trans HX4.out.2.2.1).trans hb45').trans R6, R4, R5, HR1.out, HX4.out.2.2.2.2.2.1, Or.inr ⟨rfl, [(seq, ops)], Wl.Fin.mono HF'.out (by omega), by simp, R1, R2⟩⟩
              clear R1 R2 R3 R4 R5 R6 R7 hr0 hr5 hb45 hb45' hb56 hown6 hgrow6 hv6 hv6' hW5 b0' f0 f1
              go_wp2_with fail
              go_roundw
              case rel => exact ⟨j + 1, _, 7, by omega, rfl, rfl, by go_num, Lib.hid ⟨told, L4, S', by have := HTL.out; omega, HS6.out⟩⟩
              case measure => simp [intOf]; omega
          · have hjn : ¬ (j : Int) < nn := by omega
            clear hnew ST
            obtain ⟨gb2, ob2, vi2, hab2, hgb2, e0, e1, hob, hsq⟩ := HBS.out.2.below SQ.out.below j (seq, ops) HBJ.out
            simp only [Option.some.injEq, Addr.mk.injEq, and_true] at hab2
            obtain ⟨rfl, rfl⟩ := hab2
            obtain ⟨a3, c3, rfl⟩ := hob.slice
            dsimp only at e0 e1 hob hsq
            have hlv := HLV.out
            rw [← SQ.out.hd] at hlv
            have had := add_disc SQ.out.disc (by omega) (by omega) hlv HKQ.out (HK.out _ SQ.out.below) seq a3 ops.length c3 ops (hob.sees SQ.out.disc.lo) hsq
            have HOB := Lib.hid hob
            obtain ⟨ol, hol⟩ : ∃ ol, ol = ops.length := ⟨_, rfl⟩
            rw [← hol] at had e1 HOB
            clear hol
            unfold Bn.batV at had
            have b0 : World.cell? wr ⟨w.heap.size, 0, none⟩ = some (.slice (some ⟨gb, ob, none⟩) nb cb) := by rw [SQ.out.box.cell 0, HCS.out]; rfl
            rcases Wl.add_step HMQ.out (seq, ops) with ⟨e, he, h0, h7, _⟩ | ⟨S', he, hmid'⟩ | ⟨S', he, hfin⟩
            · rw [he] at had
              have HAD := Lib.hid had
              clear had hlv he hob
              have h0' : ¬ e = 0 := h0
              have h7' : ¬ e = 7 := h7
              go_wp2_with fail
              refine HAD.out.mono ?_
              rintro x w4 ⟨rfl, L4, hld, hD, hB, hK⟩
              have hrow := SQ.out.row1.kept hK hB SQ.out.off1
              have HS4 : Hid (Stand w base L T (M + 1 + (j + 1)) (n + 2 + 4 * (j + 1)) (m + 14000 * (j + 1)) cs w.heap.size w4 u4 (.slice none 0 0) (some ⟨g, 0, none⟩) e told L4 Sr) := Lib.hid ⟨hld.trans SQ.out.hd, hD.mono (by omega) (by omega), SQ.out.below.trans hB, SQ.out.kept.trans hK, SQ.out.box.kept hK, hrow.1, hrow.2, Or.inl ⟨h7, rfl, g, _, k, _, _, rfl, hK.live HLV.out, HMQ.out.mono (by omega), HKQ.out⟩⟩
              unfold errV
              clear hld hD hB hK hrow e0 e1 b0 HAD
              go_wp2_with fail
              go_roundw
              case rel => exact ⟨j + 1, _, e, by omega, rfl, rfl, by go_num, Lib.hid ⟨told, L4, Sr, by have := HTL.out; omega, HS4.out⟩⟩
              case measure => simp [intOf]; omega
            · rw [he] at had
              have HAD := Lib.hid had
              have HM' := Lib.hid hmid'
              clear had hlv he hob hmid'
              go_wp2_with fail
              refine HAD.out.mono ?_
              rintro x w4 ⟨rfl, L4, hld, hD, hB, hK⟩
              have hrow := SQ.out.row1.kept hK hB SQ.out.off1
              obtain ⟨⟨ps, hr0, ha0⟩, ho0⟩ := hrow
              have hbx4 := SQ.out.box.kept hK
              have b0' : w4.cell? ⟨w.heap.size, 0, none⟩ = some (.slice (some ⟨gb, ob, none⟩) nb cb) := by rw [hbx4.cell 0, HCS.out]; rfl
              have f0 : w4.cell? ⟨gb, ob + j * 2, none⟩ = some (.int .u64 (seq : Nat)) := (hB.cell (p := ⟨gb, ob + j * 2, none⟩) hgb2).trans e0
              have f1 : w4.cell? ⟨gb, ob + j * 2 + 1, none⟩ = some (.slice a3 ol c3) := (hB.cell (p := ⟨gb, ob + j * 2 + 1, none⟩) hgb2).trans e1
              have HX4 := Lib.hid (And.intro hld (And.intro hD (And.intro hB (And.intro hK (And.intro ha0 (And.intro ho0 hbx4))))))
              have HOB4 := Lib.hid (HOB.out.below hB)
              have hsz4 : w.heap.size ≤ w4.heap.size := by have := SQ.out.below.size; have := hB.size; omega
              have HTL2 : Hid (told.length ≤ 20) := Lib.hid (by have := HTL.out; omega)
              unfold errV
              clear hld hD hB hK ha0 ho0 hbx4 e0 e1 b0 HAD
              go_wp2_with (at_builtin; go_must (refine wpList_append_at rfl _ _ 36 rfl w.heap.size 32 i0 _ 2 32 Tryz.underlying36 hi hz0 hz1 hz2 rfl (by decide) _ _ _ rfl (hr0.alloc _) ⟨w4.heap.size, 0, none⟩ 1 1 [_, _] rfl rfl (World.news_of_block (cs := #[_, _]) (fr := (0, 0)) (heap_alloc_new w4 _)) ?c2 ?c3 ?c4 ?c5 ?_))
              case c2 => intro u hu; simp at hu; rcases hu with hu | hu <;> subst hu <;> rfl
              case c3 => have := HTL2.out; unfold maxLen; omega
              case c4 => have := HTL2.out; omega
              case c5 => simp; omega
              intro v6 w6 hown6 hgrow6 hv6
              obtain ⟨W5, hW5⟩ : ∃ W, W = w4.alloc (.cells #[.int .u64 (seq : Nat), .slice a3 ol c3] 32) := ⟨_, rfl⟩
              have hb45 : Below w4.heap.size w4 W5 := by rw [hW5]; exact (Below.refl _ _).alloc (Nat.le_refl _) _
              have hr5 : W5.ownsRow w.heap.size 32 2 u4 told.length (ps.flatMap cellsB) := by rw [hW5]; exact hr0.alloc _
              rw [← hW5] at hgrow6
              have hv6' := hv6
              rw [show w4.heap.size + 1 = W5.heap.size by rw [hW5, World.size_alloc]] at hv6'
              have hb45' := hb45.mono HX4.out.2.1.lo
              obtain ⟨R1, R2, R3, R4, R5, R6, R7⟩ := row_pushed (seq := seq) (ops := ops) HLO.out (HX4.out.2.1.below hb45) ((SQ.out.kept.trans HX4.out.2.2.2.1).trans (fun g o hg hn => ⟨(hb45.block g (heap_lt hg)).trans hg, hn⟩)) (HX4.out.2.2.2.2.2.2.below hb45) hr5 (HX4.out.2.2.2.2.1.below hb45') HX4.out.2.2.2.2.2.1 (HOB4.out.below hb45') hown6 hgrow6 hv6'
              have HS6 : Hid (Stand w base L T (M + 1 + (j + 1)) (n + 2 + 4 * (j + 1)) (m + 14000 * (j + 1)) cs w.heap.size w6 v6 (.slice none 0 0) (some ⟨g, 0, none⟩) 0 (told ++ [(seq, ops)]) L4 S') := Lib.hid ⟨HX4.out.1.trans SQ.out.hd, R3.mono (by omega) (by omega), ((SQ.out.below.trans HX4.out.2.2.1).trans hb45').trans R6, R4, R5, R1, R2, Or.inl ⟨by decide, rfl, g, _, k, _, _, rfl, R7 _ _ _ ((HX4.out.2.2.2.1.live HLV.out).below hb45), by rw [← List.append_assoc]; exact HM'.out.mono (by omega), HKQ.out⟩⟩
              clear R1 R2 R3 R4 R5 R6 R7 hr0 hr5 hb45 hb45' hown6 hgrow6 hv6 hv6' hW5 b0' f0 f1
              go_wp2_with fail
              go_roundw
              case rel => exact ⟨j + 1, _, 0, by omega, rfl, rfl, by go_num, Lib.hid ⟨told ++ [(seq, ops)], L4, S', by rw [List.length_append]; have := HTL.out; simp; omega, HS6.out⟩⟩
              case measure => simp [intOf]; omega
            · rw [he] at had
              have HAD := Lib.hid had
              have HF' := Lib.hid hfin
              clear had hlv he hob hfin
              go_wp2_with fail
              refine HAD.out.mono ?_
              rintro x w4 ⟨rfl, L4, hld, hD, hB, hK⟩
              have hrow := SQ.out.row1.kept hK hB SQ.out.off1
              have hbx4 := SQ.out.box.kept hK
              have b0' : w4.cell? ⟨w.heap.size, 0, none⟩ = some (.slice (some ⟨gb, ob, none⟩) nb cb) := by rw [hbx4.cell 0, HCS.out]; rfl
              have f0 : w4.cell? ⟨gb, ob + j * 2, none⟩ = some (.int .u64 (seq : Nat)) := (hB.cell (p := ⟨gb, ob + j * 2, none⟩) hgb2).trans e0
              have f1 : w4.cell? ⟨gb, ob + j * 2 + 1, none⟩ = some (.slice a3 ol c3) := (hB.cell (p := ⟨gb, ob + j * 2 + 1, none⟩) hgb2).trans e1
              have HX4 := Lib.hid (And.intro hld (And.intro hD (And.intro hB (And.intro hK (And.intro hrow.1 (And.intro hrow.2 hbx4))))))
              have HOB4 := Lib.hid (HOB.out.below hB)
              have hsz4 : w.heap.size ≤ w4.heap.size := by have := SQ.out.below.size; have := hB.size; omega
              have hr0 : w4.ownsRow w.heap.size 32 2 (.slice none 0 0) 0 [] := World.ownsRow_nil ..
              unfold errV
              clear hld hD hB hK hrow hbx4 e0 e1 b0 HAD
              go_wp2_with (at_builtin; go_must (refine wpList_append_at rfl _ _ 36 rfl w.heap.size 32 i0 _ 2 32 Tryz.underlying36 hi hz0 hz1 hz2 rfl (by decide) _ _ _ rfl (hr0.alloc _) ⟨w4.heap.size, 0, none⟩ 1 1 [_, _] rfl rfl (World.news_of_block (cs := #[_, _]) (fr := (0, 0)) (heap_alloc_new w4 _)) ?c2 ?c3 ?c4 ?c5 ?_))
              case c2 => intro u hu; simp at hu; rcases hu with hu | hu <;> subst hu <;> rfl
              case c3 => unfold maxLen; omega
              case c4 => omega
              case c5 => simp; omega
              intro v6 w6 hown6 hgrow6 hv6
              obtain ⟨W5, hW5⟩ : ∃ W, W = w4.alloc (.cells #[.int .u64 (seq : Nat), .slice a3 ol c3] 32) := ⟨_, rfl⟩
              have hb45 : Below w4.heap.size w4 W5 := by rw [hW5]; exact (Below.refl _ _).alloc (Nat.le_refl _) _
              have hr5 : W5.ownsRow w.heap.size 32 2 (.slice none 0 0) 0 [] := by rw [hW5]; exact hr0.alloc _
              rw [← hW5] at hgrow6
              have hv6' := hv6
              rw [show w4.heap.size + 1 = W5.heap.size by rw [hW5, World.size_alloc]] at hv6'
              have hb45' := hb45.mono HX4.out.2.1.lo
              have hb56 : Below W5.heap.size W5 w6 := ⟨hgrow6.os, hgrow6.tape, hgrow6.output, hgrow6.size, fun k hk => hgrow6.block k hk (by simp [Value.ownBlock])⟩
              obtain ⟨R1, R2, R3, R4, R5, R6, R7⟩ := row_pushed (seq := seq) (ops := ops) (told := []) (ps := []) HLO.out (HX4.out.2.1.below hb45) ((SQ.out.kept.trans HX4.out.2.2.2.1).trans (fun g o hg hn => ⟨(hb45.block g (heap_lt hg)).trans hg, hn⟩)) (HX4.out.2.2.2.2.2.2.below hb45) hr5 trivial (off_nil _) (HOB4.out.below hb45') hown6 hgrow6 hv6'
              have HR1 := Lib.hid ((HX4.out.2.2.2.2.1.below hb45 HX4.out.2.1.lo).below hb56 (HX4.out.2.1.below hb45).lo)
              have HS6 : Hid (Stand w base L T (M + 1 + (j + 1)) (n + 2 + 4 * (j + 1)) (m + 14000 * (j + 1)) cs w.heap.size w6 u4 v6 (some ⟨g, 0, none⟩) 7 told L4 S') := Lib.hid ⟨HX4.out.1.trans SQ.out.hd, R3.mono (by omega) (by omega), ((SQ.out.below.trans HX4.out.2.2.1).trans hb45').trans R6, R4, R5, HR1.out, HX4.out.2.2.2.2.2.1, Or.inr ⟨rfl, [(seq, ops)], Wl.Fin.mono HF'.out (by omega), by simp, R1, R2⟩⟩
              clear R1 R2 R3 R4 R5 R6 R7 hr0 hr5 hb45 hb45' hb56 hown6 hgrow6 hv6 hv6' hW5 b0' f0 f1
              go_wp2_with fail
              go_roundw
              case rel => exact ⟨j + 1, _, 7, by omega, rfl, rfl, by go_num, Lib.hid ⟨told, L4, S', by have := HTL.out; omega, HS6.out⟩⟩
              case measure => simp [intOf]; omega
      · have hlt2 : ¬ (j : Int) < nb := by omega
        go_wp2_with fail
        go_ret2
        exact ⟨_, _, Lr, Sr, told, [], rfl, ST.hd, ST.disc.mono (by omega) (by omega), ST.below, ST.kept, Wl.Fin.mono (HMQ.out.fin []) (by omega), by omega, by simp, ST.row1, OwnsA.nil _ _ _, ST.off1, off_nil _⟩

end Go.Proofs.YtfeconankopjmaaGreatDoor
