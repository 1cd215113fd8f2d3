/- Texts on the program's own functions, several in one: DkD, DkE, DkL, DkUs. -/
import Derived.Test.YtfeconankopjmaaGreatDoorPk13
import Derived.RegionTactic
import Derived.ChangeAlike
import Derived.BigQuiet
import Derived.Lib.AppendStr
import Derived.Maps.AppendAt
import Derived.BigRegion

/- The walks of Sync, Read, Room, Used, Fuse, Fused, Start, Down over a disk that lies in memory. -/
namespace Go.Proofs.YtfeconankopjmaaGreatDoor
open Go.RowKit Go.Maps
open Dk (Dir Chg Disk File Str)

/-- A disk goes on: it lies where it lay, of other blocks nothing has turned, and what is new is its own. -/
def Goes (L : Lay) (w : World) (S' : Disk) (w' : World) : Prop :=
  ∃ L' : Lay, L'.d = L.d ∧ Holds w' L' S' ∧ Turns (Own L) w w' ∧ ∀ b, Own L' b → Own L b ∨ w.heap.size ≤ b
theorem Goes.stay {L : Lay} {S : Disk} {w : World} (h : Holds w L S) : Goes L w S w := ⟨L, rfl, h, Turns.refl _ _, fun _ hb => Or.inl hb⟩
theorem Goes.same {L : Lay} {S : Disk} {w w' : World} (h : Holds w' L S) (ht : Turns (Own L) w w') : Goes L w S w' := ⟨L, rfl, h, ht, fun _ hb => Or.inl hb⟩
theorem Turns.box {L : Lay} {w w' : World} (h : Turns (fun b => b = L.d) w w') : Turns (Own L) w w' := h.mono fun _ hx => Or.inl (Or.inl hx)

/-- What is small enough for Go's numbers. -/
structure Fits (S : Disk) : Prop where
  fuse : S.fuse ≤ 9223372036854775807
  now : S.now.length ≤ 1099511627776
  old : S.lasting.length ≤ 1099511627776
  chg : S.changes.length ≤ 1099511627776
  room0 : 0 ≤ S.room
  room : S.room ≤ 1048576
  least : -1152921504606846976 ≤ S.used
  most : S.used ≤ 1152921504606846976
  dat : ∀ i, (S.file i).data.length ≤ 1099511627776

theorem burn_now (S : Disk) : S.burn.now = S.now ∧ S.burn.lasting = S.lasting ∧ S.burn.changes = S.changes ∧ S.burn.file = S.file ∧ S.burn.next = S.next ∧ S.burn.used = S.used ∧ S.burn.room = S.room := by
  unfold Disk.burn
  split <;> exact ⟨rfl, rfl, rfl, rfl, rfl, rfl, rfl⟩
theorem row_shape {w : World} {base : Nat} {e : TypeId} {z n : Nat} {v : Value} {xs : List Value} (h : w.ownsRow base e z v n xs) : ∃ a cap, v = .slice a n cap := by
  rcases h.2 with ⟨rfl, rfl⟩ | ⟨g, cap, _, rfl, _⟩
  · exact ⟨_, _, rfl⟩
  · exact ⟨_, _, rfl⟩

section
variable {L : Lay} {S : Disk} (w : World)

set_option maxHeartbeats 1000000 in
set_option maxRecDepth 100000 in
theorem fused_any (h : Holds w L S) : Calls Tryz.prog 64 #[.pointer (some ⟨L.d, 0, none⟩)] w fun e w' => e = .returned (.int .i64 (S.fuse : Int)) ∧ w' = w := by
  obtain ⟨c0, c1, c2, c3, c4, c5, c6⟩ := h.cells
  have HM := Lib.hid (made_any w h)
  clear h
  go_enter Tryz.func64, Tryz.ntmps64
  go_wp2_with fail
  refine HM.out.mono ?_
  rintro e w1 ⟨rfl, rfl⟩
  go_wp2_with fail
  go_ret
  exact ⟨rfl, rfl⟩

set_option maxHeartbeats 1000000 in
set_option maxRecDepth 100000 in
theorem start_any (h : Holds w L S) : Calls Tryz.prog 28 #[.pointer (some ⟨L.d, 0, none⟩)] w fun e w' => e = .returned (.tuple #[]) ∧ Goes L w S.start w' := by
  obtain ⟨c0, c1, c2, c3, c4, c5, c6⟩ := h.cells
  have f3 := h.soft 3
  have HM := Lib.hid (made_any w h)
  have HH := Lib.hid h; clear h
  go_enter Tryz.func28, Tryz.ntmps28
  go_wp2_with fail
  refine HM.out.mono ?_
  rintro e w1 ⟨rfl, rfl⟩
  go_wp2_with fail
  go_end0
  exact ⟨rfl, Goes.same (HH.out.setBox 3 _ _ rfl rfl rfl rfl rfl rfl) (Turns.of_setCell _ _ _ (Or.inl rfl))⟩

set_option maxHeartbeats 1000000 in
set_option maxRecDepth 100000 in
theorem fuse_any (h : Holds w L S) (n : Int) : Calls Tryz.prog 29 #[.pointer (some ⟨L.d, 0, none⟩), .int .i64 n] w fun e w' => e = .returned (.tuple #[]) ∧ Goes L w (S.light n) w' := by
  obtain ⟨c0, c1, c2, c3, c4, c5, c6⟩ := h.cells
  have f2 := h.soft 2
  have HM := Lib.hid (made_any w h)
  have HH := Lib.hid h; clear h
  go_enter Tryz.func29, Tryz.ntmps29
  go_wp2_with fail
  refine HM.out.mono ?_
  rintro e w1 ⟨rfl, rfl⟩
  go_wp2_with fail
  go_end0
  have e : max n 0 = ((n.toNat : Nat) : Int) := by omega
  rw [e]
  exact ⟨rfl, Goes.same (HH.out.setBox 2 _ _ rfl rfl rfl rfl rfl rfl) (Turns.of_setCell _ _ _ (Or.inl rfl))⟩

/-- What Read answers. -/
def readV (S : Disk) (s : ByteArray) : Value := .tuple #[.string ⟨(S.read s.data.toList).1.toArray⟩, .int .i64 (S.read s.data.toList).2]

theorem file_text {w : World} {v : Value} {l : Str} (h : w.ownsRow 0 5 1 v l.length (Lib.byteCells l)) : (convert 128 9 v).run Tryz.prog w = .ok (.string ⟨l.toArray⟩) w := by
  rcases h.2 with ⟨rfl, h0⟩ | ⟨g, cap, cur, rfl, _, _, _⟩
  · have : l = [] := List.eq_nil_of_length_eq_zero h0
    subst this
    rw [run_convert_bytes_string w _ _ _ _ _ _ Tryz.underlying128 Tryz.underlying5 Tryz.underlying9]
    simp [Conv.bytesToString]
    rfl
  · refine run_convert_bytes_back w _ _ _ _ _ _ Tryz.underlying128 Tryz.underlying5 Tryz.underlying9 ?_
    intro j hj
    refine h.cells (g := g) rfl j _ ?_
    simp [Lib.byteCells, List.getElem?_eq_getElem hj]

set_option maxHeartbeats 1000000 in
set_option maxRecDepth 100000 in
theorem read_any (h : Holds w L S) (s : ByteArray) (hs : s.size ≤ maxLen) : Calls Tryz.prog 49 #[.pointer (some ⟨L.d, 0, none⟩), .string s] w fun e w' => e = .returned (readV S s) ∧ w' = w := by
  have HFI := Lib.hid (find_any w h s hs)
  have HH := Lib.hid h; clear h
  obtain ⟨R, hR⟩ : ∃ R, R = readV S s := ⟨_, rfl⟩
  rw [← hR]
  unfold readV Disk.read at hR
  have HR := Lib.hid hR; clear hR
  go_enter Tryz.func49, Tryz.ntmps49
  go_wp2_with fail
  refine HFI.out.mono ?_
  rintro e w1 ⟨rfl, rfl⟩
  clear HFI hs
  unfold findV
  cases hd : S.down with
  | true =>
    have HE : Hid (R = .tuple #[.string ⟨#[]⟩, .int .i64 7]) := by have := HR.out; rw [hd] at this; exact Lib.hid this
    rw [if_pos rfl]
    clear HR
    go_wp2_with fail
    go_ret2
    exact ⟨HE.out.symm ▸ rfl, rfl⟩
  | false =>
    rw [if_neg (by simp)]
    cases hl : Dk.look s.data.toList S.now with
    | none =>
      have HE : Hid (R = .tuple #[.string ⟨#[]⟩, .int .i64 4]) := by have := HR.out; rw [hd, hl] at this; exact Lib.hid this
      dsimp only
      clear HR
      go_wp2_with fail
      go_ret2
      exact ⟨HE.out.symm ▸ rfl, rfl⟩
    | some i =>
      have HE : Hid (R = .tuple #[.string ⟨(S.file i).data.toArray⟩, .int .i64 0]) := by have := HR.out; rw [hd, hl] at this; exact Lib.hid this
      dsimp only
      have hf := HH.out.file i (HH.out.inNow _ (Dk.mem_of_look hl))
      have hcv := file_text hf.row
      have d0 : w1.cell? ⟨L.loc i, 0, none⟩ = some (L.dat i) := by rw [cell_of hf.box]; rfl
      clear HR hf
      go_wp2_with fail
      go_ret2
      exact ⟨HE.out.symm ▸ rfl, rfl⟩

end
end Go.Proofs.YtfeconankopjmaaGreatDoor

/- The walks of Sync, Append over a disk that lies in memory. -/
namespace Go.Proofs.YtfeconankopjmaaGreatDoor
open Go.RowKit Go.Maps
open Dk (Dir Chg Disk File Str)

section
variable {L : Lay} {S : Disk} (w : World)

/-- append(b, s...): where the new slice lies. -/
theorem run_append_str_at {w : World} (t u ty e : TypeId) (i : TypeInfo) (ht : Tryz.prog.underlying t = some (.slice e)) (hu : Tryz.prog.underlying u = some .string) (hi : Tryz.prog.info? e = some i) (hz : i.zero = some (.int .u8 0))
    (hsize : i.size = 1) (hby : i.bytes = 1) (v : Value) (n : Nat) (xs : List Value) (hown : w.ownsRow 0 e 1 v n xs) (s : ByteArray) (h63 : n + s.size ≤ maxLen) (hbytes : n + s.size ≤ 140737488355328) :
    ∃ v' w', (Builtin.append_ #[t, u] ty #[v, .string s]).run Tryz.prog w = .ok v' w' ∧ w'.ownsRow 0 e 1 v' (n + s.size) (xs ++ Lib.strCells s) ∧ w.grownBy w' v.ownBlock ∧ (∀ b, v'.ownBlock = some b → v.ownBlock = some b ∨ w.heap.size ≤ b) := by
  obtain ⟨v', w', hr, h2, h3, h4⟩ := Lib.run_append_own_string (P := Tryz.prog) w 0 t u ty e i ht hu hi hz hsize hby v n xs hown s h63 hbytes (Nat.zero_le _)
  refine ⟨v', w', hr, h2, h3, fun b hb => ?_⟩
  have hxl : xs.length = n := by simpa using hown.1
  rcases hown.2 with ⟨rfl, rfl⟩ | ⟨g, cap, cur, rfl, hbg, hg, hnc, hcm, hcs, htake⟩
  · have hx : xs = [] := List.eq_nil_of_length_eq_zero hxl
    subst hx
    obtain ⟨v2, w2, hr2, ho2, _, _⟩ := Lib.run_append_own_string (P := Tryz.prog) w w.heap.size t u ty e i ht hu hi hz hsize hby (.slice none 0 0) 0 [] (World.ownsRow_nil ..) s h63 hbytes (Nat.le_refl _)
    rw [hr] at hr2
    simp only [Result.ok.injEq] at hr2
    obtain ⟨rfl, rfl⟩ := hr2
    exact Or.inr (World.ownsRow.lt ho2 b hb).1
  · by_cases hroom : n + s.size ≤ cap
    · have hcs' : cur.size = cap := by simpa using hcs
      have hr2 := Lib.run_append_room_string (P := Tryz.prog) w t u ty e i ht hu hi hsize g n cap cur hg s hroom (by omega)
      rw [hr] at hr2
      simp only [Result.ok.injEq] at hr2
      obtain ⟨rfl, rfl⟩ := hr2
      exact Or.inl hb
    · have holds : ∀ j u, xs[j]? = some u → w.cell? ((⟨g, 0, none⟩ : Addr).add j) = some u := hown.cells (g := g) rfl
      have hsmall : n + s.size ≤ 9223372036854775807 := by simp only [maxLen] at h63; omega
      have hr2 := Lib.run_append_grow_string (P := Tryz.prog) w t u ty e i (.int .u8 0) ht hu hi hz ⟨g, 0, none⟩ n cap xs (by rw [hsize]; simpa using hxl) holds s (by omega) (by omega) (by rw [hby]; exact growslice_fits (by omega) (by omega))
      rw [hr] at hr2
      simp only [Result.ok.injEq] at hr2
      obtain ⟨rfl, rfl⟩ := hr2
      right
      have : w.heap.size = b := by simpa [Value.ownBlock] using hb
      omega
theorem wpList_append_str_at {w : World} {ops : Array Oper} {rest : List Oper} {o : Oper} {a : Act} {Q : Exit → Act → World → Prop} (hgd : o.guard = none) (sl x : Operand) (t u : TypeId)
    (ho : o.op = .call { callee := .builtin .append, args := #[sl, x], argTypes := #[t, u] })
    (e : TypeId) (i : TypeInfo) (ht : Tryz.prog.underlying t = some (.slice e)) (hu : Tryz.prog.underlying u = some .string) (hi : Tryz.prog.info? e = some i) (hz : i.zero = some (.int .u8 0))
    (hsize : i.size = 1) (hby : i.bytes = 1)
    (v : Value) (n : Nat) (xs : List Value) (hs : a.eval sl = v) (hown : w.ownsRow 0 e 1 v n xs) (s : ByteArray) (hx : a.eval x = .string s)
    (h63 : n + s.size ≤ maxLen) (hbytes : n + s.size ≤ 140737488355328)
    (h : ∀ v' w', w'.ownsRow 0 e 1 v' (n + s.size) (xs ++ Lib.strCells s) → w.grownBy w' v.ownBlock → (∀ b, v'.ownBlock = some b → v.ownBlock = some b ∨ w.heap.size ≤ b) → wpList Tryz.prog ops Q rest (a.put o.dst v') w') : wpList Tryz.prog ops Q (o :: rest) a w := by
  refine wpList_plain hgd fun K hK => ?_
  obtain ⟨v', w', hr, h2, h3, h4⟩ := run_append_str_at t u o.type e i ht hu hi hz hsize hby v n xs hown s h63 hbytes
  unfold Oper.wp execOp
  simp only [ho, resolve, invoke, builtin, Sem.run_bind, Sem.run_pure, Result.andThen_ok, List.map_toArray, List.map_cons, List.map_nil, hs, hx, hr]
  exact hK _ _ (h v' w' h2 h3 h4)

/-- What an operation answers. -/
def errV (n : Int) : Value := .int .i64 n

set_option maxHeartbeats 2000000 in
set_option maxRecDepth 100000 in
theorem sync_any (h : Holds w L S) (F : Fits S) (s : ByteArray) (hs : s.size ≤ maxLen) : Calls Tryz.prog 42 #[.pointer (some ⟨L.d, 0, none⟩), .string s] w fun e w' => e = .returned (errV (S.sync s.data.toList).1) ∧ Goes L w (S.sync s.data.toList).2 w' := by
  have HFI := Lib.hid (find_any w h s hs)
  have HB := Lib.hid (burns_any w h F.fuse)
  have HF := Lib.hid F; clear F
  have HH := Lib.hid h; clear h
  obtain ⟨R, hR⟩ : ∃ R, R = S.sync s.data.toList := ⟨_, rfl⟩
  rw [← hR]
  unfold Disk.sync at hR
  have HR := Lib.hid hR; clear hR
  go_enter Tryz.func42, Tryz.ntmps42
  go_wp2_with fail
  refine HFI.out.mono ?_
  rintro e w1 ⟨rfl, rfl⟩
  clear HFI hs
  unfold findV
  cases hd : S.down with
  | true =>
    have HE : Hid (R = (7, S)) := by have := HR.out; rw [hd] at this; exact Lib.hid this
    rw [if_pos rfl]
    clear HR HB
    go_wp2_with fail
    go_ret
    rw [HE.out]
    exact ⟨rfl, Goes.stay HH.out⟩
  | false =>
    rw [if_neg (by simp)]
    cases hl : Dk.look s.data.toList S.now with
    | none =>
      have HE : Hid (R = (4, S)) := by have := HR.out; rw [hd, hl] at this; exact Lib.hid this
      dsimp only
      clear HR HB
      go_wp2_with fail
      go_ret
      rw [HE.out]
      exact ⟨rfl, Goes.stay HH.out⟩
    | some i =>
      have hi := HH.out.inNow _ (Dk.mem_of_look hl)
      dsimp only at hi ⊢
      go_wp2_with fail
      refine HB.out.mono ?_
      rintro e w2 ⟨rfl, hh2, ht2, hz2⟩
      have HH2 := Lib.hid hh2; have HT2 := Lib.hid ht2
      clear hh2 ht2 HB
      cases hb : S.burnt with
      | true =>
        have HE : Hid (R = (7, S.burn)) := by have := HR.out; rw [hd, hl, hb] at this; exact Lib.hid this
        clear HR
        go_wp2_with fail
        go_ret
        rw [HE.out]
        exact ⟨rfl, Goes.same HH2.out HT2.out.box⟩
      | false =>
        have HE : Hid (R = (0, S.burn.setFile i ⟨(S.file i).data, (S.file i).data.length⟩)) := by have := HR.out; rw [hd, hl, hb] at this; exact Lib.hid this
        clear HR
        have hf := HH2.out.file i hi
        have HFI := Lib.hid hf
        obtain ⟨a, cap, hsh⟩ := row_shape hf.row
        have d0 : w2.cell? ⟨L.loc i, 0, none⟩ = some (.slice a (S.burn.file i).data.length cap) := by rw [cell_of hf.box, hsh]; rfl
        rw [(burn_now S).2.2.2.1] at d0
        have d1 : w2.cell? ⟨L.loc i, 1, none⟩ = some (.int .i64 ((S.burn.file i).lasts : Int)) := by rw [cell_of hf.box]; rfl
        have d2 : w2.frozen? ⟨L.loc i, 1, none⟩ = false := unfrozen_of hf.box 1
        have hlen := HF.out.dat i
        obtain ⟨n, hn⟩ : ∃ n : Nat, n = (S.file i).data.length := ⟨_, rfl⟩
        rw [← hn] at d0 hlen
        have hlen2 : (n : Int) ≤ 1099511627776 := by omega
        have HN := Lib.hid hn
        clear hn hsh hf hlen
        go_wp2_with fail
        go_ret
        rw [HE.out]
        have hs := HH2.out.setLasts i n hi (by rw [(burn_now S).2.2.2.1, HN.out]; exact Nat.le_refl _)
        rw [(burn_now S).2.2.2.1] at hs
        refine ⟨rfl, Goes.same (by rw [← HN.out]; exact hs) (HT2.out.box.trans (Turns.of_setCell (P := Own L) w2 ⟨L.loc i, 1, none⟩ _ (Or.inr (Or.inr (Or.inr (Or.inr ⟨i, hi, Or.inl rfl⟩))))) (fun x hx => Or.inl hx))⟩

set_option maxHeartbeats 4000000 in
set_option maxRecDepth 100000 in
theorem append_any (h : Holds w L S) (F : Fits S) (s data : ByteArray) (hs : s.size ≤ maxLen) (hda : data.size ≤ 1099511627776) : Calls Tryz.prog 41 #[.pointer (some ⟨L.d, 0, none⟩), .string s, .string data] w fun e w' => e = .returned (errV (S.append s.data.toList data.data.toList).1) ∧ Goes L w (S.append s.data.toList data.data.toList).2 w' := by
  have HFI := Lib.hid (find_any w h s hs)
  have HB := Lib.hid (burns_any w h F.fuse)
  obtain ⟨c0, c1, c2, c3, c4, c5, c6⟩ := h.cells
  have hr0 := F.room0
  have hr1 := F.room
  have hu0 := F.least
  have hu1 := F.most
  have HF := Lib.hid F; clear F
  have HH := Lib.hid h; clear h
  have hdi : (data.size : Int) ≤ 1099511627776 := by omega
  obtain ⟨R, hR⟩ : ∃ R, R = S.append s.data.toList data.data.toList := ⟨_, rfl⟩
  rw [← hR]
  unfold Disk.append at hR
  rw [← Lib.size_eq] at hR
  have HR := Lib.hid hR; clear hR
  go_enter Tryz.func41, Tryz.ntmps41
  go_wp2_with fail
  refine HFI.out.mono ?_
  rintro e w1 ⟨rfl, rfl⟩
  clear HFI hs
  unfold findV
  cases hd : S.down with
  | true =>
    have HE : Hid (R = (7, S)) := by have := HR.out; rw [hd] at this; exact Lib.hid this
    rw [if_pos rfl]
    clear HR HB
    go_wp2_with fail
    go_ret
    rw [HE.out]
    exact ⟨rfl, Goes.stay HH.out⟩
  | false =>
    rw [if_neg (by simp)]
    cases hl : Dk.look s.data.toList S.now with
    | none =>
      have HE : Hid (R = (4, S)) := by have := HR.out; rw [hd, hl] at this; exact Lib.hid this
      dsimp only
      clear HR HB
      go_wp2_with fail
      go_ret
      rw [HE.out]
      exact ⟨rfl, Goes.stay HH.out⟩
    | some i =>
      have hi := HH.out.inNow _ (Dk.mem_of_look hl)
      dsimp only at hi ⊢
      have HR1 : Hid (R = if (data.size : Int) > S.room - S.used then (6, S) else if S.burnt then (7, S.burn) else (0, { S.burn.setFile i ⟨(S.file i).data ++ data.data.toList, (S.file i).lasts⟩ with used := S.used + data.size })) := by have := HR.out; rw [hd, hl] at this; exact Lib.hid this
      clear HR
      by_cases hfull : S.room - S.used < (data.size : Int)
      · have HE : Hid (R = (6, S)) := by have := HR1.out; rw [if_pos hfull] at this; exact Lib.hid this
        clear HR1
        go_wp2_with fail
        go_region
        go_wp2_with fail
        go_ret
        rw [HE.out]
        exact ⟨rfl, Goes.same HH.out.drew (Turns.refl _ _).drew⟩
      · have HR2 : Hid (R = if S.burnt then (7, S.burn) else (0, { S.burn.setFile i ⟨(S.file i).data ++ data.data.toList, (S.file i).lasts⟩ with used := S.used + data.size })) := by have := HR1.out; rw [if_neg hfull] at this; exact Lib.hid this
        clear HR1 HB
        have HB := Lib.hid (burns_any w1.drew HH.out.drew HF.out.fuse)
        have hnf : (data.size : Int) ≤ S.room - S.used := by omega
        clear hfull
        go_wp2_with fail
        go_region
        go_wp2_with fail
        refine HB.out.mono ?_
        rintro e w2 ⟨rfl, hh2, ht2, hz2⟩
        have HH2 := Lib.hid hh2; have HT2 : Hid (Turns (Own L) w1 w2) := Lib.hid ((Turns.refl (Own L) w1).drew.trans ht2.box (fun _ hx => Or.inl hx))
        clear hh2 ht2 hz2 HB c0 c1 c2 c3 c4 c5 c6
        cases hb : S.burnt with
        | true =>
          have HE : Hid (R = (7, S.burn)) := by have := HR2.out; rw [hb] at this; exact Lib.hid this
          clear HR2
          go_wp2_with fail
          go_ret
          rw [HE.out]
          exact ⟨rfl, Goes.same HH2.out HT2.out⟩
        | false =>
          have HE : Hid (R = (0, { S.burn.setFile i ⟨(S.file i).data ++ data.data.toList, (S.file i).lasts⟩ with used := S.used + data.size })) := by have := HR2.out; rw [hb] at this; exact Lib.hid this
          clear HR2
          obtain ⟨i0, hin, hz0, hz1, hz2⟩ := info_parts info_u8
          have hf := HH2.out.file i hi
          have HFI := Lib.hid hf
          have d0 : w2.cell? ⟨L.loc i, 0, none⟩ = some (L.dat i) := by rw [cell_of hf.box]; rfl
          have hlen := HF.out.dat i
          have hraw : w2.ownsRow 0 5 1 (L.dat i) (S.file i).data.length (Lib.byteCells (S.file i).data) := by have := hf.row; rw [(burn_now S).2.2.2.1] at this; exact this
          have A := HH2.out.lone
          have hle := hf.le
          rw [(burn_now S).2.2.2.1] at hle
          have HLE := Lib.hid hle
          obtain ⟨l, hll⟩ : ∃ l, l = (S.file i).data := ⟨_, rfl⟩
          rw [← hll] at hraw hlen
          have HLL := Lib.hid hll
          have e0 := HH2.out.cells.2.1
          rw [(burn_now S).2.2.2.2.2.1] at e0
          have k1 : ∀ w3 : World, w2.grownBy w3 (L.dat i).ownBlock → w3.cell? ⟨L.d, 1, none⟩ = some (.int .i64 S.used) ∧ w3.frozen? ⟨L.d, 1, none⟩ = false ∧ w3.cell? ⟨L.loc i, 0, none⟩ = some (L.dat i) ∧ w3.frozen? ⟨L.loc i, 0, none⟩ = false := fun w3 hg => by
            have b1 := hg.block L.d (heap_lt HH2.out.box) (fun e => (A.dat i hi _ e.symm).1 rfl)
            have b2 := hg.block (L.loc i) (heap_lt hf.box) (fun e => (A.dat i hi _ e.symm).2.2.2.2 i hi rfl)
            exact ⟨cell_kept e0 b1, (World.frozen?_of_block (a := ⟨L.d, 1, none⟩) b1).trans (HH2.out.soft 1), cell_kept d0 b2, (World.frozen?_of_block (a := ⟨L.loc i, 0, none⟩) b2).trans (unfrozen_of hf.box 0)⟩
          have K1 := Lib.hid k1; clear k1 A hf hle hll
          go_wp2_with (at_builtin; refine wpList_append_str_at rfl _ _ 128 9 rfl 5 i0 Tryz.underlying128 Tryz.underlying9 hin hz0 hz1 hz2 _ _ _ rfl hraw data rfl ?c3 ?c4 ?_)
          case c3 => unfold maxLen; omega
          case c4 => omega
          intro v' w3 hown' hgrow hat
          obtain ⟨va, vc, hva⟩ := row_shape hown'
          obtain ⟨k1, k2, k3, k4⟩ := K1.out w3 hgrow
          have HS : Hid (Holds (w3.setCell ⟨L.loc i, 0, none⟩ v') { L with dat := fun k => if k = i then v' else L.dat k } (S.burn.setFile i ⟨(S.file i).data ++ data.data.toList, (S.file i).lasts⟩)) := by
            have hh := HH2.out.setData i hi v' (l ++ data.data.toList) hgrow (by
              rw [List.length_append, ← Lib.size_eq, byteCells_append]
              exact hown') (by rw [(burn_now S).2.2.2.1, List.length_append]; have := HLE.out; rw [← HLL.out] at this; omega) hat
            rw [(burn_now S).2.2.2.1, HLL.out] at hh
            exact Lib.hid hh
          have HT3 : Hid (Turns (Own L) w1 (w3.setCell ⟨L.loc i, 0, none⟩ v') ∧ ∀ b, v'.ownBlock = some b → (L.dat i).ownBlock = some b ∨ w1.heap.size ≤ b) := Lib.hid ⟨(HT2.out.trans (Turns.of_grown (P := Own L) hgrow (fun k e => Or.inr (Or.inr (Or.inr (Or.inr ⟨i, hi, Or.inr e⟩))))) (fun _ hx => Or.inl hx)).trans (Turns.of_setCell (P := Own L) w3 ⟨L.loc i, 0, none⟩ _ (Or.inr (Or.inr (Or.inr (Or.inr ⟨i, hi, Or.inl rfl⟩))))) (fun _ hx => Or.inl hx),
            fun b hb => (hat b hb).imp id (fun h => Nat.le_trans HT2.out.size h)⟩
          have HV := Lib.hid hva
          clear hown' hgrow hat K1 HT2 hraw HLE
          rw [hva] at HS HT3 ⊢
          clear hva
          go_wp2_with fail
          go_ret
          rw [HE.out]
          rw [← HV.out] at HS HT3 ⊢
          refine ⟨rfl, { L with dat := fun k => if k = i then v' else L.dat k }, rfl, ?_, HT3.out.1.trans (Turns.of_setCell (P := Own L) _ ⟨L.d, 1, none⟩ _ (Or.inl rfl)) (fun _ hx => Or.inl hx), fun b hb => ?_⟩
          · exact HS.out.setBox 1 (.int .i64 (S.used + data.size)) _ rfl rfl rfl rfl rfl rfl
          · rcases hb with h1 | h1 | h1 | h1 | ⟨k, hk, h1 | h1⟩
            · exact Or.inl (Or.inl h1)
            · exact Or.inl (Or.inr (Or.inl h1))
            · exact Or.inl (Or.inr (Or.inr (Or.inl h1)))
            · exact Or.inl (Or.inr (Or.inr (Or.inr (Or.inl h1))))
            · exact Or.inl (Or.inr (Or.inr (Or.inr (Or.inr ⟨k, hk, Or.inl h1⟩))))
            · dsimp only at h1
              by_cases e : k = i
              · rw [if_pos e] at h1
                rcases HT3.out.2 b h1 with h2 | h2
                · exact Or.inl (Or.inr (Or.inr (Or.inr (Or.inr ⟨i, hi, Or.inr h2⟩))))
                · exact Or.inr h2
              · rw [if_neg e] at h1
                exact Or.inl (Or.inr (Or.inr (Or.inr (Or.inr ⟨k, hk, Or.inr h1⟩))))

end
end Go.Proofs.YtfeconankopjmaaGreatDoor

/- The walk of disk.turn over a row of bytes that lies in memory. -/
namespace Go.Proofs.YtfeconankopjmaaGreatDoor
open Go.RowKit Go.Maps
open Dk (Dir Chg Disk File Str)

/-- Bytes lie in a block from a place on. -/
def Lie (w : World) (g off : Nat) (t : Str) (cur : Array Value) : Prop :=
  w.heap[g]? = some (.cells cur 5 (0, 0)) ∧ off + t.length ≤ cur.size ∧ ∀ j u, t[j]? = some u → cur[off + j]? = some (.int .u8 (u.toNat : Int))

theorem tmod_bounds (x : Int) (m : Nat) (hm : 0 < m) : -(m : Int) < x.tmod m ∧ x.tmod m < m := by
  have h1 := Int.tmod_lt_of_pos x (b := (m : Int)) (by omega)
  have h2 := Int.lt_tmod_of_pos x (b := (m : Int)) (by omega)
  exact ⟨h2, h1⟩
theorem tmod_round (x : Int) (m : Nat) (hm : 0 < m) : (x.tmod m + m).tmod m = ((x % (m : Int)).toNat : Int) := by
  obtain ⟨h1, h2⟩ := tmod_bounds x m hm
  have h3 := Int.emod_nonneg x (b := (m : Int)) (by omega)
  rw [Int.toNat_of_nonneg h3, Int.tmod_eq_emod_of_nonneg (by omega), Int.add_emod_right]
  have h4 := Int.tmod_eq_emod (a := x) (b := (m : Int))
  rw [h4]
  split
  · simp
  · have : ((m : Int).natAbs : Int) = m := by simp
    rw [this, Int.sub_emod, Int.emod_self, Int.sub_zero, Int.emod_emod_of_dvd _ (Int.dvd_refl _), Int.emod_emod_of_dvd _ (Int.dvd_refl _)]

def turnK (t : Str) (a m k : Nat) : Str := t.mapIdx fun j x => if a ≤ j ∧ j < a + k then x ^^^ Dk.maskAt m (j - a) else x

theorem xor_byte (u : UInt8) (m k : Nat) : Value.int .u8 (bits BinOp.xor IntKind.u8 (u.toNat : Int) ((m : Int) / 2 ^ (8 * k) % 256)) = .int .u8 (((u ^^^ Dk.maskAt m k).toNat : Nat) : Int) := by
  have e1 : ((m : Int) / 2 ^ (8 * k) % 256) = ((m / 2 ^ (8 * k) % 256 : Nat) : Int) := by simp
  have e2 : (Dk.maskAt m k).toNat = m / 2 ^ (8 * k) % 256 := by
    unfold Dk.maskAt
    rw [UInt8.toNat_ofNat', Nat.shiftRight_eq_div_pow]
  rw [e1, UInt8.toNat_xor, e2, u8_xor_nat _ _ (UInt8.toNat_lt u) (Nat.mod_lt _ (by decide))]

set_option maxHeartbeats 4000000 in
set_option maxRecDepth 100000 in
theorem turn_any (w : World) (g off cap : Nat) (t : Str) (cur : Array Value) (x : Int) (m : Nat) (h : Lie w g off t cur) (ht : 0 < t.length) (hl : off + t.length ≤ 1099511627776) (hm : m ≤ 4294967295) :
    Calls Tryz.prog 117 #[.slice (some ⟨g, off, none⟩) t.length cap, .agg #[.int .i64 x, .int .u32 (m : Int)]] w fun e w' => e = .returned (.tuple #[]) ∧ Turns (fun b => b = g) w w' ∧
      ∃ cur', Lie w' g off (Dk.turn t x m) cur' ∧ cur'.size = cur.size ∧ ∀ i, (i < off ∨ off + t.length ≤ i) → cur'[i]? = cur[i]? := by
  obtain ⟨n, hn⟩ : ∃ n, n = t.length := ⟨_, rfl⟩
  rw [← hn] at ht hl ⊢
  obtain ⟨b1, b2⟩ := tmod_bounds x n ht
  obtain ⟨a, ha⟩ : ∃ a : Nat, a = (x % (n : Int)).toNat := ⟨_, rfl⟩
  have hr := tmod_round x n ht
  rw [← ha] at hr
  have han : a < n := by
    have := Int.emod_lt_of_pos x (b := (n : Int)) (by omega)
    omega
  have hli : (n : Int) ≤ 1099511627776 := by omega
  have hn0 : (0 : Int) < n := by omega
  have hmi : (m : Int) ≤ 4294967295 := by omega
  have hai : (a : Int) < n := by omega
  have H := Lib.hid h; have HN := Lib.hid hn; have HA := Lib.hid ha
  clear h hn ha
  go_enter Tryz.func117, Tryz.ntmps117
  go_wp2_with fail
  obtain ⟨p, hp⟩ : ∃ p, p = w.heap.size := ⟨_, rfl⟩
  have hgl : g < p := by have := heap_lt H.out.1; omega
  have hbl : ∀ o, Hid (Below w.heap.size w (w.alloc o)) := fun o => Lib.hid ((Below.refl _ w).alloc (Nat.le_refl _) o)
  have hbw := (hbl (.cells #[.int .i64 x, .int .u32 (m : Int)] 178)).out
  have hbx : (w.alloc (.cells #[.int .i64 x, .int .u32 (m : Int)] 178)).cell? ⟨p, 1, none⟩ = some (.int .u32 (m : Int)) := by rw [hp, cell_of (heap_alloc_new w _)]; rfl
  have hps : p < (w.alloc (.cells #[.int .i64 x, .int .u32 (m : Int)] 178)).heap.size := by rw [World.size_alloc]; omega
  rw [← hp]
  have HP := Lib.hid hp; clear hp hbl
  generalize w.alloc (.cells #[.int .i64 x, .int .u32 (m : Int)] 178) = w1 at *
  have HBW := Lib.hid hbw; have HBX := Lib.hid hbx; have HPS := Lib.hid hps; clear hbw hbx hps
  obtain ⟨q, hq⟩ : ∃ q : Nat, min 4 ((n : Int) - a) = q := ⟨(min 4 ((n : Int) - a)).toNat, by omega⟩
  have hq4 : (q : Int) ≤ 4 := by omega
  have hqn : (q : Int) ≤ (n : Int) - a := by omega
  have HQ := Lib.hid hq
  rw [hq]
  clear hr b1 b2 hq
  go_loopw [22] (fun z wr => ∃ k : Nat, k ≤ q ∧ z = .int .i64 (k : Int) ∧ Hid (Turns (fun b => b = g) w1 wr ∧ ∃ cur', Lie wr g off (turnK t a m k) cur' ∧ cur'.size = cur.size ∧ ∀ i, (i < off ∨ off + t.length ≤ i) → cur'[i]? = cur[i]?)) (fun z _ => q - (intOf z).toNat)
  case atStart =>
    have e0 : turnK t a m 0 = t := by
      unfold turnK
      apply List.ext_getElem (by simp)
      intro j h1 h2
      simp
      intro h3 h4
      omega
    refine ⟨0, by omega, rfl, Lib.hid ⟨Turns.refl _ _, cur, ?_, rfl, fun _ _ => rfl⟩⟩
    rw [e0]
    obtain ⟨l1, l2, l3⟩ := H.out
    exact ⟨(HBW.out.block g (by have := HP.out; omega)).trans l1, l2, l3⟩
  case round =>
    obtain ⟨k, hk, rfl, HK⟩ := hrel
    by_cases hlt : k < q
    · have hlt2 : (k : Int) < q := by omega
      obtain ⟨ht1, cur', ⟨l1, l2, l3⟩, hs, ho⟩ := HK.out
      have hjt : a + k < t.length := by rw [← HN.out]; omega
      obtain ⟨u, hu⟩ : ∃ u, t[a + k]? = some u := ⟨_, List.getElem?_eq_getElem hjt⟩
      have hval : (turnK t a m k)[a + k]? = some u := by
        unfold turnK
        rw [List.getElem?_mapIdx, hu, Option.map_some, if_neg (by omega)]
      have hcell := l3 (a + k) u hval
      obtain ⟨c, hc⟩ : ∃ c : Nat, c = u.toNat := ⟨_, rfl⟩
      rw [← hc] at hcell
      have HU := Lib.hid hu
      have d0 : wr.cell? ⟨g, off + (a + k), none⟩ = some (.int .u8 (c : Int)) := by rw [cell_of l1]; exact hcell
      have d1 : wr.cell? ⟨p, 1, none⟩ = some (.int .u32 (m : Int)) := cell_kept HBX.out (ht1.block p HPS.out (by omega))
      have d2 : wr.frozen? ⟨g, off + (a + k), none⟩ = false := unfrozen_of l1 _
      have hc8 : (c : Int) < 256 := by have := UInt8.toNat_lt u; omega
      clear hval hcell l1 l2 l3 hs ho ht1 hu
      go_wp2_with fail
      go_region
      have HSET : Hid (Turns (fun b => b = g) w1 (wr.setCell ⟨g, off + (a + k), none⟩ (.int .u8 (bits BinOp.xor IntKind.u8 (u.toNat : Int) ((m : Int) / 2 ^ (8 * k) % 256)))).drew ∧ ∃ cur', Lie (wr.setCell ⟨g, off + (a + k), none⟩ (.int .u8 (bits BinOp.xor IntKind.u8 (u.toNat : Int) ((m : Int) / 2 ^ (8 * k) % 256)))).drew g off (turnK t a m (k + 1)) cur' ∧ cur'.size = cur.size ∧ ∀ i, (i < off ∨ off + t.length ≤ i) → cur'[i]? = cur[i]?) := by
        obtain ⟨ht1, cur', ⟨l1, l2, l3⟩, hs, ho⟩ := HK.out
        refine Lib.hid ⟨(ht1.trans (Turns.of_setCell (P := fun b => b = g) wr ⟨g, off + (a + k), none⟩ _ rfl) (fun _ h => Or.inl h)).drew, _, ⟨heap_setCell_same wr g (off + (a + k)) cur' _ _ l1, ?_, fun j v hj => ?_⟩, ?_, fun i hi => ?_⟩
        · rw [Array.size_setIfInBounds]
          have e : (turnK t a m (k + 1)).length = (turnK t a m k).length := by simp [turnK]
          rw [e]; exact l2
        · have hjl : j < t.length := by
            rcases Nat.lt_or_ge j t.length with h1 | h1
            · exact h1
            · rw [List.getElem?_eq_none (by simp [turnK]; exact h1)] at hj; cases hj
          by_cases e : j = a + k
          · subst e
            have hv : v = u ^^^ Dk.maskAt m k := by
              unfold turnK at hj
              rw [List.getElem?_mapIdx, HU.out, Option.map_some, if_pos (by omega)] at hj
              simp only [Option.some.injEq] at hj
              rw [← hj, Nat.add_sub_cancel_left]
            have hin : off + (a + k) < cur'.size := by
              have : (turnK t a m k).length = t.length := by simp [turnK]
              omega
            rw [Array.getElem?_setIfInBounds_self_of_lt hin, hv, xor_byte]
          · have hj2 : (turnK t a m k)[j]? = some v := by
              unfold turnK at hj ⊢
              rw [List.getElem?_mapIdx] at hj ⊢
              rw [← hj]
              congr 1
              funext z
              by_cases h1 : a ≤ j ∧ j < a + k
              · rw [if_pos h1, if_pos (by omega)]
              · rw [if_neg h1, if_neg (by omega)]
            rw [Array.getElem?_setIfInBounds_ne (by omega)]
            exact l3 j v hj2
        · rw [Array.size_setIfInBounds]; exact hs
        · rw [Array.getElem?_setIfInBounds_ne (by have := HN.out; omega)]
          exact ho i hi
      clear HK
      go_wp2_with fail
      go_roundw
      case rel => exact ⟨k + 1, by omega, by go_num, HSET⟩
      case measure => simp [intOf]; omega
    · obtain rfl : k = q := by omega
      clear hlt
      go_wp2_with fail
      go_end0
      obtain ⟨ht1, cur', hl', hs, ho⟩ := HK.out
      have e : turnK t a m k = Dk.turn t x m := by
        unfold turnK Dk.turn
        simp only
        rw [← HN.out, ← HA.out]
        apply List.ext_getElem?
        intro j
        rw [List.getElem?_mapIdx, List.getElem?_mapIdx]
        rcases Nat.lt_or_ge j t.length with h1 | h1
        · congr 1
          funext z
          have h2 := HQ.out
          have h3 := HN.out
          by_cases h4 : a ≤ j ∧ j < a + 4
          · rw [if_pos h4, if_pos (by omega)]
          · rw [if_neg h4, if_neg (by omega)]
        · rw [List.getElem?_eq_none h1]; rfl
      rw [e] at hl'
      exact ⟨rfl, (Turns.of_below (P := fun b => b = g) HBW.out).trans ht1 (fun _ h => Or.inl h), cur', hl', hs, by rw [HN.out]; exact ho⟩

end Go.Proofs.YtfeconankopjmaaGreatDoor

/- The walk of Used. -/
namespace Go.Proofs.YtfeconankopjmaaGreatDoor
open Go.RowKit Go.Maps
open Dk (Dir Chg Disk File Str)

section
variable {L : Lay} {S : Disk} (w : World)

set_option maxHeartbeats 1000000 in
set_option maxRecDepth 100000 in
theorem used_any (h : Holds w L S) : Calls Tryz.prog 16 #[.pointer (some ⟨L.d, 0, none⟩)] w fun e w' => e = .returned (.int .i64 S.used) ∧ w' = w := by
  obtain ⟨c0, c1, c2, c3, c4, c5, c6⟩ := h.cells
  have HM := Lib.hid (made_any w h)
  clear h
  go_enter Tryz.func16, Tryz.ntmps16
  go_wp2_with fail
  refine HM.out.mono ?_
  rintro e w1 ⟨rfl, rfl⟩
  go_wp2_with fail
  go_ret
  exact ⟨rfl, rfl⟩

end
end Go.Proofs.YtfeconankopjmaaGreatDoor
