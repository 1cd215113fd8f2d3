/- The walks of Delete, Rename, Create over a disk that lies in memory. -/
import Derived.Test.YtefoijamedciiaaDkC
import Derived.Test.YtefoijamedciiaaDkE
import Derived.Test.YtefoijamedciiaaDkN
namespace Go.Proofs.Ytefoijamedciiaa
open Go.RowKit Go.Maps
open Dk (Dir Chg Disk File Str)

theorem key_len {w : World} {b n : Nat} {loc : Nat → Nat} {d : Dir} (h : w.ownsMap Try.prog 9 ptrElem b n (toD loc d)) {s : Str} {i : Nat} (hl : Dk.look s d = some i) : s.length ≤ maxLen := by
  have := strKeys_le h Try.underlying9 s (by rw [toD_keys]; exact List.mem_map.2 ⟨_, Dk.mem_of_look hl, rfl⟩)
  exact this

section
variable {L : Lay} {S : Disk} (w : World)

theorem str_beq {s t : ByteArray} (h : s ≠ t) : (s.toList == t.toList) = false := by
  rw [beq_eq_false_iff_ne]
  exact fun e => h (str_eq e)
theorem list_of {s t : ByteArray} (h : s.data.toList = t.data.toList) : s = t := str_eq (by rw [ByteArray.toList_eq, ByteArray.toList_eq]; exact h)

set_option maxHeartbeats 4000000 in
set_option maxRecDepth 100000 in
theorem rename_any (h : Holds w L S) (F : Fits S) (hnm : ∀ p ∈ S.now, p.1 ≠ []) (s t : ByteArray) (hs : s.size ≤ 281474976710656) (ht : t.size ≤ 281474976710656) : Calls Try.prog 37 #[.pointer (some ⟨L.d, 0, none⟩), .string s, .string t] w fun e w' => e = .returned (errV (S.rename s.data.toList t.data.toList).1) ∧ Goes L w (S.rename s.data.toList t.data.toList).2 w' := by
  have HBA := Lib.hid (barred_any w h)
  have HN := Lib.hid (isName_any t w (by omega))
  have HFI := Lib.hid (find_any w h s (by unfold maxLen; omega))
  have HB := Lib.hid (burns_any w h F.fuse)
  have HLK := Lib.hid (look_run h.now t (by unfold maxLen; omega))
  have c4 := h.cells.2.2.2.2.1
  have HF := Lib.hid F; clear F
  have HH := Lib.hid h; clear h
  have HS := Lib.hid hs; clear hs
  have HT := Lib.hid ht; clear ht
  have HNM := Lib.hid hnm; clear hnm
  obtain ⟨R, hR⟩ : ∃ R, R = S.rename s.data.toList t.data.toList := ⟨_, rfl⟩
  rw [← hR]
  unfold Disk.rename at hR
  have HR := Lib.hid hR; clear hR
  go_enter Try.func37, Try.ntmps37
  go_wp2_with fail
  refine HBA.out.mono ?_
  rintro e w1 ⟨rfl, rfl⟩
  clear HBA
  cases hd : S.down with
  | true =>
    have HE : Hid (R = (7, S)) := by have := HR.out; rw [hd] at this; exact Lib.hid this
    have HV : Hid (barV S = .int .i64 7) := by unfold barV; rw [hd]; exact Lib.hid rfl
    rw [HV.out]
    clear HR HV HLK HFI HN HB
    go_wp2_with fail
    go_ret
    rw [HE.out]
    exact ⟨rfl, Goes.stay HH.out⟩
  | false =>
    have HV : Hid (barV S = .int .i64 0) := by unfold barV; rw [hd]; exact Lib.hid rfl
    rw [HV.out]
    clear HV
    go_wp2_with fail
    refine HN.out.mono ?_
    rintro e w2 ⟨rfl, rfl⟩
    clear HN
    cases hn : Dk.isName t.data.toList with
    | false =>
      have HE : Hid (R = (1, S)) := by have := HR.out; rw [hd, hn] at this; exact Lib.hid this
      clear HR HLK HFI HB
      go_wp2_with fail
      go_ret
      rw [HE.out]
      exact ⟨rfl, Goes.stay HH.out⟩
    | true =>
      go_wp2_with fail
      refine HFI.out.mono ?_
      rintro e w3 ⟨rfl, rfl⟩
      clear HFI
      unfold findV
      rw [hd, if_neg (by simp)]
      cases hl : Dk.look s.data.toList S.now with
      | none =>
        have HE : Hid (R = (4, S)) := by have := HR.out; rw [hd, hn, hl] at this; exact Lib.hid this
        dsimp only
        clear HR HLK HB
        go_wp2_with fail
        go_ret
        rw [HE.out]
        exact ⟨rfl, Goes.stay HH.out⟩
      | some i =>
        have hi := HH.out.inNow _ (Dk.mem_of_look hl)
        dsimp only at hi ⊢
        by_cases hst : s = t
        · subst hst
          have HE1 : Hid (R = if S.burnt then (7, S.burn) else (0, S.burn)) := by have := HR.out; rw [hd, hn, hl] at this; exact Lib.hid (this.trans (if_pos rfl))
          clear HR HLK
          go_wp2_with fail
          refine HB.out.mono ?_
          rintro e w4 ⟨rfl, hh2, ht2, _⟩
          have HG : Hid (Goes L w3 S.burn w4) := Lib.hid (Goes.same hh2 ht2.box)
          clear hh2 ht2 HB
          cases hb : S.burnt with
          | true =>
            have HE : Hid (R = (7, S.burn)) := by have := HE1.out; rw [hb] at this; exact Lib.hid this
            clear HE1
            go_wp2_with fail
            go_ret
            rw [HE.out]
            exact ⟨rfl, HG.out⟩
          | false =>
            have HE : Hid (R = (0, S.burn)) := by have := HE1.out; rw [hb] at this; exact Lib.hid this
            clear HE1
            go_wp2_with fail
            go_ret
            rw [HE.out]
            exact ⟨rfl, HG.out⟩
        · have hbq := str_beq hst
          have hne : s.data.toList ≠ t.data.toList := fun e => hst (list_of e)
          have HE : Hid (R = S.change ⟨s.data.toList, t.data.toList, none⟩ (Dk.look t.data.toList S.now)) := by have := HR.out; rw [hd, hn, hl] at this; exact Lib.hid (this.trans (if_neg hne))
          have hsn : s.data.toList ≠ [] := HNM.out _ (Dk.mem_of_look hl)
          have HC := Lib.hid (change_any w3 HH.out HF.out s t none (Dk.look t.data.toList S.now) ⟨fun _ => ⟨i, by unfold Chg.file; rw [if_neg hsn]; exact hl⟩, fun e => absurd e hsn⟩ (fun _ e => by cases e)
            (fun j e => HH.out.inNow _ (Dk.mem_of_look e)) HS.out HT.out)
          have hlk := HLK.out
          generalize hG : fileV L.loc (Dk.look t.data.toList S.now) = g at hlk HC
          clear HR HLK HB hne hsn hst hG hi
          go_wp2_with fail
          refine HC.out.mono ?_
          rintro e w4 ⟨rfl, hg⟩
          have HG := Lib.hid hg; clear hg HC
          go_wp2_with fail
          go_ret
          rw [HE.out]
          exact ⟨rfl, HG.out⟩

theorem Holds.ids {w : World} (h : Holds w L S) : (∀ p ∈ S.now, p.2 < S.next) ∧ (∀ p ∈ S.lasting, p.2 < S.next) ∧ ∀ c ∈ S.changes, ∀ i, c.made = some i → i < S.next :=
  ⟨fun p hp => h.lt _ (h.inNow p hp), fun p hp => h.lt _ (h.inOld p hp), fun c hc i hi => h.lt _ (h.inChg c hc i hi)⟩

/-- Where a disk lies that has one file more. -/
def Lay.more (L : Lay) (n b : Nat) : Lay := { L with loc := fun k => if k = n then b else L.loc k, dat := fun k => if k = n then .slice none 0 0 else L.dat k, live := fun k => k = n ∨ L.live k }
theorem chgCells_congr {loc loc' : Nat → Nat} {c : Chg} (h : ∀ i, c.made = some i → loc i = loc' i) : chgCells loc c = chgCells loc' c := by
  unfold chgCells
  cases hm : c.made with
  | none => rfl
  | some i => unfold fileV; dsimp only; rw [h i hm]
theorem flat_congr {loc loc' : Nat → Nat} {cs : List Chg} (h : ∀ c ∈ cs, ∀ i, c.made = some i → loc i = loc' i) : cs.flatMap (chgCells loc) = cs.flatMap (chgCells loc') := by
  induction cs with
  | nil => rfl
  | cons c r ih =>
    rw [List.flatMap_cons, List.flatMap_cons, chgCells_congr (h c (List.mem_cons_self ..)), ih (fun x hx => h x (List.mem_cons_of_mem _ hx))]
/-- A new file's block. -/
theorem Holds.moreFile {w : World} (h : Holds w L S) : Holds (w.alloc (.cells #[.slice none 0 0, .int .i64 0] 67)) (L.more S.next w.heap.size) S.with := by
  obtain ⟨i1, i2, i3⟩ := h.ids
  have hl : ∀ i, i < S.next → (L.more S.next w.heap.size).loc i = L.loc i := fun i hi => by unfold Lay.more; dsimp only; rw [if_neg (by omega)]
  have ha := h.alloc (.cells #[.slice none 0 0, .int .i64 0] 67)
  have hbelow : ∀ i, L.live i → L.loc i < w.heap.size := fun i hi => heap_lt (h.file i hi).box
  refine ⟨ha.box, ?_, ?_, h.two, ?_, fun i hi => ?_, fun i j hi hj hij => ?_, fun p hp => Or.inr (h.inNow p hp), fun p hp => Or.inr (h.inOld p hp), fun c hc i hi => Or.inr (h.inChg c hc i hi), fun i hi => ?_⟩
  · have e : toD (L.more S.next w.heap.size).loc S.with.now = toD L.loc S.now := toD_congr fun p hp => hl _ (i1 p hp)
    rw [e]; exact ha.now
  · have e : toD (L.more S.next w.heap.size).loc S.with.lasting = toD L.loc S.lasting := toD_congr fun p hp => hl _ (i2 p hp)
    rw [e]; exact ha.old
  · have e : S.with.changes.flatMap (chgCells (L.more S.next w.heap.size).loc) = S.changes.flatMap (chgCells L.loc) := flat_congr fun c hc i hi => hl _ (i3 c hc i hi)
    rw [e]; exact ha.chg
  · unfold Disk.with
    dsimp only
    by_cases e : i = S.next
    · subst e
      unfold Lay.more
      dsimp only
      rw [if_pos rfl, if_pos rfl, Dk.upd_same]
      exact ⟨heap_alloc_new w _, World.ownsRow_nil .., Nat.le_refl _⟩
    · have hi' : L.live i := by rcases hi with h1 | h1; exact absurd h1 e; exact h1
      unfold Lay.more
      dsimp only
      rw [if_neg e, if_neg e, Dk.upd_other e]
      exact ha.file i hi'
  · unfold Lay.more
    dsimp only
    by_cases e : i = S.next
    · have hj' : L.live j := by rcases hj with h1 | h1; exact absurd (e.trans h1.symm) hij; exact h1
      have hj2 : ¬ j = S.next := fun e2 => hij (e.trans e2.symm)
      rw [if_pos e, if_neg hj2, if_pos e, if_neg hj2]
      refine ⟨?_, fun b hb => by simp [Value.ownBlock] at hb⟩
      have := hbelow j hj'
      omega
    · have hi' : L.live i := by rcases hi with h1 | h1; exact absurd h1 e; exact h1
      rw [if_neg e, if_neg e]
      by_cases e2 : j = S.next
      · rw [if_pos e2, if_pos e2]
        refine ⟨?_, fun b _ hb => by simp [Value.ownBlock] at hb⟩
        have := hbelow i hi'
        omega
      · have hj' : L.live j := by rcases hj with h1 | h1; exact absurd h1 e2; exact h1
        rw [if_neg e2, if_neg e2]
        exact h.apart i j hi' hj' hij
  · unfold Disk.with
    dsimp only
    rcases hi with h1 | h1
    · omega
    · have := h.lt i h1; omega
/-- .. forgotten again. -/
theorem Holds.lessFile {w : World} {L' : Lay} (h : Holds w L' S.with) (i1 : ∀ p ∈ S.now, p.2 < S.next) (i2 : ∀ p ∈ S.lasting, p.2 < S.next) (i3 : ∀ c ∈ S.changes, ∀ i, c.made = some i → i < S.next) :
    Holds w { L' with live := fun i => L'.live i ∧ i < S.next } S := by
  refine ⟨h.box, h.now, h.old, h.two, h.chg, fun i hi => ?_, fun i j hi hj hij => h.apart i j hi.1 hj.1 hij, fun p hp => ⟨h.inNow p hp, i1 p hp⟩, fun p hp => ⟨h.inOld p hp, i2 p hp⟩, fun c hc i hi => ⟨h.inChg c hc i hi, i3 c hc i hi⟩, fun i hi => hi.2⟩
  have := h.file i hi.1
  unfold Disk.with at this
  dsimp only at this
  rw [Dk.upd_other (by have := hi.2; omega)] at this
  exact this
theorem own_less {L' : Lay} {n b : Nat} (h : Own { L' with live := fun i => L'.live i ∧ i < n } b) : Own L' b := by
  rcases h with h1 | h1 | h1 | h1 | ⟨k, hk, h1⟩
  · exact Or.inl h1
  · exact Or.inr (Or.inl h1)
  · exact Or.inr (Or.inr (Or.inl h1))
  · exact Or.inr (Or.inr (Or.inr (Or.inl h1)))
  · exact Or.inr (Or.inr (Or.inr (Or.inr ⟨k, hk.1, h1⟩)))
theorem own_more {n m b : Nat} (h : Own (L.more n m) b) : Own L b ∨ b = m := by
  rcases h with h1 | h1 | h1 | h1 | ⟨k, hk, h1⟩
  · exact Or.inl (Or.inl h1)
  · exact Or.inl (Or.inr (Or.inl h1))
  · exact Or.inl (Or.inr (Or.inr (Or.inl h1)))
  · exact Or.inl (Or.inr (Or.inr (Or.inr (Or.inl h1))))
  · unfold Lay.more at h1
    dsimp only at h1
    by_cases e : k = n
    · rw [if_pos e, if_pos e] at h1
      rcases h1 with h1 | h1
      · exact Or.inr h1
      · simp [Value.ownBlock] at h1
    · rw [if_neg e, if_neg e] at h1
      rcases hk with h2 | h2
      · exact absurd h2 e
      · exact Or.inl (Or.inr (Or.inr (Or.inr (Or.inr ⟨k, h2, h1⟩))))
theorem burn_with (S : Disk) : S.with.burn = S.burn.with ∧ S.with.burnt = S.burnt := by
  unfold Disk.burn Disk.with Disk.burnt
  dsimp only
  refine ⟨?_, rfl⟩
  split <;> rfl

set_option maxHeartbeats 4000000 in
set_option maxRecDepth 100000 in
theorem create_any (h : Holds w L S) (F : Fits S) (s : ByteArray) (hs : s.size ≤ 281474976710656) : Calls Try.prog 22 #[.pointer (some ⟨L.d, 0, none⟩), .string s] w fun e w' => e = .returned (errV (S.create s.data.toList).1) ∧ Goes L w (S.create s.data.toList).2 w' := by
  have HBA := Lib.hid (barred_any w h)
  have HN := Lib.hid (isName_any s w (by omega))
  have hlk := look_run h.now s (by unfold maxLen; omega)
  have c4 := h.cells.2.2.2.2.1
  have HF := Lib.hid F; clear F
  have HH := Lib.hid h; clear h
  have HS := Lib.hid hs; clear hs
  obtain ⟨R, hR⟩ : ∃ R, R = S.create s.data.toList := ⟨_, rfl⟩
  rw [← hR]
  unfold Disk.create at hR
  have HR := Lib.hid hR; clear hR
  go_enter Try.func22, Try.ntmps22
  go_wp2_with fail
  refine HBA.out.mono ?_
  rintro e w1 ⟨rfl, rfl⟩
  clear HBA
  cases hd : S.down with
  | true =>
    have HE : Hid (R = (7, S)) := by have := HR.out; rw [hd] at this; exact Lib.hid this
    have HV : Hid (barV S = .int .i64 7) := by unfold barV; rw [hd]; exact Lib.hid rfl
    rw [HV.out]
    clear HR HV hlk HN
    go_wp2_with fail
    go_ret
    rw [HE.out]
    exact ⟨rfl, Goes.stay HH.out⟩
  | false =>
    have HV : Hid (barV S = .int .i64 0) := by unfold barV; rw [hd]; exact Lib.hid rfl
    rw [HV.out]
    clear HV
    go_wp2_with fail
    refine HN.out.mono ?_
    rintro e w2 ⟨rfl, rfl⟩
    clear HN
    cases hn : Dk.isName s.data.toList with
    | false =>
      have HE : Hid (R = (1, S)) := by have := HR.out; rw [hd, hn] at this; exact Lib.hid this
      clear HR hlk
      go_wp2_with fail
      go_ret
      rw [HE.out]
      exact ⟨rfl, Goes.stay HH.out⟩
    | true =>
      cases hl : Dk.look s.data.toList S.now with
      | some i =>
        have HE : Hid (R = (5, S)) := by have := HR.out; rw [hd, hn, hl] at this; exact Lib.hid this
        rw [hl] at hlk
        unfold fileV at hlk
        clear HR
        go_wp2_with fail
        go_ret
        rw [HE.out]
        exact ⟨rfl, Goes.stay HH.out⟩
      | none =>
        have HE : Hid (R = if S.burnt then (7, S.burn) else (0, S.burn.with.did ⟨[], s.data.toList, some S.next⟩ none)) := by have := HR.out; rw [hd, hn, hl] at this; exact Lib.hid this
        rw [hl] at hlk
        unfold fileV at hlk
        have hsn : s.data.toList ≠ [] := fun e => by rw [e] at hn; cases hn
        have hloc : (L.more S.next w2.heap.size).loc S.next = w2.heap.size := by unfold Lay.more; exact if_pos rfl
        have HC := Lib.hid (change_any _ HH.out.moreFile (show Fits S.with from ⟨HF.out.fuse, HF.out.now, HF.out.old, HF.out.chg, HF.out.room0, HF.out.room, HF.out.least, HF.out.most, fun i => by
            unfold Disk.with Dk.upd
            dsimp only
            split
            · simp
            · exact HF.out.dat i⟩) ByteArray.empty s (some S.next) none ⟨fun _ => ⟨S.next, rfl⟩, fun _ => hsn⟩ (fun j e => by cases e; exact Or.inl rfl) (fun _ e => by cases e) (by decide) HS.out)
        rw [show fileV (L.more S.next w2.heap.size).loc (some S.next) = .pointer (some ⟨w2.heap.size, 0, none⟩) by unfold fileV; dsimp only; rw [hloc]] at HC
        generalize hQ : S.with.change ⟨ByteArray.empty.data.toList, s.data.toList, some S.next⟩ none = Q at HC
        have HQ := Lib.hid hQ
        clear HR hsn hloc hQ
        go_wp2_with fail
        refine HC.out.mono ?_
        rintro e w4 ⟨rfl, hg⟩
        have HG := Lib.hid hg; clear hg HC
        go_wp2_with fail
        go_ret
        obtain ⟨L', hld, hh, ht, ho⟩ := HG.out
        obtain ⟨i1, i2, i3⟩ := HH.out.ids
        have hT : Turns (Own L) w2 w4 := (Turns.of_below (P := Own L) ((Below.refl _ w2).alloc (Nat.le_refl _) _)).trans ht (fun x hx => (own_more hx).imp id (fun e => by omega))
        have hO : ∀ b, Own L' b → Own L b ∨ w2.heap.size ≤ b := fun b hb => by
          rcases ho b hb with h1 | h1
          · exact (own_more h1).imp id (fun e => by omega)
          · right; simp at h1; omega
        have e1 : Q = if S.burnt then (7, S.burn.with) else (0, S.burn.with.did ⟨[], s.data.toList, some S.next⟩ none) := by
          rw [← HQ.out]
          unfold Disk.change
          rw [(burn_with S).1, (burn_with S).2]
          rfl
        rw [e1] at hh ⊢
        rw [HE.out]
        cases hb : S.burnt with
        | true =>
          rw [hb] at hh
          have hh2 : Holds w4 L' S.burn.with := hh
          obtain ⟨b1, b2, b3, _, b5, _, _⟩ := burn_now S
          exact ⟨rfl, { L' with live := fun i => L'.live i ∧ i < S.burn.next }, hld, hh2.lessFile (by rw [b1, b5]; exact i1) (by rw [b2, b5]; exact i2) (by rw [b3, b5]; exact i3), hT, fun b hb => hO b (own_less hb)⟩
        | false =>
          rw [hb] at hh
          exact ⟨rfl, L', hld, hh, hT, hO⟩

end
end Go.Proofs.Ytefoijamedciiaa
