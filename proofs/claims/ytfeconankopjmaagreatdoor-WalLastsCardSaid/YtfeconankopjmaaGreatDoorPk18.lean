/- Texts on the program's own functions, several in one: DkO, DkP, DkAct, DkList, DkNo. -/
import Derived.Test.YtfeconankopjmaaGreatDoorPk15
import Derived.Test.YtfeconankopjmaaGreatDoorPk17
import Derived.Maps.RangeWalk
import Derived.Deep.RegionLaw
import Derived.Test.YtfeconankopjmaaGreatDoorPk1

/- The walks of New, Crash over a disk that lies in memory. -/
namespace Go.Proofs.YtfeconankopjmaaGreatDoor
open Go.RowKit Go.Maps Go.Sort
open Dk (Dir Chg Disk File Str)

set_option maxHeartbeats 2000000 in
set_option maxRecDepth 100000 in
theorem new_any (w : World) (n : Int) : Calls Tryz.prog 8 #[.int .i64 n] w fun e w' => ∃ L : Lay, e = .returned (.pointer (some ⟨L.d, 0, none⟩)) ∧ Holds w' L (Dk.fresh n) ∧ Below w.heap.size w w' ∧ ∀ b, Own L b → w.heap.size ≤ b := by
  have hmm := @run_makeMap Tryz.prog
  go_enter Tryz.func8, Tryz.ntmps8
  go_wp2_with fail
  refine (held_any _ _ _).mono ?_
  rintro e w1 ⟨rfl, rfl⟩
  go_wp2_with fail
  go_ret
  refine ⟨⟨w1.heap.size + 1 + 1, w1.heap.size, w1.heap.size + 1, .slice none 0 0, fun _ => 0, fun _ => .slice none 0 0, fun _ => False⟩, rfl, ?_, ?_, fun b hb => ?_⟩
  · have h0 := World.ownsMap_made (H := Unit) w1 Tryz.prog 9 ptrElem
    have h1 := World.ownsMap_made (H := Unit) (w1.alloc (.map #[] 0)) Tryz.prog 9 ptrElem
    rw [World.size_alloc] at h1
    refine ⟨?_, (h0.alloc _).alloc _, h1.alloc _, by simp, World.ownsRow_nil .., fun i hi => hi.elim, fun i _ hi => hi.elim, fun p hp => by simp [Dk.fresh] at hp, fun p hp => by simp [Dk.fresh] at hp, fun c hc => by simp [Dk.fresh] at hc, fun i hi => hi.elim⟩
    have := heap_alloc_new ((w1.alloc (.map #[] 0)).alloc (.map #[] 0)) (.cells #[.int .i64 (Dk.held n 1048576), .int .i64 0, .int .i64 0, .bool false, .map (some w1.heap.size), .map (some (w1.heap.size + 1)), .slice none 0 0] 89)
    rw [World.size_alloc, World.size_alloc] at this
    exact this
  · exact (((Below.refl _ w1).alloc (Nat.le_refl _) _).alloc (by simp) _).alloc (by simp; omega) _
  · rcases hb with h | h | h | h | ⟨k, hk, _⟩
    · simp only at h; omega
    · simp only at h; omega
    · simp only at h; omega
    · simp [Value.ownBlock] at h
    · exact hk.elim

/-- A directory that is another map. -/
theorem Holds.newNow {w w1 : World} {L : Lay} {S : Disk} (h : Holds w L S) (hb : Below w.heap.size w w1) (d : Dir) {nb n : Nat} (ho : w1.ownsMap Tryz.prog 9 ptrElem nb n (toD L.loc d)) (hnb : w.heap.size ≤ nb) (hd : ∀ p ∈ d, L.live p.2) :
    Holds (w1.setCell ⟨L.d, 4, none⟩ (.map (some nb))) { L with bn := nb } { S with now := d } := by
  have h1 := h.below hb
  have A := h1.lone
  have kept : ∀ b, b ≠ L.d → (w1.setCell ⟨L.d, 4, none⟩ (.map (some nb))).heap[b]? = w1.heap[b]? := fun b hne => setCell_kept w1 _ _ hne
  have hnd : nb ≠ L.d := by have := heap_lt h.box; omega
  have ho' := ownsMap_sized ho
  rw [toD_size] at ho'
  refine ⟨heap_setCell_same w1 L.d 4 _ _ _ h1.box, ownsMap_frame ho' (kept _ hnd), ownsMap_frame h1.old (kept _ A.bl_d), fun e => ?_, ownsRow_frame h1.chg fun b hb => kept b (A.vec_d b hb).1, fun i hi => (h1.file i hi).frame (kept _ (A.loc i hi).1) fun g hg => kept g (A.dat i hi g hg).1, h1.apart, hd, h1.inOld, h1.inChg, h1.lt⟩
  have := h.old.lt
  dsimp only at e
  omega

theorem ptr_inv (v : Value) (y : DataW Unit × List MemPlace) (h : ptrElem v = some y) : ∃ c, v = Value.pointer c := by
  unfold ptrElem at h
  split at h
  · exact ⟨_, rfl⟩
  · exact ⟨_, rfl⟩
  · cases h
def sizeAt (F : Nat → File) (d : Dir) (s : Str) : Nat := match Dk.look s d with
  | some i => (F i).data.length
  | none => 0
theorem total_sum (F : Nat → File) {d : Dir} (h : d.Pairwise (fun p q => bytesBefore p.1 q.1 = true)) : ((d.map (·.1)).map (sizeAt F d)).sum = Dk.total F d := by
  have aux : ∀ (e : Dir), (∀ p ∈ e, sizeAt F d p.1 = (F p.2).data.length) → ((e.map (·.1)).map (sizeAt F d)).sum = Dk.total F e := by
    intro e
    induction e with
    | nil => intro _; rfl
    | cons p r ih =>
      intro hp
      simp only [List.map_cons, List.sum_cons, Dk.total]
      rw [hp p (List.mem_cons_self ..), ih (fun q hq => hp q (List.mem_cons_of_mem _ hq))]
  refine aux d fun p hp => ?_
  obtain ⟨i, hi, hip⟩ := List.getElem_of_mem hp
  have hl := look_at h (i := i) (p := p) (by rw [List.getElem?_eq_getElem hi, hip])
  unfold sizeAt
  rw [hl]

/-- A crash's choices, as they are handed in. -/
structure Choices (w : World) (L : Lay) (vk vs : Value) (c : Dk.Crash) : Prop where
  keep : SeesI w vk c.keep
  spoil : SeesQ w vs c.spoil
  keepOff : c.keep ≠ [] → ∀ b, vk.ownBlock = some b → ¬ Own L b
  spoilOff : c.spoil ≠ [] → ∀ b, vs.ownBlock = some b → ¬ Own L b
  keepIn : c.keep ≠ [] → ∀ b, vk.ownBlock = some b → b < w.heap.size
  spoilIn : c.spoil ≠ [] → ∀ b, vs.ownBlock = some b → b < w.heap.size
  keepLen : c.keep.length ≤ 1099511627776
  spoilLen : c.spoil.length ≤ 1099511627776
  masks : ∀ q ∈ c.spoil, q.2 ≤ 4294967295

theorem perm_sum : ∀ {a b : List Nat}, a.Perm b → a.sum = b.sum := by
  intro a b h
  induction h with
  | nil => rfl
  | cons x _ ih => simp only [List.sum_cons, ih]
  | swap x y l => simp only [List.sum_cons]; omega
  | trans _ _ h1 h2 => exact h1.trans h2
theorem sum_le (ss : List (List UInt8)) (f : List UInt8 → Nat) (B : Nat) (h : ∀ s, f s ≤ B) : (ss.map f).sum ≤ ss.length * B := by
  induction ss with
  | nil => simp
  | cons x r ih =>
    simp only [List.map_cons, List.sum_cons, List.length_cons]
    have := h x
    rw [Nat.succ_mul]
    omega
theorem left_len (f : File) (ks : List Int) (sp : List (Int × Nat)) (k : Nat) : (Dk.left f ks sp k).data.length ≤ f.data.length := by
  rw [left_eq]
  dsimp only
  have h1 : ((f.data.drop f.lasts).take (keptOf f ks k)).length ≤ f.data.length - f.lasts := by
    rw [List.length_take, List.length_drop]; omega
  have h2 : ∀ u : Str, u.length = ((f.data.drop f.lasts).take (keptOf f ks k)).length → (f.data.take f.lasts ++ u).length ≤ f.data.length := fun u hu => by
    rw [List.length_append, List.length_take, hu]
    omega
  apply h2
  split
  · rfl
  · split
    · exact turn_length _ _ _
    · rfl
theorem tails_le (ks : List Int) (sp : List (Int × Nat)) : ∀ (d : Dir) (k : Nat) (G : Nat → File) (j : Nat), (Dk.tails ks sp d k G j).data.length ≤ (G j).data.length
  | [], _, _, _ => Nat.le_refl _
  | p :: r, k, G, j => by
    unfold Dk.tails
    split
    · exact tails_le ks sp r k G j
    · refine Nat.le_trans (tails_le ks sp r (k + 1) _ j) ?_
      unfold Dk.upd
      split
      · rename_i e
        rw [e]
        exact left_len _ _ _ _
      · exact Nat.le_refl _

set_option maxHeartbeats 8000000 in
set_option maxRecDepth 100000 in
theorem crash_any {L : Lay} {S : Disk} (w : World) (h : Holds w L S) (F : Fits S) (hcan : Dk.Cans S.changes S.lasting) (hsz : ∀ c ∈ S.changes, c.src.length ≤ maxLen ∧ c.dst.length ≤ maxLen) (vk vs : Value) (c : Dk.Crash) (hc : Choices w L vk vs c) (hbig : (Dk.runs (S.changes.take (Dk.held c.names S.changes.length).toNat) S.lasting).length ≤ 1099511627776)
    (hbnd : ∃ B, (∀ i, (S.file i).data.length ≤ B) ∧ (Dk.runs (S.changes.take (Dk.held c.names S.changes.length).toNat) S.lasting).length * B ≤ 1152921504606846976) :
    Calls Tryz.prog 27 #[.pointer (some ⟨L.d, 0, none⟩), .agg #[.int .i64 c.names, vk, vs]] w fun e w' => e = .returned (.tuple #[]) ∧ Goes L w (S.crash c) w' := by
  have hbx := h.alloc (.cells #[.int .i64 c.names, vk, vs] 55)
  have HM := Lib.hid (made_any _ hbx)
  have HF := Lib.hid F; have HC := Lib.hid hcan; have HZ := Lib.hid hsz; have HCH := Lib.hid hc; clear F hcan hsz hc
  have HBG := Lib.hid hbig; have HBND := Lib.hid hbnd; clear hbig hbnd
  have HBX := Lib.hid hbx
  have c3 := hbx.cells.2.2.2.1
  have f3 := hbx.soft 3
  have HH := Lib.hid h; clear h hbx
  obtain ⟨va, vc, hvk⟩ := HCH.out.keep.shape
  obtain ⟨vsa, vsc, hvs⟩ := HCH.out.spoil.shape
  have HVK := Lib.hid hvk; have HVS := Lib.hid hvs
  rw [hvk, hvs] at HM c3 f3 HBX ⊢
  clear hvk hvs
  go_enter Tryz.func27, Tryz.ntmps27
  go_wp2_with fail
  refine HM.out.mono ?_
  rintro e w1 ⟨rfl, rfl⟩
  clear HM
  go_wp2_with fail
  obtain ⟨p, hp⟩ : ∃ p, p = w.heap.size := ⟨_, rfl⟩
  have hdp : L.d < w.heap.size := heap_lt HH.out.box
  have hown_p : ∀ b, Own L b → b < p := fun b hb => by have := HH.out.own_lt hb; omega
  have HOP := Lib.hid hown_p
  have hw2 := HBX.out.setBox 3 (.bool true) { S with down := true } rfl rfl rfl rfl rfl rfl
  have ht2 : Turns (Own L) w ((w.alloc (.cells #[.int .i64 c.names, .slice va c.keep.length vc, .slice vsa c.spoil.length vsc] 55)).setCell ⟨L.d, 3, none⟩ (.bool true)) :=
    (Turns.of_below (P := Own L) ((Below.refl _ w).alloc (Nat.le_refl _) _)).trans (Turns.of_setCell (P := Own L) _ ⟨L.d, 3, none⟩ _ (Or.inl rfl)) (fun _ h => Or.inl h)
  have hb2 : ((w.alloc (.cells #[.int .i64 c.names, .slice va c.keep.length vc, .slice vsa c.spoil.length vsc] 55)).setCell ⟨L.d, 3, none⟩ (.bool true)).heap[p]? = some (.cells #[.int .i64 c.names, .slice va c.keep.length vc, .slice vsa c.spoil.length vsc] 55 (0, 0)) := by
    rw [setCell_kept _ _ _ (by simp; omega), hp]
    exact heap_alloc_new w _
  rw [← hp]
  generalize (w.alloc (.cells #[.int .i64 c.names, .slice va c.keep.length vc, .slice vsa c.spoil.length vsc] 55)).setCell ⟨L.d, 3, none⟩ (.bool true) = w2 at *
  have HW2 := Lib.hid hw2; have HT2 := Lib.hid ht2; have HB2 := Lib.hid hb2; have HPW := Lib.hid hp
  obtain ⟨n, hn⟩ : ∃ n : Nat, n = (Dk.held c.names S.changes.length).toNat := ⟨_, rfl⟩
  have hh0 : 0 ≤ Dk.held c.names S.changes.length ∧ Dk.held c.names S.changes.length ≤ S.changes.length := by unfold Dk.held; omega
  have hni : Dk.held c.names S.changes.length = (n : Int) := by omega
  have hnl : n ≤ S.changes.length := by omega
  obtain ⟨a6, cap6, hsh⟩ := row_shape hw2.chg
  have c6 := hw2.cells.2.2.2.2.2.2
  rw [hsh] at c6
  dsimp only at c6
  have k0 : w2.cell? ⟨p, 0, none⟩ = some (.int .i64 c.names) := by rw [cell_of hb2]; rfl
  have hF2 : Fits { S with down := true } := ⟨HF.out.fuse, HF.out.now, HF.out.old, HF.out.chg, HF.out.room0, HF.out.room, HF.out.least, HF.out.most, HF.out.dat⟩
  have HK := fun w' (hw' : Holds w' L { S with down := true }) => Lib.hid (keep_any w' hw' hF2 HC.out HZ.out n hnl)
  have HNI := Lib.hid hni; have HNN := Lib.hid hn
  have HBIG : Hid ((Dk.runs (S.changes.take n) S.lasting).length ≤ 1099511627776) := by rw [hn]; exact HBG
  clear hn hh0 hni hsh hw2 ht2 hb2 hF2 hown_p c3 f3 HBX hp
  go_cut [] from 6 (fun wr => Hid (Goes L w2 (({ S with down := true } : Disk).keep n) wr))
  case first =>
    go_region_law (first
      | (go_simp; go_at_call 37; refine (held_any _ _ _).mono ?_; rintro e wz ⟨rfl, rfl⟩; rw [HNI.out])
      | (go_simp; go_at_call 70; refine (HK _ HW2.out.drew).out.mono ?_; rintro e w3 ⟨rfl, hg3⟩))
    all_goals
      go_wp2_with fail
      go_meet
      case rel =>
        obtain ⟨L', hld, hh, ht, ho⟩ := hg3
        exact Lib.hid ⟨L', hld, hh, ⟨ht.os, ht.tape, ht.output, ht.size, ht.block⟩, ho⟩
  case rest =>
    obtain ⟨L2, hld, hh, ht, ho⟩ := hcut.out
    have hp2 : p < w2.heap.size := heap_lt HB2.out
    have hpo : ¬ Own L p := fun h => by have := HOP.out p h; omega
    have hpb := (ht.block p hp2 hpo).trans HB2.out
    have hpo2 : ¬ Own L2 p := fun h => (ho p h).elim hpo (fun h => by omega)
    have c5 := hh.cells.2.2.2.2.2.1
    have HG : Hid (Goes L w (({ S with down := true } : Disk).keep n) wc) := Lib.hid ⟨L2, hld, hh, HT2.out.trans ht (fun _ h => Or.inl h), fun b hb => (ho b hb).imp id (fun h => Nat.le_trans HT2.out.size h)⟩
    rw [hld] at c5
    have HCD := Lib.hid (clone_dir hh.old)
    have f4 := hh.soft 4
    have c4 := hh.cells.2.2.2.2.1
    rw [hld] at f4 c4
    have HH2 := Lib.hid hh; have HLD := Lib.hid hld; have HPB := Lib.hid hpb; have HPO2 := Lib.hid hpo2
    have HOB : Hid (∀ b, Own L2 b → b ≠ p ∧ (Own L b ∨ w2.heap.size ≤ b)) := Lib.hid (fun b hb => ⟨fun e => hpo2 (e ▸ hb), ho b hb⟩)
    have hdl : L.d < wc.heap.size := by rw [← hld]; exact heap_lt hh.box
    have HSZ : Hid (w2.heap.size ≤ wc.heap.size) := Lib.hid ht.size
    clear hcut hld hh ht ho hpb hpo2 hpo k0 c6
    go_wp2_with fail
    refine HCD.out.mono ?_
    rintro e w3 ⟨rfl, ho3, hb3⟩
    have c4b := (hb3.cell (p := ⟨L.d, 4, none⟩) hdl).trans c4
    have f4b := (hb3.frozen (p := ⟨L.d, 4, none⟩) hdl).trans f4
    obtain ⟨L3, hL3⟩ : ∃ L3 : Lay, L3 = { L2 with bn := wc.heap.size } := ⟨_, rfl⟩
    obtain ⟨S3, hS3⟩ : ∃ S3 : Disk, S3 = { ({ S with down := true } : Disk).keep n with now := (({ S with down := true } : Disk).keep n).lasting } := ⟨_, rfl⟩
    have hcopy : Holds (w3.setCell ⟨L.d, 4, none⟩ (.map (some wc.heap.size))) L3 S3 := by
      have := HH2.out.newNow hb3 _ ho3 (Nat.le_refl _) HH2.out.inOld
      rw [hL3, hS3, ← HLD.out]
      exact this
    have hld3 : L3.d = L.d := by rw [hL3]; exact HLD.out
    have hown3 : ∀ b, Own L3 b → b ≠ p ∧ (Own L b ∨ w2.heap.size ≤ b) := fun b hb => by
      rw [hL3] at hb
      rcases hb with h | h | h | h | h
      · exact HOB.out b (Or.inl h)
      · have h1 := HG.out; have h2 := heap_lt HPB.out
        have h3 : b = wc.heap.size := h
        refine ⟨by omega, Or.inr ?_⟩
        obtain ⟨_, _, _, _, _⟩ := h1
        rw [h3]
        exact HSZ.out
      · exact HOB.out b (Or.inr (Or.inr (Or.inl h)))
      · exact HOB.out b (Or.inr (Or.inr (Or.inr (Or.inl h))))
      · exact HOB.out b (Or.inr (Or.inr (Or.inr (Or.inr h))))
    have ht3 : Turns (Own L) w (w3.setCell ⟨L.d, 4, none⟩ (.map (some wc.heap.size))) := by
      obtain ⟨_, _, _, ht, _⟩ := HG.out
      exact (ht.trans (Turns.of_below (P := Own L) hb3) (fun _ h => Or.inl h)).trans (Turns.of_setCell (P := Own L) w3 ⟨L.d, 4, none⟩ _ (Or.inl rfl)) (fun _ h => Or.inl h)
    have hp3 := (hb3.block p (heap_lt HPB.out)).trans HPB.out
    have k1 : w3.cell? ⟨p, 1, none⟩ = some (.slice va c.keep.length vc) := by rw [cell_of hp3]; rfl
    have k2 : w3.cell? ⟨p, 2, none⟩ = some (.slice vsa c.spoil.length vsc) := by rw [cell_of hp3]; rfl
    have hF3 : Fits S3 := by
      have h1 := length_runs (S.changes.take n) S.lasting
      rw [hS3]
      refine ⟨HF.out.fuse, ?_, ?_, by simp [Disk.keep], HF.out.room0, HF.out.room, HF.out.least, HF.out.most, HF.out.dat⟩
      · exact HBIG.out
      · exact HBIG.out
    have hkk : SeesI (w3.setCell ⟨L.d, 4, none⟩ (.map (some wc.heap.size))) (.slice va c.keep.length vc) c.keep := by rw [← HVK.out]; exact HCH.out.keep.turned ht3 HCH.out.keepOff
    have hss : SeesQ (w3.setCell ⟨L.d, 4, none⟩ (.map (some wc.heap.size))) (.slice vsa c.spoil.length vsc) c.spoil := by rw [← HVS.out]; exact HCH.out.spoil.turned ht3 HCH.out.spoilOff
    have hko3 : c.keep ≠ [] → ∀ b, (Value.slice va c.keep.length vc).ownBlock = some b → ¬ Own L3 b := fun hne b hb ho => by
      rw [← HVK.out] at hb
      rcases (hown3 b ho).2 with h | h
      · exact HCH.out.keepOff hne b hb h
      · have := HCH.out.keepIn hne b hb
        have := HT2.out.size
        omega
    have hso3 : c.spoil ≠ [] → ∀ b, (Value.slice vsa c.spoil.length vsc).ownBlock = some b → ¬ Own L3 b := fun hne b hb ho => by
      rw [← HVS.out] at hb
      rcases (hown3 b ho).2 with h | h
      · exact HCH.out.spoilOff hne b hb h
      · have := HCH.out.spoilIn hne b hb
        have := HT2.out.size
        omega
    have HKT := Lib.hid (keepTails_any _ hcopy hF3 _ _ c.keep c.spoil hkk hss hko3 hso3 HCH.out.keepLen HCH.out.spoilLen HCH.out.masks)
    rw [hld3] at HKT
    have HC3 := Lib.hid hcopy; have HL3 := Lib.hid hld3; have HO3 := Lib.hid hown3; have HT3 := Lib.hid ht3; have HF3 := Lib.hid hF3; have HS3 := Lib.hid hS3
    clear hcopy hown3 ht3 hp3 hF3 hkk hss hko3 hso3 hL3 hS3 ho3 hb3 c4 f4 c5 HCD hld3
    go_wp2_with fail
    refine HKT.out.mono ?_
    rintro e w5 ⟨rfl, L5, ha5, hh5, ht5⟩
    have hld5 : L5.d = L.d := ha5.d.trans HL3.out
    have c1 := hh5.cells.2.1
    have f1 := hh5.soft 1
    have c4 := hh5.cells.2.2.2.2.1
    rw [hld5] at c1 f1 c4
    obtain ⟨FF, hFF⟩ : ∃ FF, FF = Dk.tails c.keep c.spoil S3.now 0 S3.file := ⟨_, rfl⟩
    rw [← hFF] at hh5
    have HU : Hid (∀ u : Int, Holds (w5.setCell ⟨L.d, 1, none⟩ (.int .i64 u)) L5 { S3 with file := FF, used := u }) := Lib.hid (fun u => by
      have := hh5.setBox 1 (.int .i64 u) { S3 with file := FF, used := u } rfl rfl rfl rfl rfl rfl
      rw [hld5] at this
      exact this)
    have HT5 : Hid (Turns (Own L) w (w5.setCell ⟨L.d, 1, none⟩ (.int .i64 0)) ∧ ∀ b, Own L5 b → Own L b ∨ w.heap.size ≤ b) := Lib.hid ⟨(HT3.out.trans ht5 (fun x hx => by
        rcases (HO3.out x hx).2 with h | h
        · exact Or.inl h
        · exact Or.inr (Nat.le_trans HT2.out.size h))).trans (Turns.of_setCell (P := Own L) w5 ⟨L.d, 1, none⟩ _ (Or.inl rfl)) (fun _ h => Or.inl h), fun b hb => by
        rcases (HO3.out b ((ha5.own b).1 hb)).2 with h | h
        · exact Or.inl h
        · exact Or.inr (Nat.le_trans HT2.out.size h)⟩
    have HFF := Lib.hid hFF; have HLD5 := Lib.hid hld5
    have hmap := (HU.out 0).now
    dsimp only at hmap
    have hmap2 : (w5.setCell ⟨L.d, 1, none⟩ (.int .i64 0)).ownsMap Tryz.prog 9 ptrElem L5.bn S3.now.length (toD L5.loc S3.now) := hmap
    clear hh5 ht5 ha5 HKT hFF hmap k1 k2 hld5
    go_wp2_with (at_range; refine wpList_range_own _ rfl _ 86 rfl 9 126 law Tryz.underlying86 ptrElem L5.bn S3.now.length _ rfl hmap2 ?_)
    intro w7 hrg7 hg7 hs7
    obtain ⟨r, hr⟩ : ∃ r, r = w5.heap.size := ⟨_, rfl⟩
    have hrs : (w5.setCell ⟨L.d, 1, none⟩ (.int .i64 0)).heap.size = r := by rw [hr]; simp [World.setCell]
    rw [← hr] at hrg7
    rw [← hr]
    have hown_r : ∀ b, Own L5 b → b < r := fun b hb => by
      have := (HU.out 0).own_lt hb
      rw [hrs] at this
      exact this
    have H7 : Hid (Holds w7 L5 { S3 with file := FF, used := 0 } ∧ Turns (Own L) w w7) := Lib.hid ⟨(HU.out 0).frame (fun b hb => hg7.block b (by rw [hrs]; exact hown_r b hb) (by simp)), HT5.out.1.trans (Turns.of_grown (P := fun _ => False) hg7 (fun _ e => by cases e)) (fun _ h => h.elim)⟩
    have HOR := Lib.hid hown_r; have HG7 := Lib.hid hrg7
    have hbr : L5.bn ≠ r := fun e => by have := hown_r L5.bn (Or.inr (Or.inl rfl)); omega
    have hdr : L.d ≠ r := fun e => by have := hown_r L.d (by rw [← HLD5.out]; exact Or.inl rfl); omega
    have hbd : L5.bn ≠ L.d := by have := (HU.out 0).lone.bn_d; rw [HLD5.out] at this; exact this
    have HD0 : Hid (Maps.size (toD L5.loc S3.now) = S3.now.length) := Lib.hid (toD_size _ _)
    have HRW : Hid (w.heap.size ≤ r) := by
      have h1 := HT5.out.1.size
      rw [hrs] at h1
      exact Lib.hid h1
    clear hown_r hs7 hg7 hmap2 hrs hr c4 hrg7
    go_wp2_with fail
    go_loopw [] (fun wr => ∃ (left : Lit → Bool) (cnt : Nat) (ss : List (List UInt8)), wr.ranges Tryz.prog 9 ptrElem L5.bn r S3.now.length (toD L5.loc S3.now) left cnt ∧ Hid (ss.length + cnt ≤ S3.now.length ∧ Collected (toD L5.loc S3.now) left ss ∧ Holds wr L5 { S3 with file := FF, used := (((ss.map (sizeAt FF S3.now)).sum : Nat) : Int) } ∧ Turns (Own L) w wr)) (fun wr => wr.rangeLeft L5.bn r)
    case atStart => exact ⟨_, _, [], HG7.out, Lib.hid ⟨by rw [HD0.out]; simp, Collected.start _, H7.out.1, H7.out.2⟩⟩
    case round =>
      obtain ⟨left, cnt, ss, hrg, HR⟩ := hrel
      go_wp2_with (at_next; refine wpList_next_ranges _ rfl _ rfl 9 law ptrElem encStr Value.pointer (fun key kl hk => by obtain ⟨x, hx, _⟩ := Maps.keyOf_str Tryz.underlying9 hk; exact ⟨x, hx⟩) ptr_inv L5.bn r S3.now.length _ _ _ rfl hrg ?_ ?_)
      · intro hc0 hl0
        have hperm := HR.out.2.1.perm hrg.owns law Tryz.underlying9 hl0
        rw [toD_keys] at hperm
        have hri := rising HR.out.2.2.1.now
        have hsum : (ss.map (sizeAt FF S3.now)).sum = Dk.total FF S3.now := by rw [perm_sum (hperm.map _)]; exact total_sum FF hri
        have HSUM := Lib.hid hsum
        clear hperm hri hsum hl0 hrg
        go_wp2_with fail
        go_end0
        refine ⟨rfl, L5, HLD5.out, ?_, HR.out.2.2.2, HT5.out.2⟩
        have hh := HR.out.2.2.1
        rw [HSUM.out] at hh
        have e : ({ S3 with file := FF, used := ((Dk.total FF S3.now : Nat) : Int) } : Disk) = S.crash c := by
          rw [HFF.out, HS3.out]
          unfold Disk.crash
          simp only
          rw [← HNN.out]
          rfl
        rw [e] at hh
        exact hh
      · intro x cp kl yd yp w8 cnt2 hkey hlk hv hat hrg2 hlt hg8 hs8 hen
        obtain ⟨x', ex, rfl, _⟩ := Maps.keyOf_str Tryz.underlying9 hkey
        obtain rfl : x = x' := encStr_inj ex
        obtain ⟨i, hi, hyd⟩ : ∃ i, Dk.look x S3.now = some i ∧ yd = .lit (.int .i64 (L5.loc i)) := by
          cases hl : Dk.look x S3.now with
          | none =>
            have h1 := hat .nil
            have h2 := hat (.map [])
            rw [toD_at, hl] at h1 h2
            dsimp only at h1 h2
            rw [← h1] at h2
            cases h2
          | some i =>
            have h1 := hat .nil
            rw [toD_at, hl] at h1
            exact ⟨i, rfl, h1.symm⟩
        subst hyd
        obtain ⟨m, hm, hm2⟩ := ptrElem_inv hv
        simp only [Value.pointer.injEq] at hm
        have hm3 : m = L5.loc i := by omega
        subst hm3
        subst hm
        have hh8 : Holds w8 L5 { S3 with file := FF, used := (((ss.map (sizeAt FF S3.now)).sum : Nat) : Int) } := HR.out.2.2.1.frame (fun b hb => hg8.block b (by have := HR.out.2.2.1.own_lt hb; exact this) (fun e => by have := HOR.out b hb; simp at e; omega))
        have hlive := HR.out.2.2.1.inNow (x, i) (Dk.mem_of_look hi)
        have hfa := hh8.file i hlive
        obtain ⟨da, dc, hsh⟩ := row_shape hfa.row
        dsimp only at hfa hsh hlive
        have e0 : w8.cell? ⟨L5.loc i, 0, none⟩ = some (.slice da (FF i).data.length dc) := by rw [cell_of hfa.box, hsh]; rfl
        have c1 : w8.cell? ⟨L.d, 1, none⟩ = some (.int .i64 (((ss.map (sizeAt FF S3.now)).sum : Nat) : Int)) := by rw [← HLD5.out]; exact hh8.cells.2.1
        have f1 : w8.frozen? ⟨L.d, 1, none⟩ = false := by rw [← HLD5.out]; exact hh8.soft 1
        obtain ⟨u, hu⟩ : ∃ u, u = (ss.map (sizeAt FF S3.now)).sum := ⟨_, rfl⟩
        obtain ⟨z, hz⟩ : ∃ z, z = (FF i).data.length := ⟨_, rfl⟩
        obtain ⟨B, hB1, hB2⟩ := HBND.out
        have hFB : ∀ j, (FF j).data.length ≤ B := fun j => by rw [HFF.out]; exact Nat.le_trans (tails_le _ _ _ _ _ j) (by rw [HS3.out]; exact hB1 j)
        have hub : u ≤ S3.now.length * B := by
          rw [hu]
          have h1 := sum_le ss (sizeAt FF S3.now) B (fun s => by
            unfold sizeAt
            split
            · exact hFB _
            · exact Nat.zero_le _)
          have h2 : ss.length * B ≤ S3.now.length * B := Nat.mul_le_mul_right _ (by have := HR.out.1; omega)
          omega
        have hnl3 : S3.now.length * B ≤ 1152921504606846976 := by
          rw [HS3.out]
          rw [← HNN.out] at hB2
          exact hB2
        have hzb : z ≤ 1099511627776 := by
          have h1 : (FF i).data.length ≤ (S.file i).data.length := by rw [HFF.out]; exact Nat.le_trans (tails_le _ _ _ _ _ i) (by rw [HS3.out]; exact Nat.le_refl _)
          have h2 := HF.out.dat i
          omega
        have hui : (u : Int) ≤ 1152921504606846976 := by omega
        have hzi : (z : Int) ≤ 1099511627776 := by omega
        have HSZ2 : Hid (sizeAt FF S3.now x = z) := by unfold sizeAt; rw [hi, hz]; exact Lib.hid rfl
        rw [← hu] at c1
        rw [← hz] at e0
        have HU1 := Lib.hid hu; have HRG2 := Lib.hid hrg2; have HAT := Lib.hid hat; have HH8 := Lib.hid hh8; have HG8 := Lib.hid hg8; have HRG := Lib.hid hrg
        clear hu hz hh8 hfa hsh hlive hv hm2 hat hrg2 hg8 hs8 hkey ex hi hB1 hB2 hFB hub hnl3 hzb hrg
        go_wp2_with fail
        go_region
        have HE : Hid (w8.grownBy (w8.setCell ⟨L.d, 1, none⟩ (.int .i64 ((u : Int) + z))).drew (some L.d) ∧ Holds (w8.setCell ⟨L.d, 1, none⟩ (.int .i64 ((u : Int) + z))).drew L5 { S3 with file := FF, used := ((((ss ++ [x]).map (sizeAt FF S3.now)).sum : Nat) : Int) } ∧ Turns (Own L) w (w8.setCell ⟨L.d, 1, none⟩ (.int .i64 ((u : Int) + z))).drew) := by
          refine Lib.hid ⟨⟨rfl, rfl, rfl, by simp [World.setCell, World.drew], fun k _ hne => setCell_kept w8 _ _ (fun e => hne (by rw [e]))⟩, ?_, ?_⟩
          · have := HH8.out.setBox 1 (.int .i64 ((u : Int) + z)) { S3 with file := FF, used := ((((ss ++ [x]).map (sizeAt FF S3.now)).sum : Nat) : Int) } (by
              have e : ((((ss ++ [x]).map (sizeAt FF S3.now)).sum : Nat) : Int) = (u : Int) + z := by rw [List.map_append, List.sum_append, ← HU1.out]; simp [HSZ2.out]
              rw [e]
              rfl) rfl rfl rfl rfl rfl
            rw [HLD5.out] at this
            exact this.drew
          · exact ((HR.out.2.2.2.trans (Turns.of_grown (P := fun k => k = r) HG8.out (fun k e => (Option.some.inj e).symm)) (fun b hb => Or.inr (by rw [hb]; exact HRW.out))).trans (Turns.of_setCell (P := Own L) w8 ⟨L.d, 1, none⟩ _ (Or.inl rfl)) (fun _ h => Or.inl h)).drew
        go_wp2_with fail
        go_roundw
        case rel => exact ⟨_, cnt2, ss ++ [x], HRG2.out.kept HE.out.1 (by simp [hbd]) (by simp; omega), Lib.hid ⟨by rw [List.length_append, List.length_singleton]; have := HR.out.1; omega, HR.out.2.1.step hlk HAT.out, HE.out.2.1, HE.out.2.2⟩⟩
        case measure => rw [(HRG2.out.kept HE.out.1 (by simp [hbd]) (by simp; omega)).left_eq, HRG.out.left_eq]; omega

end Go.Proofs.YtfeconankopjmaaGreatDoor

/- The walk of the statements' awake over disks. -/
namespace Go.Proofs.YtfeconankopjmaaGreatDoor
open Go.RowKit Go.Maps
open Dk (Dir Chg Disk File Str)

theorem fits_of {n m : Nat} {S : Disk} (G : Dk.Good n m S) (hn : n ≤ 1048576) (hm : m ≤ 1048576) : Fits S := by
  have h : n * m ≤ 1048576 * 1048576 := Nat.mul_le_mul hn hm
  have h1 := G.least
  have h2 := G.most
  have h3 := G.nowLen
  have h4 := G.count
  exact ⟨G.fuse, by omega, by omega, by omega, G.room0, G.room, by omega, by omega, fun i => by have := G.dat i; omega⟩
theorem crash_fits {n m : Nat} {S : Disk} (G : Dk.Good n m S) (hn : n ≤ 1048576) (hm : m ≤ 1048576) (k : Int) :
    (Dk.runs (S.changes.take (Dk.held k S.changes.length).toNat) S.lasting).length ≤ 1099511627776 ∧ ∃ B, (∀ i, (S.file i).data.length ≤ B) ∧ (Dk.runs (S.changes.take (Dk.held k S.changes.length).toNat) S.lasting).length * B ≤ 1152921504606846976 := by
  have h1 := Dk.length_runs (S.changes.take (Dk.held k S.changes.length).toNat) S.lasting
  have h4 := G.count
  rw [List.length_take] at h1
  have h5 : (Dk.runs (S.changes.take (Dk.held k S.changes.length).toNat) S.lasting).length ≤ 1048576 := by omega
  have h : (Dk.runs (S.changes.take (Dk.held k S.changes.length).toNat) S.lasting).length * m ≤ 1048576 * 1048576 := Nat.mul_le_mul h5 hm
  exact ⟨by omega, m, G.dat, by omega⟩
theorem names_of {n m : Nat} {S : Disk} (G : Dk.Good n m S) : ∀ p ∈ S.now, p.1 ≠ [] := fun p hp => (G.nowNames p hp).1
theorem sizes_of {n m : Nat} {S : Disk} (G : Dk.Good n m S) : ∀ c ∈ S.changes, c.src.length ≤ maxLen ∧ c.dst.length ≤ maxLen := fun c hc => by
  have h := G.chgs c hc
  have aux : ∀ s : Str, (s = [] ∨ Dk.Nm s) → s.length ≤ maxLen := fun s hs => by
    unfold maxLen
    rcases hs with rfl | hs
    · simp
    · have := hs.2; omega
  exact ⟨aux _ h.1, aux _ h.2⟩

/-- A disk of the call's own: its blocks lie from a base on. -/
structure Disc (w : World) (base : Nat) (L : Lay) (S : Disk) (n m : Nat) : Prop where
  holds : Holds w L S
  good : Dk.Good n m S
  own : ∀ b, Own L b → base ≤ b
  lo : base ≤ w.heap.size
theorem Disc.goes {w w' : World} {base : Nat} {L : Lay} {S S' : Disk} {n m n' m' : Nat} (h : Disc w base L S n m) (hg : Goes L w S' w') (G : Dk.Good n' m' S') : ∃ L', L'.d = L.d ∧ Disc w' base L' S' n' m' ∧ Below base w w' := by
  obtain ⟨L', hld, hh, ht, ho⟩ := hg
  refine ⟨L', hld, ⟨hh, G, fun b hb => ?_, Nat.le_trans h.lo ht.size⟩, ht.to_below h.lo h.own⟩
  rcases ho b hb with h1 | h1
  · exact h.own b h1
  · exact Nat.le_trans h.lo h1
theorem Disc.below {w w' : World} {base : Nat} {L : Lay} {S : Disk} {n m : Nat} (h : Disc w base L S n m) (hb : Below w.heap.size w w') : Disc w' base L S n m :=
  ⟨h.holds.below hb, h.good, h.own, Nat.le_trans h.lo hb.size⟩
theorem Disc.mono {w : World} {base : Nat} {L : Lay} {S : Disk} {n m n' m' : Nat} (h : Disc w base L S n m) (hn : n ≤ n') (hm : m ≤ m') : Disc w base L S n' m' := ⟨h.holds, h.good.mono hn hm, h.own, h.lo⟩

end Go.Proofs.YtfeconankopjmaaGreatDoor

/- The walk of the statements' Does over a disk that lies in memory. -/
namespace Go.Proofs.YtfeconankopjmaaGreatDoor
open Go.RowKit Go.Maps
open Dk (Dir Chg Disk File Str)

/-- What is done to a disk. -/
structure Act where
  kind : Nat
  a : ByteArray
  b : ByteArray
  n : Int
  crash : Dk.Crash
def does (S : Disk) (x : Act) : Disk × Str × Int := match x.kind with
  | 0 => ((S.create x.a.data.toList).2, [], (S.create x.a.data.toList).1)
  | 1 => ((S.append x.a.data.toList x.b.data.toList).2, [], (S.append x.a.data.toList x.b.data.toList).1)
  | 2 => ((S.sync x.a.data.toList).2, [], (S.sync x.a.data.toList).1)
  | 3 => ((S.rename x.a.data.toList x.b.data.toList).2, [], (S.rename x.a.data.toList x.b.data.toList).1)
  | 4 => ((S.delete x.a.data.toList).2, [], (S.delete x.a.data.toList).1)
  | 5 => (S.dirSync.2, [], S.dirSync.1)
  | 6 => (S.light x.n, [], 0)
  | 7 => (S.crash x.crash, [], 0)
  | 8 => (S.start, [], 0)
  | 9 => (S, (S.read x.a.data.toList).1, (S.read x.a.data.toList).2)
  | _ => (S, [], 0)
theorem good_does {n m : Nat} {S : Disk} (G : Dk.Good n m S) (x : Act) (hn : x.n ≤ 9223372036854775807) : Dk.Good (n + 1) (m + x.b.size) (does S x).1 := by
  unfold does
  split
  · exact (G.create _).mono (Nat.le_refl _) (Nat.le_add_right _ _)
  · have := G.append x.a.data.toList x.b.data.toList
    rw [← Lib.size_eq] at this
    exact this
  · exact (G.sync _).mono (Nat.le_refl _) (Nat.le_add_right _ _)
  · exact (G.rename _ _).mono (Nat.le_refl _) (Nat.le_add_right _ _)
  · exact (G.delete _).mono (Nat.le_refl _) (Nat.le_add_right _ _)
  · exact G.dirSync.mono (Nat.le_refl _) (Nat.le_add_right _ _)
  · exact (G.light _ hn).mono (Nat.le_succ _) (Nat.le_add_right _ _)
  · exact (G.crash _).mono (Nat.le_refl _) (Nat.le_add_right _ _)
  · exact G.start.mono (Nat.le_succ _) (Nat.le_add_right _ _)
  · exact G.mono (Nat.le_succ _) (Nat.le_add_right _ _)
  · exact G.mono (Nat.le_succ _) (Nat.le_add_right _ _)

def crashV (names : Int) (vk vs : Value) : Value := .agg #[.int .i64 names, vk, vs]
def actV (x : Act) (vk vs : Value) : Value := .agg #[.int .u8 (x.kind : Int), .string x.a, .string x.b, .int .i64 x.n, .int .i64 x.crash.names, vk, vs]
/-- A crash's choices lie in memory that is older than a base. -/
structure Older (w : World) (base : Nat) (vk vs : Value) (c : Dk.Crash) : Prop where
  keep : SeesI w vk c.keep
  spoil : SeesQ w vs c.spoil
  keepIn : c.keep ≠ [] → ∀ b, vk.ownBlock = some b → b < base
  spoilIn : c.spoil ≠ [] → ∀ b, vs.ownBlock = some b → b < base
  keepLen : c.keep.length ≤ 1099511627776
  spoilLen : c.spoil.length ≤ 1099511627776
  masks : ∀ q ∈ c.spoil, q.2 ≤ 4294967295
theorem Older.below {w w' : World} {base : Nat} {vk vs : Value} {c : Dk.Crash} (h : Older w base vk vs c) (hb : Below base w w') : Older w' base vk vs c := by
  have ht : Turns (fun k => base ≤ k) w w' := ⟨hb.os, hb.tape, hb.output, hb.size, fun k _ hk => hb.block k (by omega)⟩
  exact ⟨h.keep.turned ht (fun hne b hv => by have := h.keepIn hne b hv; omega), h.spoil.turned ht (fun hne b hv => by have := h.spoilIn hne b hv; omega), h.keepIn, h.spoilIn, h.keepLen, h.spoilLen, h.masks⟩
theorem Older.choices {w : World} {base : Nat} {vk vs : Value} {c : Dk.Crash} (h : Older w base vk vs c) {L : Lay} {S : Disk} {n m : Nat} (D : Disc w base L S n m) : Choices w L vk vs c :=
  ⟨h.keep, h.spoil, fun hne b hv ho => by have := h.keepIn hne b hv; have := D.own b ho; omega, fun hne b hv ho => by have := h.spoilIn hne b hv; have := D.own b ho; omega,
    fun hne b hv => Nat.lt_of_lt_of_le (h.keepIn hne b hv) D.lo, fun hne b hv => Nat.lt_of_lt_of_le (h.spoilIn hne b hv) D.lo, h.keepLen, h.spoilLen, h.masks⟩

/-- What is small enough of an act. -/
structure ActFits (x : Act) : Prop where
  a : x.a.size ≤ 281474976710656
  b : x.b.size ≤ 1099511627776
  n : x.n ≤ 9223372036854775807
  kind : x.kind ≤ 255

/-- What Does answers, and the disk goes on. -/
def Did (L : Lay) (S : Disk) (x : Act) (w : World) (e : Ending) (w' : World) : Prop :=
  e = .returned (.tuple #[.string ⟨(does S x).2.1.toArray⟩, .int .i64 (does S x).2.2]) ∧ Goes L w (does S x).1 w'

theorem Goes.after {w w1 w' : World} {L : Lay} {S' : Disk} (hb : Below w.heap.size w w1) (g : Goes L w1 S' w') : Goes L w S' w' := by
  obtain ⟨L', hld, hh, ht, ho⟩ := g
  exact ⟨L', hld, hh, (Turns.of_below (P := Own L) hb).trans ht (fun _ h => Or.inl h), fun b hb' => (ho b hb').imp id (fun h => Nat.le_trans hb.size h)⟩

set_option maxHeartbeats 8000000 in
set_option maxRecDepth 100000 in
theorem does_0 {w : World} {base : Nat} {L : Lay} {S : Disk} {n m : Nat} (D : Disc w base L S n m) (hn : n ≤ 1048576) (hm : m ≤ 1048576) (x : Act) (hx : ActFits x) (vk vs : Value) (ho : Older w base vk vs x.crash) (hk : x.kind = 0) :
    Calls Tryz.prog 55 #[.pointer (some ⟨L.d, 0, none⟩), actV x vk vs] w (Did L S x w) := by
  have hbl : Below w.heap.size w (w.alloc (.cells #[.int .u8 (x.kind : Int), .string x.a, .string x.b, .int .i64 x.n, .int .i64 x.crash.names, vk, vs] 57)) := (Below.refl _ _).alloc (Nat.le_refl _) _
  have DA : Hid (Disc (w.alloc (.cells #[.int .u8 (x.kind : Int), .string x.a, .string x.b, .int .i64 x.n, .int .i64 x.crash.names, vk, vs] 57)) base L S n m) := Lib.hid (D.below hbl)
  have OL : Hid (Older (w.alloc (.cells #[.int .u8 (x.kind : Int), .string x.a, .string x.b, .int .i64 x.n, .int .i64 x.crash.names, vk, vs] 57)) base vk vs x.crash) := Lib.hid (ho.below (hbl.mono D.lo))
  have HB := Lib.hid hbl; have HN := Lib.hid hn; have HM := Lib.hid hm; have HX := Lib.hid hx
  clear hbl ho hn hm hx D
  unfold actV
  have HR : Hid (does S x = ((S.create x.a.data.toList).2, [], (S.create x.a.data.toList).1)) := by unfold does; rw [hk]; exact Lib.hid rfl
  have hkq : (x.kind : Int) = 0 := by omega
  rw [hkq] at DA OL HB ⊢
  clear hkq hk
  have HC := Lib.hid (create_any _ DA.out.holds (fits_of DA.out.good HN.out HM.out) x.a HX.out.a)
  obtain ⟨R, hR⟩ : ∃ R, R = does S x := ⟨_, rfl⟩
  unfold Did
  rw [← hR]
  have HRR : Hid (R = ((S.create x.a.data.toList).2, [], (S.create x.a.data.toList).1)) := by rw [hR]; exact HR
  clear hR HR
  go_enter Tryz.func55, Tryz.ntmps55
  go_wp2_with fail
  refine HC.out.mono ?_
  rintro e w1 ⟨rfl, hg⟩
  have HG := Lib.hid hg; clear hg HC
  go_wp2_with fail
  go_ret2
  rw [HRR.out]
  exact ⟨rfl, HG.out.after HB.out⟩


set_option maxHeartbeats 8000000 in
set_option maxRecDepth 100000 in
theorem does_1 {w : World} {base : Nat} {L : Lay} {S : Disk} {n m : Nat} (D : Disc w base L S n m) (hn : n ≤ 1048576) (hm : m ≤ 1048576) (x : Act) (hx : ActFits x) (vk vs : Value) (ho : Older w base vk vs x.crash) (hk : x.kind = 1) :
    Calls Tryz.prog 55 #[.pointer (some ⟨L.d, 0, none⟩), actV x vk vs] w (Did L S x w) := by
  have hbl : Below w.heap.size w (w.alloc (.cells #[.int .u8 (x.kind : Int), .string x.a, .string x.b, .int .i64 x.n, .int .i64 x.crash.names, vk, vs] 57)) := (Below.refl _ _).alloc (Nat.le_refl _) _
  have DA : Hid (Disc (w.alloc (.cells #[.int .u8 (x.kind : Int), .string x.a, .string x.b, .int .i64 x.n, .int .i64 x.crash.names, vk, vs] 57)) base L S n m) := Lib.hid (D.below hbl)
  have OL : Hid (Older (w.alloc (.cells #[.int .u8 (x.kind : Int), .string x.a, .string x.b, .int .i64 x.n, .int .i64 x.crash.names, vk, vs] 57)) base vk vs x.crash) := Lib.hid (ho.below (hbl.mono D.lo))
  have HB := Lib.hid hbl; have HN := Lib.hid hn; have HM := Lib.hid hm; have HX := Lib.hid hx
  clear hbl ho hn hm hx D
  unfold actV
  have HR : Hid (does S x = ((S.append x.a.data.toList x.b.data.toList).2, [], (S.append x.a.data.toList x.b.data.toList).1)) := by unfold does; rw [hk]; exact Lib.hid rfl
  have hkq : (x.kind : Int) = 1 := by omega
  rw [hkq] at DA OL HB ⊢
  clear hkq hk
  have HC := Lib.hid (append_any _ DA.out.holds (fits_of DA.out.good HN.out HM.out) x.a x.b (by have := HX.out.a; unfold maxLen; omega) HX.out.b)
  obtain ⟨R, hR⟩ : ∃ R, R = does S x := ⟨_, rfl⟩
  unfold Did
  rw [← hR]
  have HRR : Hid (R = ((S.append x.a.data.toList x.b.data.toList).2, [], (S.append x.a.data.toList x.b.data.toList).1)) := by rw [hR]; exact HR
  clear hR HR
  go_enter Tryz.func55, Tryz.ntmps55
  go_wp2_with fail
  refine HC.out.mono ?_
  rintro e w1 ⟨rfl, hg⟩
  have HG := Lib.hid hg; clear hg HC
  go_wp2_with fail
  go_ret2
  rw [HRR.out]
  exact ⟨rfl, HG.out.after HB.out⟩


set_option maxHeartbeats 8000000 in
set_option maxRecDepth 100000 in
theorem does_2 {w : World} {base : Nat} {L : Lay} {S : Disk} {n m : Nat} (D : Disc w base L S n m) (hn : n ≤ 1048576) (hm : m ≤ 1048576) (x : Act) (hx : ActFits x) (vk vs : Value) (ho : Older w base vk vs x.crash) (hk : x.kind = 2) :
    Calls Tryz.prog 55 #[.pointer (some ⟨L.d, 0, none⟩), actV x vk vs] w (Did L S x w) := by
  have hbl : Below w.heap.size w (w.alloc (.cells #[.int .u8 (x.kind : Int), .string x.a, .string x.b, .int .i64 x.n, .int .i64 x.crash.names, vk, vs] 57)) := (Below.refl _ _).alloc (Nat.le_refl _) _
  have DA : Hid (Disc (w.alloc (.cells #[.int .u8 (x.kind : Int), .string x.a, .string x.b, .int .i64 x.n, .int .i64 x.crash.names, vk, vs] 57)) base L S n m) := Lib.hid (D.below hbl)
  have OL : Hid (Older (w.alloc (.cells #[.int .u8 (x.kind : Int), .string x.a, .string x.b, .int .i64 x.n, .int .i64 x.crash.names, vk, vs] 57)) base vk vs x.crash) := Lib.hid (ho.below (hbl.mono D.lo))
  have HB := Lib.hid hbl; have HN := Lib.hid hn; have HM := Lib.hid hm; have HX := Lib.hid hx
  clear hbl ho hn hm hx D
  unfold actV
  have HR : Hid (does S x = ((S.sync x.a.data.toList).2, [], (S.sync x.a.data.toList).1)) := by unfold does; rw [hk]; exact Lib.hid rfl
  have hkq : (x.kind : Int) = 2 := by omega
  rw [hkq] at DA OL HB ⊢
  clear hkq hk
  have HC := Lib.hid (sync_any _ DA.out.holds (fits_of DA.out.good HN.out HM.out) x.a (by have := HX.out.a; unfold maxLen; omega))
  obtain ⟨R, hR⟩ : ∃ R, R = does S x := ⟨_, rfl⟩
  unfold Did
  rw [← hR]
  have HRR : Hid (R = ((S.sync x.a.data.toList).2, [], (S.sync x.a.data.toList).1)) := by rw [hR]; exact HR
  clear hR HR
  go_enter Tryz.func55, Tryz.ntmps55
  go_wp2_with fail
  refine HC.out.mono ?_
  rintro e w1 ⟨rfl, hg⟩
  have HG := Lib.hid hg; clear hg HC
  go_wp2_with fail
  go_ret2
  rw [HRR.out]
  exact ⟨rfl, HG.out.after HB.out⟩


set_option maxHeartbeats 8000000 in
set_option maxRecDepth 100000 in
theorem does_3 {w : World} {base : Nat} {L : Lay} {S : Disk} {n m : Nat} (D : Disc w base L S n m) (hn : n ≤ 1048576) (hm : m ≤ 1048576) (x : Act) (hx : ActFits x) (vk vs : Value) (ho : Older w base vk vs x.crash) (hk : x.kind = 3) :
    Calls Tryz.prog 55 #[.pointer (some ⟨L.d, 0, none⟩), actV x vk vs] w (Did L S x w) := by
  have hbl : Below w.heap.size w (w.alloc (.cells #[.int .u8 (x.kind : Int), .string x.a, .string x.b, .int .i64 x.n, .int .i64 x.crash.names, vk, vs] 57)) := (Below.refl _ _).alloc (Nat.le_refl _) _
  have DA : Hid (Disc (w.alloc (.cells #[.int .u8 (x.kind : Int), .string x.a, .string x.b, .int .i64 x.n, .int .i64 x.crash.names, vk, vs] 57)) base L S n m) := Lib.hid (D.below hbl)
  have OL : Hid (Older (w.alloc (.cells #[.int .u8 (x.kind : Int), .string x.a, .string x.b, .int .i64 x.n, .int .i64 x.crash.names, vk, vs] 57)) base vk vs x.crash) := Lib.hid (ho.below (hbl.mono D.lo))
  have HB := Lib.hid hbl; have HN := Lib.hid hn; have HM := Lib.hid hm; have HX := Lib.hid hx
  clear hbl ho hn hm hx D
  unfold actV
  have HR : Hid (does S x = ((S.rename x.a.data.toList x.b.data.toList).2, [], (S.rename x.a.data.toList x.b.data.toList).1)) := by unfold does; rw [hk]; exact Lib.hid rfl
  have hkq : (x.kind : Int) = 3 := by omega
  rw [hkq] at DA OL HB ⊢
  clear hkq hk
  have HC := Lib.hid (rename_any _ DA.out.holds (fits_of DA.out.good HN.out HM.out) (names_of DA.out.good) x.a x.b HX.out.a (by have := HX.out.b; omega))
  obtain ⟨R, hR⟩ : ∃ R, R = does S x := ⟨_, rfl⟩
  unfold Did
  rw [← hR]
  have HRR : Hid (R = ((S.rename x.a.data.toList x.b.data.toList).2, [], (S.rename x.a.data.toList x.b.data.toList).1)) := by rw [hR]; exact HR
  clear hR HR
  go_enter Tryz.func55, Tryz.ntmps55
  go_wp2_with fail
  refine HC.out.mono ?_
  rintro e w1 ⟨rfl, hg⟩
  have HG := Lib.hid hg; clear hg HC
  go_wp2_with fail
  go_ret2
  rw [HRR.out]
  exact ⟨rfl, HG.out.after HB.out⟩


set_option maxHeartbeats 8000000 in
set_option maxRecDepth 100000 in
theorem does_4 {w : World} {base : Nat} {L : Lay} {S : Disk} {n m : Nat} (D : Disc w base L S n m) (hn : n ≤ 1048576) (hm : m ≤ 1048576) (x : Act) (hx : ActFits x) (vk vs : Value) (ho : Older w base vk vs x.crash) (hk : x.kind = 4) :
    Calls Tryz.prog 55 #[.pointer (some ⟨L.d, 0, none⟩), actV x vk vs] w (Did L S x w) := by
  have hbl : Below w.heap.size w (w.alloc (.cells #[.int .u8 (x.kind : Int), .string x.a, .string x.b, .int .i64 x.n, .int .i64 x.crash.names, vk, vs] 57)) := (Below.refl _ _).alloc (Nat.le_refl _) _
  have DA : Hid (Disc (w.alloc (.cells #[.int .u8 (x.kind : Int), .string x.a, .string x.b, .int .i64 x.n, .int .i64 x.crash.names, vk, vs] 57)) base L S n m) := Lib.hid (D.below hbl)
  have OL : Hid (Older (w.alloc (.cells #[.int .u8 (x.kind : Int), .string x.a, .string x.b, .int .i64 x.n, .int .i64 x.crash.names, vk, vs] 57)) base vk vs x.crash) := Lib.hid (ho.below (hbl.mono D.lo))
  have HB := Lib.hid hbl; have HN := Lib.hid hn; have HM := Lib.hid hm; have HX := Lib.hid hx
  clear hbl ho hn hm hx D
  unfold actV
  have HR : Hid (does S x = ((S.delete x.a.data.toList).2, [], (S.delete x.a.data.toList).1)) := by unfold does; rw [hk]; exact Lib.hid rfl
  have hkq : (x.kind : Int) = 4 := by omega
  rw [hkq] at DA OL HB ⊢
  clear hkq hk
  have HC := Lib.hid (delete_any _ DA.out.holds (fits_of DA.out.good HN.out HM.out) (names_of DA.out.good) x.a HX.out.a)
  obtain ⟨R, hR⟩ : ∃ R, R = does S x := ⟨_, rfl⟩
  unfold Did
  rw [← hR]
  have HRR : Hid (R = ((S.delete x.a.data.toList).2, [], (S.delete x.a.data.toList).1)) := by rw [hR]; exact HR
  clear hR HR
  go_enter Tryz.func55, Tryz.ntmps55
  go_wp2_with fail
  refine HC.out.mono ?_
  rintro e w1 ⟨rfl, hg⟩
  have HG := Lib.hid hg; clear hg HC
  go_wp2_with fail
  go_ret2
  rw [HRR.out]
  exact ⟨rfl, HG.out.after HB.out⟩


set_option maxHeartbeats 8000000 in
set_option maxRecDepth 100000 in
theorem does_5 {w : World} {base : Nat} {L : Lay} {S : Disk} {n m : Nat} (D : Disc w base L S n m) (hn : n ≤ 1048576) (hm : m ≤ 1048576) (x : Act) (hx : ActFits x) (vk vs : Value) (ho : Older w base vk vs x.crash) (hk : x.kind = 5) :
    Calls Tryz.prog 55 #[.pointer (some ⟨L.d, 0, none⟩), actV x vk vs] w (Did L S x w) := by
  have hbl : Below w.heap.size w (w.alloc (.cells #[.int .u8 (x.kind : Int), .string x.a, .string x.b, .int .i64 x.n, .int .i64 x.crash.names, vk, vs] 57)) := (Below.refl _ _).alloc (Nat.le_refl _) _
  have DA : Hid (Disc (w.alloc (.cells #[.int .u8 (x.kind : Int), .string x.a, .string x.b, .int .i64 x.n, .int .i64 x.crash.names, vk, vs] 57)) base L S n m) := Lib.hid (D.below hbl)
  have OL : Hid (Older (w.alloc (.cells #[.int .u8 (x.kind : Int), .string x.a, .string x.b, .int .i64 x.n, .int .i64 x.crash.names, vk, vs] 57)) base vk vs x.crash) := Lib.hid (ho.below (hbl.mono D.lo))
  have HB := Lib.hid hbl; have HN := Lib.hid hn; have HM := Lib.hid hm; have HX := Lib.hid hx
  clear hbl ho hn hm hx D
  unfold actV
  have HR : Hid (does S x = (S.dirSync.2, [], S.dirSync.1)) := by unfold does; rw [hk]; exact Lib.hid rfl
  have hkq : (x.kind : Int) = 5 := by omega
  rw [hkq] at DA OL HB ⊢
  clear hkq hk
  have HC := Lib.hid (dirSync_any _ DA.out.holds (fits_of DA.out.good HN.out HM.out) DA.out.good.cans (sizes_of DA.out.good))
  obtain ⟨R, hR⟩ : ∃ R, R = does S x := ⟨_, rfl⟩
  unfold Did
  rw [← hR]
  have HRR : Hid (R = (S.dirSync.2, [], S.dirSync.1)) := by rw [hR]; exact HR
  clear hR HR
  go_enter Tryz.func55, Tryz.ntmps55
  go_wp2_with fail
  refine HC.out.mono ?_
  rintro e w1 ⟨rfl, hg⟩
  have HG := Lib.hid hg; clear hg HC
  go_wp2_with fail
  go_ret2
  rw [HRR.out]
  exact ⟨rfl, HG.out.after HB.out⟩


set_option maxHeartbeats 8000000 in
set_option maxRecDepth 100000 in
theorem does_6 {w : World} {base : Nat} {L : Lay} {S : Disk} {n m : Nat} (D : Disc w base L S n m) (hn : n ≤ 1048576) (hm : m ≤ 1048576) (x : Act) (hx : ActFits x) (vk vs : Value) (ho : Older w base vk vs x.crash) (hk : x.kind = 6) :
    Calls Tryz.prog 55 #[.pointer (some ⟨L.d, 0, none⟩), actV x vk vs] w (Did L S x w) := by
  have hbl : Below w.heap.size w (w.alloc (.cells #[.int .u8 (x.kind : Int), .string x.a, .string x.b, .int .i64 x.n, .int .i64 x.crash.names, vk, vs] 57)) := (Below.refl _ _).alloc (Nat.le_refl _) _
  have DA : Hid (Disc (w.alloc (.cells #[.int .u8 (x.kind : Int), .string x.a, .string x.b, .int .i64 x.n, .int .i64 x.crash.names, vk, vs] 57)) base L S n m) := Lib.hid (D.below hbl)
  have OL : Hid (Older (w.alloc (.cells #[.int .u8 (x.kind : Int), .string x.a, .string x.b, .int .i64 x.n, .int .i64 x.crash.names, vk, vs] 57)) base vk vs x.crash) := Lib.hid (ho.below (hbl.mono D.lo))
  have HB := Lib.hid hbl; have HN := Lib.hid hn; have HM := Lib.hid hm; have HX := Lib.hid hx
  clear hbl ho hn hm hx D
  unfold actV
  have HR : Hid (does S x = (S.light x.n, [], 0)) := by unfold does; rw [hk]; exact Lib.hid rfl
  have hkq : (x.kind : Int) = 6 := by omega
  rw [hkq] at DA OL HB ⊢
  clear hkq hk
  have HC := Lib.hid (fuse_any _ DA.out.holds x.n)
  obtain ⟨R, hR⟩ : ∃ R, R = does S x := ⟨_, rfl⟩
  unfold Did
  rw [← hR]
  have HRR : Hid (R = (S.light x.n, [], 0)) := by rw [hR]; exact HR
  clear hR HR
  go_enter Tryz.func55, Tryz.ntmps55
  go_wp2_with fail
  refine HC.out.mono ?_
  rintro e w1 ⟨rfl, hg⟩
  have HG := Lib.hid hg; clear hg HC
  go_wp2_with fail
  go_ret2
  rw [HRR.out]
  exact ⟨rfl, HG.out.after HB.out⟩


set_option maxHeartbeats 8000000 in
set_option maxRecDepth 100000 in
theorem does_7 {w : World} {base : Nat} {L : Lay} {S : Disk} {n m : Nat} (D : Disc w base L S n m) (hn : n ≤ 1048576) (hm : m ≤ 1048576) (x : Act) (hx : ActFits x) (vk vs : Value) (ho : Older w base vk vs x.crash) (hk : x.kind = 7) :
    Calls Tryz.prog 55 #[.pointer (some ⟨L.d, 0, none⟩), actV x vk vs] w (Did L S x w) := by
  have hbl : Below w.heap.size w (w.alloc (.cells #[.int .u8 (x.kind : Int), .string x.a, .string x.b, .int .i64 x.n, .int .i64 x.crash.names, vk, vs] 57)) := (Below.refl _ _).alloc (Nat.le_refl _) _
  have DA : Hid (Disc (w.alloc (.cells #[.int .u8 (x.kind : Int), .string x.a, .string x.b, .int .i64 x.n, .int .i64 x.crash.names, vk, vs] 57)) base L S n m) := Lib.hid (D.below hbl)
  have OL : Hid (Older (w.alloc (.cells #[.int .u8 (x.kind : Int), .string x.a, .string x.b, .int .i64 x.n, .int .i64 x.crash.names, vk, vs] 57)) base vk vs x.crash) := Lib.hid (ho.below (hbl.mono D.lo))
  have HB := Lib.hid hbl; have HN := Lib.hid hn; have HM := Lib.hid hm; have HX := Lib.hid hx
  clear hbl ho hn hm hx D
  unfold actV
  have HR : Hid (does S x = (S.crash x.crash, [], 0)) := by unfold does; rw [hk]; exact Lib.hid rfl
  have hkq : (x.kind : Int) = 7 := by omega
  rw [hkq] at DA OL HB ⊢
  clear hkq hk
  have HC := Lib.hid (crash_any _ DA.out.holds (fits_of DA.out.good HN.out HM.out) DA.out.good.cans (sizes_of DA.out.good) vk vs x.crash (OL.out.choices DA.out) (crash_fits DA.out.good HN.out HM.out _).1 (crash_fits DA.out.good HN.out HM.out _).2)
  obtain ⟨R, hR⟩ : ∃ R, R = does S x := ⟨_, rfl⟩
  unfold Did
  rw [← hR]
  have HRR : Hid (R = (S.crash x.crash, [], 0)) := by rw [hR]; exact HR
  clear hR HR
  go_enter Tryz.func55, Tryz.ntmps55
  go_wp2_with fail
  refine HC.out.mono ?_
  rintro e w1 ⟨rfl, hg⟩
  have HG := Lib.hid hg; clear hg HC
  go_wp2_with fail
  go_ret2
  rw [HRR.out]
  exact ⟨rfl, HG.out.after HB.out⟩


set_option maxHeartbeats 8000000 in
set_option maxRecDepth 100000 in
theorem does_8 {w : World} {base : Nat} {L : Lay} {S : Disk} {n m : Nat} (D : Disc w base L S n m) (hn : n ≤ 1048576) (hm : m ≤ 1048576) (x : Act) (hx : ActFits x) (vk vs : Value) (ho : Older w base vk vs x.crash) (hk : x.kind = 8) :
    Calls Tryz.prog 55 #[.pointer (some ⟨L.d, 0, none⟩), actV x vk vs] w (Did L S x w) := by
  have hbl : Below w.heap.size w (w.alloc (.cells #[.int .u8 (x.kind : Int), .string x.a, .string x.b, .int .i64 x.n, .int .i64 x.crash.names, vk, vs] 57)) := (Below.refl _ _).alloc (Nat.le_refl _) _
  have DA : Hid (Disc (w.alloc (.cells #[.int .u8 (x.kind : Int), .string x.a, .string x.b, .int .i64 x.n, .int .i64 x.crash.names, vk, vs] 57)) base L S n m) := Lib.hid (D.below hbl)
  have OL : Hid (Older (w.alloc (.cells #[.int .u8 (x.kind : Int), .string x.a, .string x.b, .int .i64 x.n, .int .i64 x.crash.names, vk, vs] 57)) base vk vs x.crash) := Lib.hid (ho.below (hbl.mono D.lo))
  have HB := Lib.hid hbl; have HN := Lib.hid hn; have HM := Lib.hid hm; have HX := Lib.hid hx
  clear hbl ho hn hm hx D
  unfold actV
  have HR : Hid (does S x = (S.start, [], 0)) := by unfold does; rw [hk]; exact Lib.hid rfl
  have hkq : (x.kind : Int) = 8 := by omega
  rw [hkq] at DA OL HB ⊢
  clear hkq hk
  have HC := Lib.hid (start_any _ DA.out.holds)
  obtain ⟨R, hR⟩ : ∃ R, R = does S x := ⟨_, rfl⟩
  unfold Did
  rw [← hR]
  have HRR : Hid (R = (S.start, [], 0)) := by rw [hR]; exact HR
  clear hR HR
  go_enter Tryz.func55, Tryz.ntmps55
  go_wp2_with fail
  refine HC.out.mono ?_
  rintro e w1 ⟨rfl, hg⟩
  have HG := Lib.hid hg; clear hg HC
  go_wp2_with fail
  go_ret2
  rw [HRR.out]
  exact ⟨rfl, HG.out.after HB.out⟩


set_option maxHeartbeats 8000000 in
set_option maxRecDepth 100000 in
theorem does_9 {w : World} {base : Nat} {L : Lay} {S : Disk} {n m : Nat} (D : Disc w base L S n m) (hn : n ≤ 1048576) (hm : m ≤ 1048576) (x : Act) (hx : ActFits x) (vk vs : Value) (ho : Older w base vk vs x.crash) (hk : x.kind = 9) :
    Calls Tryz.prog 55 #[.pointer (some ⟨L.d, 0, none⟩), actV x vk vs] w (Did L S x w) := by
  have hbl : Below w.heap.size w (w.alloc (.cells #[.int .u8 (x.kind : Int), .string x.a, .string x.b, .int .i64 x.n, .int .i64 x.crash.names, vk, vs] 57)) := (Below.refl _ _).alloc (Nat.le_refl _) _
  have DA : Hid (Disc (w.alloc (.cells #[.int .u8 (x.kind : Int), .string x.a, .string x.b, .int .i64 x.n, .int .i64 x.crash.names, vk, vs] 57)) base L S n m) := Lib.hid (D.below hbl)
  have OL : Hid (Older (w.alloc (.cells #[.int .u8 (x.kind : Int), .string x.a, .string x.b, .int .i64 x.n, .int .i64 x.crash.names, vk, vs] 57)) base vk vs x.crash) := Lib.hid (ho.below (hbl.mono D.lo))
  have HB := Lib.hid hbl; have HN := Lib.hid hn; have HM := Lib.hid hm; have HX := Lib.hid hx
  clear hbl ho hn hm hx D
  unfold actV
  have HR : Hid (does S x = (S, (S.read x.a.data.toList).1, (S.read x.a.data.toList).2)) := by unfold does; rw [hk]; exact Lib.hid rfl
  have hkq : (x.kind : Int) = 9 := by omega
  rw [hkq] at DA OL HB ⊢
  clear hkq hk
  have HC := Lib.hid (read_any _ DA.out.holds x.a (by have := HX.out.a; unfold maxLen; omega))
  obtain ⟨R, hR⟩ : ∃ R, R = does S x := ⟨_, rfl⟩
  unfold Did
  rw [← hR]
  have HRR : Hid (R = (S, (S.read x.a.data.toList).1, (S.read x.a.data.toList).2)) := by rw [hR]; exact HR
  clear hR HR
  go_enter Tryz.func55, Tryz.ntmps55
  go_wp2_with fail
  refine HC.out.mono ?_
  rintro e w1 ⟨rfl, rfl⟩
  unfold readV
  clear HC
  go_wp2_with fail
  go_ret2
  rw [HRR.out]
  exact ⟨rfl, (Goes.stay DA.out.holds).after HB.out⟩


set_option maxHeartbeats 8000000 in
set_option maxRecDepth 100000 in
theorem does_more {w : World} {base : Nat} {L : Lay} {S : Disk} {n m : Nat} (D : Disc w base L S n m) (hn : n ≤ 1048576) (hm : m ≤ 1048576) (x : Act) (hx : ActFits x) (vk vs : Value) (ho : Older w base vk vs x.crash) (hk : 10 ≤ x.kind) :
    Calls Tryz.prog 55 #[.pointer (some ⟨L.d, 0, none⟩), actV x vk vs] w (Did L S x w) := by
  have hbl : Below w.heap.size w (w.alloc (.cells #[.int .u8 (x.kind : Int), .string x.a, .string x.b, .int .i64 x.n, .int .i64 x.crash.names, vk, vs] 57)) := (Below.refl _ _).alloc (Nat.le_refl _) _
  have DA : Hid (Disc (w.alloc (.cells #[.int .u8 (x.kind : Int), .string x.a, .string x.b, .int .i64 x.n, .int .i64 x.crash.names, vk, vs] 57)) base L S n m) := Lib.hid (D.below hbl)
  have OL : Hid (Older (w.alloc (.cells #[.int .u8 (x.kind : Int), .string x.a, .string x.b, .int .i64 x.n, .int .i64 x.crash.names, vk, vs] 57)) base vk vs x.crash) := Lib.hid (ho.below (hbl.mono D.lo))
  have HB := Lib.hid hbl; have HN := Lib.hid hn; have HM := Lib.hid hm; have HX := Lib.hid hx
  clear hbl ho hn hm hx D
  unfold actV
  have HR : Hid (does S x = (S, [], 0)) := by
    unfold does
    split <;> first | omega | exact Lib.hid rfl
  have q0 : ((x.kind : Int) == 0) = false := by rw [beq_eq_false_iff_ne]; omega
  have q1 : ((x.kind : Int) == 1) = false := by rw [beq_eq_false_iff_ne]; omega
  have q2 : ((x.kind : Int) == 2) = false := by rw [beq_eq_false_iff_ne]; omega
  have q3 : ((x.kind : Int) == 3) = false := by rw [beq_eq_false_iff_ne]; omega
  have q4 : ((x.kind : Int) == 4) = false := by rw [beq_eq_false_iff_ne]; omega
  have q5 : ((x.kind : Int) == 5) = false := by rw [beq_eq_false_iff_ne]; omega
  have q6 : ((x.kind : Int) == 6) = false := by rw [beq_eq_false_iff_ne]; omega
  have q7 : ((x.kind : Int) == 7) = false := by rw [beq_eq_false_iff_ne]; omega
  have q8 : ((x.kind : Int) == 8) = false := by rw [beq_eq_false_iff_ne]; omega
  have q9 : ((x.kind : Int) == 9) = false := by rw [beq_eq_false_iff_ne]; omega
  obtain ⟨R, hR⟩ : ∃ R, R = does S x := ⟨_, rfl⟩
  unfold Did
  rw [← hR]
  have HRR : Hid (R = (S, [], 0)) := by rw [hR]; exact HR
  clear hR HR
  generalize hkk : (x.kind : Int) = kk at *
  clear hkk hk
  go_enter Tryz.func55, Tryz.ntmps55
  go_wp2_with fail
  go_ret2
  rw [HRR.out]
  exact ⟨rfl, (Goes.stay DA.out.holds).after HB.out⟩


/-- What Does makes of a disk of the call's own. -/
theorem does_any {w : World} {base : Nat} {L : Lay} {S : Disk} {n m : Nat} (D : Disc w base L S n m) (hn : n ≤ 1048576) (hm : m ≤ 1048576) (x : Act) (hx : ActFits x) (vk vs : Value) (ho : Older w base vk vs x.crash) :
    Calls Tryz.prog 55 #[.pointer (some ⟨L.d, 0, none⟩), actV x vk vs] w (Did L S x w) := by
  rcases Nat.lt_or_ge x.kind 10 with h | h
  · rcases (show x.kind = 0 ∨ x.kind = 1 ∨ x.kind = 2 ∨ x.kind = 3 ∨ x.kind = 4 ∨ x.kind = 5 ∨ x.kind = 6 ∨ x.kind = 7 ∨ x.kind = 8 ∨ x.kind = 9 by omega) with h | h | h | h | h | h | h | h | h | h
    · exact does_0 D hn hm x hx vk vs ho h
    · exact does_1 D hn hm x hx vk vs ho h
    · exact does_2 D hn hm x hx vk vs ho h
    · exact does_3 D hn hm x hx vk vs ho h
    · exact does_4 D hn hm x hx vk vs ho h
    · exact does_5 D hn hm x hx vk vs ho h
    · exact does_6 D hn hm x hx vk vs ho h
    · exact does_7 D hn hm x hx vk vs ho h
    · exact does_8 D hn hm x hx vk vs ho h
    · exact does_9 D hn hm x hx vk vs ho h
  · exact does_more D hn hm x hx vk vs ho h

end Go.Proofs.YtfeconankopjmaaGreatDoor

/- The walk of List over a disk that lies in memory. -/
namespace Go.Proofs.YtfeconankopjmaaGreatDoor
open Go.RowKit Go.Maps
open Dk (Dir Chg Disk File Str)

/-- A cell set to what it holds: nothing turns. -/
theorem set_same {w : World} {g k : Nat} {cur : Array Value} {t : TypeId} {x : Value} (hg : w.heap[g]? = some (.cells cur t (0, 0))) (hx : cur[k]? = some x) (i : Nat) : (w.setCell ⟨g, k, none⟩ x).heap[i]? = w.heap[i]? := by
  have hk : k < cur.size := by
    rcases Nat.lt_or_ge k cur.size with h | h
    · exact h
    · rw [Array.getElem?_eq_none h] at hx; cases hx
  by_cases hi : i = g
  · subst hi
    rw [heap_setCell_same w i k cur t x hg, hg]
    have e : cur.setIfInBounds k x = cur := by
      refine Array.ext_getElem? fun j => ?_
      rw [Array.getElem?_setIfInBounds]
      split
      · rename_i e; subst e; rw [hx]
      · rfl
    rw [e]
  · exact RowKit.Below.heap_setCell w ⟨g, k, none⟩ x i hi

theorem still_set {w : World} {g k : Nat} {cur : Array Value} {t : TypeId} {x : Value} (hg : w.heap[g]? = some (.cells cur t (0, 0))) (hx : cur[k]? = some x) : Still w (w.setCell ⟨g, k, none⟩ x) :=
  ⟨Array.ext_getElem? (set_same hg hx), rfl, rfl, rfl⟩

theorem Still.below {w w' : World} {base : Nat} {v : World} (h : Still w w') (hb : Below base v w) : Below base v w' := ⟨h.os.trans hb.os, h.tape.trans hb.tape, h.output.trans hb.output, by rw [h.heap]; exact hb.size, fun b hlt => by rw [h.heap]; exact hb.block b hlt⟩
/-- A cell of a row. -/
theorem row_at {w : World} {base : Nat} {t : TypeId} {a : Option Addr} {n c k : Nat} {xs : List Value} {v : Value} (h : w.ownsRow base t 1 (.slice a n c) n xs) (hk : xs[k]? = some v) (hn : k < n) : ∃ g, a = some ⟨g, 0, none⟩ ∧ w.cell? ⟨g, k, none⟩ = some v := by
  obtain ⟨hl, ⟨_, h0⟩ | ⟨g, cap2, cur, hv, hbg, hg, hnc, hcm, hcs, htk⟩⟩ := h
  · omega
  · simp only [Value.slice.injEq, true_and] at hv
    obtain ⟨rfl, rfl⟩ := hv
    refine ⟨g, rfl, ?_⟩
    rw [← htk, List.getElem?_take_of_lt (by omega)] at hk
    rw [cell_of hg]
    simpa using hk
set_option maxHeartbeats 8000000 in
set_option maxRecDepth 100000 in
/-- disk.List: the names, rising, in new memory. -/
theorem list_any (w : World) {L : Lay} {S : Disk} (h : Holds w L S) (F : Fits S) (hs : ∀ p ∈ S.now, p.1.length ≤ 281474976710656) :
    Calls Tryz.prog 45 #[.pointer (some ⟨L.d, 0, none⟩)] w fun e w' => ∃ v, e = .returned v ∧ w'.ownsRow w.heap.size 9 1 v S.now.length (S.now.map fun p => strV p.1) ∧ Below w.heap.size w w' := by
  obtain ⟨c0, c1, c2, c3, c4, c5, c6⟩ := h.cells
  have HM := Lib.hid (made_any w h)
  have HR := Lib.hid (rising_any h.now (by have := F.now; omega))
  have HS := Lib.hid hs
  obtain ⟨n, hn⟩ : ∃ n, n = S.now.length := ⟨_, rfl⟩
  have hn2 : (n : Int) ≤ 1099511627776 := by have := F.now; omega
  rw [← hn] at HR ⊢
  have HN := Lib.hid hn
  clear h F hs hn
  go_enter Tryz.func45, Tryz.ntmps45
  go_wp2_with fail
  refine HM.out.mono ?_
  rintro e wz ⟨rfl, rfl⟩
  go_wp2_with fail
  refine HR.out.mono ?_
  rintro e w1 ⟨v, rfl, hrow, hb⟩
  obtain ⟨ao, cap, rfl⟩ : ∃ ao cap, v = .slice ao n cap := by
    rcases hrow.2 with ⟨rfl, h0⟩ | ⟨g, cap, cur, rfl, _⟩
    · exact ⟨none, 0, by rw [h0]⟩
    · exact ⟨_, _, rfl⟩
  have ROW := Lib.hid hrow; have B1 := Lib.hid hb
  clear hrow hb HM HR c0 c1 c2 c3 c4 c5 c6
  go_wp2_with fail
  go_loopw [16] (fun z wr => ∃ k : Nat, k ≤ n ∧ z = .int .i64 (k : Int) ∧ Hid (wr.ownsRow wz.heap.size 9 1 (.slice ao n cap) n (S.now.map fun p => strV p.1) ∧ Below wz.heap.size wz wr)) (fun z _ => n - (intOf z).toNat)
  case atStart => exact ⟨0, by omega, rfl, Lib.hid ⟨ROW.out, B1.out⟩⟩
  case round =>
    obtain ⟨k, hk, rfl, HK⟩ := hrel
    by_cases hlt : k < n
    · have hlt2 : (k : Int) < n := by omega
      obtain ⟨p, hp⟩ : ∃ p, S.now[k]? = some p := ⟨_, List.getElem?_eq_getElem (by have := HN.out; omega)⟩
      obtain ⟨hl, ⟨_, h0⟩ | ⟨g, cap2, cur, hv, hbg, hg, hnc, hcm, hcs, htk⟩⟩ := HK.out.1
      · omega
      simp only [Value.slice.injEq, true_and] at hv
      obtain ⟨rfl, rfl⟩ := hv
      have hx : cur[k]? = some (strV p.1) := by
        have e1 : (cur.toList.take (n * 1))[k]? = some (strV p.1) := by rw [htk, List.getElem?_map, hp]; rfl
        rw [List.getElem?_take_of_lt (by omega)] at e1
        simpa using e1
      have e0 : wr.cell? ⟨g, k, none⟩ = some (.string ⟨p.1.toArray⟩) := by rw [cell_of hg]; exact hx
      have hsz : (⟨p.1.toArray⟩ : ByteArray).size ≤ 281474976710656 := by
        have := HS.out p (List.mem_of_getElem? hp)
        simpa [Lib.size_eq] using this
      obtain ⟨str, hstr⟩ : ∃ str, str = (⟨p.1.toArray⟩ : ByteArray) := ⟨_, rfl⟩
      unfold strV at hx
      rw [← hstr] at e0 hsz hx
      have HC := Lib.hid (clone_any str wr hsz)
      have HG := Lib.hid (And.intro hg (And.intro hx hbg))
      clear hg hx hbg hl hnc hcm hcs htk hp hsz hstr
      go_wp2_with fail
      refine HC.out.mono ?_
      rintro e w2 ⟨rfl, hb2⟩
      have hgl : g < wr.heap.size := by
        rcases Nat.lt_or_ge g wr.heap.size with h | h
        · exact h
        · have := HG.out.1; rw [Array.getElem?_eq_none h] at this; cases this
      have hg2 : w2.heap[g]? = some (.cells cur 9 (0, 0)) := (hb2.block g hgl).trans HG.out.1
      have f0 : w2.frozen? ⟨g, k, none⟩ = false := frozen_of_row w2 g k cur _ hg2
      have d0 : w2.cell? ⟨g, k, none⟩ = some (.string str) := by rw [cell_of hg2]; exact HG.out.2.1
      have HST := Lib.hid (still_set hg2 HG.out.2.1)
      have HR2 : Hid (w2.ownsRow wz.heap.size 9 1 (.slice (some ⟨g, 0, none⟩) n cap) n (S.now.map fun p => strV p.1) ∧ Below wz.heap.size wz w2) := Lib.hid ⟨ownsRow_frame HK.out.1 (fun b hb => hb2.block b (ownsRow_lt HK.out.1 hb)), Below.next HK.out.2 hb2⟩
      clear hb2 hg2 e0 HK HC
      go_wp2_with fail
      go_roundw
      case rel => exact ⟨k + 1, by omega, by go_num, Lib.hid ⟨ownsRow_frame HR2.out.1 (fun b _ => by rw [HST.out.heap]), HST.out.below HR2.out.2⟩⟩
      case measure => simp [intOf]; omega
    · obtain rfl : k = n := by omega
      clear hlt
      go_wp2_with fail
      go_ret
      exact ⟨_, rfl, HK.out.1, HK.out.2⟩

end Go.Proofs.YtfeconankopjmaaGreatDoor

/- The walks of the disk's methods over a nil disk, and one that New did not make. -/
namespace Go.Proofs.YtfeconankopjmaaGreatDoor
open Go.RowKit Go.Maps
open Dk (Dir Chg Disk File Str)

/-- A nil disk, or one that New did not make. -/
def Nobody (w : World) (po : Option Addr) : Prop := po = none ∨ ∃ b, po = some ⟨b, 0, none⟩ ∧ w.heap[b]? = some (.cells #[.int .i64 0, .int .i64 0, .int .i64 0, .bool false, .map none, .map none, .slice none 0 0] 89 (0, 0))
theorem Nobody.below {w w' : World} {po : Option Addr} (h : Nobody w po) (hb : Below w.heap.size w w') : Nobody w' po := by
  rcases h with h | ⟨b, h1, h2⟩
  · exact Or.inl h
  · exact Or.inr ⟨b, h1, (hb.block b (heap_lt h2)).trans h2⟩

set_option maxHeartbeats 1000000 in
set_option maxRecDepth 100000 in
theorem made_no (w : World) (po : Option Addr) (h : Nobody w po) : Calls Tryz.prog 52 #[.pointer po] w fun e w' => e = .returned (.bool false) ∧ w' = w := by
  rcases h with rfl | ⟨b, rfl, hb⟩
  · go_enter Tryz.func52, Tryz.ntmps52
    go_wp2_with fail
    go_ret
    exact ⟨rfl, rfl⟩
  · have c4 : w.cell? ⟨b, 4, none⟩ = some (.map none) := by rw [cell_of hb]; rfl
    have hne := run_neq_map_nil w none
    rw [Option.isSome_none] at hne
    clear hb
    go_enter Tryz.func52, Tryz.ntmps52
    go_wp2_with fail
    go_ret
    exact ⟨rfl, rfl⟩

set_option maxHeartbeats 1000000 in
set_option maxRecDepth 100000 in
theorem barred_no (w : World) (po : Option Addr) (h : Nobody w po) : Calls Tryz.prog 82 #[.pointer po] w fun e w' => e = .returned (.int .i64 2) ∧ w' = w := by
  have HM := Lib.hid (made_no w po h)
  clear h
  go_enter Tryz.func82, Tryz.ntmps82
  go_wp2_with fail
  refine (HM).out.mono ?_
  rintro e w1 ⟨rfl, rfl⟩
  go_wp2_with fail
  go_ret
  exact ⟨rfl, rfl⟩

set_option maxHeartbeats 1000000 in
set_option maxRecDepth 100000 in
theorem find_no (w : World) (po : Option Addr) (h : Nobody w po) (s : ByteArray) : Calls Tryz.prog 87 #[.pointer po, .string s] w fun e w' => e = .returned (.tuple #[.pointer none, .int .i64 2]) ∧ w' = w := by
  have HM := Lib.hid (barred_no w po h)
  clear h
  go_enter Tryz.func87, Tryz.ntmps87
  go_wp2_with fail
  refine (HM).out.mono ?_
  rintro e w1 ⟨rfl, rfl⟩
  go_wp2_with fail
  go_ret2
  exact ⟨rfl, rfl⟩

set_option maxHeartbeats 1000000 in
set_option maxRecDepth 100000 in
theorem fuse_no (w : World) (po : Option Addr) (h : Nobody w po) (n : Int) : Calls Tryz.prog 29 #[.pointer po, .int .i64 n] w fun e w' => e = .returned (.tuple #[]) ∧ w' = w := by
  have HM := Lib.hid (made_no w po h)
  clear h
  go_enter Tryz.func29, Tryz.ntmps29
  go_wp2_with fail
  refine (HM).out.mono ?_
  rintro e w1 ⟨rfl, rfl⟩
  go_wp2_with fail
  go_end0
  exact ⟨rfl, rfl⟩

set_option maxHeartbeats 1000000 in
set_option maxRecDepth 100000 in
theorem crash_no (w : World) (po : Option Addr) (h : Nobody w po) (n : Int) : Calls Tryz.prog 27 #[.pointer po, .agg #[.int .i64 n, .slice none 0 0, .slice none 0 0]] w fun e w' => e = .returned (.tuple #[]) ∧ Below w.heap.size w w' := by
  have HM := fun o => Lib.hid (made_no (w.alloc o) po (h.below ((Below.refl _ _).alloc (Nat.le_refl _) o)))
  clear h
  go_enter Tryz.func27, Tryz.ntmps27
  go_wp2_with fail
  refine (HM _).out.mono ?_
  rintro e w1 ⟨rfl, rfl⟩
  go_wp2_with fail
  refine bodyPost_ret (results_none rfl _ _ _) rfl ?_
  exact ⟨rfl, (Below.refl _ _).alloc (Nat.le_refl _) _⟩

set_option maxHeartbeats 1000000 in
set_option maxRecDepth 100000 in
theorem start_no (w : World) (po : Option Addr) (h : Nobody w po) : Calls Tryz.prog 28 #[.pointer po] w fun e w' => e = .returned (.tuple #[]) ∧ w' = w := by
  have HM := Lib.hid (made_no w po h)
  clear h
  go_enter Tryz.func28, Tryz.ntmps28
  go_wp2_with fail
  refine (HM).out.mono ?_
  rintro e w1 ⟨rfl, rfl⟩
  go_wp2_with fail
  go_end0
  exact ⟨rfl, rfl⟩

set_option maxHeartbeats 1000000 in
set_option maxRecDepth 100000 in
theorem read_no (w : World) (po : Option Addr) (h : Nobody w po) (s : ByteArray) : Calls Tryz.prog 49 #[.pointer po, .string s] w fun e w' => e = .returned (.tuple #[.string ⟨#[]⟩, .int .i64 2]) ∧ w' = w := by
  have HM := Lib.hid (find_no w po h s)
  clear h
  go_enter Tryz.func49, Tryz.ntmps49
  go_wp2_with fail
  refine (HM).out.mono ?_
  rintro e w1 ⟨rfl, rfl⟩
  go_wp2_with fail
  go_ret2
  exact ⟨rfl, rfl⟩

set_option maxHeartbeats 1000000 in
set_option maxRecDepth 100000 in
theorem create_no (w : World) (po : Option Addr) (h : Nobody w po) (s : ByteArray) : Calls Tryz.prog 38 #[.pointer po, .string s] w fun e w' => e = .returned (.int .i64 2) ∧ w' = w := by
  have HM := Lib.hid (barred_no w po h)
  clear h
  go_enter Tryz.func38, Tryz.ntmps38
  go_wp2_with fail
  refine (HM).out.mono ?_
  rintro e w1 ⟨rfl, rfl⟩
  go_wp2_with fail
  go_ret
  exact ⟨rfl, rfl⟩

set_option maxHeartbeats 1000000 in
set_option maxRecDepth 100000 in
theorem append_no (w : World) (po : Option Addr) (h : Nobody w po) (s t : ByteArray) : Calls Tryz.prog 41 #[.pointer po, .string s, .string t] w fun e w' => e = .returned (.int .i64 2) ∧ w' = w := by
  have HM := Lib.hid (find_no w po h s)
  clear h
  go_enter Tryz.func41, Tryz.ntmps41
  go_wp2_with fail
  refine (HM).out.mono ?_
  rintro e w1 ⟨rfl, rfl⟩
  go_wp2_with fail
  go_ret
  exact ⟨rfl, rfl⟩

set_option maxHeartbeats 1000000 in
set_option maxRecDepth 100000 in
theorem sync_no (w : World) (po : Option Addr) (h : Nobody w po) (s : ByteArray) : Calls Tryz.prog 42 #[.pointer po, .string s] w fun e w' => e = .returned (.int .i64 2) ∧ w' = w := by
  have HM := Lib.hid (find_no w po h s)
  clear h
  go_enter Tryz.func42, Tryz.ntmps42
  go_wp2_with fail
  refine (HM).out.mono ?_
  rintro e w1 ⟨rfl, rfl⟩
  go_wp2_with fail
  go_ret
  exact ⟨rfl, rfl⟩

set_option maxHeartbeats 1000000 in
set_option maxRecDepth 100000 in
theorem rename_no (w : World) (po : Option Addr) (h : Nobody w po) (s t : ByteArray) : Calls Tryz.prog 102 #[.pointer po, .string s, .string t] w fun e w' => e = .returned (.int .i64 2) ∧ w' = w := by
  have HM := Lib.hid (barred_no w po h)
  clear h
  go_enter Tryz.func102, Tryz.ntmps102
  go_wp2_with fail
  refine (HM).out.mono ?_
  rintro e w1 ⟨rfl, rfl⟩
  go_wp2_with fail
  go_ret
  exact ⟨rfl, rfl⟩

set_option maxHeartbeats 1000000 in
set_option maxRecDepth 100000 in
theorem delete_no (w : World) (po : Option Addr) (h : Nobody w po) (s : ByteArray) : Calls Tryz.prog 51 #[.pointer po, .string s] w fun e w' => e = .returned (.int .i64 2) ∧ w' = w := by
  have HM := Lib.hid (find_no w po h s)
  clear h
  go_enter Tryz.func51, Tryz.ntmps51
  go_wp2_with fail
  refine (HM).out.mono ?_
  rintro e w1 ⟨rfl, rfl⟩
  go_wp2_with fail
  go_ret
  exact ⟨rfl, rfl⟩

set_option maxHeartbeats 1000000 in
set_option maxRecDepth 100000 in
theorem dirSync_no (w : World) (po : Option Addr) (h : Nobody w po) : Calls Tryz.prog 40 #[.pointer po] w fun e w' => e = .returned (.int .i64 2) ∧ w' = w := by
  have HM := Lib.hid (barred_no w po h)
  clear h
  go_enter Tryz.func40, Tryz.ntmps40
  go_wp2_with fail
  refine (HM).out.mono ?_
  rintro e w1 ⟨rfl, rfl⟩
  go_wp2_with fail
  go_ret
  exact ⟨rfl, rfl⟩

set_option maxHeartbeats 1000000 in
set_option maxRecDepth 100000 in
theorem list_no (w : World) (po : Option Addr) (h : Nobody w po) : Calls Tryz.prog 45 #[.pointer po] w fun e w' => e = .returned (.slice none 0 0) ∧ w' = w := by
  have HM := Lib.hid (made_no w po h)
  clear h
  go_enter Tryz.func45, Tryz.ntmps45
  go_wp2_with fail
  refine (HM).out.mono ?_
  rintro e w1 ⟨rfl, rfl⟩
  go_wp2_with fail
  go_ret
  exact ⟨rfl, rfl⟩

set_option maxHeartbeats 1000000 in
set_option maxRecDepth 100000 in
theorem used_no (w : World) (po : Option Addr) (h : Nobody w po) : Calls Tryz.prog 16 #[.pointer po] w fun e w' => e = .returned (.int .i64 0) ∧ w' = w := by
  have HM := Lib.hid (made_no w po h)
  clear h
  go_enter Tryz.func16, Tryz.ntmps16
  go_wp2_with fail
  refine (HM).out.mono ?_
  rintro e w1 ⟨rfl, rfl⟩
  go_wp2_with fail
  go_ret
  exact ⟨rfl, rfl⟩

set_option maxHeartbeats 1000000 in
set_option maxRecDepth 100000 in
theorem room_no (w : World) (po : Option Addr) (h : Nobody w po) : Calls Tryz.prog 66 #[.pointer po] w fun e w' => e = .returned (.int .i64 0) ∧ w' = w := by
  have HM := Lib.hid (made_no w po h)
  clear h
  go_enter Tryz.func66, Tryz.ntmps66
  go_wp2_with fail
  refine (HM).out.mono ?_
  rintro e w1 ⟨rfl, rfl⟩
  go_wp2_with fail
  go_ret
  exact ⟨rfl, rfl⟩

set_option maxHeartbeats 1000000 in
set_option maxRecDepth 100000 in
theorem fused_no (w : World) (po : Option Addr) (h : Nobody w po) : Calls Tryz.prog 64 #[.pointer po] w fun e w' => e = .returned (.int .i64 0) ∧ w' = w := by
  have HM := Lib.hid (made_no w po h)
  clear h
  go_enter Tryz.func64, Tryz.ntmps64
  go_wp2_with fail
  refine (HM).out.mono ?_
  rintro e w1 ⟨rfl, rfl⟩
  go_wp2_with fail
  go_ret
  exact ⟨rfl, rfl⟩

set_option maxHeartbeats 1000000 in
set_option maxRecDepth 100000 in
theorem down_no (w : World) (po : Option Addr) (h : Nobody w po) : Calls Tryz.prog 65 #[.pointer po] w fun e w' => e = .returned (.bool true) ∧ w' = w := by
  have HM := Lib.hid (made_no w po h)
  clear h
  go_enter Tryz.func65, Tryz.ntmps65
  go_wp2_with fail
  refine (HM).out.mono ?_
  rintro e w1 ⟨rfl, rfl⟩
  go_wp2_with fail
  go_ret
  exact ⟨rfl, rfl⟩

set_option maxHeartbeats 1000000 in
set_option maxRecDepth 100000 in
theorem twin_no (w : World) (po : Option Addr) (h : Nobody w po) : Calls Tryz.prog 31 #[.pointer po] w fun e w' => e = .returned (.pointer none) ∧ w' = w := by
  have HM := Lib.hid (made_no w po h)
  clear h
  go_enter Tryz.func31, Tryz.ntmps31
  go_wp2_with fail
  refine (HM).out.mono ?_
  rintro e w1 ⟨rfl, rfl⟩
  go_wp2_with fail
  go_ret
  exact ⟨rfl, rfl⟩

set_option maxHeartbeats 2000000 in
set_option maxRecDepth 100000 in
theorem same_no (w : World) (po qo : Option Addr) (h : Nobody w po) (q : Bool) (hq : Calls Tryz.prog 52 #[.pointer qo] w fun e w' => e = .returned (.bool q) ∧ w' = w) : Calls Tryz.prog 32 #[.pointer po, .pointer qo] w fun e w' => e = .returned (.bool (!q)) ∧ w' = w := by
  have HM := Lib.hid (made_no w po h)
  have HQ := Lib.hid hq
  clear h hq
  go_enter Tryz.func32, Tryz.ntmps32
  go_wp2_with fail
  refine HM.out.mono ?_
  rintro e w1 ⟨rfl, rfl⟩
  go_wp2_with fail
  refine HM.out.mono ?_
  rintro e w1 ⟨rfl, rfl⟩
  go_wp2_with fail
  refine HQ.out.mono ?_
  rintro e w1 ⟨rfl, rfl⟩
  cases q
  · go_wp2_with fail
    go_ret
    exact ⟨rfl, rfl⟩
  · go_wp2_with fail
    go_ret
    exact ⟨rfl, rfl⟩

end Go.Proofs.YtfeconankopjmaaGreatDoor
