/- Texts on the program's own functions, several in one: DkO, DkP, DkAct, DkList, DkTwin, DkSame, DkTw, DkEq, DkEqf, DkMore. -/
import Derived.Test.YtfeconankopjmaaGreatDoorPk15
import Derived.Test.YtfeconankopjmaaGreatDoorPk17
import Derived.Maps.RangeWalk
import Derived.Deep.RegionLaw
import Derived.Test.YtfeconankopjmaaGreatDoorPk1
import Derived.Deep.AppendLies
import Derived.Deep.QuietTactic
import Derived.LaidEqlPtr
import Derived.BigRegion

/- The walks of New, Crash over a disk that lies in memory. -/
namespace Go.Proofs.YtfeconankopjmaaGreatDoor
open Go.RowKit Go.Maps Go.Sort
open Dk (Dir Chg Disk File Str)

set_option maxHeartbeats 2000000 in
set_option maxRecDepth 100000 in
theorem new_any (w : World) (n : Int) : Calls Tryz.prog 8 #[.int .i64 n] w fun e w' => ∃ L : Lay, e = .returned (.pointer (some ⟨L.d, 0, none⟩)) ∧ Holds w' L (Dk.fresh n) ∧ Below w.heap.size w w' ∧ ∀ b, Own L b → w.heap.size ≤ b := by
  have hmm := @run_makeMap Tryz.prog
  go_enter Tryz.func8, Tryz.ntmps8
  go_wp2_with fail
  refine (held_any _ _ _).mono ?_
  rintro e w1 ⟨rfl, rfl⟩
  go_wp2_with fail
  go_ret
  refine ⟨⟨w1.heap.size + 1 + 1, w1.heap.size, w1.heap.size + 1, .slice none 0 0, fun _ => 0, fun _ => .slice none 0 0, fun _ => False⟩, rfl, ?_, ?_, fun b hb => ?_⟩
  · have h0 := World.ownsMap_made (H := Unit) w1 Tryz.prog 9 ptrElem
    have h1 := World.ownsMap_made (H := Unit) (w1.alloc (.map #[] 0)) Tryz.prog 9 ptrElem
    rw [World.size_alloc] at h1
    refine ⟨?_, (h0.alloc _).alloc _, h1.alloc _, by simp, World.ownsRow_nil .., fun i hi => hi.elim, fun i _ hi => hi.elim, fun p hp => by simp [Dk.fresh] at hp, fun p hp => by simp [Dk.fresh] at hp, fun c hc => by simp [Dk.fresh] at hc, fun i hi => hi.elim⟩
    have := heap_alloc_new ((w1.alloc (.map #[] 0)).alloc (.map #[] 0)) (.cells #[.int .i64 (Dk.held n 1048576), .int .i64 0, .int .i64 0, .bool false, .map (some w1.heap.size), .map (some (w1.heap.size + 1)), .slice none 0 0] 89)
    rw [World.size_alloc, World.size_alloc] at this
    exact this
  · exact (((Below.refl _ w1).alloc (Nat.le_refl _) _).alloc (by simp) _).alloc (by simp; omega) _
  · rcases hb with h | h | h | h | ⟨k, hk, _⟩
    · simp only at h; omega
    · simp only at h; omega
    · simp only at h; omega
    · simp [Value.ownBlock] at h
    · exact hk.elim

/-- A directory that is another map. -/
theorem Holds.newNow {w w1 : World} {L : Lay} {S : Disk} (h : Holds w L S) (hb : Below w.heap.size w w1) (d : Dir) {nb n : Nat} (ho : w1.ownsMap Tryz.prog 9 ptrElem nb n (toD L.loc d)) (hnb : w.heap.size ≤ nb) (hd : ∀ p ∈ d, L.live p.2) :
    Holds (w1.setCell ⟨L.d, 4, none⟩ (.map (some nb))) { L with bn := nb } { S with now := d } := by
  have h1 := h.below hb
  have A := h1.lone
  have kept : ∀ b, b ≠ L.d → (w1.setCell ⟨L.d, 4, none⟩ (.map (some nb))).heap[b]? = w1.heap[b]? := fun b hne => setCell_kept w1 _ _ hne
  have hnd : nb ≠ L.d := by have := heap_lt h.box; omega
  have ho' := ownsMap_sized ho
  rw [toD_size] at ho'
  refine ⟨heap_setCell_same w1 L.d 4 _ _ _ h1.box, ownsMap_frame ho' (kept _ hnd), ownsMap_frame h1.old (kept _ A.bl_d), fun e => ?_, ownsRow_frame h1.chg fun b hb => kept b (A.vec_d b hb).1, fun i hi => (h1.file i hi).frame (kept _ (A.loc i hi).1) fun g hg => kept g (A.dat i hi g hg).1, h1.apart, hd, h1.inOld, h1.inChg, h1.lt⟩
  have := h.old.lt
  dsimp only at e
  omega

theorem ptr_inv (v : Value) (y : DataW Unit × List MemPlace) (h : ptrElem v = some y) : ∃ c, v = Value.pointer c := by
  unfold ptrElem at h
  split at h
  · exact ⟨_, rfl⟩
  · exact ⟨_, rfl⟩
  · cases h
def sizeAt (F : Nat → File) (d : Dir) (s : Str) : Nat := match Dk.look s d with
  | some i => (F i).data.length
  | none => 0
theorem total_sum (F : Nat → File) {d : Dir} (h : d.Pairwise (fun p q => bytesBefore p.1 q.1 = true)) : ((d.map (·.1)).map (sizeAt F d)).sum = Dk.total F d := by
  have aux : ∀ (e : Dir), (∀ p ∈ e, sizeAt F d p.1 = (F p.2).data.length) → ((e.map (·.1)).map (sizeAt F d)).sum = Dk.total F e := by
    intro e
    induction e with
    | nil => intro _; rfl
    | cons p r ih =>
      intro hp
      simp only [List.map_cons, List.sum_cons, Dk.total]
      rw [hp p (List.mem_cons_self ..), ih (fun q hq => hp q (List.mem_cons_of_mem _ hq))]
  refine aux d fun p hp => ?_
  obtain ⟨i, hi, hip⟩ := List.getElem_of_mem hp
  have hl := look_at h (i := i) (p := p) (by rw [List.getElem?_eq_getElem hi, hip])
  unfold sizeAt
  rw [hl]

/-- A crash's choices, as they are handed in. -/
structure Choices (w : World) (L : Lay) (vk vs : Value) (c : Dk.Crash) : Prop where
  keep : SeesI w vk c.keep
  spoil : SeesQ w vs c.spoil
  keepOff : c.keep ≠ [] → ∀ b, vk.ownBlock = some b → ¬ Own L b
  spoilOff : c.spoil ≠ [] → ∀ b, vs.ownBlock = some b → ¬ Own L b
  keepIn : c.keep ≠ [] → ∀ b, vk.ownBlock = some b → b < w.heap.size
  spoilIn : c.spoil ≠ [] → ∀ b, vs.ownBlock = some b → b < w.heap.size
  keepLen : c.keep.length ≤ 1099511627776
  spoilLen : c.spoil.length ≤ 1099511627776
  masks : ∀ q ∈ c.spoil, q.2 ≤ 4294967295

theorem perm_sum : ∀ {a b : List Nat}, a.Perm b → a.sum = b.sum := by
  intro a b h
  induction h with
  | nil => rfl
  | cons x _ ih => simp only [List.sum_cons, ih]
  | swap x y l => simp only [List.sum_cons]; omega
  | trans _ _ h1 h2 => exact h1.trans h2
theorem sum_le (ss : List (List UInt8)) (f : List UInt8 → Nat) (B : Nat) (h : ∀ s, f s ≤ B) : (ss.map f).sum ≤ ss.length * B := by
  induction ss with
  | nil => simp
  | cons x r ih =>
    simp only [List.map_cons, List.sum_cons, List.length_cons]
    have := h x
    rw [Nat.succ_mul]
    omega
theorem left_len (f : File) (ks : List Int) (sp : List (Int × Nat)) (k : Nat) : (Dk.left f ks sp k).data.length ≤ f.data.length := by
  rw [left_eq]
  dsimp only
  have h1 : ((f.data.drop f.lasts).take (keptOf f ks k)).length ≤ f.data.length - f.lasts := by
    rw [List.length_take, List.length_drop]; omega
  have h2 : ∀ u : Str, u.length = ((f.data.drop f.lasts).take (keptOf f ks k)).length → (f.data.take f.lasts ++ u).length ≤ f.data.length := fun u hu => by
    rw [List.length_append, List.length_take, hu]
    omega
  apply h2
  split
  · rfl
  · split
    · exact turn_length _ _ _
    · rfl
theorem tails_le (ks : List Int) (sp : List (Int × Nat)) : ∀ (d : Dir) (k : Nat) (G : Nat → File) (j : Nat), (Dk.tails ks sp d k G j).data.length ≤ (G j).data.length
  | [], _, _, _ => Nat.le_refl _
  | p :: r, k, G, j => by
    unfold Dk.tails
    split
    · exact tails_le ks sp r k G j
    · refine Nat.le_trans (tails_le ks sp r (k + 1) _ j) ?_
      unfold Dk.upd
      split
      · rename_i e
        rw [e]
        exact left_len _ _ _ _
      · exact Nat.le_refl _

set_option maxHeartbeats 8000000 in
set_option maxRecDepth 100000 in
theorem crash_any {L : Lay} {S : Disk} (w : World) (h : Holds w L S) (F : Fits S) (hcan : Dk.Cans S.changes S.lasting) (hsz : ∀ c ∈ S.changes, c.src.length ≤ maxLen ∧ c.dst.length ≤ maxLen) (vk vs : Value) (c : Dk.Crash) (hc : Choices w L vk vs c) (hbig : (Dk.runs (S.changes.take (Dk.held c.names S.changes.length).toNat) S.lasting).length ≤ 1099511627776)
    (hbnd : ∃ B, (∀ i, (S.file i).data.length ≤ B) ∧ (Dk.runs (S.changes.take (Dk.held c.names S.changes.length).toNat) S.lasting).length * B ≤ 1152921504606846976) :
    Calls Tryz.prog 27 #[.pointer (some ⟨L.d, 0, none⟩), .agg #[.int .i64 c.names, vk, vs]] w fun e w' => e = .returned (.tuple #[]) ∧ Goes L w (S.crash c) w' := by
  have hbx := h.alloc (.cells #[.int .i64 c.names, vk, vs] 55)
  have HM := Lib.hid (made_any _ hbx)
  have HF := Lib.hid F; have HC := Lib.hid hcan; have HZ := Lib.hid hsz; have HCH := Lib.hid hc; clear F hcan hsz hc
  have HBG := Lib.hid hbig; have HBND := Lib.hid hbnd; clear hbig hbnd
  have HBX := Lib.hid hbx
  have c3 := hbx.cells.2.2.2.1
  have f3 := hbx.soft 3
  have HH := Lib.hid h; clear h hbx
  obtain ⟨va, vc, hvk⟩ := HCH.out.keep.shape
  obtain ⟨vsa, vsc, hvs⟩ := HCH.out.spoil.shape
  have HVK := Lib.hid hvk; have HVS := Lib.hid hvs
  rw [hvk, hvs] at HM c3 f3 HBX ⊢
  clear hvk hvs
  go_enter Tryz.func27, Tryz.ntmps27
  go_wp2_with fail
  refine HM.out.mono ?_
  rintro e w1 ⟨rfl, rfl⟩
  clear HM
  go_wp2_with fail
  obtain ⟨p, hp⟩ : ∃ p, p = w.heap.size := ⟨_, rfl⟩
  have hdp : L.d < w.heap.size := heap_lt HH.out.box
  have hown_p : ∀ b, Own L b → b < p := fun b hb => by have := HH.out.own_lt hb; omega
  have HOP := Lib.hid hown_p
  have hw2 := HBX.out.setBox 3 (.bool true) { S with down := true } rfl rfl rfl rfl rfl rfl
  have ht2 : Turns (Own L) w ((w.alloc (.cells #[.int .i64 c.names, .slice va c.keep.length vc, .slice vsa c.spoil.length vsc] 55)).setCell ⟨L.d, 3, none⟩ (.bool true)) :=
    (Turns.of_below (P := Own L) ((Below.refl _ w).alloc (Nat.le_refl _) _)).trans (Turns.of_setCell (P := Own L) _ ⟨L.d, 3, none⟩ _ (Or.inl rfl)) (fun _ h => Or.inl h)
  have hb2 : ((w.alloc (.cells #[.int .i64 c.names, .slice va c.keep.length vc, .slice vsa c.spoil.length vsc] 55)).setCell ⟨L.d, 3, none⟩ (.bool true)).heap[p]? = some (.cells #[.int .i64 c.names, .slice va c.keep.length vc, .slice vsa c.spoil.length vsc] 55 (0, 0)) := by
    rw [setCell_kept _ _ _ (by simp; omega), hp]
    exact heap_alloc_new w _
  rw [← hp]
  generalize (w.alloc (.cells #[.int .i64 c.names, .slice va c.keep.length vc, .slice vsa c.spoil.length vsc] 55)).setCell ⟨L.d, 3, none⟩ (.bool true) = w2 at *
  have HW2 := Lib.hid hw2; have HT2 := Lib.hid ht2; have HB2 := Lib.hid hb2; have HPW := Lib.hid hp
  obtain ⟨n, hn⟩ : ∃ n : Nat, n = (Dk.held c.names S.changes.length).toNat := ⟨_, rfl⟩
  have hh0 : 0 ≤ Dk.held c.names S.changes.length ∧ Dk.held c.names S.changes.length ≤ S.changes.length := by unfold Dk.held; omega
  have hni : Dk.held c.names S.changes.length = (n : Int) := by omega
  have hnl : n ≤ S.changes.length := by omega
  obtain ⟨a6, cap6, hsh⟩ := row_shape hw2.chg
  have c6 := hw2.cells.2.2.2.2.2.2
  rw [hsh] at c6
  dsimp only at c6
  have k0 : w2.cell? ⟨p, 0, none⟩ = some (.int .i64 c.names) := by rw [cell_of hb2]; rfl
  have hF2 : Fits { S with down := true } := ⟨HF.out.fuse, HF.out.now, HF.out.old, HF.out.chg, HF.out.room0, HF.out.room, HF.out.least, HF.out.most, HF.out.dat⟩
  have HK := fun w' (hw' : Holds w' L { S with down := true }) => Lib.hid (keep_any w' hw' hF2 HC.out HZ.out n hnl)
  have HNI := Lib.hid hni; have HNN := Lib.hid hn
  have HBIG : Hid ((Dk.runs (S.changes.take n) S.lasting).length ≤ 1099511627776) := by rw [hn]; exact HBG
  clear hn hh0 hni hsh hw2 ht2 hb2 hF2 hown_p c3 f3 HBX hp
  go_cut [] from 6 (fun wr => Hid (Goes L w2 (({ S with down := true } : Disk).keep n) wr))
  case first =>
    go_region_law (first
      | (go_simp; go_at_call 37; refine (held_any _ _ _).mono ?_; rintro e wz ⟨rfl, rfl⟩; rw [HNI.out])
      | (go_simp; go_at_call 70; refine (HK _ HW2.out.drew).out.mono ?_; rintro e w3 ⟨rfl, hg3⟩))
    all_goals
      go_wp2_with fail
      go_meet
      case rel =>
        obtain ⟨L', hld, hh, ht, ho⟩ := hg3
        exact Lib.hid ⟨L', hld, hh, ⟨ht.os, ht.tape, ht.output, ht.size, ht.block⟩, ho⟩
  case rest =>
    obtain ⟨L2, hld, hh, ht, ho⟩ := hcut.out
    have hp2 : p < w2.heap.size := heap_lt HB2.out
    have hpo : ¬ Own L p := fun h => by have := HOP.out p h; omega
    have hpb := (ht.block p hp2 hpo).trans HB2.out
    have hpo2 : ¬ Own L2 p := fun h => (ho p h).elim hpo (fun h => by omega)
    have c5 := hh.cells.2.2.2.2.2.1
    have HG : Hid (Goes L w (({ S with down := true } : Disk).keep n) wc) := Lib.hid ⟨L2, hld, hh, HT2.out.trans ht (fun _ h => Or.inl h), fun b hb => (ho b hb).imp id (fun h => Nat.le_trans HT2.out.size h)⟩
    rw [hld] at c5
    have HCD := Lib.hid (clone_dir hh.old)
    have f4 := hh.soft 4
    have c4 := hh.cells.2.2.2.2.1
    rw [hld] at f4 c4
    have HH2 := Lib.hid hh; have HLD := Lib.hid hld; have HPB := Lib.hid hpb; have HPO2 := Lib.hid hpo2
    have HOB : Hid (∀ b, Own L2 b → b ≠ p ∧ (Own L b ∨ w2.heap.size ≤ b)) := Lib.hid (fun b hb => ⟨fun e => hpo2 (e ▸ hb), ho b hb⟩)
    have hdl : L.d < wc.heap.size := by rw [← hld]; exact heap_lt hh.box
    have HSZ : Hid (w2.heap.size ≤ wc.heap.size) := Lib.hid ht.size
    clear hcut hld hh ht ho hpb hpo2 hpo k0 c6
    go_wp2_with fail
    refine HCD.out.mono ?_
    rintro e w3 ⟨rfl, ho3, hb3⟩
    have c4b := (hb3.cell (p := ⟨L.d, 4, none⟩) hdl).trans c4
    have f4b := (hb3.frozen (p := ⟨L.d, 4, none⟩) hdl).trans f4
    obtain ⟨L3, hL3⟩ : ∃ L3 : Lay, L3 = { L2 with bn := wc.heap.size } := ⟨_, rfl⟩
    obtain ⟨S3, hS3⟩ : ∃ S3 : Disk, S3 = { ({ S with down := true } : Disk).keep n with now := (({ S with down := true } : Disk).keep n).lasting } := ⟨_, rfl⟩
    have hcopy : Holds (w3.setCell ⟨L.d, 4, none⟩ (.map (some wc.heap.size))) L3 S3 := by
      have := HH2.out.newNow hb3 _ ho3 (Nat.le_refl _) HH2.out.inOld
      rw [hL3, hS3, ← HLD.out]
      exact this
    have hld3 : L3.d = L.d := by rw [hL3]; exact HLD.out
    have hown3 : ∀ b, Own L3 b → b ≠ p ∧ (Own L b ∨ w2.heap.size ≤ b) := fun b hb => by
      rw [hL3] at hb
      rcases hb with h | h | h | h | h
      · exact HOB.out b (Or.inl h)
      · have h1 := HG.out; have h2 := heap_lt HPB.out
        have h3 : b = wc.heap.size := h
        refine ⟨by omega, Or.inr ?_⟩
        obtain ⟨_, _, _, _, _⟩ := h1
        rw [h3]
        exact HSZ.out
      · exact HOB.out b (Or.inr (Or.inr (Or.inl h)))
      · exact HOB.out b (Or.inr (Or.inr (Or.inr (Or.inl h))))
      · exact HOB.out b (Or.inr (Or.inr (Or.inr (Or.inr h))))
    have ht3 : Turns (Own L) w (w3.setCell ⟨L.d, 4, none⟩ (.map (some wc.heap.size))) := by
      obtain ⟨_, _, _, ht, _⟩ := HG.out
      exact (ht.trans (Turns.of_below (P := Own L) hb3) (fun _ h => Or.inl h)).trans (Turns.of_setCell (P := Own L) w3 ⟨L.d, 4, none⟩ _ (Or.inl rfl)) (fun _ h => Or.inl h)
    have hp3 := (hb3.block p (heap_lt HPB.out)).trans HPB.out
    have k1 : w3.cell? ⟨p, 1, none⟩ = some (.slice va c.keep.length vc) := by rw [cell_of hp3]; rfl
    have k2 : w3.cell? ⟨p, 2, none⟩ = some (.slice vsa c.spoil.length vsc) := by rw [cell_of hp3]; rfl
    have hF3 : Fits S3 := by
      have h1 := length_runs (S.changes.take n) S.lasting
      rw [hS3]
      refine ⟨HF.out.fuse, ?_, ?_, by simp [Disk.keep], HF.out.room0, HF.out.room, HF.out.least, HF.out.most, HF.out.dat⟩
      · exact HBIG.out
      · exact HBIG.out
    have hkk : SeesI (w3.setCell ⟨L.d, 4, none⟩ (.map (some wc.heap.size))) (.slice va c.keep.length vc) c.keep := by rw [← HVK.out]; exact HCH.out.keep.turned ht3 HCH.out.keepOff
    have hss : SeesQ (w3.setCell ⟨L.d, 4, none⟩ (.map (some wc.heap.size))) (.slice vsa c.spoil.length vsc) c.spoil := by rw [← HVS.out]; exact HCH.out.spoil.turned ht3 HCH.out.spoilOff
    have hko3 : c.keep ≠ [] → ∀ b, (Value.slice va c.keep.length vc).ownBlock = some b → ¬ Own L3 b := fun hne b hb ho => by
      rw [← HVK.out] at hb
      rcases (hown3 b ho).2 with h | h
      · exact HCH.out.keepOff hne b hb h
      · have := HCH.out.keepIn hne b hb
        have := HT2.out.size
        omega
    have hso3 : c.spoil ≠ [] → ∀ b, (Value.slice vsa c.spoil.length vsc).ownBlock = some b → ¬ Own L3 b := fun hne b hb ho => by
      rw [← HVS.out] at hb
      rcases (hown3 b ho).2 with h | h
      · exact HCH.out.spoilOff hne b hb h
      · have := HCH.out.spoilIn hne b hb
        have := HT2.out.size
        omega
    have HKT := Lib.hid (keepTails_any _ hcopy hF3 _ _ c.keep c.spoil hkk hss hko3 hso3 HCH.out.keepLen HCH.out.spoilLen HCH.out.masks)
    rw [hld3] at HKT
    have HC3 := Lib.hid hcopy; have HL3 := Lib.hid hld3; have HO3 := Lib.hid hown3; have HT3 := Lib.hid ht3; have HF3 := Lib.hid hF3; have HS3 := Lib.hid hS3
    clear hcopy hown3 ht3 hp3 hF3 hkk hss hko3 hso3 hL3 hS3 ho3 hb3 c4 f4 c5 HCD hld3
    go_wp2_with fail
    refine HKT.out.mono ?_
    rintro e w5 ⟨rfl, L5, ha5, hh5, ht5⟩
    have hld5 : L5.d = L.d := ha5.d.trans HL3.out
    have c1 := hh5.cells.2.1
    have f1 := hh5.soft 1
    have c4 := hh5.cells.2.2.2.2.1
    rw [hld5] at c1 f1 c4
    obtain ⟨FF, hFF⟩ : ∃ FF, FF = Dk.tails c.keep c.spoil S3.now 0 S3.file := ⟨_, rfl⟩
    rw [← hFF] at hh5
    have HU : Hid (∀ u : Int, Holds (w5.setCell ⟨L.d, 1, none⟩ (.int .i64 u)) L5 { S3 with file := FF, used := u }) := Lib.hid (fun u => by
      have := hh5.setBox 1 (.int .i64 u) { S3 with file := FF, used := u } rfl rfl rfl rfl rfl rfl
      rw [hld5] at this
      exact this)
    have HT5 : Hid (Turns (Own L) w (w5.setCell ⟨L.d, 1, none⟩ (.int .i64 0)) ∧ ∀ b, Own L5 b → Own L b ∨ w.heap.size ≤ b) := Lib.hid ⟨(HT3.out.trans ht5 (fun x hx => by
        rcases (HO3.out x hx).2 with h | h
        · exact Or.inl h
        · exact Or.inr (Nat.le_trans HT2.out.size h))).trans (Turns.of_setCell (P := Own L) w5 ⟨L.d, 1, none⟩ _ (Or.inl rfl)) (fun _ h => Or.inl h), fun b hb => by
        rcases (HO3.out b ((ha5.own b).1 hb)).2 with h | h
        · exact Or.inl h
        · exact Or.inr (Nat.le_trans HT2.out.size h)⟩
    have HFF := Lib.hid hFF; have HLD5 := Lib.hid hld5
    have hmap := (HU.out 0).now
    dsimp only at hmap
    have hmap2 : (w5.setCell ⟨L.d, 1, none⟩ (.int .i64 0)).ownsMap Tryz.prog 9 ptrElem L5.bn S3.now.length (toD L5.loc S3.now) := hmap
    clear hh5 ht5 ha5 HKT hFF hmap k1 k2 hld5
    go_wp2_with (at_range; refine wpList_range_own _ rfl _ 86 rfl 9 126 law Tryz.underlying86 ptrElem L5.bn S3.now.length _ rfl hmap2 ?_)
    intro w7 hrg7 hg7 hs7
    obtain ⟨r, hr⟩ : ∃ r, r = w5.heap.size := ⟨_, rfl⟩
    have hrs : (w5.setCell ⟨L.d, 1, none⟩ (.int .i64 0)).heap.size = r := by rw [hr]; simp [World.setCell]
    rw [← hr] at hrg7
    rw [← hr]
    have hown_r : ∀ b, Own L5 b → b < r := fun b hb => by
      have := (HU.out 0).own_lt hb
      rw [hrs] at this
      exact this
    have H7 : Hid (Holds w7 L5 { S3 with file := FF, used := 0 } ∧ Turns (Own L) w w7) := Lib.hid ⟨(HU.out 0).frame (fun b hb => hg7.block b (by rw [hrs]; exact hown_r b hb) (by simp)), HT5.out.1.trans (Turns.of_grown (P := fun _ => False) hg7 (fun _ e => by cases e)) (fun _ h => h.elim)⟩
    have HOR := Lib.hid hown_r; have HG7 := Lib.hid hrg7
    have hbr : L5.bn ≠ r := fun e => by have := hown_r L5.bn (Or.inr (Or.inl rfl)); omega
    have hdr : L.d ≠ r := fun e => by have := hown_r L.d (by rw [← HLD5.out]; exact Or.inl rfl); omega
    have hbd : L5.bn ≠ L.d := by have := (HU.out 0).lone.bn_d; rw [HLD5.out] at this; exact this
    have HD0 : Hid (Maps.size (toD L5.loc S3.now) = S3.now.length) := Lib.hid (toD_size _ _)
    have HRW : Hid (w.heap.size ≤ r) := by
      have h1 := HT5.out.1.size
      rw [hrs] at h1
      exact Lib.hid h1
    clear hown_r hs7 hg7 hmap2 hrs hr c4 hrg7
    go_wp2_with fail
    go_loopw [] (fun wr => ∃ (left : Lit → Bool) (cnt : Nat) (ss : List (List UInt8)), wr.ranges Tryz.prog 9 ptrElem L5.bn r S3.now.length (toD L5.loc S3.now) left cnt ∧ Hid (ss.length + cnt ≤ S3.now.length ∧ Collected (toD L5.loc S3.now) left ss ∧ Holds wr L5 { S3 with file := FF, used := (((ss.map (sizeAt FF S3.now)).sum : Nat) : Int) } ∧ Turns (Own L) w wr)) (fun wr => wr.rangeLeft L5.bn r)
    case atStart => exact ⟨_, _, [], HG7.out, Lib.hid ⟨by rw [HD0.out]; simp, Collected.start _, H7.out.1, H7.out.2⟩⟩
    case round =>
      obtain ⟨left, cnt, ss, hrg, HR⟩ := hrel
      go_wp2_with (at_next; refine wpList_next_ranges _ rfl _ rfl 9 law ptrElem encStr Value.pointer (fun key kl hk => by obtain ⟨x, hx, _⟩ := Maps.keyOf_str Tryz.underlying9 hk; exact ⟨x, hx⟩) ptr_inv L5.bn r S3.now.length _ _ _ rfl hrg ?_ ?_)
      · intro hc0 hl0
        have hperm := HR.out.2.1.perm hrg.owns law Tryz.underlying9 hl0
        rw [toD_keys] at hperm
        have hri := rising HR.out.2.2.1.now
        have hsum : (ss.map (sizeAt FF S3.now)).sum = Dk.total FF S3.now := by rw [perm_sum (hperm.map _)]; exact total_sum FF hri
        have HSUM := Lib.hid hsum
        clear hperm hri hsum hl0 hrg
        go_wp2_with fail
        go_end0
        refine ⟨rfl, L5, HLD5.out, ?_, HR.out.2.2.2, HT5.out.2⟩
        have hh := HR.out.2.2.1
        rw [HSUM.out] at hh
        have e : ({ S3 with file := FF, used := ((Dk.total FF S3.now : Nat) : Int) } : Disk) = S.crash c := by
          rw [HFF.out, HS3.out]
          unfold Disk.crash
          simp only
          rw [← HNN.out]
          rfl
        rw [e] at hh
        exact hh
      · intro x cp kl yd yp w8 cnt2 hkey hlk hv hat hrg2 hlt hg8 hs8 hen
        obtain ⟨x', ex, rfl, _⟩ := Maps.keyOf_str Tryz.underlying9 hkey
        obtain rfl : x = x' := encStr_inj ex
        obtain ⟨i, hi, hyd⟩ : ∃ i, Dk.look x S3.now = some i ∧ yd = .lit (.int .i64 (L5.loc i)) := by
          cases hl : Dk.look x S3.now with
          | none =>
            have h1 := hat .nil
            have h2 := hat (.map [])
            rw [toD_at, hl] at h1 h2
            dsimp only at h1 h2
            rw [← h1] at h2
            cases h2
          | some i =>
            have h1 := hat .nil
            rw [toD_at, hl] at h1
            exact ⟨i, rfl, h1.symm⟩
        subst hyd
        obtain ⟨m, hm, hm2⟩ := ptrElem_inv hv
        simp only [Value.pointer.injEq] at hm
        have hm3 : m = L5.loc i := by omega
        subst hm3
        subst hm
        have hh8 : Holds w8 L5 { S3 with file := FF, used := (((ss.map (sizeAt FF S3.now)).sum : Nat) : Int) } := HR.out.2.2.1.frame (fun b hb => hg8.block b (by have := HR.out.2.2.1.own_lt hb; exact this) (fun e => by have := HOR.out b hb; simp at e; omega))
        have hlive := HR.out.2.2.1.inNow (x, i) (Dk.mem_of_look hi)
        have hfa := hh8.file i hlive
        obtain ⟨da, dc, hsh⟩ := row_shape hfa.row
        dsimp only at hfa hsh hlive
        have e0 : w8.cell? ⟨L5.loc i, 0, none⟩ = some (.slice da (FF i).data.length dc) := by rw [cell_of hfa.box, hsh]; rfl
        have c1 : w8.cell? ⟨L.d, 1, none⟩ = some (.int .i64 (((ss.map (sizeAt FF S3.now)).sum : Nat) : Int)) := by rw [← HLD5.out]; exact hh8.cells.2.1
        have f1 : w8.frozen? ⟨L.d, 1, none⟩ = false := by rw [← HLD5.out]; exact hh8.soft 1
        obtain ⟨u, hu⟩ : ∃ u, u = (ss.map (sizeAt FF S3.now)).sum := ⟨_, rfl⟩
        obtain ⟨z, hz⟩ : ∃ z, z = (FF i).data.length := ⟨_, rfl⟩
        obtain ⟨B, hB1, hB2⟩ := HBND.out
        have hFB : ∀ j, (FF j).data.length ≤ B := fun j => by rw [HFF.out]; exact Nat.le_trans (tails_le _ _ _ _ _ j) (by rw [HS3.out]; exact hB1 j)
        have hub : u ≤ S3.now.length * B := by
          rw [hu]
          have h1 := sum_le ss (sizeAt FF S3.now) B (fun s => by
            unfold sizeAt
            split
            · exact hFB _
            · exact Nat.zero_le _)
          have h2 : ss.length * B ≤ S3.now.length * B := Nat.mul_le_mul_right _ (by have := HR.out.1; omega)
          omega
        have hnl3 : S3.now.length * B ≤ 1152921504606846976 := by
          rw [HS3.out]
          rw [← HNN.out] at hB2
          exact hB2
        have hzb : z ≤ 1099511627776 := by
          have h1 : (FF i).data.length ≤ (S.file i).data.length := by rw [HFF.out]; exact Nat.le_trans (tails_le _ _ _ _ _ i) (by rw [HS3.out]; exact Nat.le_refl _)
          have h2 := HF.out.dat i
          omega
        have hui : (u : Int) ≤ 1152921504606846976 := by omega
        have hzi : (z : Int) ≤ 1099511627776 := by omega
        have HSZ2 : Hid (sizeAt FF S3.now x = z) := by unfold sizeAt; rw [hi, hz]; exact Lib.hid rfl
        rw [← hu] at c1
        rw [← hz] at e0
        have HU1 := Lib.hid hu; have HRG2 := Lib.hid hrg2; have HAT := Lib.hid hat; have HH8 := Lib.hid hh8; have HG8 := Lib.hid hg8; have HRG := Lib.hid hrg
        clear hu hz hh8 hfa hsh hlive hv hm2 hat hrg2 hg8 hs8 hkey ex hi hB1 hB2 hFB hub hnl3 hzb hrg
        go_wp2_with fail
        go_region
        have HE : Hid (w8.grownBy (w8.setCell ⟨L.d, 1, none⟩ (.int .i64 ((u : Int) + z))).drew (some L.d) ∧ Holds (w8.setCell ⟨L.d, 1, none⟩ (.int .i64 ((u : Int) + z))).drew L5 { S3 with file := FF, used := ((((ss ++ [x]).map (sizeAt FF S3.now)).sum : Nat) : Int) } ∧ Turns (Own L) w (w8.setCell ⟨L.d, 1, none⟩ (.int .i64 ((u : Int) + z))).drew) := by
          refine Lib.hid ⟨⟨rfl, rfl, rfl, by simp [World.setCell, World.drew], fun k _ hne => setCell_kept w8 _ _ (fun e => hne (by rw [e]))⟩, ?_, ?_⟩
          · have := HH8.out.setBox 1 (.int .i64 ((u : Int) + z)) { S3 with file := FF, used := ((((ss ++ [x]).map (sizeAt FF S3.now)).sum : Nat) : Int) } (by
              have e : ((((ss ++ [x]).map (sizeAt FF S3.now)).sum : Nat) : Int) = (u : Int) + z := by rw [List.map_append, List.sum_append, ← HU1.out]; simp [HSZ2.out]
              rw [e]
              rfl) rfl rfl rfl rfl rfl
            rw [HLD5.out] at this
            exact this.drew
          · exact ((HR.out.2.2.2.trans (Turns.of_grown (P := fun k => k = r) HG8.out (fun k e => (Option.some.inj e).symm)) (fun b hb => Or.inr (by rw [hb]; exact HRW.out))).trans (Turns.of_setCell (P := Own L) w8 ⟨L.d, 1, none⟩ _ (Or.inl rfl)) (fun _ h => Or.inl h)).drew
        go_wp2_with fail
        go_roundw
        case rel => exact ⟨_, cnt2, ss ++ [x], HRG2.out.kept HE.out.1 (by simp [hbd]) (by simp; omega), Lib.hid ⟨by rw [List.length_append, List.length_singleton]; have := HR.out.1; omega, HR.out.2.1.step hlk HAT.out, HE.out.2.1, HE.out.2.2⟩⟩
        case measure => rw [(HRG2.out.kept HE.out.1 (by simp [hbd]) (by simp; omega)).left_eq, HRG.out.left_eq]; omega

end Go.Proofs.YtfeconankopjmaaGreatDoor

/- The walk of the statements' awake over disks. -/
namespace Go.Proofs.YtfeconankopjmaaGreatDoor
open Go.RowKit Go.Maps
open Dk (Dir Chg Disk File Str)

theorem fits_of {n m : Nat} {S : Disk} (G : Dk.Good n m S) (hn : n ≤ 1048576) (hm : m ≤ 1048576) : Fits S := by
  have h : n * m ≤ 1048576 * 1048576 := Nat.mul_le_mul hn hm
  have h1 := G.least
  have h2 := G.most
  have h3 := G.nowLen
  have h4 := G.count
  exact ⟨G.fuse, by omega, by omega, by omega, G.room0, G.room, by omega, by omega, fun i => by have := G.dat i; omega⟩
theorem crash_fits {n m : Nat} {S : Disk} (G : Dk.Good n m S) (hn : n ≤ 1048576) (hm : m ≤ 1048576) (k : Int) :
    (Dk.runs (S.changes.take (Dk.held k S.changes.length).toNat) S.lasting).length ≤ 1099511627776 ∧ ∃ B, (∀ i, (S.file i).data.length ≤ B) ∧ (Dk.runs (S.changes.take (Dk.held k S.changes.length).toNat) S.lasting).length * B ≤ 1152921504606846976 := by
  have h1 := Dk.length_runs (S.changes.take (Dk.held k S.changes.length).toNat) S.lasting
  have h4 := G.count
  rw [List.length_take] at h1
  have h5 : (Dk.runs (S.changes.take (Dk.held k S.changes.length).toNat) S.lasting).length ≤ 1048576 := by omega
  have h : (Dk.runs (S.changes.take (Dk.held k S.changes.length).toNat) S.lasting).length * m ≤ 1048576 * 1048576 := Nat.mul_le_mul h5 hm
  exact ⟨by omega, m, G.dat, by omega⟩
theorem names_of {n m : Nat} {S : Disk} (G : Dk.Good n m S) : ∀ p ∈ S.now, p.1 ≠ [] := fun p hp => (G.nowNames p hp).1
theorem sizes_of {n m : Nat} {S : Disk} (G : Dk.Good n m S) : ∀ c ∈ S.changes, c.src.length ≤ maxLen ∧ c.dst.length ≤ maxLen := fun c hc => by
  have h := G.chgs c hc
  have aux : ∀ s : Str, (s = [] ∨ Dk.Nm s) → s.length ≤ maxLen := fun s hs => by
    unfold maxLen
    rcases hs with rfl | hs
    · simp
    · have := hs.2; omega
  exact ⟨aux _ h.1, aux _ h.2⟩

/-- A disk of the call's own: its blocks lie from a base on. -/
structure Disc (w : World) (base : Nat) (L : Lay) (S : Disk) (n m : Nat) : Prop where
  holds : Holds w L S
  good : Dk.Good n m S
  own : ∀ b, Own L b → base ≤ b
  lo : base ≤ w.heap.size
theorem Disc.goes {w w' : World} {base : Nat} {L : Lay} {S S' : Disk} {n m n' m' : Nat} (h : Disc w base L S n m) (hg : Goes L w S' w') (G : Dk.Good n' m' S') : ∃ L', L'.d = L.d ∧ Disc w' base L' S' n' m' ∧ Below base w w' := by
  obtain ⟨L', hld, hh, ht, ho⟩ := hg
  refine ⟨L', hld, ⟨hh, G, fun b hb => ?_, Nat.le_trans h.lo ht.size⟩, ht.to_below h.lo h.own⟩
  rcases ho b hb with h1 | h1
  · exact h.own b h1
  · exact Nat.le_trans h.lo h1
theorem Disc.below {w w' : World} {base : Nat} {L : Lay} {S : Disk} {n m : Nat} (h : Disc w base L S n m) (hb : Below w.heap.size w w') : Disc w' base L S n m :=
  ⟨h.holds.below hb, h.good, h.own, Nat.le_trans h.lo hb.size⟩
theorem Disc.mono {w : World} {base : Nat} {L : Lay} {S : Disk} {n m n' m' : Nat} (h : Disc w base L S n m) (hn : n ≤ n') (hm : m ≤ m') : Disc w base L S n' m' := ⟨h.holds, h.good.mono hn hm, h.own, h.lo⟩

end Go.Proofs.YtfeconankopjmaaGreatDoor

/- The walk of the statements' Does over a disk that lies in memory. -/
namespace Go.Proofs.YtfeconankopjmaaGreatDoor
open Go.RowKit Go.Maps
open Dk (Dir Chg Disk File Str)

/-- What is done to a disk. -/
structure Act where
  kind : Nat
  a : ByteArray
  b : ByteArray
  n : Int
  crash : Dk.Crash
def does (S : Disk) (x : Act) : Disk × Str × Int := match x.kind with
  | 0 => ((S.create x.a.data.toList).2, [], (S.create x.a.data.toList).1)
  | 1 => ((S.append x.a.data.toList x.b.data.toList).2, [], (S.append x.a.data.toList x.b.data.toList).1)
  | 2 => ((S.sync x.a.data.toList).2, [], (S.sync x.a.data.toList).1)
  | 3 => ((S.rename x.a.data.toList x.b.data.toList).2, [], (S.rename x.a.data.toList x.b.data.toList).1)
  | 4 => ((S.delete x.a.data.toList).2, [], (S.delete x.a.data.toList).1)
  | 5 => (S.dirSync.2, [], S.dirSync.1)
  | 6 => (S.light x.n, [], 0)
  | 7 => (S.crash x.crash, [], 0)
  | 8 => (S.start, [], 0)
  | 9 => (S, (S.read x.a.data.toList).1, (S.read x.a.data.toList).2)
  | _ => (S, [], 0)
theorem good_does {n m : Nat} {S : Disk} (G : Dk.Good n m S) (x : Act) (hn : x.n ≤ 9223372036854775807) : Dk.Good (n + 1) (m + x.b.size) (does S x).1 := by
  unfold does
  split
  · exact (G.create _).mono (Nat.le_refl _) (Nat.le_add_right _ _)
  · have := G.append x.a.data.toList x.b.data.toList
    rw [← Lib.size_eq] at this
    exact this
  · exact (G.sync _).mono (Nat.le_refl _) (Nat.le_add_right _ _)
  · exact (G.rename _ _).mono (Nat.le_refl _) (Nat.le_add_right _ _)
  · exact (G.delete _).mono (Nat.le_refl _) (Nat.le_add_right _ _)
  · exact G.dirSync.mono (Nat.le_refl _) (Nat.le_add_right _ _)
  · exact (G.light _ hn).mono (Nat.le_succ _) (Nat.le_add_right _ _)
  · exact (G.crash _).mono (Nat.le_refl _) (Nat.le_add_right _ _)
  · exact G.start.mono (Nat.le_succ _) (Nat.le_add_right _ _)
  · exact G.mono (Nat.le_succ _) (Nat.le_add_right _ _)
  · exact G.mono (Nat.le_succ _) (Nat.le_add_right _ _)

def crashV (names : Int) (vk vs : Value) : Value := .agg #[.int .i64 names, vk, vs]
def actV (x : Act) (vk vs : Value) : Value := .agg #[.int .u8 (x.kind : Int), .string x.a, .string x.b, .int .i64 x.n, .int .i64 x.crash.names, vk, vs]
/-- A crash's choices lie in memory that is older than a base. -/
structure Older (w : World) (base : Nat) (vk vs : Value) (c : Dk.Crash) : Prop where
  keep : SeesI w vk c.keep
  spoil : SeesQ w vs c.spoil
  keepIn : c.keep ≠ [] → ∀ b, vk.ownBlock = some b → b < base
  spoilIn : c.spoil ≠ [] → ∀ b, vs.ownBlock = some b → b < base
  keepLen : c.keep.length ≤ 1099511627776
  spoilLen : c.spoil.length ≤ 1099511627776
  masks : ∀ q ∈ c.spoil, q.2 ≤ 4294967295
theorem Older.below {w w' : World} {base : Nat} {vk vs : Value} {c : Dk.Crash} (h : Older w base vk vs c) (hb : Below base w w') : Older w' base vk vs c := by
  have ht : Turns (fun k => base ≤ k) w w' := ⟨hb.os, hb.tape, hb.output, hb.size, fun k _ hk => hb.block k (by omega)⟩
  exact ⟨h.keep.turned ht (fun hne b hv => by have := h.keepIn hne b hv; omega), h.spoil.turned ht (fun hne b hv => by have := h.spoilIn hne b hv; omega), h.keepIn, h.spoilIn, h.keepLen, h.spoilLen, h.masks⟩
theorem Older.choices {w : World} {base : Nat} {vk vs : Value} {c : Dk.Crash} (h : Older w base vk vs c) {L : Lay} {S : Disk} {n m : Nat} (D : Disc w base L S n m) : Choices w L vk vs c :=
  ⟨h.keep, h.spoil, fun hne b hv ho => by have := h.keepIn hne b hv; have := D.own b ho; omega, fun hne b hv ho => by have := h.spoilIn hne b hv; have := D.own b ho; omega,
    fun hne b hv => Nat.lt_of_lt_of_le (h.keepIn hne b hv) D.lo, fun hne b hv => Nat.lt_of_lt_of_le (h.spoilIn hne b hv) D.lo, h.keepLen, h.spoilLen, h.masks⟩

/-- What is small enough of an act. -/
structure ActFits (x : Act) : Prop where
  a : x.a.size ≤ 281474976710656
  b : x.b.size ≤ 1099511627776
  n : x.n ≤ 9223372036854775807
  kind : x.kind ≤ 255

/-- What Does answers, and the disk goes on. -/
def Did (L : Lay) (S : Disk) (x : Act) (w : World) (e : Ending) (w' : World) : Prop :=
  e = .returned (.tuple #[.string ⟨(does S x).2.1.toArray⟩, .int .i64 (does S x).2.2]) ∧ Goes L w (does S x).1 w'

theorem Goes.after {w w1 w' : World} {L : Lay} {S' : Disk} (hb : Below w.heap.size w w1) (g : Goes L w1 S' w') : Goes L w S' w' := by
  obtain ⟨L', hld, hh, ht, ho⟩ := g
  exact ⟨L', hld, hh, (Turns.of_below (P := Own L) hb).trans ht (fun _ h => Or.inl h), fun b hb' => (ho b hb').imp id (fun h => Nat.le_trans hb.size h)⟩

set_option maxHeartbeats 8000000 in
set_option maxRecDepth 100000 in
theorem does_0 {w : World} {base : Nat} {L : Lay} {S : Disk} {n m : Nat} (D : Disc w base L S n m) (hn : n ≤ 1048576) (hm : m ≤ 1048576) (x : Act) (hx : ActFits x) (vk vs : Value) (ho : Older w base vk vs x.crash) (hk : x.kind = 0) :
    Calls Tryz.prog 55 #[.pointer (some ⟨L.d, 0, none⟩), actV x vk vs] w (Did L S x w) := by
  have hbl : Below w.heap.size w (w.alloc (.cells #[.int .u8 (x.kind : Int), .string x.a, .string x.b, .int .i64 x.n, .int .i64 x.crash.names, vk, vs] 57)) := (Below.refl _ _).alloc (Nat.le_refl _) _
  have DA : Hid (Disc (w.alloc (.cells #[.int .u8 (x.kind : Int), .string x.a, .string x.b, .int .i64 x.n, .int .i64 x.crash.names, vk, vs] 57)) base L S n m) := Lib.hid (D.below hbl)
  have OL : Hid (Older (w.alloc (.cells #[.int .u8 (x.kind : Int), .string x.a, .string x.b, .int .i64 x.n, .int .i64 x.crash.names, vk, vs] 57)) base vk vs x.crash) := Lib.hid (ho.below (hbl.mono D.lo))
  have HB := Lib.hid hbl; have HN := Lib.hid hn; have HM := Lib.hid hm; have HX := Lib.hid hx
  clear hbl ho hn hm hx D
  unfold actV
  have HR : Hid (does S x = ((S.create x.a.data.toList).2, [], (S.create x.a.data.toList).1)) := by unfold does; rw [hk]; exact Lib.hid rfl
  have hkq : (x.kind : Int) = 0 := by omega
  rw [hkq] at DA OL HB ⊢
  clear hkq hk
  have HC := Lib.hid (create_any _ DA.out.holds (fits_of DA.out.good HN.out HM.out) x.a HX.out.a)
  obtain ⟨R, hR⟩ : ∃ R, R = does S x := ⟨_, rfl⟩
  unfold Did
  rw [← hR]
  have HRR : Hid (R = ((S.create x.a.data.toList).2, [], (S.create x.a.data.toList).1)) := by rw [hR]; exact HR
  clear hR HR
  go_enter Tryz.func55, Tryz.ntmps55
  go_wp2_with fail
  refine HC.out.mono ?_
  rintro e w1 ⟨rfl, hg⟩
  have HG := Lib.hid hg; clear hg HC
  go_wp2_with fail
  go_ret2
  rw [HRR.out]
  exact ⟨rfl, HG.out.after HB.out⟩


set_option maxHeartbeats 8000000 in
set_option maxRecDepth 100000 in
theorem does_1 {w : World} {base : Nat} {L : Lay} {S : Disk} {n m : Nat} (D : Disc w base L S n m) (hn : n ≤ 1048576) (hm : m ≤ 1048576) (x : Act) (hx : ActFits x) (vk vs : Value) (ho : Older w base vk vs x.crash) (hk : x.kind = 1) :
    Calls Tryz.prog 55 #[.pointer (some ⟨L.d, 0, none⟩), actV x vk vs] w (Did L S x w) := by
  have hbl : Below w.heap.size w (w.alloc (.cells #[.int .u8 (x.kind : Int), .string x.a, .string x.b, .int .i64 x.n, .int .i64 x.crash.names, vk, vs] 57)) := (Below.refl _ _).alloc (Nat.le_refl _) _
  have DA : Hid (Disc (w.alloc (.cells #[.int .u8 (x.kind : Int), .string x.a, .string x.b, .int .i64 x.n, .int .i64 x.crash.names, vk, vs] 57)) base L S n m) := Lib.hid (D.below hbl)
  have OL : Hid (Older (w.alloc (.cells #[.int .u8 (x.kind : Int), .string x.a, .string x.b, .int .i64 x.n, .int .i64 x.crash.names, vk, vs] 57)) base vk vs x.crash) := Lib.hid (ho.below (hbl.mono D.lo))
  have HB := Lib.hid hbl; have HN := Lib.hid hn; have HM := Lib.hid hm; have HX := Lib.hid hx
  clear hbl ho hn hm hx D
  unfold actV
  have HR : Hid (does S x = ((S.append x.a.data.toList x.b.data.toList).2, [], (S.append x.a.data.toList x.b.data.toList).1)) := by unfold does; rw [hk]; exact Lib.hid rfl
  have hkq : (x.kind : Int) = 1 := by omega
  rw [hkq] at DA OL HB ⊢
  clear hkq hk
  have HC := Lib.hid (append_any _ DA.out.holds (fits_of DA.out.good HN.out HM.out) x.a x.b (by have := HX.out.a; unfold maxLen; omega) HX.out.b)
  obtain ⟨R, hR⟩ : ∃ R, R = does S x := ⟨_, rfl⟩
  unfold Did
  rw [← hR]
  have HRR : Hid (R = ((S.append x.a.data.toList x.b.data.toList).2, [], (S.append x.a.data.toList x.b.data.toList).1)) := by rw [hR]; exact HR
  clear hR HR
  go_enter Tryz.func55, Tryz.ntmps55
  go_wp2_with fail
  refine HC.out.mono ?_
  rintro e w1 ⟨rfl, hg⟩
  have HG := Lib.hid hg; clear hg HC
  go_wp2_with fail
  go_ret2
  rw [HRR.out]
  exact ⟨rfl, HG.out.after HB.out⟩


set_option maxHeartbeats 8000000 in
set_option maxRecDepth 100000 in
theorem does_2 {w : World} {base : Nat} {L : Lay} {S : Disk} {n m : Nat} (D : Disc w base L S n m) (hn : n ≤ 1048576) (hm : m ≤ 1048576) (x : Act) (hx : ActFits x) (vk vs : Value) (ho : Older w base vk vs x.crash) (hk : x.kind = 2) :
    Calls Tryz.prog 55 #[.pointer (some ⟨L.d, 0, none⟩), actV x vk vs] w (Did L S x w) := by
  have hbl : Below w.heap.size w (w.alloc (.cells #[.int .u8 (x.kind : Int), .string x.a, .string x.b, .int .i64 x.n, .int .i64 x.crash.names, vk, vs] 57)) := (Below.refl _ _).alloc (Nat.le_refl _) _
  have DA : Hid (Disc (w.alloc (.cells #[.int .u8 (x.kind : Int), .string x.a, .string x.b, .int .i64 x.n, .int .i64 x.crash.names, vk, vs] 57)) base L S n m) := Lib.hid (D.below hbl)
  have OL : Hid (Older (w.alloc (.cells #[.int .u8 (x.kind : Int), .string x.a, .string x.b, .int .i64 x.n, .int .i64 x.crash.names, vk, vs] 57)) base vk vs x.crash) := Lib.hid (ho.below (hbl.mono D.lo))
  have HB := Lib.hid hbl; have HN := Lib.hid hn; have HM := Lib.hid hm; have HX := Lib.hid hx
  clear hbl ho hn hm hx D
  unfold actV
  have HR : Hid (does S x = ((S.sync x.a.data.toList).2, [], (S.sync x.a.data.toList).1)) := by unfold does; rw [hk]; exact Lib.hid rfl
  have hkq : (x.kind : Int) = 2 := by omega
  rw [hkq] at DA OL HB ⊢
  clear hkq hk
  have HC := Lib.hid (sync_any _ DA.out.holds (fits_of DA.out.good HN.out HM.out) x.a (by have := HX.out.a; unfold maxLen; omega))
  obtain ⟨R, hR⟩ : ∃ R, R = does S x := ⟨_, rfl⟩
  unfold Did
  rw [← hR]
  have HRR : Hid (R = ((S.sync x.a.data.toList).2, [], (S.sync x.a.data.toList).1)) := by rw [hR]; exact HR
  clear hR HR
  go_enter Tryz.func55, Tryz.ntmps55
  go_wp2_with fail
  refine HC.out.mono ?_
  rintro e w1 ⟨rfl, hg⟩
  have HG := Lib.hid hg; clear hg HC
  go_wp2_with fail
  go_ret2
  rw [HRR.out]
  exact ⟨rfl, HG.out.after HB.out⟩


set_option maxHeartbeats 8000000 in
set_option maxRecDepth 100000 in
theorem does_3 {w : World} {base : Nat} {L : Lay} {S : Disk} {n m : Nat} (D : Disc w base L S n m) (hn : n ≤ 1048576) (hm : m ≤ 1048576) (x : Act) (hx : ActFits x) (vk vs : Value) (ho : Older w base vk vs x.crash) (hk : x.kind = 3) :
    Calls Tryz.prog 55 #[.pointer (some ⟨L.d, 0, none⟩), actV x vk vs] w (Did L S x w) := by
  have hbl : Below w.heap.size w (w.alloc (.cells #[.int .u8 (x.kind : Int), .string x.a, .string x.b, .int .i64 x.n, .int .i64 x.crash.names, vk, vs] 57)) := (Below.refl _ _).alloc (Nat.le_refl _) _
  have DA : Hid (Disc (w.alloc (.cells #[.int .u8 (x.kind : Int), .string x.a, .string x.b, .int .i64 x.n, .int .i64 x.crash.names, vk, vs] 57)) base L S n m) := Lib.hid (D.below hbl)
  have OL : Hid (Older (w.alloc (.cells #[.int .u8 (x.kind : Int), .string x.a, .string x.b, .int .i64 x.n, .int .i64 x.crash.names, vk, vs] 57)) base vk vs x.crash) := Lib.hid (ho.below (hbl.mono D.lo))
  have HB := Lib.hid hbl; have HN := Lib.hid hn; have HM := Lib.hid hm; have HX := Lib.hid hx
  clear hbl ho hn hm hx D
  unfold actV
  have HR : Hid (does S x = ((S.rename x.a.data.toList x.b.data.toList).2, [], (S.rename x.a.data.toList x.b.data.toList).1)) := by unfold does; rw [hk]; exact Lib.hid rfl
  have hkq : (x.kind : Int) = 3 := by omega
  rw [hkq] at DA OL HB ⊢
  clear hkq hk
  have HC := Lib.hid (rename_any _ DA.out.holds (fits_of DA.out.good HN.out HM.out) (names_of DA.out.good) x.a x.b HX.out.a (by have := HX.out.b; omega))
  obtain ⟨R, hR⟩ : ∃ R, R = does S x := ⟨_, rfl⟩
  unfold Did
  rw [← hR]
  have HRR : Hid (R = ((S.rename x.a.data.toList x.b.data.toList).2, [], (S.rename x.a.data.toList x.b.data.toList).1)) := by rw [hR]; exact HR
  clear hR HR
  go_enter Tryz.func55, Tryz.ntmps55
  go_wp2_with fail
  refine HC.out.mono ?_
  rintro e w1 ⟨rfl, hg⟩
  have HG := Lib.hid hg; clear hg HC
  go_wp2_with fail
  go_ret2
  rw [HRR.out]
  exact ⟨rfl, HG.out.after HB.out⟩


set_option maxHeartbeats 8000000 in
set_option maxRecDepth 100000 in
theorem does_4 {w : World} {base : Nat} {L : Lay} {S : Disk} {n m : Nat} (D : Disc w base L S n m) (hn : n ≤ 1048576) (hm : m ≤ 1048576) (x : Act) (hx : ActFits x) (vk vs : Value) (ho : Older w base vk vs x.crash) (hk : x.kind = 4) :
    Calls Tryz.prog 55 #[.pointer (some ⟨L.d, 0, none⟩), actV x vk vs] w (Did L S x w) := by
  have hbl : Below w.heap.size w (w.alloc (.cells #[.int .u8 (x.kind : Int), .string x.a, .string x.b, .int .i64 x.n, .int .i64 x.crash.names, vk, vs] 57)) := (Below.refl _ _).alloc (Nat.le_refl _) _
  have DA : Hid (Disc (w.alloc (.cells #[.int .u8 (x.kind : Int), .string x.a, .string x.b, .int .i64 x.n, .int .i64 x.crash.names, vk, vs] 57)) base L S n m) := Lib.hid (D.below hbl)
  have OL : Hid (Older (w.alloc (.cells #[.int .u8 (x.kind : Int), .string x.a, .string x.b, .int .i64 x.n, .int .i64 x.crash.names, vk, vs] 57)) base vk vs x.crash) := Lib.hid (ho.below (hbl.mono D.lo))
  have HB := Lib.hid hbl; have HN := Lib.hid hn; have HM := Lib.hid hm; have HX := Lib.hid hx
  clear hbl ho hn hm hx D
  unfold actV
  have HR : Hid (does S x = ((S.delete x.a.data.toList).2, [], (S.delete x.a.data.toList).1)) := by unfold does; rw [hk]; exact Lib.hid rfl
  have hkq : (x.kind : Int) = 4 := by omega
  rw [hkq] at DA OL HB ⊢
  clear hkq hk
  have HC := Lib.hid (delete_any _ DA.out.holds (fits_of DA.out.good HN.out HM.out) (names_of DA.out.good) x.a HX.out.a)
  obtain ⟨R, hR⟩ : ∃ R, R = does S x := ⟨_, rfl⟩
  unfold Did
  rw [← hR]
  have HRR : Hid (R = ((S.delete x.a.data.toList).2, [], (S.delete x.a.data.toList).1)) := by rw [hR]; exact HR
  clear hR HR
  go_enter Tryz.func55, Tryz.ntmps55
  go_wp2_with fail
  refine HC.out.mono ?_
  rintro e w1 ⟨rfl, hg⟩
  have HG := Lib.hid hg; clear hg HC
  go_wp2_with fail
  go_ret2
  rw [HRR.out]
  exact ⟨rfl, HG.out.after HB.out⟩


set_option maxHeartbeats 8000000 in
set_option maxRecDepth 100000 in
theorem does_5 {w : World} {base : Nat} {L : Lay} {S : Disk} {n m : Nat} (D : Disc w base L S n m) (hn : n ≤ 1048576) (hm : m ≤ 1048576) (x : Act) (hx : ActFits x) (vk vs : Value) (ho : Older w base vk vs x.crash) (hk : x.kind = 5) :
    Calls Tryz.prog 55 #[.pointer (some ⟨L.d, 0, none⟩), actV x vk vs] w (Did L S x w) := by
  have hbl : Below w.heap.size w (w.alloc (.cells #[.int .u8 (x.kind : Int), .string x.a, .string x.b, .int .i64 x.n, .int .i64 x.crash.names, vk, vs] 57)) := (Below.refl _ _).alloc (Nat.le_refl _) _
  have DA : Hid (Disc (w.alloc (.cells #[.int .u8 (x.kind : Int), .string x.a, .string x.b, .int .i64 x.n, .int .i64 x.crash.names, vk, vs] 57)) base L S n m) := Lib.hid (D.below hbl)
  have OL : Hid (Older (w.alloc (.cells #[.int .u8 (x.kind : Int), .string x.a, .string x.b, .int .i64 x.n, .int .i64 x.crash.names, vk, vs] 57)) base vk vs x.crash) := Lib.hid (ho.below (hbl.mono D.lo))
  have HB := Lib.hid hbl; have HN := Lib.hid hn; have HM := Lib.hid hm; have HX := Lib.hid hx
  clear hbl ho hn hm hx D
  unfold actV
  have HR : Hid (does S x = (S.dirSync.2, [], S.dirSync.1)) := by unfold does; rw [hk]; exact Lib.hid rfl
  have hkq : (x.kind : Int) = 5 := by omega
  rw [hkq] at DA OL HB ⊢
  clear hkq hk
  have HC := Lib.hid (dirSync_any _ DA.out.holds (fits_of DA.out.good HN.out HM.out) DA.out.good.cans (sizes_of DA.out.good))
  obtain ⟨R, hR⟩ : ∃ R, R = does S x := ⟨_, rfl⟩
  unfold Did
  rw [← hR]
  have HRR : Hid (R = (S.dirSync.2, [], S.dirSync.1)) := by rw [hR]; exact HR
  clear hR HR
  go_enter Tryz.func55, Tryz.ntmps55
  go_wp2_with fail
  refine HC.out.mono ?_
  rintro e w1 ⟨rfl, hg⟩
  have HG := Lib.hid hg; clear hg HC
  go_wp2_with fail
  go_ret2
  rw [HRR.out]
  exact ⟨rfl, HG.out.after HB.out⟩


set_option maxHeartbeats 8000000 in
set_option maxRecDepth 100000 in
theorem does_6 {w : World} {base : Nat} {L : Lay} {S : Disk} {n m : Nat} (D : Disc w base L S n m) (hn : n ≤ 1048576) (hm : m ≤ 1048576) (x : Act) (hx : ActFits x) (vk vs : Value) (ho : Older w base vk vs x.crash) (hk : x.kind = 6) :
    Calls Tryz.prog 55 #[.pointer (some ⟨L.d, 0, none⟩), actV x vk vs] w (Did L S x w) := by
  have hbl : Below w.heap.size w (w.alloc (.cells #[.int .u8 (x.kind : Int), .string x.a, .string x.b, .int .i64 x.n, .int .i64 x.crash.names, vk, vs] 57)) := (Below.refl _ _).alloc (Nat.le_refl _) _
  have DA : Hid (Disc (w.alloc (.cells #[.int .u8 (x.kind : Int), .string x.a, .string x.b, .int .i64 x.n, .int .i64 x.crash.names, vk, vs] 57)) base L S n m) := Lib.hid (D.below hbl)
  have OL : Hid (Older (w.alloc (.cells #[.int .u8 (x.kind : Int), .string x.a, .string x.b, .int .i64 x.n, .int .i64 x.crash.names, vk, vs] 57)) base vk vs x.crash) := Lib.hid (ho.below (hbl.mono D.lo))
  have HB := Lib.hid hbl; have HN := Lib.hid hn; have HM := Lib.hid hm; have HX := Lib.hid hx
  clear hbl ho hn hm hx D
  unfold actV
  have HR : Hid (does S x = (S.light x.n, [], 0)) := by unfold does; rw [hk]; exact Lib.hid rfl
  have hkq : (x.kind : Int) = 6 := by omega
  rw [hkq] at DA OL HB ⊢
  clear hkq hk
  have HC := Lib.hid (fuse_any _ DA.out.holds x.n)
  obtain ⟨R, hR⟩ : ∃ R, R = does S x := ⟨_, rfl⟩
  unfold Did
  rw [← hR]
  have HRR : Hid (R = (S.light x.n, [], 0)) := by rw [hR]; exact HR
  clear hR HR
  go_enter Tryz.func55, Tryz.ntmps55
  go_wp2_with fail
  refine HC.out.mono ?_
  rintro e w1 ⟨rfl, hg⟩
  have HG := Lib.hid hg; clear hg HC
  go_wp2_with fail
  go_ret2
  rw [HRR.out]
  exact ⟨rfl, HG.out.after HB.out⟩


set_option maxHeartbeats 8000000 in
set_option maxRecDepth 100000 in
theorem does_7 {w : World} {base : Nat} {L : Lay} {S : Disk} {n m : Nat} (D : Disc w base L S n m) (hn : n ≤ 1048576) (hm : m ≤ 1048576) (x : Act) (hx : ActFits x) (vk vs : Value) (ho : Older w base vk vs x.crash) (hk : x.kind = 7) :
    Calls Tryz.prog 55 #[.pointer (some ⟨L.d, 0, none⟩), actV x vk vs] w (Did L S x w) := by
  have hbl : Below w.heap.size w (w.alloc (.cells #[.int .u8 (x.kind : Int), .string x.a, .string x.b, .int .i64 x.n, .int .i64 x.crash.names, vk, vs] 57)) := (Below.refl _ _).alloc (Nat.le_refl _) _
  have DA : Hid (Disc (w.alloc (.cells #[.int .u8 (x.kind : Int), .string x.a, .string x.b, .int .i64 x.n, .int .i64 x.crash.names, vk, vs] 57)) base L S n m) := Lib.hid (D.below hbl)
  have OL : Hid (Older (w.alloc (.cells #[.int .u8 (x.kind : Int), .string x.a, .string x.b, .int .i64 x.n, .int .i64 x.crash.names, vk, vs] 57)) base vk vs x.crash) := Lib.hid (ho.below (hbl.mono D.lo))
  have HB := Lib.hid hbl; have HN := Lib.hid hn; have HM := Lib.hid hm; have HX := Lib.hid hx
  clear hbl ho hn hm hx D
  unfold actV
  have HR : Hid (does S x = (S.crash x.crash, [], 0)) := by unfold does; rw [hk]; exact Lib.hid rfl
  have hkq : (x.kind : Int) = 7 := by omega
  rw [hkq] at DA OL HB ⊢
  clear hkq hk
  have HC := Lib.hid (crash_any _ DA.out.holds (fits_of DA.out.good HN.out HM.out) DA.out.good.cans (sizes_of DA.out.good) vk vs x.crash (OL.out.choices DA.out) (crash_fits DA.out.good HN.out HM.out _).1 (crash_fits DA.out.good HN.out HM.out _).2)
  obtain ⟨R, hR⟩ : ∃ R, R = does S x := ⟨_, rfl⟩
  unfold Did
  rw [← hR]
  have HRR : Hid (R = (S.crash x.crash, [], 0)) := by rw [hR]; exact HR
  clear hR HR
  go_enter Tryz.func55, Tryz.ntmps55
  go_wp2_with fail
  refine HC.out.mono ?_
  rintro e w1 ⟨rfl, hg⟩
  have HG := Lib.hid hg; clear hg HC
  go_wp2_with fail
  go_ret2
  rw [HRR.out]
  exact ⟨rfl, HG.out.after HB.out⟩


set_option maxHeartbeats 8000000 in
set_option maxRecDepth 100000 in
theorem does_8 {w : World} {base : Nat} {L : Lay} {S : Disk} {n m : Nat} (D : Disc w base L S n m) (hn : n ≤ 1048576) (hm : m ≤ 1048576) (x : Act) (hx : ActFits x) (vk vs : Value) (ho : Older w base vk vs x.crash) (hk : x.kind = 8) :
    Calls Tryz.prog 55 #[.pointer (some ⟨L.d, 0, none⟩), actV x vk vs] w (Did L S x w) := by
  have hbl : Below w.heap.size w (w.alloc (.cells #[.int .u8 (x.kind : Int), .string x.a, .string x.b, .int .i64 x.n, .int .i64 x.crash.names, vk, vs] 57)) := (Below.refl _ _).alloc (Nat.le_refl _) _
  have DA : Hid (Disc (w.alloc (.cells #[.int .u8 (x.kind : Int), .string x.a, .string x.b, .int .i64 x.n, .int .i64 x.crash.names, vk, vs] 57)) base L S n m) := Lib.hid (D.below hbl)
  have OL : Hid (Older (w.alloc (.cells #[.int .u8 (x.kind : Int), .string x.a, .string x.b, .int .i64 x.n, .int .i64 x.crash.names, vk, vs] 57)) base vk vs x.crash) := Lib.hid (ho.below (hbl.mono D.lo))
  have HB := Lib.hid hbl; have HN := Lib.hid hn; have HM := Lib.hid hm; have HX := Lib.hid hx
  clear hbl ho hn hm hx D
  unfold actV
  have HR : Hid (does S x = (S.start, [], 0)) := by unfold does; rw [hk]; exact Lib.hid rfl
  have hkq : (x.kind : Int) = 8 := by omega
  rw [hkq] at DA OL HB ⊢
  clear hkq hk
  have HC := Lib.hid (start_any _ DA.out.holds)
  obtain ⟨R, hR⟩ : ∃ R, R = does S x := ⟨_, rfl⟩
  unfold Did
  rw [← hR]
  have HRR : Hid (R = (S.start, [], 0)) := by rw [hR]; exact HR
  clear hR HR
  go_enter Tryz.func55, Tryz.ntmps55
  go_wp2_with fail
  refine HC.out.mono ?_
  rintro e w1 ⟨rfl, hg⟩
  have HG := Lib.hid hg; clear hg HC
  go_wp2_with fail
  go_ret2
  rw [HRR.out]
  exact ⟨rfl, HG.out.after HB.out⟩


set_option maxHeartbeats 8000000 in
set_option maxRecDepth 100000 in
theorem does_9 {w : World} {base : Nat} {L : Lay} {S : Disk} {n m : Nat} (D : Disc w base L S n m) (hn : n ≤ 1048576) (hm : m ≤ 1048576) (x : Act) (hx : ActFits x) (vk vs : Value) (ho : Older w base vk vs x.crash) (hk : x.kind = 9) :
    Calls Tryz.prog 55 #[.pointer (some ⟨L.d, 0, none⟩), actV x vk vs] w (Did L S x w) := by
  have hbl : Below w.heap.size w (w.alloc (.cells #[.int .u8 (x.kind : Int), .string x.a, .string x.b, .int .i64 x.n, .int .i64 x.crash.names, vk, vs] 57)) := (Below.refl _ _).alloc (Nat.le_refl _) _
  have DA : Hid (Disc (w.alloc (.cells #[.int .u8 (x.kind : Int), .string x.a, .string x.b, .int .i64 x.n, .int .i64 x.crash.names, vk, vs] 57)) base L S n m) := Lib.hid (D.below hbl)
  have OL : Hid (Older (w.alloc (.cells #[.int .u8 (x.kind : Int), .string x.a, .string x.b, .int .i64 x.n, .int .i64 x.crash.names, vk, vs] 57)) base vk vs x.crash) := Lib.hid (ho.below (hbl.mono D.lo))
  have HB := Lib.hid hbl; have HN := Lib.hid hn; have HM := Lib.hid hm; have HX := Lib.hid hx
  clear hbl ho hn hm hx D
  unfold actV
  have HR : Hid (does S x = (S, (S.read x.a.data.toList).1, (S.read x.a.data.toList).2)) := by unfold does; rw [hk]; exact Lib.hid rfl
  have hkq : (x.kind : Int) = 9 := by omega
  rw [hkq] at DA OL HB ⊢
  clear hkq hk
  have HC := Lib.hid (read_any _ DA.out.holds x.a (by have := HX.out.a; unfold maxLen; omega))
  obtain ⟨R, hR⟩ : ∃ R, R = does S x := ⟨_, rfl⟩
  unfold Did
  rw [← hR]
  have HRR : Hid (R = (S, (S.read x.a.data.toList).1, (S.read x.a.data.toList).2)) := by rw [hR]; exact HR
  clear hR HR
  go_enter Tryz.func55, Tryz.ntmps55
  go_wp2_with fail
  refine HC.out.mono ?_
  rintro e w1 ⟨rfl, rfl⟩
  unfold readV
  clear HC
  go_wp2_with fail
  go_ret2
  rw [HRR.out]
  exact ⟨rfl, (Goes.stay DA.out.holds).after HB.out⟩


set_option maxHeartbeats 8000000 in
set_option maxRecDepth 100000 in
theorem does_more {w : World} {base : Nat} {L : Lay} {S : Disk} {n m : Nat} (D : Disc w base L S n m) (hn : n ≤ 1048576) (hm : m ≤ 1048576) (x : Act) (hx : ActFits x) (vk vs : Value) (ho : Older w base vk vs x.crash) (hk : 10 ≤ x.kind) :
    Calls Tryz.prog 55 #[.pointer (some ⟨L.d, 0, none⟩), actV x vk vs] w (Did L S x w) := by
  have hbl : Below w.heap.size w (w.alloc (.cells #[.int .u8 (x.kind : Int), .string x.a, .string x.b, .int .i64 x.n, .int .i64 x.crash.names, vk, vs] 57)) := (Below.refl _ _).alloc (Nat.le_refl _) _
  have DA : Hid (Disc (w.alloc (.cells #[.int .u8 (x.kind : Int), .string x.a, .string x.b, .int .i64 x.n, .int .i64 x.crash.names, vk, vs] 57)) base L S n m) := Lib.hid (D.below hbl)
  have OL : Hid (Older (w.alloc (.cells #[.int .u8 (x.kind : Int), .string x.a, .string x.b, .int .i64 x.n, .int .i64 x.crash.names, vk, vs] 57)) base vk vs x.crash) := Lib.hid (ho.below (hbl.mono D.lo))
  have HB := Lib.hid hbl; have HN := Lib.hid hn; have HM := Lib.hid hm; have HX := Lib.hid hx
  clear hbl ho hn hm hx D
  unfold actV
  have HR : Hid (does S x = (S, [], 0)) := by
    unfold does
    split <;> first | omega | exact Lib.hid rfl
  have q0 : ((x.kind : Int) == 0) = false := by rw [beq_eq_false_iff_ne]; omega
  have q1 : ((x.kind : Int) == 1) = false := by rw [beq_eq_false_iff_ne]; omega
  have q2 : ((x.kind : Int) == 2) = false := by rw [beq_eq_false_iff_ne]; omega
  have q3 : ((x.kind : Int) == 3) = false := by rw [beq_eq_false_iff_ne]; omega
  have q4 : ((x.kind : Int) == 4) = false := by rw [beq_eq_false_iff_ne]; omega
  have q5 : ((x.kind : Int) == 5) = false := by rw [beq_eq_false_iff_ne]; omega
  have q6 : ((x.kind : Int) == 6) = false := by rw [beq_eq_false_iff_ne]; omega
  have q7 : ((x.kind : Int) == 7) = false := by rw [beq_eq_false_iff_ne]; omega
  have q8 : ((x.kind : Int) == 8) = false := by rw [beq_eq_false_iff_ne]; omega
  have q9 : ((x.kind : Int) == 9) = false := by rw [beq_eq_false_iff_ne]; omega
  obtain ⟨R, hR⟩ : ∃ R, R = does S x := ⟨_, rfl⟩
  unfold Did
  rw [← hR]
  have HRR : Hid (R = (S, [], 0)) := by rw [hR]; exact HR
  clear hR HR
  generalize hkk : (x.kind : Int) = kk at *
  clear hkk hk
  go_enter Tryz.func55, Tryz.ntmps55
  go_wp2_with fail
  go_ret2
  rw [HRR.out]
  exact ⟨rfl, (Goes.stay DA.out.holds).after HB.out⟩


/-- What Does makes of a disk of the call's own. -/
theorem does_any {w : World} {base : Nat} {L : Lay} {S : Disk} {n m : Nat} (D : Disc w base L S n m) (hn : n ≤ 1048576) (hm : m ≤ 1048576) (x : Act) (hx : ActFits x) (vk vs : Value) (ho : Older w base vk vs x.crash) :
    Calls Tryz.prog 55 #[.pointer (some ⟨L.d, 0, none⟩), actV x vk vs] w (Did L S x w) := by
  rcases Nat.lt_or_ge x.kind 10 with h | h
  · rcases (show x.kind = 0 ∨ x.kind = 1 ∨ x.kind = 2 ∨ x.kind = 3 ∨ x.kind = 4 ∨ x.kind = 5 ∨ x.kind = 6 ∨ x.kind = 7 ∨ x.kind = 8 ∨ x.kind = 9 by omega) with h | h | h | h | h | h | h | h | h | h
    · exact does_0 D hn hm x hx vk vs ho h
    · exact does_1 D hn hm x hx vk vs ho h
    · exact does_2 D hn hm x hx vk vs ho h
    · exact does_3 D hn hm x hx vk vs ho h
    · exact does_4 D hn hm x hx vk vs ho h
    · exact does_5 D hn hm x hx vk vs ho h
    · exact does_6 D hn hm x hx vk vs ho h
    · exact does_7 D hn hm x hx vk vs ho h
    · exact does_8 D hn hm x hx vk vs ho h
    · exact does_9 D hn hm x hx vk vs ho h
  · exact does_more D hn hm x hx vk vs ho h

end Go.Proofs.YtfeconankopjmaaGreatDoor

/- The walk of List over a disk that lies in memory. -/
namespace Go.Proofs.YtfeconankopjmaaGreatDoor
open Go.RowKit Go.Maps
open Dk (Dir Chg Disk File Str)

/-- A cell set to what it holds: nothing turns. -/
theorem set_same {w : World} {g k : Nat} {cur : Array Value} {t : TypeId} {x : Value} (hg : w.heap[g]? = some (.cells cur t (0, 0))) (hx : cur[k]? = some x) (i : Nat) : (w.setCell ⟨g, k, none⟩ x).heap[i]? = w.heap[i]? := by
  have hk : k < cur.size := by
    rcases Nat.lt_or_ge k cur.size with h | h
    · exact h
    · rw [Array.getElem?_eq_none h] at hx; cases hx
  by_cases hi : i = g
  · subst hi
    rw [heap_setCell_same w i k cur t x hg, hg]
    have e : cur.setIfInBounds k x = cur := by
      refine Array.ext_getElem? fun j => ?_
      rw [Array.getElem?_setIfInBounds]
      split
      · rename_i e; subst e; rw [hx]
      · rfl
    rw [e]
  · exact RowKit.Below.heap_setCell w ⟨g, k, none⟩ x i hi

theorem still_set {w : World} {g k : Nat} {cur : Array Value} {t : TypeId} {x : Value} (hg : w.heap[g]? = some (.cells cur t (0, 0))) (hx : cur[k]? = some x) : Still w (w.setCell ⟨g, k, none⟩ x) :=
  ⟨Array.ext_getElem? (set_same hg hx), rfl, rfl, rfl⟩

theorem Still.below {w w' : World} {base : Nat} {v : World} (h : Still w w') (hb : Below base v w) : Below base v w' := ⟨h.os.trans hb.os, h.tape.trans hb.tape, h.output.trans hb.output, by rw [h.heap]; exact hb.size, fun b hlt => by rw [h.heap]; exact hb.block b hlt⟩
/-- A cell of a row. -/
theorem row_at {w : World} {base : Nat} {t : TypeId} {a : Option Addr} {n c k : Nat} {xs : List Value} {v : Value} (h : w.ownsRow base t 1 (.slice a n c) n xs) (hk : xs[k]? = some v) (hn : k < n) : ∃ g, a = some ⟨g, 0, none⟩ ∧ w.cell? ⟨g, k, none⟩ = some v := by
  obtain ⟨hl, ⟨_, h0⟩ | ⟨g, cap2, cur, hv, hbg, hg, hnc, hcm, hcs, htk⟩⟩ := h
  · omega
  · simp only [Value.slice.injEq, true_and] at hv
    obtain ⟨rfl, rfl⟩ := hv
    refine ⟨g, rfl, ?_⟩
    rw [← htk, List.getElem?_take_of_lt (by omega)] at hk
    rw [cell_of hg]
    simpa using hk
set_option maxHeartbeats 8000000 in
set_option maxRecDepth 100000 in
/-- disk.List: the names, rising, in new memory. -/
theorem list_any (w : World) {L : Lay} {S : Disk} (h : Holds w L S) (F : Fits S) (hs : ∀ p ∈ S.now, p.1.length ≤ 281474976710656) :
    Calls Tryz.prog 45 #[.pointer (some ⟨L.d, 0, none⟩)] w fun e w' => ∃ v, e = .returned v ∧ w'.ownsRow w.heap.size 9 1 v S.now.length (S.now.map fun p => strV p.1) ∧ Below w.heap.size w w' := by
  obtain ⟨c0, c1, c2, c3, c4, c5, c6⟩ := h.cells
  have HM := Lib.hid (made_any w h)
  have HR := Lib.hid (rising_any h.now (by have := F.now; omega))
  have HS := Lib.hid hs
  obtain ⟨n, hn⟩ : ∃ n, n = S.now.length := ⟨_, rfl⟩
  have hn2 : (n : Int) ≤ 1099511627776 := by have := F.now; omega
  rw [← hn] at HR ⊢
  have HN := Lib.hid hn
  clear h F hs hn
  go_enter Tryz.func45, Tryz.ntmps45
  go_wp2_with fail
  refine HM.out.mono ?_
  rintro e wz ⟨rfl, rfl⟩
  go_wp2_with fail
  refine HR.out.mono ?_
  rintro e w1 ⟨v, rfl, hrow, hb⟩
  obtain ⟨ao, cap, rfl⟩ : ∃ ao cap, v = .slice ao n cap := by
    rcases hrow.2 with ⟨rfl, h0⟩ | ⟨g, cap, cur, rfl, _⟩
    · exact ⟨none, 0, by rw [h0]⟩
    · exact ⟨_, _, rfl⟩
  have ROW := Lib.hid hrow; have B1 := Lib.hid hb
  clear hrow hb HM HR c0 c1 c2 c3 c4 c5 c6
  go_wp2_with fail
  go_loopw [16] (fun z wr => ∃ k : Nat, k ≤ n ∧ z = .int .i64 (k : Int) ∧ Hid (wr.ownsRow wz.heap.size 9 1 (.slice ao n cap) n (S.now.map fun p => strV p.1) ∧ Below wz.heap.size wz wr)) (fun z _ => n - (intOf z).toNat)
  case atStart => exact ⟨0, by omega, rfl, Lib.hid ⟨ROW.out, B1.out⟩⟩
  case round =>
    obtain ⟨k, hk, rfl, HK⟩ := hrel
    by_cases hlt : k < n
    · have hlt2 : (k : Int) < n := by omega
      obtain ⟨p, hp⟩ : ∃ p, S.now[k]? = some p := ⟨_, List.getElem?_eq_getElem (by have := HN.out; omega)⟩
      obtain ⟨hl, ⟨_, h0⟩ | ⟨g, cap2, cur, hv, hbg, hg, hnc, hcm, hcs, htk⟩⟩ := HK.out.1
      · omega
      simp only [Value.slice.injEq, true_and] at hv
      obtain ⟨rfl, rfl⟩ := hv
      have hx : cur[k]? = some (strV p.1) := by
        have e1 : (cur.toList.take (n * 1))[k]? = some (strV p.1) := by rw [htk, List.getElem?_map, hp]; rfl
        rw [List.getElem?_take_of_lt (by omega)] at e1
        simpa using e1
      have e0 : wr.cell? ⟨g, k, none⟩ = some (.string ⟨p.1.toArray⟩) := by rw [cell_of hg]; exact hx
      have hsz : (⟨p.1.toArray⟩ : ByteArray).size ≤ 281474976710656 := by
        have := HS.out p (List.mem_of_getElem? hp)
        simpa [Lib.size_eq] using this
      obtain ⟨str, hstr⟩ : ∃ str, str = (⟨p.1.toArray⟩ : ByteArray) := ⟨_, rfl⟩
      unfold strV at hx
      rw [← hstr] at e0 hsz hx
      have HC := Lib.hid (clone_any str wr hsz)
      have HG := Lib.hid (And.intro hg (And.intro hx hbg))
      clear hg hx hbg hl hnc hcm hcs htk hp hsz hstr
      go_wp2_with fail
      refine HC.out.mono ?_
      rintro e w2 ⟨rfl, hb2⟩
      have hgl : g < wr.heap.size := by
        rcases Nat.lt_or_ge g wr.heap.size with h | h
        · exact h
        · have := HG.out.1; rw [Array.getElem?_eq_none h] at this; cases this
      have hg2 : w2.heap[g]? = some (.cells cur 9 (0, 0)) := (hb2.block g hgl).trans HG.out.1
      have f0 : w2.frozen? ⟨g, k, none⟩ = false := frozen_of_row w2 g k cur _ hg2
      have d0 : w2.cell? ⟨g, k, none⟩ = some (.string str) := by rw [cell_of hg2]; exact HG.out.2.1
      have HST := Lib.hid (still_set hg2 HG.out.2.1)
      have HR2 : Hid (w2.ownsRow wz.heap.size 9 1 (.slice (some ⟨g, 0, none⟩) n cap) n (S.now.map fun p => strV p.1) ∧ Below wz.heap.size wz w2) := Lib.hid ⟨ownsRow_frame HK.out.1 (fun b hb => hb2.block b (ownsRow_lt HK.out.1 hb)), Below.next HK.out.2 hb2⟩
      clear hb2 hg2 e0 HK HC
      go_wp2_with fail
      go_roundw
      case rel => exact ⟨k + 1, by omega, by go_num, Lib.hid ⟨ownsRow_frame HR2.out.1 (fun b _ => by rw [HST.out.heap]), HST.out.below HR2.out.2⟩⟩
      case measure => simp [intOf]; omega
    · obtain rfl : k = n := by omega
      clear hlt
      go_wp2_with fail
      go_ret
      exact ⟨_, rfl, HK.out.1, HK.out.2⟩

end Go.Proofs.YtfeconankopjmaaGreatDoor

/- The walks of Twin: slices.Clone of bytes, a file's twin. -/
namespace Go.Proofs.YtfeconankopjmaaGreatDoor
open Go.RowKit Go.Maps
open Dk (Dir Chg Disk File Str)


set_option maxHeartbeats 8000000 in
set_option maxRecDepth 100000 in
theorem clone_bytes (w : World) (v : Value) (l : Str) (h : w.ownsRow 0 5 1 v l.length (Lib.byteCells l)) (hl : l.length ≤ 1099511627776) :
    Calls Tryz.prog 118 #[v] w fun e w' => ∃ ao cap, e = .returned (.slice ao l.length cap) ∧ w'.ownsRow w.heap.size 5 1 (.slice ao l.length cap) l.length (Lib.byteCells l) ∧ Below w.heap.size w w' := by
  rcases h.2 with ⟨rfl, h0⟩ | ⟨g, cap, cur, rfl, hb, hg, hnc, hcm, hcs, htk⟩
  · obtain rfl := List.eq_nil_of_length_eq_zero h0
    have he : ∀ W : World, (binOp .eql 128 (.slice none 0 0) (.slice none 0 0)).run Tryz.prog W = .ok (.bool true) W := fun _ => rfl
    go_enter Tryz.func118, Tryz.ntmps118
    go_wp2_with fail
    go_ret
    exact ⟨_, _, rfl, World.ownsRow_nil .., Below.refl _ _⟩
  · have he : ∀ W : World, (binOp .eql 128 (.slice (some ⟨g, 0, none⟩) l.length cap) (.slice none 0 0)).run Tryz.prog W = .ok (.bool false) W := fun _ => rfl
    have hal := (Below.refl w.heap.size w).alloc (Nat.le_refl _) (.cells #[] 5)
    have hgl : g < w.heap.size := by
      rcases Nat.lt_or_ge g w.heap.size with h | h
      · exact h
      · rw [Array.getElem?_eq_none h] at hg; cases hg
    have hg2 : (w.alloc (.cells #[] 5)).heap[g]? = some (.cells cur 5 (0, 0)) := (hal.block g hgl).trans hg
    have hown : (w.alloc (.cells #[] 5)).ownsRow w.heap.size 5 1 (.slice (some ⟨w.heap.size, 0, none⟩) 0 0) 0 [] :=
      ⟨rfl, Or.inr ⟨_, _, _, rfl, Nat.le_refl _, heap_alloc_new w _, Nat.le_refl _, Nat.zero_le _, rfl, rfl⟩⟩
    obtain ⟨i0, hi, hz0, hz1, hz2⟩ := info_parts info_u8
    have hnews : ∀ j u, (Lib.byteCells l)[j]? = some u → (w.alloc (.cells #[] 5)).cell? ((⟨g, 0, none⟩ : Addr).add j) = some u := fun j u hu => by
      refine World.news_of_block hg2 j u ?_
      rw [← htk] at hu
      have hj : j < l.length * 1 := by
        rcases Nat.lt_or_ge j (l.length * 1) with h | h
        · exact h
        · rw [List.getElem?_eq_none (by rw [List.length_take]; omega)] at hu; cases hu
      rw [List.getElem?_take_of_lt hj] at hu
      simpa using hu
    have hone : ∀ u ∈ Lib.byteCells l, u.oneCell' = true := fun u hu => by
      obtain ⟨b, _, rfl⟩ := List.mem_map.1 hu
      rfl
    have hlen : (Lib.byteCells l).length = l.length * 1 := by rw [Lib.byteCells_length]; omega
    have HAL := Lib.hid hal
    clear hal hg2 hg hgl h hb hnc hcm hcs htk
    go_enter Tryz.func118, Tryz.ntmps118
    go_wp2_with (at_builtin; refine wpList_append_own _ rfl _ _ 128 rfl w.heap.size 5 i0 (.int .u8 0) 1 1 Tryz.underlying128 hi hz0 hz1 hz2 rfl (by decide) _ _ _ rfl hown ⟨g, 0, none⟩ l.length cap (Lib.byteCells l) rfl ?qc1 ?qc2 ?qc3 ?qc4 ?qc5 ?qc6 ?_)
    case qc1 => exact hlen
    case qc2 => exact hnews
    case qc3 => exact hone
    case qc4 => unfold maxLen; omega
    case qc5 => omega
    case qc6 => simp
    intro v' w3 hown3 hg3 hnil
    obtain ⟨ao, cap4, rfl⟩ : ∃ ao cap4, v' = .slice ao l.length cap4 := by
      rcases hown3.2 with ⟨rfl, h0⟩ | ⟨g4, cap4, cur4, rfl, _⟩
      · exact ⟨none, 0, by rw [show l.length = 0 by omega]⟩
      · exact ⟨_, _, rfl⟩
    have HE : Hid (w3.ownsRow w.heap.size 5 1 (.slice ao l.length cap4) l.length (Lib.byteCells l) ∧ Below w.heap.size w w3) := by
      exact Lib.hid ⟨hown3, HAL.out.grown hg3 (by simp) (fun j hj => by simp [Value.ownBlock] at hj; omega)⟩
    clear hown3 hg3 hnil hnews hone
    go_wp2_with fail
    go_ret
    exact ⟨_, _, rfl, HE.out.1, HE.out.2⟩

theorem row_base {w : World} {base : Nat} {e : TypeId} {z n : Nat} {v : Value} {xs : List Value} (h : w.ownsRow base e z v n xs) : w.ownsRow 0 e z v n xs := ⟨h.1, h.2.imp id fun ⟨g, cap, cur, hv, _, r⟩ => ⟨g, cap, cur, hv, Nat.zero_le _, r⟩⟩
theorem two_keep {w w' : World} {b : Nat} {x y : Value} (h : w.cell? ⟨b, 0, none⟩ = some x ∧ w.cell? ⟨b, 1, none⟩ = some y ∧ b < w.heap.size) (hb : Below w.heap.size w w') : w'.cell? ⟨b, 0, none⟩ = some x ∧ w'.cell? ⟨b, 1, none⟩ = some y ∧ b < w'.heap.size :=
  ⟨cell_kept h.1 (hb.block b h.2.2), cell_kept h.2.1 (hb.block b h.2.2), Nat.lt_of_lt_of_le h.2.2 hb.size⟩
set_option maxHeartbeats 8000000 in
set_option maxRecDepth 100000 in
/-- A file's twin: a new file with the same bytes. -/
theorem fileTwin_any (w : World) (b : Nat) (v : Value) (f : File) (h : FileAt w b v f) (hl : f.data.length ≤ 1099511627776) :
    Calls Tryz.prog 73 #[.pointer (some ⟨b, 0, none⟩)] w fun e w' => ∃ b' v', e = .returned (.pointer (some ⟨b', 0, none⟩)) ∧ FileAt w' b' v' f ∧ Below w.heap.size w w' ∧ w.heap.size ≤ b' ∧ ∀ k, v'.ownBlock = some k → w.heap.size ≤ k ∧ k < b' := by
  have c0 : w.cell? ⟨b, 0, none⟩ = some v := by rw [cell_of h.box]; rfl
  have c1 : w.cell? ⟨b, 1, none⟩ = some (.int .i64 (f.lasts : Int)) := by rw [cell_of h.box]; rfl
  have HROW := Lib.hid h.row
  have HLE := Lib.hid h.le
  have hbl : b < w.heap.size := World.block_lt_of_cell? _ _ c0
  clear h
  go_enter Tryz.func73, Tryz.ntmps73
  go_wp2_with fail
  go_region_held3 (fun w' => w'.cell? ⟨b, 0, none⟩ = some v ∧ w'.cell? ⟨b, 1, none⟩ = some (.int .i64 (f.lasts : Int)) ∧ b < w'.heap.size)
    (first | exact ⟨c0, c1, hbl⟩ | exact two_keep (by assumption) hb1 | exact two_keep (by assumption) ((Below.refl _ _).alloc (Nat.le_refl _) _))
    (first | (go_at_call 118; refine (clone_bytes w.drew v f.data HROW.out.drew hl).mono ?_; rintro e w1 ⟨ao, cap, rfl, hrow, hb1⟩))
  have hbw : Below w.heap.size w w1 := ⟨hb1.os, hb1.tape, hb1.output, hb1.size, hb1.block⟩
  have hba := (Below.refl w1.heap.size w1).alloc (Nat.le_refl _) (.cells #[.slice ao f.data.length cap, .int .i64 (f.lasts : Int)] 130)
  have HE : Hid (FileAt (w1.alloc (.cells #[.slice ao f.data.length cap, .int .i64 (f.lasts : Int)] 130)) w1.heap.size (.slice ao f.data.length cap) f ∧ Below w.heap.size w (w1.alloc (.cells #[.slice ao f.data.length cap, .int .i64 (f.lasts : Int)] 130)) ∧ w.heap.size ≤ w1.heap.size ∧ ∀ k, (Value.slice ao f.data.length cap).ownBlock = some k → w.heap.size ≤ k ∧ k < w1.heap.size) := by
    refine Lib.hid ⟨⟨heap_alloc_new w1 _, ownsRow_frame (row_base hrow) (fun b hb => hba.block b (ownsRow_lt (row_base hrow) hb)), HLE.out⟩, Below.next hbw hba, hbw.size, fun k hk => ⟨?_, ownsRow_lt (row_base hrow) hk⟩⟩
    exact (World.ownsRow.lt hrow k hk).1
  clear hrow hb1 hbw hba c0 c1 hbl HROW HLE
  rename_i hHeld
  clear hHeld
  generalize w1.alloc (.cells #[.slice ao f.data.length cap, .int .i64 (f.lasts : Int)] 130) = w2 at *
  go_wp2_with fail
  go_ret
  exact ⟨_, _, rfl, HE.out⟩

end Go.Proofs.YtfeconankopjmaaGreatDoor

/- The walks of Same: bytes.Equal, alike. -/
namespace Go.Proofs.YtfeconankopjmaaGreatDoor
open Go.RowKit Go.Maps
open Dk (Dir Chg Disk File Str)

set_option maxHeartbeats 8000000 in
set_option maxRecDepth 100000 in
theorem bytesEqual_any (w : World) (v u : Value) (l : Str) (h : w.ownsRow 0 5 1 v l.length (Lib.byteCells l)) (k : w.ownsRow 0 5 1 u l.length (Lib.byteCells l)) :
    Calls Tryz.prog 119 #[v, u] w fun e w' => e = .returned (.bool true) ∧ w' = w := by
  have c1 : ∀ n, (convert 128 9 v).run Tryz.prog (w.drewN n) = .ok (.string ⟨l.toArray⟩) (w.drewN n) := fun n => file_text (w := w.drewN n) h
  have c2 : ∀ n, (convert 128 9 u).run Tryz.prog (w.drewN n) = .ok (.string ⟨l.toArray⟩) (w.drewN n) := fun n => file_text (w := w.drewN n) k
  have c3 : (convert 128 9 v).run Tryz.prog w = .ok (.string ⟨l.toArray⟩) w := file_text h
  have c4 : (convert 128 9 u).run Tryz.prog w = .ok (.string ⟨l.toArray⟩) w := file_text k
  clear h k
  generalize (⟨l.toArray⟩ : ByteArray) = s at *
  go_enter Tryz.func119, Tryz.ntmps119
  go_wp2_with fail
  go_ret
  exact ⟨rfl, rfl⟩

theorem info_file : ∃ j, Tryz.prog.info? 130 = some j ∧ j.size ≠ 0 := by
  have h : (Tryz.prog.info? 130).map (·.size) = some 2 := by kernel_rfl
  obtain ⟨j, hj, e⟩ := Option.map_eq_some_iff.1 h
  exact ⟨j, hj, by rw [e]; decide⟩
/-- The same file, at two places (or the same one, or none). -/
def FileTwo (w : World) (a b : Value) : Prop := a = b ∧ (a = .pointer none ∨ ∃ p, a = .pointer (some ⟨p, 0, none⟩)) ∨ ∃ p q v u f, p ≠ q ∧ a = .pointer (some ⟨p, 0, none⟩) ∧ b = .pointer (some ⟨q, 0, none⟩) ∧ FileAt w p v f ∧ FileAt w q u f

set_option maxHeartbeats 8000000 in
set_option maxRecDepth 100000 in
theorem alike_any (w : World) (a b : Value) (h : FileTwo w a b) :
    Calls Tryz.prog 76 #[a, b] w fun e w' => e = .returned (.bool true) ∧ Still w w' := by
  rcases h with ⟨rfl, rfl | ⟨p, rfl⟩⟩ | ⟨p, q, v, u, f, hne, rfl, rfl, hp, hq⟩
  · go_enter Tryz.func76, Tryz.ntmps76
    go_wp2_with fail
    go_quiet (fail)
    go_wp2_with fail
    go_ret
    exact ⟨rfl, still_drewN _ _⟩
  · obtain ⟨j, hj, _⟩ := info_file
    have he : ∀ W : World, (binOp .eql 126 (.pointer (some ⟨p, 0, none⟩)) (.pointer (some ⟨p, 0, none⟩))).run Tryz.prog W = .ok (.bool true) W := fun W => run_eql_ptr_same W _ Tryz.underlying126 hj
    go_enter Tryz.func76, Tryz.ntmps76
    go_wp2_with fail
    go_quiet (fail)
    go_wp2_with fail
    go_ret
    exact ⟨rfl, still_drewN _ _⟩
  · obtain ⟨j, hj, hjz⟩ := info_file
    have hadd : (⟨p, 0, none⟩ : Addr) ≠ ⟨q, 0, none⟩ := fun e => hne (by injection e)
    have he0 : (binOp .eql 126 (.pointer (some ⟨p, 0, none⟩)) (.pointer (some ⟨q, 0, none⟩))).run Tryz.prog w = .ok (.bool false) w := run_eql_ptr_other w Tryz.underlying126 hj hjz hadd hp.box hq.box
    have he : ∀ n, (binOp .eql 126 (.pointer (some ⟨p, 0, none⟩)) (.pointer (some ⟨q, 0, none⟩))).run Tryz.prog (w.drewN n) = .ok (.bool false) (w.drewN n) := fun n => run_eql_ptr_other (w.drewN n) Tryz.underlying126 hj hjz hadd hp.box hq.box
    have a0 : w.cell? ⟨p, 0, none⟩ = some v := by rw [cell_of hp.box]; rfl
    have a1 : w.cell? ⟨p, 1, none⟩ = some (.int .i64 (f.lasts : Int)) := by rw [cell_of hp.box]; rfl
    have b0 : w.cell? ⟨q, 0, none⟩ = some u := by rw [cell_of hq.box]; rfl
    have b1 : w.cell? ⟨q, 1, none⟩ = some (.int .i64 (f.lasts : Int)) := by rw [cell_of hq.box]; rfl
    have HP := Lib.hid hp.row; have HQ := Lib.hid hq.row
    have hpq : (p == q) = false := by rw [beq_eq_false_iff_ne]; exact hne
    clear hp hq
    go_enter Tryz.func76, Tryz.ntmps76
    go_wp2_with fail
    go_quiet (first | (go_at_call 119; refine Calls.mono (bytesEqual_any _ v u f.data (by exact HP.out) (by exact HQ.out)) ?_; rintro e wz ⟨rfl, rfl⟩; exact ⟨rfl, _, rfl⟩))
    go_wp2_with fail
    go_ret
    exact ⟨rfl, still_drewN _ _⟩

theorem FileAt.under {w w' : World} {b : Nat} {v : Value} {f : File} (h : FileAt w b v f) (hb : Below w.heap.size w w') : FileAt w' b v f :=
  ⟨(hb.block b (World.block_lt_of_cell? w (a := ⟨b, 1, none⟩) (by rw [cell_of h.box]; rfl))).trans h.box, ownsRow_frame h.row (fun k hk => hb.block k (ownsRow_lt h.row hk)), h.le⟩
theorem FileTwo.under {w w' : World} {a b : Value} (h : FileTwo w a b) (hb : Below w.heap.size w w') : FileTwo w' a b := by
  rcases h with h | ⟨p, q, v, u, f, hne, rfl, rfl, hp, hq⟩
  · exact Or.inl h
  · exact Or.inr ⟨p, q, v, u, f, hne, rfl, rfl, hp.under hb, hq.under hb⟩

set_option maxHeartbeats 8000000 in
set_option maxRecDepth 100000 in
theorem sameChange_any (w : World) (s t : ByteArray) (p q : Value) (h : FileTwo w p q) :
    Calls Tryz.prog 78 #[.agg #[.string s, .string t, p], .agg #[.string s, .string t, q]] w fun e w' => e = .returned (.bool true) ∧ Below w.heap.size w w' := by
  have hb0 := ((Below.refl w.heap.size w).alloc (Nat.le_refl _) (.cells #[.string s, .string t, p] 133)).alloc (by simp) (.cells #[.string s, .string t, q] 133)
  have HF := Lib.hid (h.under hb0)
  have HB := Lib.hid hb0
  clear h hb0
  go_enter Tryz.func78, Tryz.ntmps78
  go_wp2_with fail
  refine (alike_any _ p q HF.out).mono ?_
  rintro e w1 ⟨rfl, hst⟩
  have HS := Lib.hid (hst.below HB.out)
  clear hst HF HB
  go_wp2_with fail
  go_ret
  exact ⟨rfl, HS.out⟩

end Go.Proofs.YtfeconankopjmaaGreatDoor

/- The twin's files, one by one. No function is named. -/
namespace Go.Proofs.YtfeconankopjmaaGreatDoor
open Go.RowKit Go.Maps
open Dk (Dir Chg Disk File Str)

/-- Files that were twinned, from a base on. -/
structure Twins (w : World) (base : Nat) (loc : Nat → Nat) (dat : Nat → Value) (live : Nat → Prop) (S : Disk) : Prop where
  file : ∀ i, live i → FileAt w (loc i) (dat i) (S.file i)
  lo : ∀ i, live i → base ≤ loc i ∧ ∀ b, (dat i).ownBlock = some b → base ≤ b
  apart : ∀ i j, live i → live j → i ≠ j → loc i ≠ loc j ∧ ∀ b, (dat i).ownBlock = some b → (dat j).ownBlock ≠ some b
theorem Twins.frame {w w' : World} {base : Nat} {loc : Nat → Nat} {dat : Nat → Value} {live : Nat → Prop} {S : Disk} (h : Twins w base loc dat live S) (hk : ∀ b, base ≤ b → b < w.heap.size → w'.heap[b]? = w.heap[b]?) : Twins w' base loc dat live S :=
  ⟨fun i hi => (h.file i hi).frame (hk _ (h.lo i hi).1 (heap_lt (h.file i hi).box)) fun g hg => hk g ((h.lo i hi).2 g hg) (ownsRow_lt (h.file i hi).row hg), h.lo, h.apart⟩
theorem Twins.more {w w' : World} {base : Nat} {loc : Nat → Nat} {dat : Nat → Value} {live : Nat → Prop} {S : Disk} (h : Twins w base loc dat live S) (k : Nat) (hk : ¬ live k) {b' : Nat} {v' : Value} (hf : FileAt w' b' v' (S.file k)) (hb : Below w.heap.size w w')
    (hlo : w.heap.size ≤ b') (hv : ∀ g, v'.ownBlock = some g → w.heap.size ≤ g) (hbase : base ≤ w.heap.size) :
    Twins w' base (fun i => if i = k then b' else loc i) (fun i => if i = k then v' else dat i) (fun i => i = k ∨ live i) S := by
  have hfr := h.frame (w' := w') (fun b _ hl => hb.block b hl)
  have aux : ∀ i, (i = k ∨ live i) → i ≠ k → live i := fun i hi hne => hi.resolve_left hne
  refine ⟨fun i hi => ?_, fun i hi => ?_, fun i j hi hj hij => ?_⟩
  · by_cases e : i = k
    · subst e; simp only [if_true]; exact hf
    · simp only [if_neg e]; exact hfr.file i (aux i hi e)
  · by_cases e : i = k
    · simp only [if_pos e]; exact ⟨Nat.le_trans hbase hlo, fun b hb => Nat.le_trans hbase (hv b hb)⟩
    · simp only [if_neg e]; exact h.lo i (aux i hi e)
  · by_cases e : i = k
    · have ej : j ≠ k := fun e2 => hij (e.trans e2.symm)
      have hjl := aux j hj ej
      simp only [if_pos e, if_neg ej]
      refine ⟨fun e2 => ?_, fun b hb1 hb2 => ?_⟩
      · have := heap_lt (h.file j hjl).box; omega
      · have := ownsRow_lt (h.file j hjl).row hb2; have := hv b hb1; omega
    · by_cases ej : j = k
      · have hil := aux i hi e
        simp only [if_neg e, if_pos ej]
        refine ⟨fun e2 => ?_, fun b hb1 hb2 => ?_⟩
        · have := heap_lt (h.file i hil).box; omega
        · have := ownsRow_lt (h.file i hil).row hb1; have := hv b hb2; omega
      · simp only [if_neg e, if_neg ej]
        exact h.apart i j (aux i hi e) (aux j hj ej) hij

theorem Twins.congr {w : World} {base : Nat} {loc : Nat → Nat} {dat : Nat → Value} {live live' : Nat → Prop} {S : Disk} (h : Twins w base loc dat live S) (e : ∀ i, live' i ↔ live i) : Twins w base loc dat live' S :=
  ⟨fun i hi => h.file i ((e i).1 hi), fun i hi => h.lo i ((e i).1 hi), fun i j hi hj hij => h.apart i j ((e i).1 hi) ((e j).1 hj) hij⟩
/-- Two rising directories with the same entries are the same. -/
theorem rising_eq : ∀ {a b : Dir}, a.Pairwise (fun p q => bytesBefore p.1 q.1 = true) → b.Pairwise (fun p q => bytesBefore p.1 q.1 = true) → (∀ p, p ∈ a ↔ p ∈ b) → a = b := by
  have irr : ∀ p q : Str, bytesBefore p q = true → bytesBefore q p = true → False := fun p q h1 h2 => by
    have l1 := bytes_lt _ _ h1
    have l2 := bytes_lt _ _ h2
    exact absurd (List.lt_trans l1 l2) (List.lt_irrefl _)
  have irr2 : ∀ p : Str, bytesBefore p p = true → False := fun p h => irr p p h h
  intro a
  induction a with
  | nil =>
    intro b _ _ hm
    cases b with
    | nil => rfl
    | cons q r => exact absurd ((hm q).2 (List.mem_cons_self ..)) (by simp)
  | cons p r ih =>
    intro b ha hb hm
    cases b with
    | nil => exact absurd ((hm p).1 (List.mem_cons_self ..)) (by simp)
    | cons q s =>
      rw [List.pairwise_cons] at ha hb
      have hpq : p = q := by
        rcases List.mem_cons.1 ((hm p).1 (List.mem_cons_self ..)) with h | h
        · exact h
        · rcases List.mem_cons.1 ((hm q).2 (List.mem_cons_self ..)) with h2 | h2
          · exact h2.symm
          · exact (irr _ _ (hb.1 p h) (ha.1 q h2)).elim
      subst hpq
      have hrs : r = s := ih ha.2 hb.2 fun x => by
        constructor
        · intro hx
          rcases List.mem_cons.1 ((hm x).1 (List.mem_cons_of_mem _ hx)) with h | h
          · subst h; exact (irr2 _ (ha.1 _ hx)).elim
          · exact h
        · intro hx
          rcases List.mem_cons.1 ((hm x).2 (List.mem_cons_of_mem _ hx)) with h | h
          · subst h; exact (irr2 _ (hb.1 _ hx)).elim
          · exact h
      rw [hrs]

/-- A disk to which a file is added that was twinned elsewhere: its number is not live yet. -/
theorem Holds.addFile {w w' : World} {L : Lay} {S : Disk} (h : Holds w L S) (k : Nat) (hk : ¬ L.live k) (hlt : k < S.next) {b' : Nat} {v' : Value} (hf : FileAt w' b' v' (S.file k)) (hb : Below w.heap.size w w')
    (hlo : w.heap.size ≤ b') (hv : ∀ g, v'.ownBlock = some g → w.heap.size ≤ g) :
    Holds w' { L with loc := fun i => if i = k then b' else L.loc i, dat := fun i => if i = k then v' else L.dat i, live := fun i => i = k ∨ L.live i } S := by
  have hT : Twins w 0 L.loc L.dat L.live S := ⟨h.file, fun i _ => ⟨Nat.zero_le _, fun _ _ => Nat.zero_le _⟩, h.apart⟩
  have hT2 := hT.more k hk hf hb hlo hv (Nat.zero_le _)
  have h' := h.below hb
  have hne : ∀ i, L.live i → i ≠ k := fun i hi e => hk (e ▸ hi)
  refine ⟨h'.box, ?_, ?_, h'.two, ?_, hT2.file, hT2.apart, fun p hp => Or.inr (h.inNow p hp), fun p hp => Or.inr (h.inOld p hp), fun c hc i hi => Or.inr (h.inChg c hc i hi), fun i hi => ?_⟩
  · rw [← toD_congr (loc := L.loc) (d := S.now) (fun p hp => (if_neg (hne _ (h.inNow p hp))).symm)]
    exact h'.now
  · rw [← toD_congr (loc := L.loc) (d := S.lasting) (fun p hp => (if_neg (hne _ (h.inOld p hp))).symm)]
    exact h'.old
  · rw [← flat_congr (loc := L.loc) (cs := S.changes) (fun c hc i hi => (if_neg (hne _ (h.inChg c hc i hi))).symm)]
    exact h'.chg
  · rcases hi with rfl | hi
    · exact hlt
    · exact h.lt i hi

end Go.Proofs.YtfeconankopjmaaGreatDoor

/- The walk of slices.EqualFunc over the changes of two disks. -/
namespace Go.Proofs.YtfeconankopjmaaGreatDoor
open Go.RowKit Go.Maps
open Dk (Dir Chg Disk File Str)

theorem FileTwo.forms {w : World} {a b : Value} (h : FileTwo w a b) : ∃ po qo, a = .pointer po ∧ b = .pointer qo := by
  rcases h with ⟨rfl, rfl | ⟨p, rfl⟩⟩ | ⟨p, q, v, u, f, _, rfl, rfl, _⟩ <;> exact ⟨_, _, rfl, rfl⟩
/-- Two slices of changes with the same names, whose files are the same at two places. -/
def ChgsTwo (w : World) (n : Nat) (a b : Value) : Prop :=
  (n = 0 ∧ (∃ x c, a = .slice x 0 c) ∧ ∃ x c, b = .slice x 0 c) ∨ ∃ ga ca gb cb, a = .slice (some ⟨ga, 0, none⟩) n ca ∧ b = .slice (some ⟨gb, 0, none⟩) n cb ∧ ga < w.heap.size ∧ gb < w.heap.size ∧ ∀ i, i < n → ∃ (s t : ByteArray) (p q : Value), FileTwo w p q ∧
    w.cell? ⟨ga, i * 3, none⟩ = some (.string s) ∧ w.cell? ⟨ga, i * 3 + 1, none⟩ = some (.string t) ∧ w.cell? ⟨ga, i * 3 + 2, none⟩ = some p ∧ w.cell? ⟨gb, i * 3, none⟩ = some (.string s) ∧ w.cell? ⟨gb, i * 3 + 1, none⟩ = some (.string t) ∧ w.cell? ⟨gb, i * 3 + 2, none⟩ = some q
theorem ChgsTwo.under {w w' : World} {n : Nat} {a b : Value} (h : ChgsTwo w n a b) (hb : Below w.heap.size w w') : ChgsTwo w' n a b := by
  rcases h with h | ⟨ga, ca, gb, cb, rfl, rfl, hga, hgb, hc⟩
  · exact Or.inl h
  · refine Or.inr ⟨ga, ca, gb, cb, rfl, rfl, Nat.lt_of_lt_of_le hga hb.size, Nat.lt_of_lt_of_le hgb hb.size, fun i hi => ?_⟩
    obtain ⟨s, t, p, q, hf, a0, a1, a2, b0, b1, b2⟩ := hc i hi
    have ka := hb.block ga hga
    have kb := hb.block gb hgb
    exact ⟨s, t, p, q, hf.under hb, cell_kept a0 ka, cell_kept a1 ka, cell_kept a2 ka, cell_kept b0 kb, cell_kept b1 kb, cell_kept b2 kb⟩

set_option maxHeartbeats 8000000 in
set_option maxRecDepth 100000 in
theorem equalChanges_any (w : World) (n : Nat) (a b : Value) (h : ChgsTwo w n a b) (hn : n ≤ 1099511627776) :
    Calls Tryz.prog 77 #[a, b, .func (.func 78) #[] #[]] w fun e w' => e = .returned (.bool true) ∧ Below w.heap.size w w' := by
  obtain ⟨xa, ka, xb, kb, rfl, rfl⟩ : ∃ xa ka xb kb, a = .slice xa n ka ∧ b = .slice xb n kb := by
    rcases h with ⟨rfl, ⟨x, c, rfl⟩, y, d, rfl⟩ | ⟨ga, ca, gb, cb, rfl, rfl, _⟩
    · exact ⟨_, _, _, _, rfl, rfl⟩
    · exact ⟨_, _, _, _, rfl, rfl⟩
  have HT := Lib.hid h
  clear h
  go_enter Tryz.func77, Tryz.ntmps77
  go_wp2_with fail
  go_loopw [17] (fun z wr => ∃ k : Nat, k ≤ n ∧ z = .int .i64 (k : Int) ∧ Hid (Below w.heap.size w wr)) (fun z _ => n - (intOf z).toNat)
  case atStart => exact ⟨0, by omega, rfl, Lib.hid (Below.refl _ _)⟩
  case round =>
    obtain ⟨k, hk, rfl, HK⟩ := hrel
    by_cases hlt : k < n
    · have hlt2 : (k : Int) < n := by omega
      rcases HT.out.under HK.out with ⟨h0, _⟩ | ⟨ga, ca, gb, cb, h1, h2, hga, hgb, hc⟩
      · omega
      simp only [Value.slice.injEq, true_and] at h1 h2
      obtain ⟨rfl, rfl⟩ := h1
      obtain ⟨rfl, rfl⟩ := h2
      obtain ⟨s, t, p, q, hf, a0, a1, a2, b0, b1, b2⟩ := hc k hlt
      obtain ⟨po, qo, rfl, rfl⟩ := hf.forms
      have HC : Hid (∀ W, Below wr.heap.size wr W → Calls Tryz.prog 78 #[.agg #[.string s, .string t, .pointer po], .agg #[.string s, .string t, .pointer qo]] W fun e w' => e = .returned (.bool true) ∧ Below W.heap.size W w') := Lib.hid fun W hb => sameChange_any W s t _ _ (hf.under hb)
      have hal := (Below.refl wr.heap.size wr).alloc (Nat.le_refl _) (.cells #[.string s, .string t, .pointer po] 133)
      have e0 : (wr.alloc (.cells #[.string s, .string t, .pointer po] 133)).cell? ⟨gb, k * 3, none⟩ = some (.string s) := cell_kept b0 (hal.block gb hgb)
      have e1 : (wr.alloc (.cells #[.string s, .string t, .pointer po] 133)).cell? ⟨gb, k * 3 + 1, none⟩ = some (.string t) := cell_kept b1 (hal.block gb hgb)
      have e2 : (wr.alloc (.cells #[.string s, .string t, .pointer po] 133)).cell? ⟨gb, k * 3 + 2, none⟩ = some (.pointer qo) := cell_kept b2 (hal.block gb hgb)
      have HAL := Lib.hid (hal.alloc (by simp) (.cells #[.string s, .string t, .pointer qo] 133))
      clear hf hc hga hgb hal
      go_wp2_with fail
      refine (HC.out _ HAL.out).mono ?_
      rintro e w2 ⟨rfl, hb2⟩
      have HB2 := Lib.hid (Below.next HK.out (Below.next HAL.out hb2))
      clear hb2 HC e0 e1 e2 a0 a1 a2 b0 b1 b2
      go_wp2_with fail
      go_roundw
      case rel => exact ⟨k + 1, by omega, by go_num, HB2⟩
      case measure => simp [intOf]; omega
    · obtain rfl : k = n := by omega
      clear hlt
      go_wp2_with fail
      go_ret
      exact ⟨rfl, HK.out⟩

end Go.Proofs.YtfeconankopjmaaGreatDoor

/- The walks of maps.EqualFunc over two directories, and of Same. -/
namespace Go.Proofs.YtfeconankopjmaaGreatDoor
open Go.RowKit Go.Maps
open Dk (Dir Chg Disk File Str)

/-- An entry of a directory that has come in a round. -/
theorem entry_of {loc : Nat → Nat} {d : Dir} {kl : Lit} {c : Option Addr} {x : Str} {yd : DataW Unit} {yp : List MemPlace} (hkl : kl = .string x) (hat : ∀ zd, (toD loc d).atKey kl zd = yd) (hv : ptrElem (.pointer c) = some (yd, yp)) :
    ∃ i, Dk.look x d = some i ∧ c = some ⟨loc i, 0, none⟩ := by
  subst hkl
  cases hl : Dk.look x d with
  | none =>
    have h1 := hat .nil
    have h2 := hat (.map [])
    rw [toD_at, hl] at h1 h2
    dsimp only at h1 h2
    rw [← h1] at h2
    cases h2
  | some i =>
    have h1 := hat .nil
    rw [toD_at, hl] at h1
    dsimp only at h1
    subst h1
    obtain ⟨m, hm, hm2⟩ := ptrElem_inv hv
    simp only [Value.pointer.injEq] at hm
    have hm3 : m = loc i := by omega
    subst hm3
    exact ⟨i, rfl, hm⟩
theorem grown_below {w w' : World} (h : w.grownBy w' none) : Below w.heap.size w w' := ⟨h.os, h.tape, h.output, h.size, fun k hk => h.block k hk (by simp)⟩

set_option maxHeartbeats 8000000 in
set_option maxRecDepth 100000 in
theorem equalFiles_any (w : World) (b1 b2 : Nat) (m1 m2 : Nat → Nat) (d : Dir) (h1 : w.ownsMap Tryz.prog 9 ptrElem b1 d.length (toD m1 d)) (h2 : w.ownsMap Tryz.prog 9 ptrElem b2 d.length (toD m2 d)) (hf : ∀ p ∈ d, FileTwo w (fileV m1 (some p.2)) (fileV m2 (some p.2))) :
    Calls Tryz.prog 75 #[.map (some b1), .map (some b2), .func (.func 76) #[] #[]] w fun e w' => e = .returned (.bool true) ∧ Below w.heap.size w w' := by
  have l1 := fun ty => h1.len Tryz.underlying86 ty
  have l2 := fun ty => h2.len Tryz.underlying86 ty
  simp only [toD_size] at l1 l2
  have HF := Lib.hid hf
  have H2 := Lib.hid h2
  have hb2 := h2.lt
  clear hf h2
  obtain ⟨r, hr⟩ : ∃ r, r = w.heap.size := ⟨_, rfl⟩
  go_enter Tryz.func75, Tryz.ntmps75
  go_wp2_with (first
    | (at_range; refine wpList_range_own _ rfl _ 86 rfl 9 126 law Tryz.underlying86 ptrElem b1 d.length _ rfl h1 ?_; intro w0 hrg0 hg0 hs0)
    | go_in)
  go_frame
  rw [← hr] at hrg0 ⊢
  have HG0 := Lib.hid hg0; have HRG0 := Lib.hid hrg0; have HR := Lib.hid hr
  clear hg0 hrg0 hs0 l1 l2 h1 hr
  go_loopw [18] (fun _ wr => ∃ (left : Lit → Bool) (cnt : Nat), wr.ranges Tryz.prog 9 ptrElem b1 r d.length (toD m1 d) left cnt ∧ Hid (wr.ownsMap Tryz.prog 9 ptrElem b2 d.length (toD m2 d) ∧ w.grownBy wr none)) (fun _ wr => wr.rangeLeft b1 r)
  case atStart => exact ⟨_, _, HRG0.out, Lib.hid ⟨H2.out.kept HG0.out (by simp), HG0.out⟩⟩
  case round =>
    obtain ⟨left, cnt, hrg, HK⟩ := hrel
    go_wp2_with (first
      | (at_next; refine wpList_next_ranges _ rfl _ rfl 9 law ptrElem encStr Value.pointer (fun key kl hk => by obtain ⟨x, hx, _⟩ := Maps.keyOf_str Tryz.underlying9 hk; exact ⟨x, hx⟩) ptr_inv b1 r d.length _ _ _ rfl hrg ?_ ?_)
      | go_in)
    · intro _ _
      go_wp2_with fail
      go_ret
      exact ⟨rfl, grown_below HK.out.2⟩
    · intro x c kl yd yp w1 cnt1 hkey hlk hv hat hrg1 hlt hg1 hs1 hen
      obtain ⟨x', ex, hkl, hxl⟩ := Maps.keyOf_str Tryz.underlying9 hkey
      obtain rfl : x = x' := encStr_inj ex
      obtain ⟨i, hi, rfl⟩ := entry_of hkl hat hv
      have hgw1 : w.grownBy w1 none := HK.out.2.andThen hg1 (fun j hj => by cases hj; exact Or.inl (Nat.le_of_eq HR.out.symm))
      have h2w1 := HK.out.1.kept hg1 (fun e => by have := Option.some.inj e; have := HR.out; omega)
      obtain ⟨v, ps, hrun, hR⟩ := h2w1.look_ok law Tryz.underlying86 (zero_ptr w1) (zd := .nil) (zp := []) rfl hkey
      rw [hkl, toD_has, hi] at hrun
      rw [hkl, toD_at, hi] at hR
      dsimp only at hR
      obtain ⟨m, rfl, hm⟩ := ptrElem_inv hR
      obtain rfl : m = m2 i := by omega
      have hft := (HF.out (x, i) (Dk.mem_of_look hi)).under (grown_below hgw1)
      have HAL := Lib.hid (alike_any w1 _ _ hft)
      unfold fileV at HAL
      have HX := Lib.hid (And.intro hrg1 (And.intro h2w1 (And.intro hgw1 (And.intro hlt hrg))))
      clear hkey hlk hv hat hlt hg1 hs1 hR hm hi hft hrg1 h2w1 hgw1 hkl hxl ex hrg
      unfold encStr at hen hrun ⊢
      simp only [Option.isSome_some] at hrun
      go_wp2_with fail
      refine HAL.out.mono ?_
      rintro e w2 ⟨rfl, hst⟩
      have hg2 : w1.grownBy w2 none := ⟨hst.os, hst.tape, hst.output, by rw [hst.heap]; exact Nat.le_refl _, fun k _ _ => by rw [hst.heap]⟩
      have HY := Lib.hid (And.intro (HX.out.1.kept hg2 (by simp) (by simp)) (And.intro (HX.out.2.1.kept hg2 (by simp)) (HX.out.2.2.1.andThen hg2 (fun j hj => by cases hj))))
      clear hst hg2 hen hrun HAL
      go_wp2_with fail
      go_roundw
      case rel => exact ⟨_, cnt1, HY.out.1, Lib.hid ⟨HY.out.2.1, HY.out.2.2⟩⟩
      case measure => rw [HY.out.1.left_eq, HX.out.2.2.2.2.left_eq]; exact HX.out.2.2.2.1

theorem fileTwo_of {w : World} {L M : Lay} {S : Disk} (h : Holds w L S) (k : Holds w M S) {i : Nat} (hi : L.live i) (ki : M.live i) : FileTwo w (fileV L.loc (some i)) (fileV M.loc (some i)) := by
  by_cases e : L.loc i = M.loc i
  · refine Or.inl ⟨?_, Or.inr ⟨_, rfl⟩⟩
    show Value.pointer (some ⟨L.loc i, 0, none⟩) = Value.pointer (some ⟨M.loc i, 0, none⟩)
    rw [e]
  · exact Or.inr ⟨_, _, _, _, _, e, rfl, rfl, h.file i hi, k.file i ki⟩
/-- Two disks that hold the same. -/
theorem chgsTwo_of {w : World} {L M : Lay} {S : Disk} (h : Holds w L S) (k : Holds w M S) : ChgsTwo w S.changes.length L.vec M.vec := by
  obtain ⟨xa, ka, ha⟩ := row_shape h.chg
  obtain ⟨xb, kb, hb⟩ := row_shape k.chg
  by_cases h0 : S.changes.length = 0
  · rw [h0] at ha hb
    exact Or.inl ⟨h0, ⟨_, _, ha⟩, _, _, hb⟩
  · obtain ⟨ga, ca, h1, hga, hgl⟩ := h.chg.form (by omega)
    obtain ⟨gb, cb, h2, hgb, hgl2⟩ := k.chg.form (by omega)
    refine Or.inr ⟨ga, ca, gb, cb, h1, h2, hgl, hgl2, fun i hi => ?_⟩
    obtain ⟨c, hc⟩ : ∃ c, S.changes[i]? = some c := ⟨_, List.getElem?_eq_getElem hi⟩
    obtain ⟨a0, a1, a2⟩ := h.chgAt h1 hc
    obtain ⟨b0, b1, b2⟩ := k.chgAt h2 hc
    refine ⟨⟨c.src.toArray⟩, ⟨c.dst.toArray⟩, fileV L.loc c.made, fileV M.loc c.made, ?_, a0, a1, a2, b0, b1, b2⟩
    cases hm : c.made with
    | none => exact Or.inl ⟨rfl, Or.inl rfl⟩
    | some j => exact fileTwo_of h k (h.inChg c (List.mem_of_getElem? hc) j hm) (k.inChg c (List.mem_of_getElem? hc) j hm)

theorem same_keep {w w' : World} {a b : Nat} {x0 x2 x3 x5 x6 y0 y2 y3 y5 y6 : Value} (h : w.cell? ⟨a, 0, none⟩ = some x0 ∧ w.cell? ⟨a, 2, none⟩ = some x2 ∧ w.cell? ⟨a, 3, none⟩ = some x3 ∧ w.cell? ⟨a, 5, none⟩ = some x5 ∧ w.cell? ⟨a, 6, none⟩ = some x6 ∧
      w.cell? ⟨b, 0, none⟩ = some y0 ∧ w.cell? ⟨b, 2, none⟩ = some y2 ∧ w.cell? ⟨b, 3, none⟩ = some y3 ∧ w.cell? ⟨b, 5, none⟩ = some y5 ∧ w.cell? ⟨b, 6, none⟩ = some y6 ∧ a < w.heap.size ∧ b < w.heap.size) (hb : Below w.heap.size w w') :
    w'.cell? ⟨a, 0, none⟩ = some x0 ∧ w'.cell? ⟨a, 2, none⟩ = some x2 ∧ w'.cell? ⟨a, 3, none⟩ = some x3 ∧ w'.cell? ⟨a, 5, none⟩ = some x5 ∧ w'.cell? ⟨a, 6, none⟩ = some x6 ∧
      w'.cell? ⟨b, 0, none⟩ = some y0 ∧ w'.cell? ⟨b, 2, none⟩ = some y2 ∧ w'.cell? ⟨b, 3, none⟩ = some y3 ∧ w'.cell? ⟨b, 5, none⟩ = some y5 ∧ w'.cell? ⟨b, 6, none⟩ = some y6 ∧ a < w'.heap.size ∧ b < w'.heap.size := by
  obtain ⟨h0, h1, h2, h3, h4, h5, h6, h7, h8, h9, ha, hc⟩ := h
  have ka := hb.block a ha
  have kb := hb.block b hc
  exact ⟨cell_kept h0 ka, cell_kept h1 ka, cell_kept h2 ka, cell_kept h3 ka, cell_kept h4 ka, cell_kept h5 kb, cell_kept h6 kb, cell_kept h7 kb, cell_kept h8 kb, cell_kept h9 kb, Nat.lt_of_lt_of_le ha hb.size, Nat.lt_of_lt_of_le hc hb.size⟩

set_option maxHeartbeats 8000000 in
set_option maxRecDepth 100000 in
theorem same_any (w : World) {L M : Lay} {S : Disk} (h : Holds w L S) (k : Holds w M S) (F : Fits S) :
    Calls Tryz.prog 32 #[.pointer (some ⟨L.d, 0, none⟩), .pointer (some ⟨M.d, 0, none⟩)] w fun e w' => e = .returned (.bool true) ∧ Below w.heap.size w w' := by
  have M1 := Lib.hid (made_any w h)
  have M2 := Lib.hid (made_any w k)
  obtain ⟨c0, c1, c2, c3, c4, c5, c6⟩ := h.cells
  obtain ⟨d0, d1, d2, d3, d4, d5, d6⟩ := k.cells
  have hl : L.d < w.heap.size := heap_lt h.box
  have hm : M.d < w.heap.size := heap_lt k.box
  have HE := Lib.hid (fun w' (hb : Below w.heap.size w w') => equalFiles_any w' L.bl M.bl L.loc M.loc S.lasting (h.below hb).old (k.below hb).old (fun p hp => (fileTwo_of h k (h.inOld p hp) (k.inOld p hp)).under hb))
  have HT := Lib.hid (chgsTwo_of h k)
  have HC := Lib.hid (fun w' (hb : Below w.heap.size w w') => equalChanges_any w' S.changes.length L.vec M.vec (HT.out.under hb) F.chg)
  clear HT h k
  go_enter Tryz.func32, Tryz.ntmps32
  go_wp2_with fail
  refine M1.out.mono ?_
  rintro e wz ⟨rfl, rfl⟩
  go_wp2_with fail
  refine M2.out.mono ?_
  rintro e wz ⟨rfl, rfl⟩
  go_wp2_with fail
  go_region_held3 (fun w' => w'.cell? ⟨L.d, 0, none⟩ = some (.int .i64 S.room) ∧ w'.cell? ⟨L.d, 2, none⟩ = some (.int .i64 (S.fuse : Int)) ∧ w'.cell? ⟨L.d, 3, none⟩ = some (.bool S.down) ∧ w'.cell? ⟨L.d, 5, none⟩ = some (.map (some L.bl)) ∧ w'.cell? ⟨L.d, 6, none⟩ = some L.vec ∧
      w'.cell? ⟨M.d, 0, none⟩ = some (.int .i64 S.room) ∧ w'.cell? ⟨M.d, 2, none⟩ = some (.int .i64 (S.fuse : Int)) ∧ w'.cell? ⟨M.d, 3, none⟩ = some (.bool S.down) ∧ w'.cell? ⟨M.d, 5, none⟩ = some (.map (some M.bl)) ∧ w'.cell? ⟨M.d, 6, none⟩ = some M.vec ∧ L.d < w'.heap.size ∧ M.d < w'.heap.size)
    (first | exact ⟨c0, c2, c3, c5, c6, d0, d2, d3, d5, d6, hl, hm⟩ | exact same_keep (by assumption) hb1 | exact same_keep (by assumption) hb2)
    (first
      | (go_at_call 75; refine Calls.mono (HE.out _ (by first | exact ⟨rfl, rfl, rfl, Nat.le_refl _, fun _ _ => rfl⟩)) ?_; rintro e w1 ⟨rfl, hb1⟩)
      | (go_at_call 77; refine Calls.mono (HC.out _ ⟨hb1.os, hb1.tape, hb1.output, hb1.size, hb1.block⟩) ?_; rintro e w2 ⟨rfl, hb2⟩))
  have HB := Lib.hid (Below.next (show Below wz.heap.size wz w1 from ⟨hb1.os, hb1.tape, hb1.output, hb1.size, hb1.block⟩) hb2)
  rename_i hHeld
  clear hHeld hb1 hb2 HE HC M1 M2 c0 c1 c2 c3 c4 c5 c6 d0 d1 d2 d3 d4 d5 d6 hl hm
  go_wp2_with fail
  go_ret
  exact ⟨rfl, HB.out⟩

end Go.Proofs.YtfeconankopjmaaGreatDoor

/- The walk of Twin. -/
namespace Go.Proofs.YtfeconankopjmaaGreatDoor
open Go.RowKit Go.Maps
open Dk (Dir Chg Disk File Str)

/-- The first loop of a twin: so far so many of the files that last are twinned. -/
structure TwinIn (wz w : World) (S : Disk) (bm t r : Nat) (ss : List Str) (loc : Nat → Nat) (dat : Nat → Value) (d : Dir) : Prop where
  map : w.ownsMap Tryz.prog 9 ptrElem bm d.length (toD loc d)
  mem : ∀ p, p ∈ d ↔ p ∈ S.lasting ∧ p.1 ∈ ss
  len : d.length ≤ ss.length
  twins : Twins w (r + 1) loc dat (fun i => ∃ p ∈ d, p.2 = i) S
  box : w.heap[t]? = some (.cells #[.int .i64 S.room, .int .i64 S.used, .int .i64 (S.fuse : Int), .bool S.down, .map none, .map (some bm), .slice none 0 0] 89 (0, 0))
  below : Below wz.heap.size wz w
  lo : r < w.heap.size
theorem put_len {x : Str} {i : Nat} {d : Dir} {ss : List Str} (h : d.length ≤ ss.length) : (Dk.put x i d).length ≤ (ss ++ [x]).length := by
  unfold Dk.put Dk.del
  rw [length_ins, List.length_append, List.length_singleton]
  have := List.length_filter_le (fun p : Str × Nat => !(p.1 == x)) d
  omega
theorem lt_of_heap {w : World} {b : Nat} {o : Obj} (h : w.heap[b]? = some o) : b < w.heap.size := heap_lt h
/-- A round: the range's state turns (w8), a file is twinned (w9), its name is set (w10). -/
theorem TwinIn.step {wz w w8 w9 w10 : World} {S : Disk} {bm t r : Nat} {ss : List Str} {loc : Nat → Nat} {dat : Nat → Value} {d : Dir} {x : Str} {i b' : Nat} {v' : Value} {n : Nat} (h : TwinIn wz w S bm t r ss loc dat d)
    (h8 : w.grownBy w8 (some r)) (hs8 : w8.heap.size = w.heap.size) (hb : Below w8.heap.size w8 w9) (hf : FileAt w9 b' v' (S.file i)) (hlo : w8.heap.size ≤ b') (hv : ∀ g, v'.ownBlock = some g → w8.heap.size ≤ g)
    (hm : w10.ownsMap Tryz.prog 9 ptrElem bm n ((toD loc d).put (.string x) (.lit (.int .i64 b')))) (hg : w9.grownBy w10 (some bm)) (hs10 : w10.heap.size = w9.heap.size)
    (hl : Dk.look x S.lasting = some i) (hx : x ∉ ss) (hu : Dk.Uniq S.lasting) (hri : S.lasting.Pairwise (fun p q => bytesBefore p.1 q.1 = true)) (hbt : bm < t) (htr : t < r) (hwz : wz.heap.size ≤ bm) :
    TwinIn wz w10 S bm t r (ss ++ [x]) (fun j => if j = i then b' else loc j) (fun j => if j = i then v' else dat j) (Dk.put x i d) := by
  have hmem := Dk.mem_of_look hl
  have hnl : ¬ ∃ p ∈ d, p.2 = i := fun ⟨p, hp, e⟩ => by
    have h1 := (h.mem p).1 hp
    have h2 : p.1 = x := hu p h1.1 (x, i) hmem e
    exact hx (h2 ▸ h1.2)
  have hlt8 : r + 1 ≤ w8.heap.size := by have := h.lo; omega
  have T8 : Twins w8 (r + 1) loc dat (fun i => ∃ p ∈ d, p.2 = i) S := h.twins.frame fun b h1 h2 => h8.block b h2 (fun e => by have := Option.some.inj e; omega)
  have T9 := T8.more i hnl hf hb hlo hv hlt8
  have T10 := T9.frame (w' := w10) fun b h1 h2 => hg.block b h2 (fun e => by have := Option.some.inj e; omega)
  have hlw := h.lo
  have mem' : ∀ p, p ∈ Dk.put x i d ↔ p ∈ S.lasting ∧ p.1 ∈ ss ++ [x] := fun p => by
    rw [Dk.mem_put, h.mem, List.mem_append]
    constructor
    · rintro (rfl | ⟨⟨h1, h2⟩, _⟩)
      · exact ⟨hmem, Or.inr (by simp)⟩
      · exact ⟨h1, Or.inl h2⟩
    · rintro ⟨h1, h2 | h2⟩
      · exact Or.inr ⟨⟨h1, h2⟩, fun e => hx (by rw [← e]; exact h2)⟩
      · left
        have e : p.1 = x := by simpa using h2
        obtain ⟨j, hj, e2⟩ := List.getElem_of_mem h1
        have h3 := look_at hri (i := j) (p := p) (by rw [List.getElem?_eq_getElem hj, e2])
        rw [e, hl] at h3
        have h4 : i = p.2 := by simpa using h3
        obtain ⟨p1, p2⟩ := p
        simp only at e h4
        rw [e, h4]
  refine ⟨?_, mem', put_len h.len, ?_, ?_, ?_, ?_⟩
  · have e : (toD loc d).put (.string x) (.lit (.int .i64 b')) = toD (fun j => if j = i then b' else loc j) (Dk.put x i d) := by
      rw [← toD_put, if_pos rfl]
      congr 1
      exact toD_congr fun p hp => (if_neg fun e => hnl ⟨p, hp, e⟩).symm
    rw [e] at hm
    have := ownsMap_sized hm
    rw [toD_size] at this
    exact this
  · refine T10.congr fun j => ?_
    constructor
    · rintro ⟨p, hp, rfl⟩
      rcases Dk.mem_put.1 hp with rfl | ⟨hp, _⟩
      · exact Or.inl rfl
      · exact Or.inr ⟨p, hp, rfl⟩
    · rintro (rfl | ⟨p, hp, rfl⟩)
      · exact ⟨(x, j), Dk.mem_put.2 (Or.inl rfl), rfl⟩
      · exact ⟨p, Dk.mem_put.2 (Or.inr ⟨hp, fun e => hx (by rw [← e]; exact ((h.mem p).1 hp).2)⟩), rfl⟩
  · exact (hg.block t (by have := hb.size; omega) (fun e => by have := Option.some.inj e; omega)).trans ((hb.block t (by omega)).trans ((h8.block t (by omega) (fun e => by have := Option.some.inj e; omega)).trans h.box))
  · have hbz := h.below.size
    refine ⟨hg.os.trans (hb.os.trans (h8.os.trans h.below.os)), hg.tape.trans (hb.tape.trans (h8.tape.trans h.below.tape)), hg.output.trans (hb.output.trans (h8.output.trans h.below.output)), by have := hb.size; omega, fun k hk => ?_⟩
    exact (hg.block k (by have := hb.size; omega) (fun e => by have := Option.some.inj e; omega)).trans ((hb.block k (by omega)).trans ((h8.block k (by omega) (fun e => by have := Option.some.inj e; omega)).trans (h.below.block k hk)))
  · have := hb.size; omega

theorem stands_succ {S : Disk} {k : Nat} {c : Chg} (h : S.changes[k]? = some c) (j : Nat) : Dk.stands S (k + 1) j ↔ Dk.stands S k j ∨ c.made = some j := by
  have hk : k < S.changes.length := by
    rcases Nat.lt_or_ge k S.changes.length with h1 | h1
    · exact h1
    · rw [List.getElem?_eq_none h1] at h; cases h
  have e : S.changes.take (k + 1) = S.changes.take k ++ [c] := by
    rw [List.take_succ_eq_append_getElem hk]
    rw [List.getElem?_eq_getElem hk] at h
    simp only [Option.some.injEq] at h
    rw [h]
  unfold Dk.stands
  rw [e]
  constructor
  · rintro (h1 | ⟨x, hx, h1⟩)
    · exact Or.inl (Or.inl h1)
    · rcases List.mem_append.1 hx with hx | hx
      · exact Or.inl (Or.inr ⟨x, hx, h1⟩)
      · obtain rfl : x = c := by simpa using hx
        exact Or.inr h1
  · rintro ((h1 | ⟨x, hx, h1⟩) | h1)
    · exact Or.inl h1
    · exact Or.inr ⟨x, List.mem_append.2 (Or.inl hx), h1⟩
    · exact Or.inr ⟨c, List.mem_append.2 (Or.inr (by simp)), h1⟩
theorem take_one {cs : List Chg} {k : Nat} {c : Chg} (h : cs[k]? = some c) : cs.take (k + 1) = cs.take k ++ [c] := by
  have hk : k < cs.length := by
    rcases Nat.lt_or_ge k cs.length with h1 | h1
    · exact h1
    · rw [List.getElem?_eq_none h1] at h; cases h
  rw [List.take_succ_eq_append_getElem hk]
  rw [List.getElem?_eq_getElem hk] at h
  simp only [Option.some.injEq] at h
  rw [h]
theorem made_once {cs : List Chg} (h : cs.Pairwise fun a b => ∀ i, a.made = some i → b.made ≠ some i) {k : Nat} {c x : Chg} (hc : cs[k]? = some c) (hx : x ∈ cs.take k) {i : Nat} (h1 : c.made = some i) (h2 : x.made = some i) : False := by
  have hs : (cs.take k ++ [c]).Pairwise fun a b => ∀ i, a.made = some i → b.made ≠ some i := by
    rw [← take_one hc]
    exact h.sublist (List.take_sublist _ _)
  rw [List.pairwise_append] at hs
  exact hs.2.2 x hx c (by simp) i h2 h1
theorem twin_start {wz wr w3 : World} {L : Lay} {S : Disk} {bm t r : Nat} {ss : List Str} {loc : Nat → Nat} {dat : Nat → Value} {n : Nat} (h : Holds wz L S) (tw : TwinIn wz wr S bm t r ss loc dat S.lasting) (hb : Below wr.heap.size wr w3)
    (ho : w3.ownsMap Tryz.prog 9 ptrElem wr.heap.size n (toD loc S.lasting)) (hbt : bm < t) (htr : t < r) (hz : wz.heap.size = bm) :
    Holds (w3.setCell ⟨t, 4, none⟩ (.map (some wr.heap.size))) ⟨t, wr.heap.size, bm, .slice none 0 0, loc, dat, fun i => ∃ p ∈ S.lasting, p.2 = i⟩ { S with now := S.lasting, changes := [] } ∧
      (∀ b, Own ⟨t, wr.heap.size, bm, .slice none 0 0, loc, dat, fun i => ∃ p ∈ S.lasting, p.2 = i⟩ b → bm ≤ b) ∧ Below wz.heap.size wz (w3.setCell ⟨t, 4, none⟩ (.map (some wr.heap.size))) := by
  have hlo := tw.lo
  have kept : ∀ b, b ≠ t → (w3.setCell ⟨t, 4, none⟩ (.map (some wr.heap.size))).heap[b]? = w3.heap[b]? := fun b hb => setCell_kept w3 _ _ hb
  have hx3 := (hb.block t (by omega)).trans tw.box
  have ho' := ownsMap_sized ho
  rw [toD_size] at ho'
  have hm3 : w3.ownsMap Tryz.prog 9 ptrElem bm S.lasting.length (toD loc S.lasting) := ownsMap_frame tw.map (hb.block bm tw.map.lt)
  refine ⟨⟨heap_setCell_same w3 t 4 _ _ _ hx3, ownsMap_frame ho' (kept wr.heap.size (by omega)), ownsMap_frame hm3 (kept bm (by omega)), by show wr.heap.size ≠ bm; omega, World.ownsRow_nil .., fun i hi => ?_, tw.twins.apart, fun p hp => ⟨p, hp, rfl⟩, fun p hp => ⟨p, hp, rfl⟩, fun c hc => by simp at hc, fun i hi => ?_⟩, fun b hb2 => ?_, ?_⟩
  · have h1 := (tw.twins.file i hi).under hb
    have h2 := tw.twins.lo i hi
    exact h1.frame (kept (loc i) (by omega)) fun g hg => kept g (by have := h2.2 g hg; omega)
  · obtain ⟨p, hp, rfl⟩ := hi
    exact h.lt _ (h.inOld p hp)
  · rcases hb2 with h1 | h1 | h1 | h1 | ⟨i, hi, h1 | h1⟩
    · dsimp only at h1; omega
    · dsimp only at h1; omega
    · dsimp only at h1; omega
    · simp [Value.ownBlock] at h1
    · have := (tw.twins.lo i hi).1; dsimp only at h1; omega
    · have := (tw.twins.lo i hi).2 b h1; omega
  · have hbl := Below.next tw.below hb
    exact ⟨hbl.os, hbl.tape, hbl.output, by show _ ≤ (w3.setCell _ _).heap.size; simp only [World.setCell, Array.size_modify]; exact hbl.size, fun k hk => (kept k (by omega)).trans (hbl.block k hk)⟩
theorem one_keep {w w' : World} {t : Nat} {v : Value} {j : Nat} (h : w.cell? ⟨t, j, none⟩ = some v ∧ t < w.heap.size) (hb : Below w.heap.size w w') : w'.cell? ⟨t, j, none⟩ = some v ∧ t < w'.heap.size :=
  ⟨cell_kept h.1 (hb.block t h.2), Nat.lt_of_lt_of_le h.2 hb.size⟩
theorem one_turn {w w' : World} {t b : Nat} {v : Value} {j : Nat} (h : w.cell? ⟨t, j, none⟩ = some v ∧ t < w.heap.size) (hn : t ≠ b) (hb : w.mapTurned w' b) : w'.cell? ⟨t, j, none⟩ = some v ∧ t < w'.heap.size :=
  ⟨cell_kept h.1 (hb.grown.block t h.2 (fun e => hn (Option.some.inj e))), Nat.lt_of_lt_of_le h.2 hb.grown.size⟩

set_option maxHeartbeats 8000000 in
set_option maxRecDepth 100000 in
theorem twin_any (w : World) {L : Lay} {S : Disk} (h : Holds w L S) (F : Fits S) (M : Dk.Made S) (U : Dk.Uniq S.lasting) (hcan : Dk.Cans S.changes S.lasting) (hrun : S.now = Dk.runs S.changes S.lasting) (hsz : ∀ c ∈ S.changes, c.src.length ≤ maxLen ∧ c.dst.length ≤ maxLen) :
    Calls Tryz.prog 31 #[.pointer (some ⟨L.d, 0, none⟩)] w fun e w' => ∃ L' : Lay, e = .returned (.pointer (some ⟨L'.d, 0, none⟩)) ∧ Holds w' L' S ∧ (∀ b, Own L' b → w.heap.size ≤ b) ∧ Below w.heap.size w w' := by
  have M1 := Lib.hid (made_any w h)
  obtain ⟨c0, c1, c2, c3, c4, c5, c6⟩ := h.cells
  have hl : L.d < w.heap.size := heap_lt h.box
  have HH := Lib.hid h; have HF := Lib.hid F; have HM := Lib.hid M; have HU := Lib.hid U; have HC := Lib.hid hcan; have HR := Lib.hid hrun; have HZ := Lib.hid hsz
  clear h F M U hcan hrun hsz
  go_enter Tryz.func31, Tryz.ntmps31
  go_wp2_with fail
  refine M1.out.mono ?_
  rintro e wz ⟨rfl, rfl⟩
  have hmm := @run_makeMap Tryz.prog
  clear c6 M1
  go_wp2_with fail
  go_region
  obtain ⟨w1, hw1⟩ : ∃ w1, w1 = ((wz.alloc (.map #[] 0)).alloc (.cells #[.int .i64 S.room, .int .i64 S.used, .int .i64 (S.fuse : Int), .bool S.down, .map none, .map (some wz.heap.size), .slice none 0 0] 89)).drew := ⟨_, rfl⟩
  have hs1 : w1.heap.size = wz.heap.size + 2 := by rw [hw1]; show ((wz.alloc _).alloc _).heap.size = _; rw [World.size_alloc, World.size_alloc]
  have hb1 : Below wz.heap.size wz w1 := by
    have h0 := ((Below.refl wz.heap.size wz).alloc (Nat.le_refl _) (.map #[] 0)).alloc (by simp) (.cells #[.int .i64 S.room, .int .i64 S.used, .int .i64 (S.fuse : Int), .bool S.down, .map none, .map (some wz.heap.size), .slice none 0 0] 89)
    rw [hw1]
    exact ⟨h0.os, h0.tape, h0.output, h0.size, h0.block⟩
  have hm1 : w1.ownsMap Tryz.prog 9 ptrElem wz.heap.size 0 (.map [] : DataW Unit) := by
    rw [hw1]
    exact ownsMap_frame ((World.ownsMap_made (H := Unit) wz Tryz.prog 9 ptrElem).alloc _) rfl
  have hx1 : w1.heap[wz.heap.size + 1]? = some (.cells #[.int .i64 S.room, .int .i64 S.used, .int .i64 (S.fuse : Int), .bool S.down, .map none, .map (some wz.heap.size), .slice none 0 0] 89 (0, 0)) := by
    rw [hw1]
    have := heap_alloc_new (wz.alloc (.map #[] 0)) (.cells #[.int .i64 S.room, .int .i64 S.used, .int .i64 (S.fuse : Int), .bool S.down, .map none, .map (some wz.heap.size), .slice none 0 0] 89)
    rw [World.size_alloc] at this
    exact this
  have H1 := HH.out.below hb1
  rw [← hw1]
  obtain ⟨bm, hbm⟩ : ∃ bm, bm = wz.heap.size := ⟨_, rfl⟩
  obtain ⟨t, ht⟩ : ∃ t, t = bm + 1 := ⟨_, rfl⟩
  obtain ⟨r, hr⟩ : ∃ r, r = bm + 2 := ⟨_, rfl⟩
  have hr1 : w1.heap.size = r := by omega
  rw [← hbm] at hx1 hm1
  rw [← hbm, ← ht]
  rw [← ht] at hx1
  have HM1 := Lib.hid hm1; have HX1 := Lib.hid hx1; have HB1 := Lib.hid hb1
  have HR1 := Lib.hid (And.intro hbm (And.intro ht (And.intro hr hr1)))
  have k5 := H1.cells.2.2.2.2.2.1
  have hown := H1.old
  have HH1 := Lib.hid H1
  clear hw1 hs1 hb1 hm1 hx1 H1 hbm ht hr c0 c1 c2 c3 c4 c5 hl hmm
  go_wp2_with (first
    | (at_range; refine wpList_range_own _ rfl _ 86 rfl 9 126 law Tryz.underlying86 ptrElem L.bl S.lasting.length _ rfl hown ?_; intro w2 hrg2 hg2 hs2)
    | go_in)
  go_frame
  rw [hr1] at hrg2 ⊢
  have TW0 : Hid (TwinIn wz w2 S bm t r [] (fun _ => 0) (fun _ => .slice none 0 0) [] ∧ r < w2.heap.size) := by
    obtain ⟨e1, e2, e3, e4⟩ := HR1.out
    have hb2 := Below.next HB1.out (grown_below hg2)
    refine Lib.hid ⟨⟨ownsMap_frame HM1.out (hg2.block bm (by omega) (by simp)), fun p => by simp, by simp, ⟨fun i hi => by obtain ⟨p, hp, _⟩ := hi; simp at hp, fun i hi => by obtain ⟨p, hp, _⟩ := hi; simp at hp, fun i _ hi => by obtain ⟨p, hp, _⟩ := hi; simp at hp⟩, (hg2.block t (by omega) (by simp)).trans HX1.out, hb2, by omega⟩, by omega⟩
  have HSZ : Hid (Maps.size (toD L.loc S.lasting) = S.lasting.length) := Lib.hid (toD_size _ _)
  have HRG := Lib.hid hrg2
  have HRI : Hid (S.lasting.Pairwise (fun p q => bytesBefore p.1 q.1 = true)) := Lib.hid (rising HH.out.old)
  have HLL : Hid (S.lasting.length ≤ 1099511627776) := Lib.hid HF.out.old
  clear hrg2 hg2 hs2 hown k5 HM1 HX1 HB1 HH1 hr1
  go_loopw [] (fun wr => ∃ (left : Lit → Bool) (cnt : Nat) (ss : List Str) (loc : Nat → Nat) (dat : Nat → Value) (d : Dir), wr.ranges Tryz.prog 9 ptrElem L.bl r S.lasting.length (toD L.loc S.lasting) left cnt ∧
      Hid (ss.length + cnt ≤ S.lasting.length ∧ Collected (toD L.loc S.lasting) left ss ∧ TwinIn wz wr S bm t r ss loc dat d)) (fun wr => wr.rangeLeft L.bl r)
  case atStart => exact ⟨_, _, [], _, _, [], HRG.out, Lib.hid ⟨by rw [HSZ.out]; simp, Collected.start _, TW0.out.1⟩⟩
  case round =>
    obtain ⟨left, cnt, ss, loc, dat, d, hrg, HK⟩ := hrel
    go_wp2_with (first
      | (at_next; refine wpList_next_ranges _ rfl _ rfl 9 law ptrElem encStr Value.pointer (fun key kl hk => by obtain ⟨x, hx, _⟩ := Maps.keyOf_str Tryz.underlying9 hk; exact ⟨x, hx⟩) ptr_inv L.bl r S.lasting.length _ _ _ rfl hrg ?_ ?_)
      | go_in)
    · intro hc0 hl0
      obtain ⟨e1, e2, e3, e4⟩ := HR1.out
      have hperm := HK.out.2.1.perm hrg.owns law Tryz.underlying9 hl0
      rw [toD_keys] at hperm
      have tw := HK.out.2.2
      have hd : d = S.lasting := rising_eq (rising tw.map) HRI.out fun p => by
        rw [tw.mem]
        exact ⟨fun h => h.1, fun h => ⟨h, hperm.mem_iff.2 (List.mem_map.2 ⟨p, h, rfl⟩)⟩⟩
      subst hd
      have HTI := Lib.hid tw
      have c5 : wr.cell? ⟨t, 5, none⟩ = some (.map (some bm)) := by rw [cell_of tw.box]; rfl
      have ht : t < wr.heap.size := by have := tw.lo; omega
      have c4 : wr.cell? ⟨t, 4, none⟩ = some (.map none) := by rw [cell_of tw.box]; rfl
      have f4 := unfrozen_of tw.box 4
      have HCD := Lib.hid (clone_dir tw.map)
      clear e1 e2 e3 e4 hperm tw hrg HK HRG TW0 hl0 hc0
      go_wp2_with fail
      refine HCD.out.mono ?_
      rintro e w3 ⟨rfl, ho3, hb3⟩
      have c4b := (hb3.cell (p := ⟨t, 4, none⟩) ht).trans c4
      have f4b := (hb3.frozen (p := ⟨t, 4, none⟩) ht).trans f4
      have hst := twin_start HH.out HTI.out hb3 ho3 (by have := HR1.out; omega) (by have := HR1.out; omega) (by have := HR1.out; omega)
      have hne1 : L.d ≠ t := fun e => by have := HH.out.own_lt (Or.inl rfl); have := HR1.out; omega
      have hne2 : t ≠ L.d := fun e => hne1 e.symm
      have HL3 : Hid (Holds w3 L S) := Lib.hid ((HH.out.below HTI.out.below).below hb3)
      have c6 := HL3.out.cells.2.2.2.2.2.2
      obtain ⟨va, vc, hv⟩ := row_shape HH.out.chg
      rw [hv] at c6
      obtain ⟨n, hn⟩ : ∃ n, n = S.changes.length := ⟨_, rfl⟩
      rw [← hn] at c6 hv
      have hni : (n : Int) ≤ 1099511627776 := by have := HF.out.chg; omega
      have HST := Lib.hid hst; have HV := Lib.hid hv; have HN := Lib.hid hn
      clear c4 f4 c5 hst ho3 hb3 HCD hv hn ht
      go_wp2_with fail
      obtain ⟨w4, hw4⟩ : ∃ w4, w4 = w3.setCell ⟨t, 4, none⟩ (.map (some wr.heap.size)) := ⟨_, rfl⟩
      rw [← hw4] at HST ⊢
      clear hw4 c4b f4b c6
      have HOB : Hid (bm = wz.heap.size ∧ t = bm + 1) := Lib.hid ⟨HR1.out.1, HR1.out.2.1⟩
      go_loopw [60] (fun z wk => ∃ (k : Nat) (M : Lay), k ≤ n ∧ z = .int .i64 (k : Int) ∧ Hid (M.d = t ∧ Holds wk M { S with now := Dk.runs (S.changes.take k) S.lasting, changes := S.changes.take k } ∧ (∀ b, Own M b → bm ≤ b) ∧ Below wz.heap.size wz wk ∧ ∀ i, M.live i ↔ Dk.stands S k i)) (fun z _ => n - (intOf z).toNat)
      case atStart => exact ⟨0, _, by omega, rfl, Lib.hid ⟨rfl, HST.out.1, HST.out.2.1, HST.out.2.2, fun i => by simp [Dk.stands]⟩⟩
      case round =>
        obtain ⟨k, M, hk, rfl, HK⟩ := hrel
        by_cases hlt : k < n
        · have hlt2 : (k : Int) < n := by omega
          obtain ⟨c, hc⟩ : ∃ c, S.changes[k]? = some c := ⟨_, List.getElem?_eq_getElem (by have := HN.out; omega)⟩
          have HLk : Holds wr L S := HH.out.below HK.out.2.2.2.1
          obtain ⟨g, cap, hv1, _, hgl⟩ := HLk.chg.form (by have := HN.out; omega)
          obtain ⟨a0, a1, a2⟩ := HLk.chgAt hv1 hc
          rw [HV.out] at hv1
          simp only [Value.slice.injEq] at hv1
          obtain ⟨rfl, hvn, rfl⟩ := hv1
          clear hvn
          have HCC := Lib.hid hc
          generalize hsf : (⟨c.src.toArray⟩ : ByteArray) = sf at a0
          generalize hst : (⟨c.dst.toArray⟩ : ByteArray) = st at a1
          have HSF := Lib.hid hsf; have HST2 := Lib.hid hst
          obtain ⟨p, hp⟩ : ∃ p, p = wr.heap.size := ⟨_, rfl⟩
          have HP := Lib.hid hp
          have HLK := Lib.hid HLk
          clear hsf hst hc HLk hgl hp
          cases hmk : c.made with
          | none =>
            rw [hmk] at a2
            unfold fileV at a2
            have HMK := Lib.hid hmk
            clear hmk
            go_wp2_with fail
            obtain ⟨M2, hM2⟩ : ∃ M2, M2 = M := ⟨_, rfl⟩
            have HB5 := Lib.hid ((Below.refl wr.heap.size wr).alloc (Nat.le_refl _) (.cells #[.string sf, .string st, .pointer none] 133))
            have b0 := box_new wr #[.string sf, .string st, .pointer none] 133 0
            have b1 := box_new wr #[.string sf, .string st, .pointer none] 133 1
            have b2 := box_new wr #[.string sf, .string st, .pointer none] 133 2
            have hp5 : p < (wr.alloc (.cells #[.string sf, .string st, .pointer none] 133)).heap.size := by rw [World.size_alloc]; have := HP.out; omega
            have HT : Hid (M2.d = t ∧ Holds (wr.alloc (.cells #[.string sf, .string st, .pointer none] 133)) M2 { S with now := Dk.runs (S.changes.take k) S.lasting, changes := S.changes.take k } ∧ (∀ b, Own M2 b → bm ≤ b) ∧ Below wz.heap.size wz (wr.alloc (.cells #[.string sf, .string st, .pointer none] 133)) ∧
                (∀ j, M2.live j ↔ Dk.stands S (k + 1) j) ∧ (∀ b, Own M2 b → b ≠ p) ∧ fileV M2.loc c.made = .pointer none) := by
              obtain ⟨h1, h2, h3, h4, h5⟩ := HK.out
              rw [hM2]
              refine Lib.hid ⟨h1, h2.below HB5.out, h3, Below.next h4 HB5.out, fun j => ?_, fun b hb e => ?_, by rw [HMK.out]; rfl⟩
              · rw [h5, stands_succ HCC.out, HMK.out]
                simp
              · have := h2.own_lt hb; have := HP.out; omega
            rw [← HP.out] at b0 b1 b2 ⊢
            clear hM2 HB5 a0 a1 a2
            generalize wr.alloc (.cells #[.string sf, .string st, .pointer none] 133) = w5 at *
            obtain ⟨hMd, hH5, hOw, hB5, hLv, hOp, hFv⟩ := HT.out
            have c4 := hH5.cells.2.2.2.2.1
            rw [hMd] at c4
            have ht5 : t < w5.heap.size := by have := heap_lt hH5.box; rw [hMd] at this; exact this
            have hpn : p ≠ M2.bn := fun e => hOp M2.bn (Or.inr (Or.inl rfl)) e.symm
            have htn : t ≠ M2.bn := fun e => hH5.lone.bn_d (e.symm.trans hMd.symm)
            obtain ⟨hca, hru⟩ := cans_take HC.out HCC.out
            obtain ⟨z1, z2⟩ := HZ.out c (List.mem_of_getElem? HCC.out)
            have hll : (Dk.runs (S.changes.take k) S.lasting).length < maxLen := by
              have h1 := length_runs (S.changes.take k) S.lasting
              have h2 := HF.out.old
              have h3 := HF.out.chg
              rw [List.length_take] at h1
              unfold maxLen
              omega
            have HRU := Lib.hid hru
            have HD := fun w' h' => Lib.hid (do_any M2.loc sf st c.made (Dk.runs (S.changes.take k) S.lasting) M2.bn w' h' (by rw [← HSF.out, ← HST2.out]; exact hca) (by rw [← HSF.out]; exact z1) (by rw [← HST2.out]; exact z2) hll)
            have hct : (⟨sf.data.toList, st.data.toList, c.made⟩ : Chg) = c := by rw [← HSF.out, ← HST2.out]
            rw [hct] at HD
            have hFv2 := hFv
            rw [HMK.out] at hFv2
            simp only [HMK.out, hFv2] at HD
            clear hca hru z1 z2 hll hct hMd hH5 hOw hB5 hLv hOp hFv hFv2
            go_region_held3 (fun w' => w'.cell? ⟨p, 0, none⟩ = some (.string sf) ∧ w'.cell? ⟨p, 1, none⟩ = some (.string st) ∧ w'.cell? ⟨p, 2, none⟩ = some (.pointer none) ∧ w'.cell? ⟨t, 4, none⟩ = some (.map (some M2.bn)) ∧ p < w'.heap.size ∧ t < w'.heap.size)
              (first | exact ⟨b0, b1, b2, c4, hp5, ht5⟩ | exact four_keep (by assumption) hpn htn ht6)
              (first | (go_at_call 74; refine (HD _ HT.out.2.1.now.drew).out.mono ?_; rintro e w6 ⟨rfl, ⟨n6, ho6⟩, ht6⟩))
            have hS := ‹w6.cell? ⟨p, 0, none⟩ = some (.string sf) ∧ _›
            rename_i hx3
            clear hx3 b0 b1 b2 c4 hp5 ht5 HD hpn htn
            obtain ⟨a0, a1, a2, _, hp6, ht6s⟩ := hS
            have HH6 : Hid (Holds w6 M2 { S with now := Dk.runs (S.changes.take (k + 1)) S.lasting, changes := S.changes.take k }) := by
              rw [HRU.out]
              refine Lib.hid (HT.out.2.1.drew.setNow ⟨ht6.os, ht6.tape, ht6.output, ht6.size, fun q hq hne => ht6.block q hq (fun e => hne (by rw [e]))⟩ _ ho6 (fun q hq => ?_))
              rcases Dk.id_run hq with ⟨z, hz, he⟩ | he
              · rw [← he]; exact HT.out.2.1.inNow z hz
              · rw [HT.out.2.2.2.2.1, stands_succ HCC.out]; exact Or.inr he
            have HB6 : Hid (Below wz.heap.size wz w6) := Lib.hid (HT.out.2.2.2.1.trans (Turns.to_below (P := fun q => q = M2.bn) (w := w5) ⟨ht6.os, ht6.tape, ht6.output, ht6.size, ht6.block⟩ HT.out.2.2.2.1.size (fun q hq => by rw [hq]; have := HT.out.2.2.1 M2.bn (Or.inr (Or.inl rfl)); have := HOB.out.1; omega)))
            clear ht6 ho6
            obtain ⟨i0, hi, hz0, hz1, hz2⟩ := info_parts info_chg
            have htk : (S.changes.take k).length = k := by rw [List.length_take]; have := HN.out; omega
            have hraw : w6.ownsRow 0 133 3 M2.vec k ((S.changes.take k).flatMap (chgCells M2.loc)) := by
              have := HH6.out.chg
              dsimp only at this
              rw [htk] at this
              exact this
            have c6 := HH6.out.cells.2.2.2.2.2.2
            have f6 := HH6.out.soft 6
            rw [HT.out.1] at c6 f6
            have hvd : ∀ e : M2.vec.ownBlock = some t, False := fun e => (HH6.out.lone.vec_d t e).1 HT.out.1.symm
            have hone : ∀ u ∈ [Value.string sf, .string st, .pointer none], u.oneCell' = true := by
              intro u hu
              simp only [List.mem_cons, List.not_mem_nil, or_false] at hu
              rcases hu with rfl | rfl | rfl <;> rfl
            have HONE := Lib.hid hone
            have HTK := Lib.hid htk
            have kk : ∀ o, Hid ((w6.alloc o).cell? ⟨t, 6, none⟩ = some M2.vec) := fun o => (((Below.refl _ w6).alloc (Nat.le_refl _) o).cell (p := ⟨t, 6, none⟩) ht6s).trans c6
            have kf : ∀ o, Hid ((w6.alloc o).frozen? ⟨t, 6, none⟩ = false) := fun o => (((Below.refl _ w6).alloc (Nat.le_refl _) o).frozen (p := ⟨t, 6, none⟩) ht6s).trans f6
            clear hone htk
            have hkb : k ≤ 1099511627776 := by omega
            go_wp2_with fail
            go_region_law (first
              | (refine step_append_lies _ (by rfl) _ _ _ (by rfl) 0 133 i0 _ 3 40 Tryz.underlying87 hi hz0 hz1 hz2 (by rfl) (by omega) M2.vec _ _ (by rfl) ((hraw.alloc _).drew)
                  ⟨w6.heap.size, 0, none⟩ 1 1 [.string sf, .string st, .pointer none] (by rfl) (by rfl) (World.news_of_block (cs := #[.string sf, .string st, .pointer none]) (t := 133) (fr := (0, 0)) (heap_alloc_new w6 _)) HONE.out
                  (by omega) (by unfold maxLen; omega) (by omega) (by omega) (w6.heap.size + 1) (by simp) ?_; intro gg cap7 w7 hown7 hg7 hat7 hlt7
                 have k6 : w7.cell? ⟨t, 6, none⟩ = some M2.vec := (hg7.cell_far ⟨t, 6, none⟩ (by simp; omega) (fun e => hvd e.symm)).trans (kk _).out
                 have k7 : w7.frozen? ⟨t, 6, none⟩ = false := (hg7.frozen_far ⟨t, 6, none⟩ (by simp; omega) (fun e => hvd e.symm)).trans (kf _).out))
            all_goals
              have HE : Hid (∃ M3 : Lay, M3.d = t ∧ Holds (w7.setCell ⟨t, 6, none⟩ (.slice (some ⟨gg, 0, none⟩) (k + 1) cap7)) M3 { S with now := Dk.runs (S.changes.take (k + 1)) S.lasting, changes := S.changes.take (k + 1) } ∧ (∀ b, Own M3 b → bm ≤ b) ∧ Below wz.heap.size wz (w7.setCell ⟨t, 6, none⟩ (.slice (some ⟨gg, 0, none⟩) (k + 1) cap7)) ∧ ∀ j, M3.live j ↔ Dk.stands S (k + 1) j) := by
                obtain ⟨hMd, _, hOw, _, hLv, _, hFv⟩ := HT.out
                have etk : S.changes.take (k + 1) = S.changes.take k ++ [c] := take_one HCC.out
                have hh := ((HH6.out.alloc (.cells #[.string sf, .string st, .pointer none] 133)).drew).setVec (w1 := w7) (.slice (some ⟨gg, 0, none⟩) (k + 1) cap7) (S.changes.take (k + 1)) hg7
                  (by
                    rw [etk, List.length_append, HTK.out, List.flatMap_append]
                    have e : [c].flatMap (chgCells M2.loc) = [.string sf, .string st, .pointer none] := by
                      rw [← HSF.out, ← HST2.out, ← hFv]
                      rfl
                    rw [e]
                    exact hown7)
                  (fun b hb => by
                    rcases hat7 with h1 | h1
                    · left; rw [h1, ← hb]; rfl
                    · right
                      have : gg = b := by simpa [Value.ownBlock] using hb
                      simp
                      omega)
                  (fun x hx j hj => by
                    rw [hLv]
                    exact Or.inr ⟨x, hx, hj⟩)
                rw [hMd] at hh
                have hlo6 := HB6.out.size
                have hvb : ∀ b, M2.vec.ownBlock = some b → wz.heap.size ≤ b := fun b hb => by have := hOw b (Or.inr (Or.inr (Or.inr (Or.inl hb)))); have := HOB.out.1; omega
                refine Lib.hid ⟨⟨t, M2.bn, M2.bl, .slice (some ⟨gg, 0, none⟩) (k + 1) cap7, M2.loc, M2.dat, M2.live⟩, rfl, hh, fun b hb => ?_, ?_, hLv⟩
                · rcases hb with h | h | h | h | h
                  · exact hOw b (Or.inl (h.trans hMd.symm))
                  · exact hOw b (Or.inr (Or.inl h))
                  · exact hOw b (Or.inr (Or.inr (Or.inl h)))
                  · dsimp only at h
                    have hgb : gg = b := by simpa [Value.ownBlock] using h
                    rcases hat7 with h1 | h1
                    · exact hOw b (Or.inr (Or.inr (Or.inr (Or.inl (by rw [h1, ← hgb])))))
                    · have := HOB.out.1; omega
                  · exact hOw b (Or.inr (Or.inr (Or.inr (Or.inr h))))
                · have hb7 : Below wz.heap.size wz w7 := (HB6.out.alloc hlo6 _).drew.grown hg7 (by show _ ≤ (w6.alloc _).heap.size; rw [World.size_alloc]; omega) (fun j hj => hvb j hj)
                  exact ⟨hb7.os, hb7.tape, hb7.output, by simp only [World.setCell, Array.size_modify]; exact hb7.size, fun q hq => (setCell_kept w7 _ _ (by have := HOB.out; dsimp only; omega)).trans (hb7.block q hq)⟩
              clear hown7 hg7 hat7 hlt7 k6 k7 a0 a1 a2 c6 f6 hvd kk kf hraw HH6 HB6 HT HONE
              go_wp2_with fail
              obtain ⟨M3, hM3⟩ := HE.out
              go_roundw
              case rel => exact ⟨k + 1, M3, by omega, by go_num, Lib.hid hM3⟩
              case measure => simp [intOf]; omega
          | some i =>
            rw [hmk] at a2
            unfold fileV at a2
            have HMK := Lib.hid hmk
            clear hmk
            have HB5 := Lib.hid ((Below.refl wr.heap.size wr).alloc (Nat.le_refl _) (.cells #[.string sf, .string st, .pointer (some ⟨L.loc i, 0, none⟩)] 133))
            have hli : L.live i := HH.out.inChg c (List.mem_of_getElem? HCC.out) i HMK.out
            have HTW := Lib.hid (fileTwin_any (wr.alloc (.cells #[.string sf, .string st, .pointer (some ⟨L.loc i, 0, none⟩)] 133)) (L.loc i) (L.dat i) (S.file i) ((HLK.out.file i hli).under HB5.out) (HF.out.dat i))
            have HLI := Lib.hid hli
            clear hli
            go_wp2_with fail
            refine HTW.out.mono ?_
            rintro e w4 ⟨b', v', rfl, hf4, hb4, hlo4, hv4⟩
            have hpx : w4.heap[p]? = some (.cells #[.string sf, .string st, .pointer (some ⟨L.loc i, 0, none⟩)] 133 (0, 0)) := by
              rw [HP.out]
              exact (hb4.block _ (by rw [World.size_alloc]; omega)).trans (heap_alloc_new wr _)
            have bx2 : w4.cell? ⟨p, 2, none⟩ = some (.pointer (some ⟨L.loc i, 0, none⟩)) := by rw [cell_of hpx]; rfl
            have f2 := unfrozen_of hpx 2
            rw [← HP.out]
            clear a0 a1 a2
            go_wp2_with fail
            have hpx5 : (w4.setCell ⟨p, 2, none⟩ (.pointer (some ⟨b', 0, none⟩))).heap[p]? = some (.cells #[.string sf, .string st, .pointer (some ⟨b', 0, none⟩)] 133 (0, 0)) := heap_setCell_same w4 p 2 _ _ _ hpx
            have kept : ∀ b, b ≠ p → (w4.setCell ⟨p, 2, none⟩ (.pointer (some ⟨b', 0, none⟩))).heap[b]? = w4.heap[b]? := fun b hb => setCell_kept w4 _ _ hb
            have hsz5 : (w4.setCell ⟨p, 2, none⟩ (.pointer (some ⟨b', 0, none⟩))).heap.size = w4.heap.size := by simp [World.setCell]
            obtain ⟨M2, hM2⟩ : ∃ M2 : Lay, M2 = { M with loc := fun j => if j = i then b' else M.loc j, dat := fun j => if j = i then v' else M.dat j, live := fun j => j = i ∨ M.live j } := ⟨_, rfl⟩
            have HT : Hid (M2.d = t ∧ Holds (w4.setCell ⟨p, 2, none⟩ (.pointer (some ⟨b', 0, none⟩))) M2 { S with now := Dk.runs (S.changes.take k) S.lasting, changes := S.changes.take k } ∧ (∀ b, Own M2 b → bm ≤ b) ∧ Below wz.heap.size wz (w4.setCell ⟨p, 2, none⟩ (.pointer (some ⟨b', 0, none⟩))) ∧
                (∀ j, M2.live j ↔ Dk.stands S (k + 1) j) ∧ (∀ b, Own M2 b → b ≠ p) ∧ fileV M2.loc c.made = .pointer (some ⟨b', 0, none⟩)) := by
              obtain ⟨h1, h2, h3, h4, h5⟩ := HK.out
              have hnl : ¬ M.live i := fun hl => by
                rcases (h5 i).1 hl with ⟨q, hq, e⟩ | ⟨x, hx, e⟩
                · exact HM.out.old c (List.mem_of_getElem? HCC.out) i HMK.out q hq e
                · exact made_once HM.out.one HCC.out hx HMK.out e
              have hb5 := Below.next HB5.out hb4
              have hpo : ∀ b, Own M b → b ≠ p := fun b hb e => by have := h2.own_lt hb; have := HP.out; omega
              have hsa : wr.heap.size + 1 ≤ b' := by rw [World.size_alloc] at hlo4; exact hlo4
              have hga : ∀ g, v'.ownBlock = some g → wr.heap.size + 1 ≤ g := fun g hg => by have := (hv4 g hg).1; rw [World.size_alloc] at this; exact this
              have hadd := h2.addFile (w' := w4) i hnl (HH.out.lt i HLI.out) (b' := b') (v' := v') hf4 hb5 (by omega) (fun g hg => by have := hga g hg; omega)
              rw [← hM2] at hadd
              have hsp : ∀ b, Own M2 b → Own M b ∨ wr.heap.size + 1 ≤ b := fun b hb => by
                rw [hM2] at hb
                rcases hb with h | h | h | h | ⟨j, hj, h⟩
                · exact Or.inl (Or.inl h)
                · exact Or.inl (Or.inr (Or.inl h))
                · exact Or.inl (Or.inr (Or.inr (Or.inl h)))
                · exact Or.inl (Or.inr (Or.inr (Or.inr (Or.inl h))))
                · dsimp only at h hj
                  by_cases e : j = i
                  · simp only [if_pos e] at h
                    rcases h with h | h
                    · right; omega
                    · right; exact hga b h
                  · simp only [if_neg e] at h
                    exact Or.inl (Or.inr (Or.inr (Or.inr (Or.inr ⟨j, hj.resolve_left e, h⟩))))
              have hop : ∀ b, Own M2 b → b ≠ p := fun b hb => by
                rcases hsp b hb with h | h
                · exact hpo b h
                · have := HP.out; omega
              have hwzr := h4.size
              refine Lib.hid ⟨by rw [hM2]; exact h1, hadd.frame (fun b hb => kept b (hop b hb)), fun b hb => ?_, ?_, fun j => ?_, hop, ?_⟩
              · rcases hsp b hb with h | h
                · exact h3 b h
                · have := HOB.out.1; omega
              · have hbl := Below.next h4 hb5
                exact ⟨hbl.os, hbl.tape, hbl.output, by rw [hsz5]; exact hbl.size, fun q hq => (kept q (by have := HP.out; omega)).trans (hbl.block q hq)⟩
              · rw [stands_succ HCC.out, HMK.out, ← h5]
                rw [hM2]
                dsimp only
                constructor
                · rintro (h | h)
                  · right; rw [h]
                  · exact Or.inl h
                · rintro (h | h)
                  · exact Or.inr h
                  · left; simpa using h.symm
              · rw [HMK.out, hM2]
                show Value.pointer (some ⟨if i = i then b' else M.loc i, 0, none⟩) = _
                rw [if_pos rfl]
            have b0 : (w4.setCell ⟨p, 2, none⟩ (.pointer (some ⟨b', 0, none⟩))).cell? ⟨p, 0, none⟩ = some (.string sf) := by rw [cell_of hpx5]; rfl
            have b1 : (w4.setCell ⟨p, 2, none⟩ (.pointer (some ⟨b', 0, none⟩))).cell? ⟨p, 1, none⟩ = some (.string st) := by rw [cell_of hpx5]; rfl
            have b2 : (w4.setCell ⟨p, 2, none⟩ (.pointer (some ⟨b', 0, none⟩))).cell? ⟨p, 2, none⟩ = some (.pointer (some ⟨b', 0, none⟩)) := by rw [cell_of hpx5]; rfl
            have hp5 : p < (w4.setCell ⟨p, 2, none⟩ (.pointer (some ⟨b', 0, none⟩))).heap.size := heap_lt hpx5
            clear hM2 HB5 hf4 hb4 hlo4 hv4 hpx f2 hpx5 kept hsz5 HTW HLI bx2
            generalize w4.setCell ⟨p, 2, none⟩ (.pointer (some ⟨b', 0, none⟩)) = w5 at *
            obtain ⟨hMd, hH5, hOw, hB5, hLv, hOp, hFv⟩ := HT.out
            have c4 := hH5.cells.2.2.2.2.1
            rw [hMd] at c4
            have ht5 : t < w5.heap.size := by have := heap_lt hH5.box; rw [hMd] at this; exact this
            have hpn : p ≠ M2.bn := fun e => hOp M2.bn (Or.inr (Or.inl rfl)) e.symm
            have htn : t ≠ M2.bn := fun e => hH5.lone.bn_d (e.symm.trans hMd.symm)
            obtain ⟨hca, hru⟩ := cans_take HC.out HCC.out
            obtain ⟨z1, z2⟩ := HZ.out c (List.mem_of_getElem? HCC.out)
            have hll : (Dk.runs (S.changes.take k) S.lasting).length < maxLen := by
              have h1 := length_runs (S.changes.take k) S.lasting
              have h2 := HF.out.old
              have h3 := HF.out.chg
              rw [List.length_take] at h1
              unfold maxLen
              omega
            have HRU := Lib.hid hru
            have HD := fun w' h' => Lib.hid (do_any M2.loc sf st c.made (Dk.runs (S.changes.take k) S.lasting) M2.bn w' h' (by rw [← HSF.out, ← HST2.out]; exact hca) (by rw [← HSF.out]; exact z1) (by rw [← HST2.out]; exact z2) hll)
            have hct : (⟨sf.data.toList, st.data.toList, c.made⟩ : Chg) = c := by rw [← HSF.out, ← HST2.out]
            rw [hct] at HD
            have hFv2 := hFv
            rw [HMK.out] at hFv2
            simp only [HMK.out, hFv2] at HD
            clear hca hru z1 z2 hll hct hMd hH5 hOw hB5 hLv hOp hFv hFv2
            go_region_held3 (fun w' => w'.cell? ⟨p, 0, none⟩ = some (.string sf) ∧ w'.cell? ⟨p, 1, none⟩ = some (.string st) ∧ w'.cell? ⟨p, 2, none⟩ = some (.pointer (some ⟨b', 0, none⟩)) ∧ w'.cell? ⟨t, 4, none⟩ = some (.map (some M2.bn)) ∧ p < w'.heap.size ∧ t < w'.heap.size)
              (first | exact ⟨b0, b1, b2, c4, hp5, ht5⟩ | exact four_keep (by assumption) hpn htn ht6)
              (first | (go_at_call 74; refine (HD _ HT.out.2.1.now.drew).out.mono ?_; rintro e w6 ⟨rfl, ⟨n6, ho6⟩, ht6⟩))
            have hS := ‹w6.cell? ⟨p, 0, none⟩ = some (.string sf) ∧ _›
            rename_i hx3
            clear hx3 b0 b1 b2 c4 hp5 ht5 HD hpn htn
            obtain ⟨a0, a1, a2, _, hp6, ht6s⟩ := hS
            have HH6 : Hid (Holds w6 M2 { S with now := Dk.runs (S.changes.take (k + 1)) S.lasting, changes := S.changes.take k }) := by
              rw [HRU.out]
              refine Lib.hid (HT.out.2.1.drew.setNow ⟨ht6.os, ht6.tape, ht6.output, ht6.size, fun q hq hne => ht6.block q hq (fun e => hne (by rw [e]))⟩ _ ho6 (fun q hq => ?_))
              rcases Dk.id_run hq with ⟨z, hz, he⟩ | he
              · rw [← he]; exact HT.out.2.1.inNow z hz
              · rw [HT.out.2.2.2.2.1, stands_succ HCC.out]; exact Or.inr he
            have HB6 : Hid (Below wz.heap.size wz w6) := Lib.hid (HT.out.2.2.2.1.trans (Turns.to_below (P := fun q => q = M2.bn) (w := w5) ⟨ht6.os, ht6.tape, ht6.output, ht6.size, ht6.block⟩ HT.out.2.2.2.1.size (fun q hq => by rw [hq]; have := HT.out.2.2.1 M2.bn (Or.inr (Or.inl rfl)); have := HOB.out.1; omega)))
            clear ht6 ho6
            obtain ⟨i0, hi, hz0, hz1, hz2⟩ := info_parts info_chg
            have htk : (S.changes.take k).length = k := by rw [List.length_take]; have := HN.out; omega
            have hraw : w6.ownsRow 0 133 3 M2.vec k ((S.changes.take k).flatMap (chgCells M2.loc)) := by
              have := HH6.out.chg
              dsimp only at this
              rw [htk] at this
              exact this
            have c6 := HH6.out.cells.2.2.2.2.2.2
            have f6 := HH6.out.soft 6
            rw [HT.out.1] at c6 f6
            have hvd : ∀ e : M2.vec.ownBlock = some t, False := fun e => (HH6.out.lone.vec_d t e).1 HT.out.1.symm
            have hone : ∀ u ∈ [Value.string sf, .string st, .pointer (some ⟨b', 0, none⟩)], u.oneCell' = true := by
              intro u hu
              simp only [List.mem_cons, List.not_mem_nil, or_false] at hu
              rcases hu with rfl | rfl | rfl <;> rfl
            have HONE := Lib.hid hone
            have HTK := Lib.hid htk
            have kk : ∀ o, Hid ((w6.alloc o).cell? ⟨t, 6, none⟩ = some M2.vec) := fun o => (((Below.refl _ w6).alloc (Nat.le_refl _) o).cell (p := ⟨t, 6, none⟩) ht6s).trans c6
            have kf : ∀ o, Hid ((w6.alloc o).frozen? ⟨t, 6, none⟩ = false) := fun o => (((Below.refl _ w6).alloc (Nat.le_refl _) o).frozen (p := ⟨t, 6, none⟩) ht6s).trans f6
            clear hone htk
            have hkb : k ≤ 1099511627776 := by omega
            go_wp2_with fail
            go_region_law (first
              | (refine step_append_lies _ (by rfl) _ _ _ (by rfl) 0 133 i0 _ 3 40 Tryz.underlying87 hi hz0 hz1 hz2 (by rfl) (by omega) M2.vec _ _ (by rfl) ((hraw.alloc _).drew)
                  ⟨w6.heap.size, 0, none⟩ 1 1 [.string sf, .string st, .pointer (some ⟨b', 0, none⟩)] (by rfl) (by rfl) (World.news_of_block (cs := #[.string sf, .string st, .pointer (some ⟨b', 0, none⟩)]) (t := 133) (fr := (0, 0)) (heap_alloc_new w6 _)) HONE.out
                  (by omega) (by unfold maxLen; omega) (by omega) (by omega) (w6.heap.size + 1) (by simp) ?_; intro gg cap7 w7 hown7 hg7 hat7 hlt7
                 have k6 : w7.cell? ⟨t, 6, none⟩ = some M2.vec := (hg7.cell_far ⟨t, 6, none⟩ (by simp; omega) (fun e => hvd e.symm)).trans (kk _).out
                 have k7 : w7.frozen? ⟨t, 6, none⟩ = false := (hg7.frozen_far ⟨t, 6, none⟩ (by simp; omega) (fun e => hvd e.symm)).trans (kf _).out))
            all_goals
              have HE : Hid (∃ M3 : Lay, M3.d = t ∧ Holds (w7.setCell ⟨t, 6, none⟩ (.slice (some ⟨gg, 0, none⟩) (k + 1) cap7)) M3 { S with now := Dk.runs (S.changes.take (k + 1)) S.lasting, changes := S.changes.take (k + 1) } ∧ (∀ b, Own M3 b → bm ≤ b) ∧ Below wz.heap.size wz (w7.setCell ⟨t, 6, none⟩ (.slice (some ⟨gg, 0, none⟩) (k + 1) cap7)) ∧ ∀ j, M3.live j ↔ Dk.stands S (k + 1) j) := by
                obtain ⟨hMd, _, hOw, _, hLv, _, hFv⟩ := HT.out
                have etk : S.changes.take (k + 1) = S.changes.take k ++ [c] := take_one HCC.out
                have hh := ((HH6.out.alloc (.cells #[.string sf, .string st, .pointer (some ⟨b', 0, none⟩)] 133)).drew).setVec (w1 := w7) (.slice (some ⟨gg, 0, none⟩) (k + 1) cap7) (S.changes.take (k + 1)) hg7
                  (by
                    rw [etk, List.length_append, HTK.out, List.flatMap_append]
                    have e : [c].flatMap (chgCells M2.loc) = [.string sf, .string st, .pointer (some ⟨b', 0, none⟩)] := by
                      rw [← HSF.out, ← HST2.out, ← hFv]
                      rfl
                    rw [e]
                    exact hown7)
                  (fun b hb => by
                    rcases hat7 with h1 | h1
                    · left; rw [h1, ← hb]; rfl
                    · right
                      have : gg = b := by simpa [Value.ownBlock] using hb
                      simp
                      omega)
                  (fun x hx j hj => by
                    rw [hLv]
                    exact Or.inr ⟨x, hx, hj⟩)
                rw [hMd] at hh
                have hlo6 := HB6.out.size
                have hvb : ∀ b, M2.vec.ownBlock = some b → wz.heap.size ≤ b := fun b hb => by have := hOw b (Or.inr (Or.inr (Or.inr (Or.inl hb)))); have := HOB.out.1; omega
                refine Lib.hid ⟨⟨t, M2.bn, M2.bl, .slice (some ⟨gg, 0, none⟩) (k + 1) cap7, M2.loc, M2.dat, M2.live⟩, rfl, hh, fun b hb => ?_, ?_, hLv⟩
                · rcases hb with h | h | h | h | h
                  · exact hOw b (Or.inl (h.trans hMd.symm))
                  · exact hOw b (Or.inr (Or.inl h))
                  · exact hOw b (Or.inr (Or.inr (Or.inl h)))
                  · dsimp only at h
                    have hgb : gg = b := by simpa [Value.ownBlock] using h
                    rcases hat7 with h1 | h1
                    · exact hOw b (Or.inr (Or.inr (Or.inr (Or.inl (by rw [h1, ← hgb])))))
                    · have := HOB.out.1; omega
                  · exact hOw b (Or.inr (Or.inr (Or.inr (Or.inr h))))
                · have hb7 : Below wz.heap.size wz w7 := (HB6.out.alloc hlo6 _).drew.grown hg7 (by show _ ≤ (w6.alloc _).heap.size; rw [World.size_alloc]; omega) (fun j hj => hvb j hj)
                  exact ⟨hb7.os, hb7.tape, hb7.output, by simp only [World.setCell, Array.size_modify]; exact hb7.size, fun q hq => (setCell_kept w7 _ _ (by have := HOB.out; dsimp only; omega)).trans (hb7.block q hq)⟩
              clear hown7 hg7 hat7 hlt7 k6 k7 a0 a1 a2 c6 f6 hvd kk kf hraw HH6 HB6 HT HONE
              go_wp2_with fail
              obtain ⟨M3, hM3⟩ := HE.out
              go_roundw
              case rel => exact ⟨k + 1, M3, by omega, by go_num, Lib.hid hM3⟩
              case measure => simp [intOf]; omega
        · obtain rfl : k = n := by omega
          clear hlt
          have HE : Hid (M.d = t ∧ Holds wr M S ∧ (∀ b, Own M b → wz.heap.size ≤ b) ∧ Below wz.heap.size wz wr) := by
            obtain ⟨h1, h2, h3, h4, h5⟩ := HK.out
            rw [HN.out, List.take_length, ← HR.out] at h2
            exact Lib.hid ⟨h1, h2, fun b hb => by have := h3 b hb; have := HOB.out.1; omega, h4⟩
          clear HK
          go_wp2_with fail
          go_ret
          exact ⟨M, by rw [HE.out.1]; rfl, HE.out.2⟩
    · intro x c kl yd yp w8 cnt2 hkey hlk hv hat hrg2 hlt hg8 hs8 hen
      obtain ⟨x', ex, hkl, hxl⟩ := Maps.keyOf_str Tryz.underlying9 hkey
      obtain rfl : x = x' := encStr_inj ex
      subst hkl
      obtain ⟨i, hi, rfl⟩ := entry_of rfl hat hv
      obtain ⟨e1, e2, e3, e4⟩ := HR1.out
      have tw := HK.out.2.2
      have hnx : x ∉ ss := fun h => by have := ((HK.out.2.1.2 x).1 h).2; rw [hlk] at this; cases this
      have hh8 : Holds w8 L S := (HH.out.below tw.below).frame fun b hb => hg8.block b (by have := HH.out.own_lt hb; have := tw.below.size; omega) (fun e => by have := Option.some.inj e; have := HH.out.own_lt hb; omega)
      have hfa := hh8.file i (hh8.inOld (x, i) (Dk.mem_of_look hi))
      have k5 : w8.cell? ⟨t, 5, none⟩ = some (.map (some bm)) := by
        have hx8 := (hg8.block t (by have := tw.lo; omega) (fun e => by have := Option.some.inj e; omega)).trans tw.box
        rw [cell_of hx8]; rfl
      have ht8 : t < w8.heap.size := by have := tw.lo; omega
      have hm8 : w8.ownsMap Tryz.prog 9 ptrElem bm d.length (toD loc d) := ownsMap_frame tw.map (hg8.block bm (by have := tw.lo; omega) (fun e => by have := Option.some.inj e; omega))
      have hdl : d.length < maxLen := by have := tw.len; have := HK.out.1; have := HLL.out; unfold maxLen; omega
      have htb : t ≠ bm := by omega
      have HTW : Hid (∀ w', Below w8.heap.size w8 w' → Calls Tryz.prog 73 #[.pointer (some ⟨L.loc i, 0, none⟩)] w' fun e w'' => ∃ b' v', e = .returned (.pointer (some ⟨b', 0, none⟩)) ∧ FileAt w'' b' v' (S.file i) ∧ Below w'.heap.size w' w'' ∧ w'.heap.size ≤ b' ∧ ∀ k, v'.ownBlock = some k → w'.heap.size ≤ k ∧ k < b') :=
        Lib.hid fun w' hb => fileTwin_any w' (L.loc i) (L.dat i) (S.file i) (hfa.under hb) (HF.out.dat i)
      have HX := Lib.hid (And.intro hi (And.intro hnx (And.intro hg8 (And.intro hs8 (And.intro hlk (And.intro hat (And.intro hrg2 (And.intro hlt hrg))))))))
      have HM8 := Lib.hid hm8; have HKEY := Lib.hid hkey; have HDL := Lib.hid hdl
      clear e1 e2 e3 e4 tw hnx hh8 hfa hm8 hi hlk hv hat hrg2 hlt hg8 hs8 hkey hxl ex hdl hrg
      unfold encStr at hen ⊢
      go_wp2_with fail
      go_region_held3 (fun w' => w'.cell? ⟨t, 5, none⟩ = some (.map (some bm)) ∧ t < w'.heap.size)
        (first | exact ⟨k5, ht8⟩ | exact one_keep (by assumption) hb9 | exact one_turn (by assumption) htb hturn10)
        (first | (go_at_call 73; refine Calls.mono (HTW.out _ (by first | exact Below.refl _ _ | exact ⟨rfl, rfl, rfl, Nat.le_refl _, fun _ _ => rfl⟩)) ?_; rintro e w9 ⟨b', v', rfl, hf9, hb9, hlo9, hv9⟩
                  have hm9 : w9.ownsMap Tryz.prog 9 ptrElem bm d.length (toD loc d) := ownsMap_frame HM8.out (hb9.block bm HM8.out.lt)
                  obtain ⟨w10, hrun10, hown10, hturn10⟩ := hm9.store (t := 86) law Tryz.underlying86 HDL.out HKEY.out (val := .pointer (some ⟨b', 0, none⟩)) (d := .lit (.int .i64 b')) (ps := []) rfl
                  unfold encStr at hrun10))
      obtain ⟨hi, hnx, hg8, hs8, hlk, hat, hrg2, hlt, hrg⟩ := HX.out
      obtain ⟨e1, e2, e3, e4⟩ := HR1.out
      have hb9' : Below w8.heap.size w8 w9 := ⟨hb9.os, hb9.tape, hb9.output, hb9.size, hb9.block⟩
      have hs10 : w10.heap.size = w9.heap.size := by
        obtain ⟨_, _, _, _, _, rfl⟩ := hturn10
        simp [ChangeMaps.setBlock]
      have st := HK.out.2.2.step (b' := b') (v' := v') hg8 hs8 hb9' hf9 hlo9 (fun g hg => (hv9 g hg).1) hown10 hturn10.grown hs10 hi hnx HU.out HRI.out (by omega) (by omega) (by omega)
      have hblw := HH.out.old.lt
      have hrg9 := hrg2.kept (w' := w9) (row := none) ⟨hb9'.os, hb9'.tape, hb9'.output, hb9'.size, fun k hk _ => hb9'.block k hk⟩ (by simp) (by simp)
      have hrg10 := hrg9.kept hturn10.grown (by simp; omega) (by simp; omega)
      have HY := Lib.hid (And.intro hrg10 (And.intro (HK.out.2.1.step hlk hat) (And.intro st (And.intro hlt hrg))))
      rename_i hHeld
      clear hHeld hi hnx hg8 hs8 hlk hat hrg2 hlt hrg e1 e2 e3 e4 hb9' hb9 hf9 hlo9 hv9 hs10 st hblw hrg9 hrg10 hown10 hrun10 hturn10 hm9 HX HTW k5 ht8 htb
      go_wp2_with fail
      go_roundw
      case rel => exact ⟨_, cnt2, ss ++ [x], _, _, _, HY.out.1, Lib.hid ⟨by rw [List.length_append, List.length_singleton]; have := HK.out.1; have := HY.out.2.2.2.1; omega, HY.out.2.1, HY.out.2.2.1⟩⟩
      case measure => rw [HY.out.1.left_eq, HY.out.2.2.2.2.left_eq]; exact HY.out.2.2.2.1

end Go.Proofs.YtfeconankopjmaaGreatDoor
