/- The walks of keepChanges, DirSync over a disk that lies in memory. -/
import Derived.Test.YtefoijamedciiaaDkC
import Derived.Test.YtefoijamedciiaaDkE
namespace Go.Proofs.Ytefoijamedciiaa
open Go.RowKit Go.Maps
open Dk (Dir Chg Disk File Str)

theorem flat3 {α : Type} (f : Chg → List α) (hf : ∀ c, (f c).length = 3) : ∀ (l : List Chg) (k j : Nat) (c : Chg), l[k]? = some c → j < 3 → (l.flatMap f)[3 * k + j]? = (f c)[j]?
  | [], k, j, c, h, _ => by simp at h
  | x :: r, 0, j, c, h, hj => by
    simp only [List.getElem?_cons_zero, Option.some.injEq] at h
    subst h
    rw [List.flatMap_cons, List.getElem?_append_left (by rw [hf]; omega), Nat.mul_zero, Nat.zero_add]
  | x :: r, k + 1, j, c, h, hj => by
    rw [List.getElem?_cons_succ] at h
    rw [List.flatMap_cons, List.getElem?_append_right (by rw [hf]; omega), hf, show 3 * (k + 1) + j - 3 = 3 * k + j by omega]
    exact flat3 f hf r k j c h hj

/-- The cells of the k-th change. -/
theorem Holds.chgAt {w : World} {L : Lay} {S : Disk} (h : Holds w L S) {g cap : Nat} {n : Nat} (hv : L.vec = .slice (some ⟨g, 0, none⟩) n cap) {k : Nat} {c : Chg} (hc : S.changes[k]? = some c) :
    w.cell? ⟨g, k * 3, none⟩ = some (.string ⟨c.src.toArray⟩) ∧ w.cell? ⟨g, k * 3 + 1, none⟩ = some (.string ⟨c.dst.toArray⟩) ∧ w.cell? ⟨g, k * 3 + 2, none⟩ = some (fileV L.loc c.made) := by
  have hr := h.chg
  rw [hv] at hr
  have e : ∀ j, (⟨g, 0, none⟩ : Addr).add j = ⟨g, j, none⟩ := fun j => by unfold Addr.add; split <;> simp_all
  have hcell := hr.cells (g := g) rfl
  have hx : ∀ j, j < 3 → ∀ v, (chgCells L.loc c)[j]? = some v → w.cell? ⟨g, k * 3 + j, none⟩ = some v := fun j hj v hv => by
    rw [Nat.mul_comm k 3]
    have := hcell (3 * k + j) v (by rw [flat3 _ (fun _ => rfl) _ k j c hc hj]; exact hv)
    rw [e] at this
    exact this
  exact ⟨hx 0 (by omega) _ rfl, hx 1 (by omega) _ rfl, hx 2 (by omega) _ rfl⟩

theorem cans_take {cs : List Chg} {d : Dir} (h : Dk.Cans cs d) {k : Nat} {c : Chg} (hc : cs[k]? = some c) : c.Can (Dk.runs (cs.take k) d) ∧ Dk.runs (cs.take (k + 1)) d = c.run (Dk.runs (cs.take k) d) := by
  have hk : k < cs.length := by
    rcases Nat.lt_or_ge k cs.length with h1 | h1
    · exact h1
    · rw [List.getElem?_eq_none h1] at hc; cases hc
  have hk2 : cs[k] = c := by rw [List.getElem?_eq_getElem hk] at hc; simpa using hc
  constructor
  · have e : cs = cs.take k ++ (c :: cs.drop (k + 1)) := by rw [← hk2, List.getElem_cons_drop, List.take_append_drop]
    rw [e] at h
    exact (Dk.cans_append.1 h).2.1
  · rw [List.take_succ_eq_append_getElem hk, Dk.runs_append, hk2]
    rfl
theorem id_runs : ∀ {cs : List Chg} {d : Dir} {y : Str × Nat}, y ∈ Dk.runs cs d → (∃ z ∈ d, z.2 = y.2) ∨ ∃ c ∈ cs, c.made = some y.2
  | [], d, y, h => Or.inl ⟨y, h, rfl⟩
  | c :: r, d, y, h => by
    rcases id_runs (cs := r) h with ⟨z, hz, he⟩ | ⟨c', hc', he⟩
    · rcases Dk.id_run hz with ⟨x, hx, hxe⟩ | hm
      · exact Or.inl ⟨x, hx, hxe.trans he⟩
      · exact Or.inr ⟨c, List.mem_cons_self .., by rw [hm, he]⟩
    · exact Or.inr ⟨c', List.mem_cons_of_mem _ hc', he⟩
theorem length_ins (x : Str × Nat) : ∀ d : Dir, (Dk.ins x d).length = d.length + 1
  | [] => rfl
  | y :: r => by
    unfold Dk.ins
    split
    · rfl
    · simp [length_ins x r]
theorem length_run (c : Chg) (d : Dir) : (c.run d).length ≤ d.length + 1 := by
  have hd : ∀ s, (Dk.del s d).length ≤ d.length := fun s => List.length_filter_le _ _
  have h1 : (if c.src = [] then d else Dk.del c.src d).length ≤ d.length := by
    split
    · exact Nat.le_refl _
    · exact hd _
  unfold Chg.run
  simp only
  split
  · omega
  · split
    · unfold Dk.put
      rw [length_ins]
      have := List.length_filter_le (fun p : Str × Nat => !(p.1 == c.dst)) (if c.src = [] then d else Dk.del c.src d)
      unfold Dk.del at *
      omega
    · omega
theorem length_runs : ∀ (cs : List Chg) (d : Dir), (Dk.runs cs d).length ≤ d.length + cs.length
  | [], d => by simp [Dk.runs]
  | c :: r, d => by
    have h1 := length_runs r (c.run d)
    have h2 := length_run c d
    simp only [Dk.runs, List.length_cons]
    omega

theorem four_keep5 {w' w'' : World} {p d bn : Nat} {x y z v : Value} (h : w'.cell? ⟨p, 0, none⟩ = some x ∧ w'.cell? ⟨p, 1, none⟩ = some y ∧ w'.cell? ⟨p, 2, none⟩ = some z ∧ w'.cell? ⟨d, 5, none⟩ = some v ∧ p < w'.heap.size ∧ d < w'.heap.size)
    (hp : p ≠ bn) (hd : d ≠ bn) (ht : Turns (fun k => k = bn) w' w'') : w''.cell? ⟨p, 0, none⟩ = some x ∧ w''.cell? ⟨p, 1, none⟩ = some y ∧ w''.cell? ⟨p, 2, none⟩ = some z ∧ w''.cell? ⟨d, 5, none⟩ = some v ∧ p < w''.heap.size ∧ d < w''.heap.size := by
  obtain ⟨h0, h1, h2, h3, h4, h5⟩ := h
  exact ⟨cell_kept h0 (ht.block p h4 hp), cell_kept h1 (ht.block p h4 hp), cell_kept h2 (ht.block p h4 hp), cell_kept h3 (ht.block d h5 hd), Nat.lt_of_lt_of_le h4 ht.size, Nat.lt_of_lt_of_le h5 ht.size⟩

set_option maxHeartbeats 4000000 in
set_option maxRecDepth 100000 in
theorem keep_any {L : Lay} {S : Disk} (w : World) (h : Holds w L S) (F : Fits S) (hcan : Dk.Cans S.changes S.lasting) (hsz : ∀ c ∈ S.changes, c.src.length ≤ maxLen ∧ c.dst.length ≤ maxLen) (n : Nat) (hn : n ≤ S.changes.length) :
    Calls Try.prog 29 #[.pointer (some ⟨L.d, 0, none⟩), .int .i64 (n : Int)] w fun e w' => e = .returned (.tuple #[]) ∧ Goes L w (S.keep n) w' := by
  obtain ⟨c0, c1, c2, c3, c4, c5, c6⟩ := h.cells
  have HF := Lib.hid F; clear F
  have HC := Lib.hid hcan; have HZ := Lib.hid hsz
  have hrow := h.chg
  rcases hrow.2 with ⟨hv, h0⟩ | ⟨g, cap, cur, hv, _, hg, hnc, hcm, hcs, htake⟩
  · obtain rfl : n = 0 := by omega
    rw [hv] at c6
    have f6 := h.soft 6
    have HH := Lib.hid h
    clear h hrow hv h0 hcan hsz hn
    go_enter Try.func29, Try.ntmps29
    go_wp2_with fail
    go_loopw [13] (fun z wr => z = .int .i64 0 ∧ wr = w) (fun _ _ => 0)
    case atStart => exact ⟨rfl, rfl⟩
    case round =>
      obtain ⟨rfl, rfl⟩ := hrel
      go_wp2_with fail
      go_end0
      have hh := HH.out.setVec (w1 := wr) (.slice none 0 0) [] ⟨rfl, rfl, rfl, Nat.le_refl _, fun _ _ _ => rfl⟩ (World.ownsRow_nil ..) (fun b hb => by simp [Value.ownBlock] at hb) (fun c hc => by simp at hc)
      refine ⟨rfl, { L with vec := .slice none 0 0 }, rfl, hh, Turns.of_setCell (P := Own L) wr ⟨L.d, 6, none⟩ _ (Or.inl rfl), fun b hb => Or.inl ?_⟩
      rcases hb with h1 | h1 | h1 | h1 | h1
      · exact Or.inl h1
      · exact Or.inr (Or.inl h1)
      · exact Or.inr (Or.inr (Or.inl h1))
      · simp [Value.ownBlock] at h1
      · exact Or.inr (Or.inr (Or.inr (Or.inr h1)))
  · have hni : (n : Int) ≤ (cap : Int) := by omega
    have hn9 : (n : Int) ≤ 1099511627776 := by have := HF.out.chg; omega
    have hcap : (cap : Int) ≤ 9223372036854775807 := by unfold maxLen at hcm; omega
    rw [hv] at c6
    have HV := Lib.hid hv
    have HN := Lib.hid hn
    have HH := Lib.hid h
    clear h hrow hv hn hcm hcs htake hg hnc hcan hsz
    go_enter Try.func29, Try.ntmps29
    go_wp2_with fail
    go_loopw [13] (fun z wr => ∃ k : Nat, k ≤ n ∧ z = .int .i64 (k : Int) ∧ Hid (Holds wr L { S with lasting := Dk.runs (S.changes.take k) S.lasting } ∧ Turns (Own L) w wr)) (fun z _ => n - (intOf z).toNat)
    case atStart => exact ⟨0, by omega, rfl, Lib.hid ⟨HH.out, Turns.refl _ _⟩⟩
    case round =>
      obtain ⟨k, hk, rfl, HK⟩ := hrel
      by_cases hlt : k < n
      · have hlt2 : (k : Int) < n := by omega
        obtain ⟨c, hc⟩ : ∃ c, S.changes[k]? = some c := ⟨_, List.getElem?_eq_getElem (by have := HN.out; omega)⟩
        obtain ⟨a0, a1, a2⟩ := HK.out.1.chgAt HV.out hc
        have c5 := HK.out.1.cells.2.2.2.2.2.1
        have HCC := Lib.hid hc; clear hc
        obtain ⟨po, hpo⟩ : ∃ po, fileV L.loc c.made = .pointer po := by cases c.made <;> exact ⟨_, rfl⟩
        rw [hpo] at a2
        have HPO := Lib.hid hpo; clear hpo
        generalize hsf : (⟨c.src.toArray⟩ : ByteArray) = sf at a0
        generalize hst : (⟨c.dst.toArray⟩ : ByteArray) = st at a1
        have HSF := Lib.hid hsf; have HST := Lib.hid hst; clear hsf hst
        obtain ⟨p, hp⟩ : ∃ p, p = wr.heap.size := ⟨_, rfl⟩
        have hpl : p ≠ L.bl := fun e => by have := HK.out.1.old.lt; omega
        have hdl : L.d ≠ L.bl := fun e => HK.out.1.lone.bl_d e.symm
        have hd5 : L.d < wr.heap.size := heap_lt HK.out.1.box
        have HB2 : ∀ o, Hid (Below wr.heap.size wr (wr.alloc o)) := fun o => Lib.hid ((Below.refl _ _).alloc (Nat.le_refl _) o)
        have c5b : ∀ o, Hid ((wr.alloc o).cell? ⟨L.d, 5, none⟩ = some (.map (some L.bl))) := fun o => Lib.hid (((HB2 o).out.cell (p := ⟨L.d, 5, none⟩) hd5).trans c5)
        have HH5 : ∀ o, Hid (Holds (wr.alloc o) L { S with lasting := Dk.runs (S.changes.take k) S.lasting }) := fun o => Lib.hid (HK.out.1.alloc o)
        obtain ⟨hca, hru⟩ := cans_take HC.out HCC.out
        obtain ⟨z1, z2⟩ := HZ.out c (List.mem_of_getElem? HCC.out)
        have hll : (Dk.runs (S.changes.take k) S.lasting).length < maxLen := by
          have h1 := length_runs (S.changes.take k) S.lasting
          have h2 := HF.out.old
          have h3 := HF.out.chg
          rw [List.length_take] at h1
          unfold maxLen
          omega
        have HRU := Lib.hid hru
        have HD := fun w' h' => Lib.hid (do_any L.loc sf st c.made (Dk.runs (S.changes.take k) S.lasting) L.bl w' h' (by rw [← HSF.out, ← HST.out]; exact hca) (by rw [← HSF.out]; exact z1) (by rw [← HST.out]; exact z2) hll)
        rw [HPO.out] at HD
        have hct : (⟨sf.data.toList, st.data.toList, c.made⟩ : Chg) = c := by rw [← HSF.out, ← HST.out]
        rw [hct] at HD
        have HP := Lib.hid hp
        clear hca hru z1 z2 hll hct c5 hp
        go_wp2_with fail
        have hp := HP.out
        clear a0 a1 a2 HP
        have b0 := box_new wr #[.string sf, .string st, .pointer po] 62 0
        have b1 := box_new wr #[.string sf, .string st, .pointer po] 62 1
        have b2 := box_new wr #[.string sf, .string st, .pointer po] 62 2
        have c5 := (c5b (.cells #[.string sf, .string st, .pointer po] 62)).out
        have hp5 : p < (wr.alloc (.cells #[.string sf, .string st, .pointer po] 62)).heap.size := by rw [World.size_alloc]; omega
        have hd6 : L.d < (wr.alloc (.cells #[.string sf, .string st, .pointer po] 62)).heap.size := by rw [World.size_alloc]; omega
        have HW : Hid (Holds (wr.alloc (.cells #[.string sf, .string st, .pointer po] 62)) L { S with lasting := Dk.runs (S.changes.take k) S.lasting } ∧ Turns (Own L) w (wr.alloc (.cells #[.string sf, .string st, .pointer po] 62))) := Lib.hid ⟨(HH5 _).out, HK.out.2.alloc _⟩
        rw [← hp] at b0 b1 b2 ⊢
        generalize wr.alloc (.cells #[.string sf, .string st, .pointer po] 62) = w5 at *
        clear c5b HB2 HH5 hd5 HK hp
        go_region_held3 (fun w' => w'.cell? ⟨p, 0, none⟩ = some (.string sf) ∧ w'.cell? ⟨p, 1, none⟩ = some (.string st) ∧ w'.cell? ⟨p, 2, none⟩ = some (.pointer po) ∧ w'.cell? ⟨L.d, 5, none⟩ = some (.map (some L.bl)) ∧ p < w'.heap.size ∧ L.d < w'.heap.size)
          (first | exact ⟨b0, b1, b2, c5, hp5, hd6⟩ | exact four_keep5 (by assumption) hpl hdl ht6)
          (first | (go_at_call 32; refine (HD _ HW.out.1.old.drew).out.mono ?_; rintro e w6 ⟨rfl, ⟨n6, ho6⟩, ht6⟩))
        have HR6 : Hid (Holds w6 L { S with lasting := Dk.runs (S.changes.take (k + 1)) S.lasting } ∧ Turns (Own L) w w6) := by
          rw [HRU.out]
          refine Lib.hid ⟨HW.out.1.drew.setOld ⟨ht6.os, ht6.tape, ht6.output, ht6.size, fun q hq hne => ht6.block q hq (fun e => hne (by rw [e]))⟩ _ ho6 (fun q hq => ?_), HW.out.2.drew.trans ht6 (fun x hx => Or.inl (by rw [hx]; exact Or.inr (Or.inr (Or.inl rfl))))⟩
          rcases Dk.id_run hq with ⟨z, hz, he⟩ | he
          · rw [← he]; exact HW.out.1.inOld z hz
          · exact HW.out.1.inChg c (List.mem_of_getElem? HCC.out) _ he
        clear ht6 ho6 HW HD
        go_wp2_with fail
        go_roundw
        case rel => exact ⟨k + 1, by omega, by go_num, HR6⟩
        case measure => simp [intOf]; omega
      · obtain rfl : k = n := by omega
        have e6 := HK.out.1.cells.2.2.2.2.2.2
        have f6 := HK.out.1.soft 6
        clear hlt
        go_wp2_with fail
        go_end0
        have hh := HK.out.1.setVec (w1 := wr) (.slice none 0 0) [] ⟨rfl, rfl, rfl, Nat.le_refl _, fun _ _ _ => rfl⟩ (World.ownsRow_nil ..) (fun b hb => by simp [Value.ownBlock] at hb) (fun c hc => by simp at hc)
        refine ⟨rfl, { L with vec := .slice none 0 0 }, rfl, hh, HK.out.2.trans (Turns.of_setCell (P := fun q => q = L.d) wr ⟨L.d, 6, none⟩ _ rfl) (fun x hx => Or.inl (Or.inl hx)), fun b hb => Or.inl ?_⟩
        rcases hb with h1 | h1 | h1 | h1 | h1
        · exact Or.inl h1
        · exact Or.inr (Or.inl h1)
        · exact Or.inr (Or.inr (Or.inl h1))
        · simp [Value.ownBlock] at h1
        · exact Or.inr (Or.inr (Or.inr (Or.inr h1)))

set_option maxHeartbeats 2000000 in
set_option maxRecDepth 100000 in
theorem dirSync_any {L : Lay} {S : Disk} (w : World) (h : Holds w L S) (F : Fits S) (hcan : Dk.Cans S.changes S.lasting) (hsz : ∀ c ∈ S.changes, c.src.length ≤ maxLen ∧ c.dst.length ≤ maxLen) :
    Calls Try.prog 13 #[.pointer (some ⟨L.d, 0, none⟩)] w fun e w' => e = .returned (errV S.dirSync.1) ∧ Goes L w S.dirSync.2 w' := by
  have HBA := Lib.hid (barred_any w h)
  have HB := Lib.hid (burns_any w h F.fuse)
  have HF := Lib.hid F; clear F
  have HC := Lib.hid hcan; have HZ := Lib.hid hsz; clear hcan hsz
  have HH := Lib.hid h; clear h
  obtain ⟨R, hR⟩ : ∃ R, R = S.dirSync := ⟨_, rfl⟩
  rw [← hR]
  unfold Disk.dirSync at hR
  have HR := Lib.hid hR; clear hR
  go_enter Try.func13, Try.ntmps13
  go_wp2_with fail
  refine HBA.out.mono ?_
  rintro e w1 ⟨rfl, rfl⟩
  clear HBA
  cases hd : S.down with
  | true =>
    have HE : Hid (R = (7, S)) := by have := HR.out; rw [hd] at this; exact Lib.hid this
    have HV : Hid (barV S = .int .i64 7) := by unfold barV; rw [hd]; exact Lib.hid rfl
    rw [HV.out]
    clear HR HV HB
    go_wp2_with fail
    go_ret
    rw [HE.out]
    exact ⟨rfl, Goes.stay HH.out⟩
  | false =>
    have HV : Hid (barV S = .int .i64 0) := by unfold barV; rw [hd]; exact Lib.hid rfl
    rw [HV.out]
    clear HV
    go_wp2_with fail
    refine HB.out.mono ?_
    rintro e w2 ⟨rfl, hh2, ht2, hz2⟩
    have HH2 := Lib.hid hh2; have HT2 := Lib.hid ht2.box
    clear hh2 ht2 hz2 HB
    cases hb : S.burnt with
    | true =>
      have HE : Hid (R = (7, S.burn)) := by have := HR.out; rw [hd, hb] at this; exact Lib.hid this
      clear HR
      go_wp2_with fail
      go_ret
      rw [HE.out]
      exact ⟨rfl, Goes.same HH2.out HT2.out⟩
    | false =>
      have HE : Hid (R = (0, S.burn.keep S.changes.length)) := by have := HR.out; rw [hd, hb] at this; exact Lib.hid this
      clear HR
      obtain ⟨a, cap, hsh⟩ := row_shape HH2.out.chg
      have c6 := HH2.out.cells.2.2.2.2.2.2
      rw [hsh, (burn_now S).2.2.1] at c6
      obtain ⟨b1, b2, b3, b4, b5, b6, b7⟩ := burn_now S
      have hfu : S.burn.fuse ≤ S.fuse := by unfold Disk.burn; split <;> simp
      have HKE := Lib.hid (keep_any w2 HH2.out ⟨Nat.le_trans hfu HF.out.fuse, by rw [b1]; exact HF.out.now, by rw [b2]; exact HF.out.old, by rw [b3]; exact HF.out.chg, by rw [b7]; exact HF.out.room0, by rw [b7]; exact HF.out.room, by rw [b6]; exact HF.out.least, by rw [b6]; exact HF.out.most, by rw [b4]; exact HF.out.dat⟩
        (by rw [b3, b2]; exact HC.out) (by rw [b3]; exact HZ.out) S.changes.length (by rw [b3]; exact Nat.le_refl _))
      clear b1 b2 b3 b4 b5 b6 b7 hfu hsh
      go_wp2_with fail
      refine HKE.out.mono ?_
      rintro e w3 ⟨rfl, L', hld, hh, ht, ho⟩
      have HG : Hid (Goes L w1 (S.burn.keep S.changes.length) w3) := Lib.hid ⟨L', hld, hh, HT2.out.trans ht (fun _ hx => Or.inl hx), fun b hb => (ho b hb).imp id (fun h => Nat.le_trans HT2.out.size h)⟩
      clear hld hh ht ho HKE
      go_wp2_with fail
      go_ret
      rw [HE.out]
      exact ⟨rfl, HG.out⟩

end Go.Proofs.Ytefoijamedciiaa
