/- Texts on the program's own functions, several in one: WlRd, WlLoop, WlOpen. -/
import Derived.Test.YtfeconankopjmaaGreatDoorPk31
import Derived.Test.YtfeconankopjmaaGreatDoorPk30
import Derived.Test.YtfeconankopjmaaGreatDoorPk33
import Derived.Test.YtfeconankopjmaaGreatDoorPk32
import Derived.Deep.QuietTactic
import Derived.Test.YtfeconankopjmaaGreatDoorPk35

/- Rounds that came in; the walk of greatRounds. -/
namespace Go.Proofs.YtfeconankopjmaaGreatDoor
set_option linter.unusedVariables false
open Go.RowKit Go.Maps
open Dk (Dir Chg Disk File Str)

/-- A round. -/
structure Rd where
  batches : List Wl.Bat
  news : List Bool
  fuse : Int
  crash : Dk.Crash
/-- A round's cells, in a slice that came in. -/
def RoundAt (base : Nat) (w : World) (b off : Nat) (x : Rd) : Prop := ∃ ab cb an cn vk vs, w.cell? ⟨b, off, none⟩ = some (.slice ab x.batches.length cb) ∧ w.cell? ⟨b, off + 1, none⟩ = some (.slice an x.news.length cn) ∧ w.cell? ⟨b, off + 2, none⟩ = some (.int .i64 x.fuse) ∧
  w.cell? ⟨b, off + 3, none⟩ = some (.int .i64 x.crash.names) ∧ w.cell? ⟨b, off + 4, none⟩ = some vk ∧ w.cell? ⟨b, off + 5, none⟩ = some vs ∧ ArgB base w ab x.batches ∧ ArgT base w an x.news ∧ Chosen w vk vs x.crash ∧ x.fuse ≤ 9223372036854775807
theorem RoundAt.below {base : Nat} {w w' : World} {b off : Nat} {x : Rd} (h : RoundAt base w b off x) (hbb : b < base) (hl : base ≤ w.heap.size) (hb : Below w.heap.size w w') : RoundAt base w' b off x := by
  obtain ⟨ab, cb, an, cn, vk, vs, c0, c1, c2, c3, c4, c5, h1, h2, h3, h4⟩ := h
  have k := hb.block b (by omega)
  exact ⟨ab, cb, an, cn, vk, vs, cell_kept c0 k, cell_kept c1 k, cell_kept c2 k, cell_kept c3 k, cell_kept c4 k, cell_kept c5 k, h1.below (hb.mono hl), h2.below (hb.mono hl), h3.below hb, h4⟩
/-- A slice of rounds as it came in, at the world in which it came. -/
def RoundsAt (w : World) (a : Option Addr) (l : List Rd) : Prop := ∀ i x, l[i]? = some x → ∃ b off, a = some ⟨b, off, none⟩ ∧ b < w.heap.size ∧ RoundAt w.heap.size w b (off + i * 6) x
/-- What is small enough of a round. -/
def RdOk (x : Rd) : Prop := x.batches.length ≤ 20 ∧ x.news.length ≤ 20 ∧ greatC x.crash = false ∧ ∀ y ∈ x.batches, y.2.length ≤ 60

/-- Small rounds, where greatRounds says no. -/
def GreatSaid (l : List Rd) (w : World) (e : Ending) (w' : World) : Prop := ∃ b, e = .returned (.bool b) ∧ (b = false → l.length ≤ 8 ∧ ∀ x ∈ l, RdOk x) ∧ Below w.heap.size w w'
theorem GreatSaid.yes {l : List Rd} {w w' : World} (hb : Below w.heap.size w w') : GreatSaid l w (.returned (.bool true)) w' := ⟨true, rfl, (fun h => absurd h (by decide)), hb⟩

set_option maxHeartbeats 8000000 in
set_option maxRecDepth 100000 in
theorem greatRounds_any (w : World) (a : Option Addr) (n c : Nat) (l : List Rd) (hn : l.length = n) (h : RoundsAt w a l) :
    Calls Tryz.prog 25 #[.slice a n c] w (GreatSaid l w) := by
  have HR := Lib.hid h; have HN := Lib.hid hn
  clear h hn
  by_cases h8 : (8 : Int) < n
  · go_enter Tryz.func25, Tryz.ntmps25
    go_wp2_with fail
    go_ret
    exact GreatSaid.yes (Below.refl _ _)
  · have hn8 : (n : Int) ≤ 8 := by omega
    go_enter Tryz.func25, Tryz.ntmps25
    go_wp2_with fail
    go_loopw [3, 4] (fun s z wr => ∃ (k : Nat) (y : Int), k ≤ n ∧ z = .int .i64 (k : Int) ∧ s = .int .i64 y ∧ Hid (Below w.heap.size w wr ∧ ∀ i x, i < k → l[i]? = some x → RdOk x)) (fun _ z _ => n - (intOf z).toNat)
    case atStart => exact ⟨0, 0, Nat.zero_le _, rfl, rfl, Lib.hid ⟨Below.refl _ _, fun i x hi => by omega⟩⟩
    case round =>
      obtain ⟨k, y, hk, rfl, rfl, HK⟩ := hrel
      by_cases hlt : k < n
      · have hlt2 : (k : Int) < n := by omega
        obtain ⟨x, hx⟩ : ∃ x, l[k]? = some x := ⟨_, List.getElem?_eq_getElem (by have := HN.out; omega)⟩
        obtain ⟨b, off, rfl, hb, hra⟩ := HR.out k x hx
        obtain ⟨ab, cb, an, cn, vk, vs, r0, r1, r2, r3, r4, r5, hab, hat, hch, hfu⟩ := hra
        obtain ⟨nb, hnb⟩ : ∃ nb, nb = x.batches.length := ⟨_, rfl⟩
        obtain ⟨nn, hnn⟩ : ∃ nn, nn = x.news.length := ⟨_, rfl⟩
        rw [← hnb] at r0
        rw [← hnn] at r1
        have HX := Lib.hid (And.intro hnb (And.intro hnn (And.intro hab hx)))
        have HGC := Lib.hid (fun W (hbW : Below w.heap.size w W) => greatCrash_any W vk vs x.crash (hch.below hbW))
        unfold crashV at HGC
        have HC0 := Lib.hid (fun (W : World) (hW : Below w.heap.size w W) => (hW.cell (p := ⟨b, off + k * 6, none⟩) hb).trans r0)
        have c0 := HC0.out wr HK.out.1
        have c1 := (HK.out.1.cell (p := ⟨b, off + k * 6 + 1, none⟩) hb).trans r1
        have c3 := (HK.out.1.cell (p := ⟨b, off + k * 6 + 3, none⟩) hb).trans r3
        have c4 := (HK.out.1.cell (p := ⟨b, off + k * 6 + 4, none⟩) hb).trans r4
        have c5 := (HK.out.1.cell (p := ⟨b, off + k * 6 + 5, none⟩) hb).trans r5
        generalize x.crash.names = nms at *
        obtain ⟨gc, hgc⟩ : ∃ gc, gc = greatC x.crash := ⟨_, rfl⟩
        rw [← hgc] at HGC
        have HGE := Lib.hid hgc
        clear hnb hnn hab hat hch hfu hx hgc r0 r1 r2 r3 r4 r5 hb
        by_cases h20 : (20 : Int) < nb
        · go_wp2_with fail
          go_ret
          exact GreatSaid.yes HK.out.1
        · by_cases h20b : (20 : Int) < nn
          · go_wp2_with fail
            go_ret
            exact GreatSaid.yes HK.out.1
          · cases gc with
            | true =>
              go_wp2_with fail
              refine (HGC.out _ HK.out.1).mono ?_
              rintro e w2 ⟨rfl, hb2⟩
              have HB2 := Lib.hid (Below.next HK.out.1 hb2); clear hb2
              go_wp2_with fail
              go_ret
              exact GreatSaid.yes HB2.out
            | false =>
              go_wp2_with fail
              refine (HGC.out _ HK.out.1).mono ?_
              rintro e w2 ⟨rfl, hb2⟩
              have HB2 := Lib.hid (Below.next HK.out.1 hb2); clear hb2 c0 c1 c3 c4 c5
              go_wp2_with fail
              go_loopw [3, 5] (fun s2 z2 wr2 => ∃ (k2 : Nat) (y2 : Int), k2 ≤ nb ∧ z2 = .int .i64 (k2 : Int) ∧ s2 = .int .i64 y2 ∧ Hid (Below w.heap.size w wr2 ∧ ∀ i y, i < k2 → x.batches[i]? = some y → y.2.length ≤ 60)) (fun _ z2 _ => nb - (intOf z2).toNat)
              case atStart => exact ⟨0, y, Nat.zero_le _, rfl, rfl, Lib.hid ⟨HB2.out, fun i x hi => by omega⟩⟩
              case round =>
                obtain ⟨k2, y2, hk2, rfl, rfl, HK2⟩ := hrel
                have c0 := HC0.out _ HK2.out.1
                by_cases hlt3 : k2 < nb
                · have hlt4 : (k2 : Int) < nb := by omega
                  obtain ⟨⟨seq, ops⟩, hy⟩ : ∃ y, x.batches[k2]? = some y := ⟨_, List.getElem?_eq_getElem (by have := HX.out.1; omega)⟩
                  obtain ⟨gb, ob, vi, hga, hgb, r0, r1, hob, hsq⟩ := HX.out.2.2.1 k2 _ hy
                  subst hga
                  obtain ⟨a3, c3, rfl⟩ := hob.slice
                  dsimp only at r0 r1 hob hsq
                  have HGR := Lib.hid (fun W (hbW : Below w.heap.size w W) => Bn.great_any seq a3 ops.length c3 ops W ((hob.sees (Nat.le_refl _)).below hbW))
                  have HOB := Lib.hid hob
                  obtain ⟨ol, hol⟩ : ∃ ol, ol = ops.length := ⟨_, rfl⟩
                  rw [← hol] at r1 HGR HOB
                  unfold Bn.batV at HGR
                  have HOL := Lib.hid hol
                  have HC1 := Lib.hid (fun (W : World) (hW : Below w.heap.size w W) => And.intro ((hW.cell (p := ⟨gb, ob + k2 * 2, none⟩) hgb).trans r0) ((hW.cell (p := ⟨gb, ob + k2 * 2 + 1, none⟩) hgb).trans r1))
                  obtain ⟨e0, e1⟩ := HC1.out _ HK2.out.1
                  have HY := Lib.hid hy
                  obtain ⟨go2, hgo⟩ : ∃ go2, go2 = Bn.greatO ops := ⟨_, rfl⟩
                  rw [← hgo] at HGR
                  have HGO := Lib.hid hgo
                  clear r0 r1 hob hol hy hgo
                  cases go2 with
                  | true =>
                    go_wp2_with fail
                    refine (HGR.out _ HK2.out.1).mono ?_
                    rintro e w3 ⟨rfl, hb3⟩
                    have HB3 := Lib.hid (Below.next HK2.out.1 hb3); clear hb3
                    go_wp2_with fail
                    go_ret
                    exact GreatSaid.yes HB3.out
                  | false =>
                    have HSM : Hid (ops.length ≤ 60) := Lib.hid (Bn.greatO_no HGO.out.symm).1
                    have hol60 : (ol : Int) ≤ 60 := by have := HOL.out; have := HSM.out; omega
                    go_wp2_with fail
                    refine (HGR.out _ HK2.out.1).mono ?_
                    rintro e w3 ⟨rfl, hb3⟩
                    have HB3 := Lib.hid (Below.next HK2.out.1 hb3); clear hb3 c0 e0 e1
                    go_wp2_with fail
                    go_loopw [3, 6] (fun s4 z4 wr4 => ∃ (k4 : Nat) (y4 : Int), k4 ≤ ol ∧ z4 = .int .i64 (k4 : Int) ∧ s4 = .int .i64 y4 ∧ Hid (Below w.heap.size w wr4)) (fun _ z4 _ => ol - (intOf z4).toNat)
                    case atStart => exact ⟨0, y2, Nat.zero_le _, rfl, rfl, HB3⟩
                    case round =>
                      obtain ⟨k4, y4, hk4, rfl, rfl, HK4⟩ := hrel
                      have c0 := HC0.out _ HK4.out
                      obtain ⟨e0, e1⟩ := HC1.out _ HK4.out
                      by_cases hlt5 : k4 < ol
                      · have hlt6 : (k4 : Int) < ol := by omega
                        rcases HOB.out with ⟨h0, a', c', he⟩ | ⟨bo, oo, co, he, hbo, hobs⟩
                        · have := HOL.out
                          rw [h0] at this
                          simp at this
                          omega
                        · simp only [Value.slice.injEq] at he
                          obtain ⟨rfl, _, _⟩ := he
                          obtain ⟨q0, q1, q2⟩ := (hobs k4 (by have := HOL.out; omega)).below HK4.out hbo
                          generalize (ops.getD k4 Bn.obd) = op at *
                          obtain ⟨key, val, gone⟩ := op
                          dsimp only at q0 q1 q2
                          clear hobs
                          go_wp2_with fail
                          go_quiet (fail)
                          go_wp2_with fail
                          go_roundw
                          case rel => exact ⟨k4 + 1, _, by omega, by go_num, rfl, Lib.hid ((still_drewN _ _).under HK4.out)⟩
                          case measure => simp [intOf]; omega
                      · have hlt6 : ¬ (k4 : Int) < ol := by omega
                        go_wp2_with fail
                        go_roundw
                        case rel => exact ⟨k2 + 1, y4, by omega, by go_num, rfl, Lib.hid ⟨HK4.out, fun i y hi hiy => by
                          rcases Nat.lt_or_ge i k2 with h | h
                          · exact HK2.out.2 i y h hiy
                          · obtain rfl : i = k2 := by omega
                            rw [HY.out] at hiy
                            simp only [Option.some.injEq] at hiy
                            rw [← hiy]; exact HSM.out⟩⟩
                        case measure => simp [intOf]; omega
                · have hlt4 : ¬ (k2 : Int) < nb := by omega
                  go_wp2_with fail
                  go_roundw
                  case rel => exact ⟨k + 1, y2, by omega, by go_num, rfl, Lib.hid ⟨HK2.out.1, fun i x' hi hix => by
                    rcases Nat.lt_or_ge i k with h | h
                    · exact HK.out.2 i x' h hix
                    · obtain rfl : i = k := by omega
                      rw [HX.out.2.2.2] at hix
                      simp only [Option.some.injEq] at hix
                      subst hix
                      refine ⟨by have := HX.out.1; omega, by have := HX.out.2.1; omega, HGE.out.symm, fun yy hyy => ?_⟩
                      obtain ⟨q, hq, rfl⟩ := List.getElem_of_mem hyy
                      exact HK2.out.2 q _ (by have := HX.out.1; omega) (List.getElem?_eq_getElem hq)⟩⟩
                  case measure => simp [intOf]; omega
      · have hlt2 : ¬ (k : Int) < n := by omega
        go_wp2_with fail
        go_ret
        refine ⟨_, rfl, fun _ => ⟨by have := HN.out; omega, fun x hx => ?_⟩, HK.out.1⟩
        obtain ⟨i, hi, rfl⟩ := List.getElem_of_mem hx
        exact HK.out.2 i _ (by have := HN.out; omega) (List.getElem?_eq_getElem hi)

end Go.Proofs.YtfeconankopjmaaGreatDoor

/- Behind a round: a crash, Start, Fuse; rows that are joined. -/
namespace Go.Proofs.YtfeconankopjmaaGreatDoor
set_option linter.unusedVariables false
open Go.RowKit Go.Maps
open Dk (Dir Chg Disk File Str)

theorem Wl.upto_sound : ∀ (rs : List ByteArray) (x : Wl.Bat), x ∈ Wl.upto rs → Wl.chk x = 0
  | [], x, h => by simp [Wl.upto] at h
  | r :: rs, x, h => by
    unfold Wl.upto at h
    split at h
    · rename_i b hb
      rcases List.mem_cons.1 h with rfl | h
      · exact (Bn.Bt.encl_decl (s := x.1) (o := x.2) hb).2.1
      · exact Wl.upto_sound rs x h
    · simp at h
theorem Wl.holds_sound {F : Nat → File} {us : List (Nat × Nat)} {x : Wl.Bat} (h : x ∈ Wl.holds F us) : Wl.chk x = 0 := by
  unfold Wl.holds at h
  obtain ⟨p, _, hx⟩ := List.mem_flatMap.1 h
  exact Wl.upto_sound _ _ hx
theorem Wl.holds_few {F : Nat → File} {us : List (Nat × Nat)} {x : Wl.Bat} (h : x ∈ Wl.holds F us) : x.2.length ≤ 16 := (Bn.Bt.chk_ok (Wl.holds_sound h)).1

/-- The disk went on, where it lay. -/
def Onto (w : World) (base d : Nat) (L : Lay) (S' : Disk) (n m : Nat) (w' : World) : Prop := ∃ L', L'.d = d ∧ Disc w' base L' S' n m ∧ Below base w w' ∧ Kept w L w' L'
theorem Onward.to {w : World} {base d : Nat} {L : Lay} {S' : Disk} {n m : Nat} {w' : World} (h : Onward w base L S' n m w') (hd : L.d = d) : Onto w base d L S' n m w' := by
  obtain ⟨L', h1, h2⟩ := h
  exact ⟨L', h1.trans hd, h2⟩
theorem crash_disc {w : World} {base d : Nat} {L : Lay} {S : Disk} {n m : Nat} (hd : L.d = d) (D : Disc w base L S n m) (hn : n ≤ 4000) (hm : m ≤ 100000000) {vk vs : Value} {c : Dk.Crash} (ho : Older w base vk vs c) :
    Calls Tryz.prog 27 #[.pointer (some ⟨d, 0, none⟩), .agg #[.int .i64 c.names, vk, vs]] w fun e w' => e = .returned (.tuple #[]) ∧ Onto w base d L (S.crash c) (n + 1) m w' := by
  subst hd
  refine (crash_any w D.holds (fits_wide D.good hn hm) D.good.cans (sizes_of D.good) vk vs c (ho.choices D) (crash_wide D.good hn hm _).1 (crash_wide D.good hn hm _).2).mono ?_
  rintro e w' ⟨he, hg⟩
  exact ⟨he, (D.onward hg (D.good.crash c)).to rfl⟩
theorem start_disc {w : World} {base d : Nat} {L : Lay} {S : Disk} {n m : Nat} (hd : L.d = d) (D : Disc w base L S n m) :
    Calls Tryz.prog 28 #[.pointer (some ⟨d, 0, none⟩)] w fun e w' => e = .returned (.tuple #[]) ∧ Onto w base d L S.start n m w' := by
  subst hd
  refine (start_any w D.holds).mono ?_
  rintro e w' ⟨he, hg⟩
  exact ⟨he, (D.onward hg D.good.start).to rfl⟩
theorem light_disc {w : World} {base d : Nat} {L : Lay} {S : Disk} {n m : Nat} (hd : L.d = d) (D : Disc w base L S n m) (k : Int) (hk : k ≤ 9223372036854775807) :
    Calls Tryz.prog 29 #[.pointer (some ⟨d, 0, none⟩), .int .i64 k] w fun e w' => e = .returned (.tuple #[]) ∧ Onto w base d L (S.light k) n m w' := by
  subst hd
  refine (fuse_any w D.holds k).mono ?_
  rintro e w' ⟨he, hg⟩
  exact ⟨he, (D.onward hg (D.good.light k hk)).to rfl⟩

/-- Where the rounds stand, so many of them played. -/
structure RLoop (w : World) (base : Nat) (L : Lay) (d k : Nat) (S : Disk) (us : List (Nat × Nat)) (hs : List Wl.Bat) : Prop where
  hd : L.d = d
  disc : Disc w base L S (101 * k) (300000 * k)
  calm : Wl.Calm S us
  on : S.down = false
  most : Wl.Most us (30 * k)
  held : Wl.holds S.file us = hs
  lit : S.fuse = 0
theorem RLoop.below {w w' : World} {base : Nat} {L : Lay} {d k : Nat} {S : Disk} {us : List (Nat × Nat)} {hs : List Wl.Bat} (R : RLoop w base L d k S us hs) (hb : Below w.heap.size w w') : RLoop w' base L d k S us hs := ⟨R.hd, R.disc.below hb, R.calm, R.on, R.most, R.held, R.lit⟩
theorem RLoop.grown {w w' : World} {base : Nat} {L : Lay} {d k : Nat} {S : Disk} {us : List (Nat × Nat)} {hs : List Wl.Bat} (R : RLoop w base L d k S us hs) {v : Value} (ho : Off L v) (hg : w.grownBy w' v.ownBlock) : RLoop w' base L d k S us hs := ⟨R.hd, R.disc.grown ho hg, R.calm, R.on, R.most, R.held, R.lit⟩
theorem RLoop.start {w : World} {base : Nat} {L : Lay} {room : Int} (h : Holds w L (Dk.fresh room)) (ho : ∀ b, Own L b → base ≤ b) (hb : base ≤ w.heap.size) : RLoop w base L L.d 0 (Dk.fresh room) [] [] :=
  ⟨rfl, ⟨h, Dk.good_fresh room, ho, hb⟩, ⟨rfl, rfl, rfl, List.Pairwise.nil, (fun p hp => by cases hp), (fun p hp => by cases hp), List.Pairwise.nil, (fun p hp => by cases hp)⟩, rfl, ⟨Nat.le_refl _, (fun p hp => by cases hp)⟩, rfl, rfl⟩
/-- A round was played, so many ahead of it. -/
def Gone (w : World) (base d : Nat) (L : Lay) (T : List Wl.Bat) (k : Nat) (e : Ending) (w' : World) : Prop :=
  ∃ v1 v2 L' S' ts U, e = .returned (.tuple #[v1, v2]) ∧ L'.d = d ∧ Disc w' base L' S' (101 * k + 100) (300000 * (k + 1)) ∧ Below base w w' ∧ Kept w L w' L' ∧ Wl.Fin S' (30 * (k + 1)) (T ++ ts) U ∧ ts.length ≤ 20 ∧ U.length ≤ 1 ∧
    OwnsA base w.heap.size w' v1 ts ∧ OwnsA base w.heap.size w' v2 U ∧ Off L' v1 ∧ Off L' v2
theorem RLoop.goes {w : World} {base : Nat} {L : Lay} {d k : Nat} {S : Disk} {us : List (Nat × Nat)} {hs : List Wl.Bat} (R : RLoop w base L d k S us hs) (hk : k < 8) (K : Knows base w)
    {x : Rd} (hx : RdOk x) {ab an : Option Addr} {cb cn : Nat} (AB : ArgB base w ab x.batches) (AT : ArgT base w an x.news) (hf : x.fuse ≤ 9223372036854775807) (vk vs : Value) :
    Calls Tryz.prog 26 #[.pointer (some ⟨d, 0, none⟩), roundV ab x.batches.length cb an x.news.length cn x.fuse x.crash.names vk vs] w (Gone w base d L hs k) := by
  have h := R.hd
  subst h
  refine (goes_any R.disc (by omega) (by omega) K R.calm R.on R.most (by omega) R.held ab _ cb x.batches rfl hx.1 AB an _ cn x.news rfl hx.2.1 AT x.fuse hf x.crash.names vk vs).mono ?_
  rintro e w' ⟨v1, v2, L', S', ts, U, h1, h2, h3, h4, h5, h6, h7⟩
  exact ⟨v1, v2, L', S', ts, U, h1, h2, h3.mono (by omega) (by omega), h4, h5, h6.mono (by omega), h7⟩
/-- Behind the crash. -/
theorem RLoop.next {w : World} {base : Nat} {L : Lay} {d k : Nat} {S' : Disk} {c : Dk.Crash} {T U : List Wl.Bat} (hF : Wl.Fin S' (30 * (k + 1)) T U) (hd : L.d = d) (D : Disc w base L (Wl.back S' c) (101 * k + 100 + 1) (300000 * (k + 1))) :
    ∃ us hs, RLoop w base L d (k + 1) (Wl.back S' c) us hs ∧ (hs = T ∨ ∃ b, U = [b] ∧ hs = T ++ [b]) := by
  obtain ⟨us, h1, h2, h3⟩ := hF c
  exact ⟨us, _, ⟨hd, D.mono (by omega) (Nat.le_refl _), h1, rfl, h2, rfl, rfl⟩, h3⟩
theorem RLoop.replay {w : World} {base : Nat} {L : Lay} {d k : Nat} {S : Disk} {us : List (Nat × Nat)} {hs : List Wl.Bat} (R : RLoop w base L d k S us hs) (hk : k ≤ 8) (K : Knows base w) :
    Calls Tryz.prog 13 #[.pointer (some ⟨d, 0, none⟩), .int .u64 0] w fun e w' => ∃ v, e = .returned (.tuple #[v, .int .i64 0]) ∧ OwnsB w' w.heap.size v hs ∧ Below w.heap.size w w' := by
  have h := R.hd
  subst h
  have hr : Rise (Wl.nums S.now) := by rw [R.calm.nums]; exact rise_of R.calm.rise
  have hl : (Wl.nums S.now).length ≤ 400 := by rw [R.calm.nums, List.length_map]; have := R.most.1; omega
  have := replay_any w R.disc.holds R.disc.good (by omega) (by omega) K R.disc.lo hr hl 0 R.on
  rw [R.calm.replay R.on, R.held] at this
  exact this

/-! ### rows that are joined -/
theorem wpList_append_rowat {P : Program} {w : World} {ops : Array Oper} {rest : List Oper} {o : Oper} {a : Go.Act} {Q : Exit → Go.Act → World → Prop} (hgd : o.guard = none) (s xo : Operand) (t : TypeId)
    (ho : o.op = .call { callee := .builtin .append, args := #[s, xo], argTypes := #[t, t] })
    (base base' : Nat) (e : TypeId) (i : TypeInfo) (z : Value) (size bytes : Nat) (ht : P.underlying t = some (.slice e)) (hi : P.info? e = some i) (hz : i.zero = some z)
    (hsize : i.size = size) (hby : i.bytes = bytes) (hzs : z.cells.size = size) (hsz : 0 < size)
    (v : Value) (n : Nat) (xs : List Value) (hs : a.eval s = v) (hown : w.ownsRow base e size v n xs) (x : Value) (m : Nat) (ys : List Value) (hxv : a.eval xo = x) (hx : w.ownsRow base' e size x m ys) (h1 : ∀ u ∈ ys, u.oneCell' = true)
    (h63 : n + m ≤ maxLen) (hbytes : (n + m) * bytes ≤ 140737488355328) (hbase : base ≤ w.heap.size)
    (h : ∀ v' w', w'.ownsRow base e size v' (n + m) (xs ++ ys) → w.grownBy w' v.ownBlock → (v'.ownBlock = v.ownBlock ∨ v'.ownBlock = some w.heap.size) → wpList P ops Q rest (a.put o.dst v') w') : wpList P ops Q (o :: rest) a w := by
  have key : ∃ v' w', (Builtin.append_ #[t, t] o.type #[v, x]).run P w = .ok v' w' ∧ w'.ownsRow base e size v' (n + m) (xs ++ ys) ∧ w.grownBy w' v.ownBlock ∧ (v'.ownBlock = v.ownBlock ∨ v'.ownBlock = some w.heap.size) := by
    have hcell := fun (g : Nat) (h : x.ownBlock = some g) => hx.cells (g := g) h
    obtain ⟨hl, ⟨rfl, rfl⟩ | ⟨g, cap, cur, rfl, hbg, hg, hnc, hcm, hcs, htk⟩⟩ := hx
    · obtain rfl : ys = [] := List.eq_nil_of_length_eq_zero (by omega)
      exact ⟨v, w, run_append_nilsrc w _ _ _ i base size ht hi v _ _ hown 0, by rw [List.append_nil]; exact hown, ⟨rfl, rfl, rfl, Nat.le_refl _, fun _ _ _ => rfl⟩, Or.inl rfl⟩
    · obtain ⟨v', w', hr, h2, h3, _, h5⟩ := run_append_own_at (P := P) w base t o.type e i z size bytes ht hi hz hsize hby hzs hsz v _ _ hown ⟨g, 0, none⟩ m cap ys hl (hcell g rfl) h1 h63 hbytes hbase
      exact ⟨v', w', hr, h2, h3, h5⟩
  refine wpList_plain hgd fun K hK => ?_
  obtain ⟨v', w', hr, h2, h3, h5⟩ := key
  unfold Oper.wp execOp
  simp only [ho, resolve, invoke, builtin, Sem.run_bind, Sem.run_pure, Result.andThen_ok, List.map_toArray, List.map_cons, List.map_nil, hs, hxv, hr]
  exact hK _ _ (h v' w' h2 h3 h5)
/-- No block is the one's and the other's. -/
def Apart (v v2 : Value) : Prop := ∀ b, v2.ownBlock = some b → v.ownBlock ≠ some b
theorem row_joined {W W6 : World} {base : Nat} {L : Lay} {S : Disk} {d k : Nat} {us : List (Nat × Nat)} {hs0 : List Wl.Bat} {v v' : Value} {hs ts : List Wl.Bat} {ps qs : List (Nat × Value)} (R : RLoop W base L d k S us hs0)
    (hr : W.ownsRow base 32 2 v hs.length (ps.flatMap cellsB)) (ha : AreA base W ps hs) (ho : Off L v) (hx : AreA base W qs ts)
    (hown : W6.ownsRow base 32 2 v' (hs.length + ts.length) (ps.flatMap cellsB ++ qs.flatMap cellsB)) (hg : W.grownBy W6 v.ownBlock) (hv : v'.ownBlock = v.ownBlock ∨ v'.ownBlock = some W.heap.size) :
    OwnsA base base W6 v' (hs ++ ts) ∧ Off L v' ∧ RLoop W6 base L d k S us hs0 ∧ Below base W W6 ∧ (∀ b, v'.ownBlock = some b → b < W6.heap.size) := by
  have hbel : Below base W W6 := (Below.refl base W).grown hg R.disc.lo (fun q hq => (hr.lt q hq).1)
  refine ⟨⟨ps ++ qs, ?_, (ha.append hx).below hbel⟩, off_grown R.disc ho hv, R.grown ho hg, hbel, fun b hb => (hown.lt b hb).2⟩
  rw [List.length_append, List.flatMap_append]
  exact hown
theorem row_aside {W W6 : World} {base lo : Nat} {v u : Value} {bs : List Wl.Bat} (h : OwnsA base lo W v bs) (hg : W.grownBy W6 u.ownBlock) (hb : Below base W W6) (hne : Apart u v) : OwnsA base lo W6 v bs := by
  obtain ⟨ps, hr, ha⟩ := h
  exact ⟨ps, ownsRow_frame hr fun b hv => hg.block b (hr.lt b hv).2 fun e => hne b hv e.symm, ha.below hb⟩
theorem Apart.grown {W : World} {base lo : Nat} {v v2 v' : Value} {bs : List Wl.Bat} (h : Apart v v2) (h2 : OwnsA base lo W v2 bs) (hv : v'.ownBlock = v.ownBlock ∨ v'.ownBlock = some W.heap.size) : Apart v' v2 := fun b hb e => by
  obtain ⟨ps, hr, _⟩ := h2
  rcases hv with h1 | h1
  · exact h b hb (h1 ▸ e)
  · have := (hr.lt b hb).2
    rw [h1] at e
    simp only [Option.some.injEq] at e
    omega
theorem apart_lo {W : World} {base lo lo2 : Nat} {v v2 : Value} {bs cs : List Wl.Bat} (h : OwnsA base lo W v bs) (hl : W.heap.size ≤ lo2) {W2 : World} (h2 : OwnsA base lo2 W2 v2 cs) : Apart v v2 := fun b hb e => by
  obtain ⟨ps, hr, _⟩ := h
  obtain ⟨qs, hr2, _⟩ := h2
  have := (hr.lt b e).2
  have := (hr2.lt b hb).1
  omega
theorem ownsB_aside {w w' : World} {lo base : Nat} {v u : Value} {bs : List Wl.Bat} {n : Nat} {xs : List Value} (h : OwnsB w lo v bs) (hb : base ≤ lo) (hr : w.ownsRow base 32 2 u n xs) (hg : w.grownBy w' u.ownBlock) (hlt : ∀ b, u.ownBlock = some b → b < lo) : OwnsB w' base v bs := by
  obtain ⟨ps, h1, h2⟩ := h
  exact ⟨ps, ownsRow_frame (ownsRow_mono h1 hb) fun b hv => hg.block b (h1.lt b hv).2 fun e => by have := hlt b e.symm; have := (h1.lt b hv).1; omega, (h2.mono hb).grown hg hr⟩
theorem OwnsA.sees {base lo : Nat} {w : World} {a : Option Addr} {n c : Nat} {bs : List Wl.Bat} (h : OwnsA base lo w (.slice a n c) bs) (hb : base ≤ w.heap.size) : SeesB w a bs := by
  obtain ⟨ps, hr, ha⟩ := h.raw hb
  exact ha.sees hr

end Go.Proofs.YtfeconankopjmaaGreatDoor

/- Rounds that came in, as lists. -/
namespace Go.Proofs.YtfeconankopjmaaGreatDoor
set_option linter.unusedVariables false
set_option maxRecDepth 100000
open Go.ChangeShapes Go.WideShapes Go.ChangeAt Go.RowKit

theorem cells_bool : Tryz.prog.cellsOf 4 = 1 := by kernel_rfl
theorem cells_bats : Tryz.prog.cellsOf 36 = 1 := by kernel_rfl
theorem cells_bools : Tryz.prog.cellsOf 70 = 1 := by kernel_rfl
theorem cells_round : Tryz.prog.cellsOf 72 = 6 := by kernel_rfl
theorem argO_of {w : World} {v : Value} {ps : List Bn.Ob} (h : Bn.SeesO w v ps) : ArgO w.heap.size w v ps := by
  rcases h with h | ⟨b, off, cap, rfl, hlt, hc⟩
  · exact Or.inl h
  · exact Or.inr ⟨b, off, cap, rfl, hlt, hc⟩
/-- A batch's cells. -/
theorem batCells_of {H : Type} {enc : TypeId × Value → H} {W : World} {cs : List Value} {fuel : Nat} {y : DataW H × List MemPlace} (hf : DataW.trod enc Tryz.prog W 0 (fun _ => true) true fuel 32 cs = some y) :
    ∃ (b : Wl.Bat) (vi : Value), cs = [.int .u64 (b.1 : Nat), vi] ∧ ArgO W.heap.size W vi b.2 ∧ b.1 < 18446744073709551616 := by
  obtain ⟨xs, n', _, _, hlen, hxl, hfd⟩ := DataW.trod_struct Tryz.underlying32 hf
  rw [Bn.cells_bat] at hlen
  match cs, hlen with
  | [c0, c1], _ =>
    match xs, hxl with
    | [y0, y1], _ =>
      have f0 : DataW.trod enc Tryz.prog W 0 (fun _ => true) true n' 28 (([c0, c1].drop 0).take (Tryz.prog.cellsOf 28)) = some y0 := hfd 0 _ rfl
      have f1 : DataW.trod enc Tryz.prog W 0 (fun _ => true) true n' 30 (([c0, c1].drop 1).take (Tryz.prog.cellsOf 30)) = some y1 := hfd 1 _ rfl
      rw [Bn.cells_u64] at f0
      rw [Bn.cells_ops] at f1
      obtain ⟨n0, e0, _, hw⟩ := DataW.trod_int Tryz.underlying28 f0
      obtain ⟨a, len, cap, ps, e1, hs, _⟩ := Bn.seesO_of f1
      have g0 : c0 = .int .u64 n0 := by simpa using e0
      have g1 : c1 = .slice a len cap := by simpa using e1
      have hr := bounds_u64 hw
      refine ⟨(n0.toNat, ps), .slice a len cap, ?_, argO_of hs, by show n0.toNat < _; omega⟩
      show _ = [Value.int .u64 ((n0.toNat : Nat) : Int), _]
      rw [g0, g1, Int.toNat_of_nonneg (by omega)]
/-- A slice of batches that came in. -/
theorem argB_of {H : Type} {enc : TypeId × Value → H} {W : World} {cs : List Value} {fuel : Nat} {y : DataW H × List MemPlace} (hf : DataW.trod enc Tryz.prog W 0 (fun _ => true) true fuel 36 cs = some y) :
    ∃ a len cap bs, cs = [.slice a len cap] ∧ ArgB W.heap.size W a bs ∧ bs.length = len := by
  rcases Deep.open_slice Tryz.underlying36 hf with ⟨hcs, _⟩ | ⟨x, l, c, m, n, D, Pl, hcs, _, hlc, hcm, hm, _, hel⟩
  · exact ⟨none, 0, 0, [], hcs, (fun i b h => by simp at h), rfl⟩
  · have hmc : m = c := by rw [hm]; simp
    have key : ∀ i, i < l → ∃ q : Wl.Bat, ∃ vi, W.cell? ((x.add (i * 2)).add 0) = some (.int .u64 (q.1 : Nat)) ∧ W.cell? ((x.add (i * 2)).add 1) = some vi ∧ ArgO W.heap.size W vi q.2 ∧ q.1 < 18446744073709551616 := by
      intro i hi
      obtain ⟨cs', hc, ht⟩ := hel i (by omega)
      rw [Bn.cells_bat] at hc
      obtain ⟨_, hcl, hat⟩ := World.cells?_some hc
      obtain ⟨b, vi, rfl, ho, hs⟩ := batCells_of ht
      exact ⟨b, vi, hat 0 (by omega), hat 1 (by omega), ho, hs⟩
    obtain ⟨b, off, spot⟩ := x
    obtain ⟨bs, hl, hbs⟩ := list_by l key
    refine ⟨_, l, c, bs, hcs, fun i q hi => ?_, hl⟩
    obtain ⟨vi, c0, c1, ho, hs⟩ := hbs i q hi
    have hspot : spot = none := by
      have hi0 := (List.getElem?_eq_some_iff.1 hi).1
      simpa [Addr.add] using World.cell?_spot (hbs 0 _ (List.getElem?_eq_getElem (by omega))).choose_spec.1
    subst hspot
    rw [add_plain, add_plain] at c0 c1
    exact ⟨b, off, vi, rfl, World.block_lt_of_cell? _ _ c0, c0, c1, ho, hs⟩
/-- A slice of truths that came in. -/
theorem argT_of {H : Type} {enc : TypeId × Value → H} {W : World} {cs : List Value} {fuel : Nat} {y : DataW H × List MemPlace} (hf : DataW.trod enc Tryz.prog W 0 (fun _ => true) true fuel 70 cs = some y) :
    ∃ a len cap ts, cs = [.slice a len cap] ∧ ArgT W.heap.size W a ts ∧ ts.length = len := by
  rcases Deep.open_slice Tryz.underlying70 hf with ⟨hcs, _⟩ | ⟨x, l, c, m, n, D, Pl, hcs, _, hlc, hcm, hm, _, hel⟩
  · exact ⟨none, 0, 0, [], hcs, (fun i b h => by simp at h), rfl⟩
  · have hmc : m = c := by rw [hm]; simp
    have key : ∀ i, i < l → ∃ t : Bool, W.cell? ((x.add (i * 1)).add 0) = some (.bool t) := by
      intro i hi
      obtain ⟨cs', hc, ht⟩ := hel i (by omega)
      rw [cells_bool] at hc
      obtain ⟨_, hcl, hat⟩ := World.cells?_some hc
      obtain ⟨t, e, _⟩ := DataW.trod_bool Tryz.underlying4 ht
      subst e
      exact ⟨t, hat 0 (by omega)⟩
    obtain ⟨b, off, spot⟩ := x
    obtain ⟨ts, hl, hts⟩ := list_by l key
    refine ⟨_, l, c, ts, hcs, fun i t hi => ?_, hl⟩
    have c0 := hts i t hi
    have hspot : spot = none := by
      have hi0 := (List.getElem?_eq_some_iff.1 hi).1
      simpa [Addr.add] using World.cell?_spot (hts 0 _ (List.getElem?_eq_getElem (by omega)))
    subst hspot
    rw [add_plain, add_plain, Nat.mul_one, Nat.add_zero] at c0
    exact ⟨b, off, rfl, World.block_lt_of_cell? _ _ c0, c0⟩
/-- A round's cells. -/
theorem round_of {H : Type} {enc : TypeId × Value → H} {W : World} {cs : List Value} {fuel : Nat} {y : DataW H × List MemPlace} (hf : DataW.trod enc Tryz.prog W 0 (fun _ => true) true fuel 72 cs = some y) :
    ∃ (x : Rd) (ab : Option Addr) (cb : Nat) (an : Option Addr) (cn : Nat) (vk vs : Value), cs = [.slice ab x.batches.length cb, .slice an x.news.length cn, .int .i64 x.fuse, .int .i64 x.crash.names, vk, vs] ∧ ArgB W.heap.size W ab x.batches ∧ ArgT W.heap.size W an x.news ∧ Chosen W vk vs x.crash ∧ x.fuse ≤ 9223372036854775807 := by
  obtain ⟨xs, n', _, _, hlen, hxl, hfd⟩ := DataW.trod_struct Tryz.underlying72 hf
  rw [cells_round] at hlen
  match cs, hlen with
  | [c0, c1, c2, c3, c4, c5], _ =>
    match xs, hxl with
    | [y0, y1, y2, y3], _ =>
      have f0 : DataW.trod enc Tryz.prog W 0 (fun _ => true) true n' 36 (([c0, c1, c2, c3, c4, c5].drop 0).take (Tryz.prog.cellsOf 36)) = some y0 := hfd 0 _ rfl
      have f1 : DataW.trod enc Tryz.prog W 0 (fun _ => true) true n' 70 (([c0, c1, c2, c3, c4, c5].drop 1).take (Tryz.prog.cellsOf 70)) = some y1 := hfd 1 _ rfl
      have f2 : DataW.trod enc Tryz.prog W 0 (fun _ => true) true n' 3 (([c0, c1, c2, c3, c4, c5].drop 2).take (Tryz.prog.cellsOf 3)) = some y2 := hfd 2 _ rfl
      have f3 : DataW.trod enc Tryz.prog W 0 (fun _ => true) true n' 55 (([c0, c1, c2, c3, c4, c5].drop 3).take (Tryz.prog.cellsOf 55)) = some y3 := hfd 3 _ rfl
      rw [cells_bats] at f0
      rw [cells_bools] at f1
      rw [cells_int] at f2
      rw [cells_crash] at f3
      obtain ⟨a0, l0, k0, bs, e0, hb, hbl⟩ := argB_of f0
      obtain ⟨a1, l1, k1, ts, e1, ht, htl⟩ := argT_of f1
      obtain ⟨n2, e2, _, hw2⟩ := DataW.trod_int Tryz.underlying3 f2
      obtain ⟨c, vk, vs, e3, hch, hnm⟩ := chosen_of f3
      have g0 : c0 = .slice a0 l0 k0 := by simpa using e0
      have g1 : c1 = .slice a1 l1 k1 := by simpa using e1
      have g2 : c2 = .int .i64 n2 := by simpa using e2
      have g3 : c3 = .int .i64 c.names ∧ c4 = vk ∧ c5 = vs := by simpa using e3
      obtain ⟨g3, g4, g5⟩ := g3
      subst g0 g1 g2 g3 g4 g5 hbl htl
      exact ⟨⟨bs, ts, n2, c⟩, a0, k0, a1, k1, c4, c5, rfl, hb, ht, hch, (bounds_i64 hw2).2⟩
set_option maxRecDepth 100000 in
theorem rounds_of {H : Type} {enc : TypeId × Value → H} {W : World} {a : Option Addr} {len cap : Nat} {d : DataW H} {p : List MemPlace} (h : DataW.Trod enc Tryz.prog W 0 (fun _ => true) true 66 (.slice a len cap) d p) :
    ∃ l : List Rd, RoundsAt W a l ∧ l.length = len := by
  obtain ⟨fuel, hf⟩ := h
  rcases Deep.open_slice Tryz.underlying66 hf with ⟨hcs, _⟩ | ⟨x, l, c, m, n, D, Pl, hcs, _, hlc, hcm, hm, _, hel⟩
  · simp [Value.cells] at hcs
    obtain ⟨rfl, rfl, rfl⟩ := hcs
    exact ⟨[], (fun i x h => by simp at h), rfl⟩
  · simp [Value.cells] at hcs
    obtain ⟨rfl, rfl, rfl⟩ := hcs
    have hmc : m = cap := by rw [hm]; simp
    have key : ∀ i, i < len → ∃ q : Rd, ∃ ab cb an cn vk vs, W.cell? ((x.add (i * 6)).add 0) = some (.slice ab q.batches.length cb) ∧ W.cell? ((x.add (i * 6)).add 1) = some (.slice an q.news.length cn) ∧ W.cell? ((x.add (i * 6)).add 2) = some (.int .i64 q.fuse) ∧
        W.cell? ((x.add (i * 6)).add 3) = some (.int .i64 q.crash.names) ∧ W.cell? ((x.add (i * 6)).add 4) = some vk ∧ W.cell? ((x.add (i * 6)).add 5) = some vs ∧ ArgB W.heap.size W ab q.batches ∧ ArgT W.heap.size W an q.news ∧ Chosen W vk vs q.crash ∧ q.fuse ≤ 9223372036854775807 := by
      intro i hi
      obtain ⟨cs', hc, ht⟩ := hel i (by omega)
      rw [cells_round] at hc
      obtain ⟨_, hcl, hat⟩ := World.cells?_some hc
      obtain ⟨q, ab, cb, an, cn, vk, vs, rfl, hb, ht2, hch, hf⟩ := round_of ht
      exact ⟨q, ab, cb, an, cn, vk, vs, hat 0 (by omega), hat 1 (by omega), hat 2 (by omega), hat 3 (by omega), hat 4 (by omega), hat 5 (by omega), hb, ht2, hch, hf⟩
    obtain ⟨b, off, spot⟩ := x
    obtain ⟨l, hl, hq⟩ := list_by len key
    refine ⟨l, fun i q hi => ?_, hl⟩
    obtain ⟨ab, cb, an, cn, vk, vs, c0, c1, c2, c3, c4, c5, hr⟩ := hq i q hi
    have hspot : spot = none := by
      have hi0 := (List.getElem?_eq_some_iff.1 hi).1
      simpa [Addr.add] using World.cell?_spot (hq 0 _ (List.getElem?_eq_getElem (by omega))).choose_spec.choose_spec.choose_spec.choose_spec.choose_spec.choose_spec.1
    subst hspot
    rw [add_plain, add_plain] at c0 c1 c2 c3 c4 c5
    exact ⟨b, off, rfl, World.block_lt_of_cell? _ _ c0, ab, cb, an, cn, vk, vs, c0, c1, c2, c3, c4, c5, hr⟩

end Go.Proofs.YtfeconankopjmaaGreatDoor
