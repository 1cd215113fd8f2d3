/- Texts on the program's own functions, several in one: WlPl, WlCalm, WlStep. -/
import Derived.Test.YtfeconankopjmaaGreatDoorPk7
import Derived.ProofKit
import Derived.Test.YtfeconankopjmaaGreatDoorPk1

/- The chapter's examples on plain logs. -/
namespace Go.Proofs.YtfeconankopjmaaGreatDoor.Wl
set_option maxRecDepth 100000
open Dk (Dir Chg Disk File Str)

/-- Frames, and behind them what is no frame. -/
theorem bats_cut {bs : List Bat} (h : ∀ b ∈ bs, chk b = 0) {t : Str} (ht : Cr.frl t = none) : bats (frames bs ++ t) = bs := by
  have e := Cr.rda_frames t (bs.map row) (rows_small h)
  rw [Cr.rda_none ht, List.append_nil] at e
  unfold bats
  rw [frames_eq, e]
  have := upto_rows bs h []
  rwa [List.append_nil, show upto [] = [] from rfl, List.append_nil] at this

def opA : Bn.Ob := ⟨⟨#[97]⟩, ⟨#[120]⟩, false⟩
def b1 : Bat := (1, [opA])
def b2 : Bat := (2, [opA])
def s0 : Disk := Dk.fresh 1048576
def s1 : Disk := (beg s0 3).2
def s2 : Disk := (add s1 3 b1).2
def s3 : Disk := s2.light 2
def s4 : Disk := (add s3 3 b2).2
def s5 : Disk := s4.crash ⟨0, [31], []⟩
def s6 : Disk := s5.start
theorem r0 : (beg s0 3).1 = 0 := by kernel_rfl
theorem r1 : (add s1 3 b1).1 = 0 := by kernel_rfl
theorem r2 : (add s3 3 b2).1 = 7 := by kernel_rfl
theorem r3 : nums s6.now = [3] := by kernel_rfl
theorem r4 : s6.down = false := by kernel_rfl
theorem d6 : data s6 3 = frames [b1] ++ (cell b2).take 31 := by kernel_rfl
theorem chk1 : ∀ b ∈ [b1], chk b = 0 := by
  intro b hb
  simp only [List.mem_singleton] at hb
  subst hb
  kernel_rfl
theorem r5 : replay s6 0 = [b1] := by
  unfold replay
  rw [r3, told, told, if_neg (by omega), d6, bats_cut chk1 (Cr.frl_short (by rw [List.length_take]; omega)), List.append_nil]

def k3 : Disk := (beg s2 3).2
def k4 : Disk := (beg k3 5).2
theorem q0 : (beg s2 3).1 = 5 := by kernel_rfl
theorem q1 : (beg k3 5).1 = 0 := by kernel_rfl
theorem q2 : nums k4.now = [3, 5] := by kernel_rfl
theorem q3 : k4.down = false := by kernel_rfl
theorem e3 : data k4 3 = frames [b1] := by kernel_rfl
theorem e5 : data k4 5 = [] := by kernel_rfl
theorem q4 : replay k4 0 = [b1] := by
  unfold replay
  rw [q2, told, told, told, if_neg (by omega), if_neg (by omega), e3, e5, bats_nil, bats_frames chk1]
  rfl
theorem q5 : replay k4 4 = [] := by
  unfold replay
  rw [q2, told, told, told, if_pos (by omega), if_neg (by omega), e5, bats_nil]
  rfl
theorem q6 : Bn.Bt.chk 2 [] = 1 := by kernel_rfl
def k6 : Disk := (retire k4 5).2
theorem q8 : (retire k4 5).1 = 0 := by kernel_rfl
theorem q9 : nums k6.now = [5] := by kernel_rfl
def t0 : Disk := Dk.fresh 31
def opE : Bn.Ob := ⟨⟨#[97]⟩, ByteArray.empty, false⟩
def t1 : Disk := (beg t0 1099511627776).2
def t2 : Disk := (add t1 1099511627776 (1, [opE])).2
theorem p0 : (beg t0 1099511627776).1 = 0 := by kernel_rfl
theorem p1 : (add t1 1099511627776 (1, [opE])).1 = 6 := by kernel_rfl
theorem p2 : t2.used = 0 := by kernel_rfl

end Go.Proofs.YtfeconankopjmaaGreatDoor.Wl

/- Logs on a plain disk, between crashes and behind them. No function is named. -/
namespace Go.Proofs.YtfeconankopjmaaGreatDoor.Wl
set_option linter.unusedVariables false
open Dk (Dir Chg Disk File Str)

/-! ### names rise as numbers do, of at most eight digits -/
theorem low_before (a b : Nat) : ∀ j, a % 10 ^ j < b % 10 ^ j → bytesBefore (Nn.low a j) (Nn.low b j) = true
  | 0, h => by simp [Nat.mod_one] at h
  | j + 1, h => by
    rw [Nn.mod_pow_succ, Nn.mod_pow_succ] at h
    have h1 := Nn.dg_nat a j
    have h2 := Nn.dg_nat b j
    have ra : a % 10 ^ j < 10 ^ j := Nat.mod_lt _ (Nat.pow_pos (by omega))
    have rb : b % 10 ^ j < 10 ^ j := Nat.mod_lt _ (Nat.pow_pos (by omega))
    have ih := low_before a b j
    rw [Nn.low, Nn.low]
    generalize a / 10 ^ j % 10 = A at *
    generalize b / 10 ^ j % 10 = B at *
    generalize 10 ^ j = P at *
    rcases Nat.lt_trichotomy A B with hl | he | hg
    · have : Lib.dg a j < Lib.dg b j := by rw [UInt8.lt_iff_toNat_lt]; omega
      simp [bytesBefore, this]
    · have e : Lib.dg a j = Lib.dg b j := by rw [← UInt8.toNat_inj]; omega
      rw [he] at h
      simp [bytesBefore, e, ih (by omega)]
    · have := Nat.mul_le_mul_right P (show B + 1 ≤ A by omega)
      rw [Nat.add_mul, Nat.one_mul] at this
      omega
theorem before_append : ∀ (p x y : List UInt8), bytesBefore (p ++ x) (p ++ y) = bytesBefore x y
  | [], _, _ => rfl
  | a :: p, x, y => by
    rw [List.cons_append, List.cons_append, bytesBefore, before_append p x y]
    simp [UInt8.lt_irrefl]
theorem nm_low {n : Nat} (h : n < 100000000) : nm n = word ++ ([46] ++ Nn.low n 8) := by
  have h8 := Nn.nDigits_le 7 n (by omega)
  unfold nm Nn.name Nn.digs
  rw [show max 8 (Lib.nDigits n) = 8 by omega]
  rfl
theorem nm_before {a b : Nat} (hb : b < 100000000) (h : a < b) : bytesBefore (nm a) (nm b) = true := by
  rw [nm_low (show a < 100000000 by omega), nm_low hb, before_append, before_append]
  refine low_before a b 8 ?_
  rw [Nat.mod_eq_of_lt (by omega), Nat.mod_eq_of_lt (by omega)]
  exact h
theorem nm_ne {a b : Nat} (ha : a < 100000000) (hb : b < 100000000) (h : a ≠ b) : nm a ≠ nm b := fun e => by
  have h1 := Nn.num_name word (show a < 18446744073709551616 by omega)
  have h2 := Nn.num_name word (show b < 18446744073709551616 by omega)
  unfold nm at e
  rw [e, h2] at h1
  exact h (by simpa using h1.symm)
theorem okByte_dg (n j : Nat) : Dk.okByte (Lib.dg n j) = true := by
  have h := Nn.dg_nat n j
  have h1 : (48 : UInt8) ≤ Lib.dg n j := by rw [UInt8.le_iff_toNat_le, h]; show 48 ≤ _; omega
  have h2 : Lib.dg n j ≤ 57 := by rw [UInt8.le_iff_toNat_le, h]; show _ ≤ 57; omega
  simp [Dk.okByte, h1, h2]
theorem okByte_low (n : Nat) : ∀ j, (Nn.low n j).all Dk.okByte = true
  | 0 => rfl
  | j + 1 => by rw [Nn.low, List.all_cons, okByte_dg, okByte_low n j]; rfl
theorem isName_nm {n : Nat} (h : n < 100000000) : Dk.isName (nm n) = true := by
  rw [nm_low h]
  have hl := Nn.low_length n 8
  have h1 : (word ++ ([46] ++ Nn.low n 8)).all Dk.okByte = true := by
    rw [List.all_append, List.all_append, okByte_low]
    decide
  have h2 : (word ++ ([46] ++ Nn.low n 8)).length ≤ 24 := by simp [word, hl]
  have h3 : (word ++ ([46] ++ Nn.low n 8)) ≠ [] := by simp [word]
  unfold Dk.isName
  rw [h1, decide_eq_true h2, decide_eq_true h3]
  rfl

/-! ### the directory of logs: numbers, each with its file -/
def dirOf (us : List (Nat × Nat)) : Dir := us.map fun p => (nm p.1, p.2)
abbrev Small (us : List (Nat × Nat)) : Prop := ∀ p ∈ us, p.1 < 100000000
theorem nums_dirOf : ∀ {us : List (Nat × Nat)}, Small us → nums (dirOf us) = us.map (·.1)
  | [], _ => rfl
  | p :: us, h => by
    have ih := nums_dirOf (us := us) fun q hq => h q (List.mem_cons_of_mem _ hq)
    have hp := h p (List.mem_cons_self ..)
    have e : Nn.num word (nm p.1) = some p.1 := Nn.num_name word (by omega)
    unfold nums dirOf at ih ⊢
    rw [List.map_cons, List.filterMap_cons, e]
    simp only [List.map_cons]
    rw [ih]
theorem look_dirOf : ∀ {us : List (Nat × Nat)} {p : Nat × Nat}, Small us → us.Pairwise (·.1 < ·.1) → p ∈ us → Dk.look (nm p.1) (dirOf us) = some p.2
  | q :: us, p, hs, hr, hp => by
    show Dk.look (nm p.1) ((nm q.1, q.2) :: dirOf us) = _
    rw [Dk.look_cons]
    rcases List.mem_cons.1 hp with rfl | hp2
    · rw [if_pos rfl]
    · have hlt := List.rel_of_pairwise_cons hr hp2
      rw [if_neg (nm_ne (hs q (List.mem_cons_self ..)) (hs p hp) (by omega))]
      exact look_dirOf (fun x hx => hs x (List.mem_cons_of_mem _ hx)) (List.Pairwise.of_cons hr) hp2
theorem look_dirOf_none {us : List (Nat × Nat)} {n : Nat} (hs : Small us) (hn : n < 100000000) (h : ∀ p ∈ us, p.1 ≠ n) : Dk.look (nm n) (dirOf us) = none :=
  Dk.look_none fun x hx => by
    obtain ⟨p, hp, rfl⟩ := List.mem_map.1 hx
    exact nm_ne (hs p hp) hn (h p hp)
theorem ins_dirOf {N i : Nat} (hN : N < 100000000) : ∀ {us : List (Nat × Nat)}, Small us → (∀ p ∈ us, p.1 < N) → Dk.ins (nm N, i) (dirOf us) = dirOf (us ++ [(N, i)])
  | [], _, _ => rfl
  | p :: us, hs, h => by
    have ih := ins_dirOf hN (i := i) (us := us) (fun x hx => hs x (List.mem_cons_of_mem _ hx)) fun x hx => h x (List.mem_cons_of_mem _ hx)
    have hp := h p (List.mem_cons_self ..)
    have hb : bytesBefore (nm N) (nm p.1) = false := by
      cases e : bytesBefore (nm N) (nm p.1) with
      | false => rfl
      | true =>
        have := WideShapes.bytes_trans _ _ _ e (nm_before hN hp)
        rw [WideAt.bytes_irrefl] at this
        cases this
    show Dk.ins (nm N, i) ((nm p.1, p.2) :: dirOf us) = (nm p.1, p.2) :: dirOf (us ++ [(N, i)])
    rw [Dk.ins, hb, ← ih]
    rfl
theorem put_dirOf {N i : Nat} (hN : N < 100000000) {us : List (Nat × Nat)} (hs : Small us) (h : ∀ p ∈ us, p.1 < N) : Dk.put (nm N) i (dirOf us) = dirOf (us ++ [(N, i)]) := by
  have e : Dk.del (nm N) (dirOf us) = dirOf us := by
    unfold Dk.del
    rw [List.filter_eq_self]
    intro x hx
    obtain ⟨p, hp, rfl⟩ := List.mem_map.1 hx
    have := nm_ne (hs p hp) hN (by have := h p hp; omega)
    simp [this]
  unfold Dk.put
  rw [e]
  exact ins_dirOf hN hs h

/-! ### nothing is under way -/
/-- These logs are there, and they last whole. -/
structure Calm (S : Disk) (us : List (Nat × Nat)) : Prop where
  now : S.now = dirOf us
  old : S.lasting = dirOf us
  chg : S.changes = []
  rise : us.Pairwise (·.1 < ·.1)
  small : Small us
  ids : ∀ p ∈ us, p.2 < S.next
  uniq : us.Pairwise (·.2 ≠ ·.2)
  lasts : ∀ p ∈ us, (S.file p.2).lasts = (S.file p.2).data.length
/-- What the logs have. -/
def holds (F : Nat → File) (us : List (Nat × Nat)) : List Bat := us.flatMap fun p => bats (F p.2).data
theorem holds_congr {F G : Nat → File} : ∀ {us : List (Nat × Nat)}, (∀ p ∈ us, F p.2 = G p.2) → holds F us = holds G us
  | [], _ => rfl
  | p :: us, h => by
    unfold holds at *
    rw [List.flatMap_cons, List.flatMap_cons, h p (List.mem_cons_self ..)]
    congr 1
    exact holds_congr fun q hq => h q (List.mem_cons_of_mem _ hq)
theorem holds_snoc (F : Nat → File) (us : List (Nat × Nat)) (p : Nat × Nat) : holds F (us ++ [p]) = holds F us ++ bats (F p.2).data := by unfold holds; simp
theorem Calm.like {S T : Disk} {us : List (Nat × Nat)} (C : Calm S us) (h1 : T.now = S.now) (h2 : T.lasting = S.lasting) (h3 : T.changes = S.changes) (h4 : T.file = S.file) (h5 : T.next = S.next) : Calm T us :=
  ⟨h1.trans C.now, h2.trans C.old, h3.trans C.chg, C.rise, C.small, by rw [h5]; exact C.ids, C.uniq, by rw [h4]; exact C.lasts⟩
theorem burn_same (S : Disk) : S.burn.now = S.now ∧ S.burn.lasting = S.lasting ∧ S.burn.changes = S.changes ∧ S.burn.file = S.file ∧ S.burn.next = S.next ∧ S.burn.used = S.used ∧ S.burn.room = S.room := by
  unfold Disk.burn
  split <;> exact ⟨rfl, rfl, rfl, rfl, rfl, rfl, rfl⟩
theorem Calm.burn {S : Disk} {us : List (Nat × Nat)} (C : Calm S us) : Calm S.burn us := by
  obtain ⟨h1, h2, h3, h4, h5, _⟩ := burn_same S
  exact C.like h1 h2 h3 h4 h5
theorem burn_on {S : Disk} (hd : S.down = false) (hb : S.burnt = false) : S.burn.down = false := by
  unfold Disk.burn
  split
  · exact hd
  · exact hb
theorem Calm.nums {S : Disk} {us : List (Nat × Nat)} (C : Calm S us) : nums S.now = us.map (·.1) := by rw [C.now]; exact nums_dirOf C.small
theorem Calm.data {S : Disk} {us : List (Nat × Nat)} (C : Calm S us) (hd : S.down = false) {p : Nat × Nat} (hp : p ∈ us) : data S p.1 = (S.file p.2).data := by
  unfold Wl.data Disk.read
  rw [if_neg (by simp [hd]), C.now, look_dirOf C.small C.rise hp]
theorem Calm.replay {S : Disk} {us : List (Nat × Nat)} (C : Calm S us) (hd : S.down = false) : replay S 0 = holds S.file us := by
  have key : ∀ l : List (Nat × Nat), (∀ p ∈ l, p ∈ us) → told S 0 (l.map (·.1)) = holds S.file l := by
    intro l
    induction l with
    | nil => intro _; rfl
    | cons p l ih =>
      intro h
      rw [List.map_cons, told, if_neg (by omega), C.data hd (h p (List.mem_cons_self ..)), ih fun q hq => h q (List.mem_cons_of_mem _ hq)]
      rfl
  unfold Wl.replay
  rw [C.nums]
  exact key us fun _ h => h

/-! ### what a crash leaves -/
def back (S : Disk) (c : Dk.Crash) : Disk := ((S.crash c).start).light 0
theorem tails_still (ks : List Int) (sp : List (Int × Nat)) : ∀ (d : Dir) (k : Nat) (G : Nat → File), (∀ p ∈ d, (G p.2).lasts = (G p.2).data.length) → Dk.tails ks sp d k G = G
  | [], _, _, _ => rfl
  | p :: r, k, G, h => by
    unfold Dk.tails
    rw [if_pos (h p (List.mem_cons_self ..))]
    exact tails_still ks sp r k G fun q hq => h q (List.mem_cons_of_mem _ hq)
/-- So many logs, of numbers not above that. -/
def Most (us : List (Nat × Nat)) (M : Nat) : Prop := us.length ≤ M ∧ ∀ p ∈ us, p.1 ≤ M
/-- Whatever a crash leaves: these batches, or these and the one under way. -/
def Fin (S : Disk) (M : Nat) (T U : List Bat) : Prop := ∀ c, ∃ us, Calm (back S c) us ∧ Most us M ∧ (holds (back S c).file us = T ∨ ∃ b, U = [b] ∧ holds (back S c).file us = T ++ [b])
theorem fin_calm {S : Disk} {us : List (Nat × Nat)} {M : Nat} {T : List Bat} (U : List Bat) (C : Calm S us) (hm : Most us M) (hT : holds S.file us = T) : Fin S M T U := by
  intro c
  have hL : Dk.runs (S.changes.take (Dk.held c.names S.changes.length).toNat) S.lasting = dirOf us := by rw [C.chg, List.take_nil]; exact C.old
  have hF : (back S c).file = S.file := by
    show Dk.tails c.keep c.spoil _ 0 S.file = S.file
    rw [hL]
    refine tails_still _ _ _ _ _ fun p hp => ?_
    obtain ⟨q, hq, rfl⟩ := List.mem_map.1 hp
    exact C.lasts q hq
  refine ⟨us, ⟨hL, hL, rfl, C.rise, C.small, C.ids, C.uniq, by rw [hF]; exact C.lasts⟩, hm, Or.inl ?_⟩
  rw [hF]; exact hT

/-- Where two rows first differ. -/
theorem first_diff (P : Nat → Prop) : ∀ L, ∃ h, h ≤ L ∧ (∀ i, i < h → P i) ∧ (h < L → ¬ P h)
  | 0 => ⟨0, Nat.le_refl _, fun i hi => by omega, fun h => by omega⟩
  | L + 1 => by
    obtain ⟨h, h1, h2, h3⟩ := first_diff P L
    rcases Nat.lt_or_ge h L with hl | hl
    · exact ⟨h, by omega, h2, fun _ => h3 hl⟩
    · obtain rfl : h = L := by omega
      by_cases hp : P h
      · exact ⟨h + 1, Nat.le_refl _, fun i hi => by
          rcases Nat.lt_or_ge i h with hi2 | hi2
          · exact h2 i hi2
          · obtain rfl : i = h := by omega
            exact hp, fun h => by omega⟩
      · exact ⟨h, by omega, h2, fun _ => hp⟩
theorem turn_out (t : Str) (x : Int) (m : Nat) : ∃ a, ∀ i, (i < a ∨ a + 4 ≤ i) → (Dk.turn t x m)[i]? = t[i]? := by
  refine ⟨(x % (t.length : Int)).toNat, fun i hi => ?_⟩
  unfold Dk.turn
  rw [List.getElem?_mapIdx]
  cases t[i]? with
  | none => rfl
  | some y =>
    simp only [Option.map_some]
    rw [if_neg (by omega)]
/-- A frame that is cut, four bytes of it turned: it is there, or not. -/
theorem bats_tail {cs : List Bat} {b : Bat} (h : ∀ x ∈ cs ++ [b], chk x = 0) (n : Nat) (u : Str) (hu : u.length = ((cell b).take n).length) (ha : ∃ a, ∀ i, (i < a ∨ a + 4 ≤ i) → u[i]? = ((cell b).take n)[i]?) :
    bats (frames cs ++ u) = cs ∨ bats (frames cs ++ u) = cs ++ [b] := by
  obtain ⟨a, ha⟩ := ha
  obtain ⟨t, ht⟩ : ∃ t, t = frames cs ++ (cell b).take n := ⟨_, rfl⟩
  have hrs := rows_small h
  have hfr : Cr.frames ((cs ++ [b]).map row) = frames cs ++ cell b := by rw [← frames_eq, frames_snoc]
  have hfc : Cr.frames (cs.map row) = frames cs := (frames_eq cs).symm
  have htl : t.length = (frames cs).length + ((cell b).take n).length := by rw [ht, List.length_append]
  have htk : t = (Cr.frames ((cs ++ [b]).map row)).take t.length := by
    rw [htl, hfr, List.take_append, List.take_of_length_le (show (frames cs).length ≤ _ by omega), show (frames cs).length + ((cell b).take n).length - (frames cs).length = ((cell b).take n).length by omega, ht]
    congr 1
    rw [List.length_take]
    rcases Nat.le_total n (cell b).length with hh | hh
    · rw [Nat.min_eq_left hh]
    · rw [Nat.min_eq_right hh, List.take_of_length_le hh, List.take_length]
  have hul : (frames cs ++ u).length = t.length := by rw [List.length_append, htl, hu]
  have hlow : ∀ i, i < (frames cs).length → (frames cs ++ u)[i]? = t[i]? := fun i hi => by rw [ht, List.getElem?_append_left hi, List.getElem?_append_left hi]
  have hout : ∀ i, (i < (frames cs).length + a ∨ (frames cs).length + a + 4 ≤ i) → (frames cs ++ u)[i]? = t[i]? := fun i hi => by
    rcases Nat.lt_or_ge i (frames cs).length with hl | hl
    · exact hlow i hl
    · rw [ht, List.getElem?_append_right hl, List.getElem?_append_right hl]
      exact ha _ (by omega)
  obtain ⟨harm, h1, h2, h3⟩ := first_diff (fun i => (frames cs ++ u)[i]? = t[i]?) t.length
  have hge : (frames cs).length ≤ harm := by
    rcases Nat.lt_or_ge harm (frames cs).length with hl | hl
    · exact absurd (hlow harm hl) (h3 (by omega))
    · exact hl
  have hlen : ((cs ++ [b]).map row).length = cs.length + 1 := by simp
  have tk : ((cs ++ [b]).map row).take cs.length = cs.map row := by simp
  have tk1 : ((cs ++ [b]).map row).take (cs.length + 1) = (cs ++ [b]).map row := by rw [← hlen, List.take_length]
  by_cases hall : (frames cs).length + (cell b).length ≤ harm
  · right
    have e := Cr.rda_tail hrs htk hul hout h2 h1 h3 (n := cs.length + 1) (by rw [hlen]; omega) (by rw [tk1, hfr, List.length_append]; exact hall) (fun hl => by rw [hlen] at hl; omega)
    unfold bats
    rw [e, tk1]
    have := upto_rows (cs ++ [b]) h []
    rwa [List.append_nil, show upto [] = [] from rfl, List.append_nil] at this
  · left
    have e := Cr.rda_tail hrs htk hul hout h2 h1 h3 (n := cs.length) (by rw [hlen]; omega) (by rw [tk, hfc]; exact hge) (fun _ => by rw [tk1, hfr, List.length_append]; omega)
    unfold bats
    rw [e, tk]
    have := upto_rows cs (fun x hx => h x (List.mem_append_left _ hx)) []
    rwa [List.append_nil, show upto [] = [] from rfl, List.append_nil] at this

end Go.Proofs.YtfeconankopjmaaGreatDoor.Wl

/- What Begin and Add make of logs on a plain disk, and what a crash may leave then. No function is named. -/
namespace Go.Proofs.YtfeconankopjmaaGreatDoor.Wl
set_option linter.unusedVariables false
open Dk (Dir Chg Disk File Str)

theorem uniq_last {us : List (Nat × Nat)} {k i : Nat} (h : (us ++ [(k, i)]).Pairwise (·.2 ≠ ·.2)) : ∀ p ∈ us, p.2 ≠ i := fun p hp => by
  rw [List.pairwise_append] at h
  exact h.2.2 p hp (k, i) (List.mem_singleton.2 rfl)
theorem cell_pos (b : Bat) : 0 < (cell b).length := by
  unfold cell
  rw [Cr.frame_length]
  have := Cr.cells_pos (row b)
  omega
/-- A batch that was appended, and not synced. -/
theorem fin_tail {S S0 : Disk} {us : List (Nat × Nat)} {k i M : Nat} {cs T : List Bat} {b : Bat} (C : Calm S0 (us ++ [(k, i)])) (hm : Most (us ++ [(k, i)]) M) (hd : (S0.file i).data = frames cs) (hc : ∀ x ∈ cs ++ [b], chk x = 0) (hT : holds S0.file us ++ cs = T)
    (h1 : S.now = S0.now) (h2 : S.lasting = S0.lasting) (h3 : S.changes = S0.changes) (h4 : S.file = Dk.upd S0.file i ⟨frames cs ++ cell b, (S0.file i).lasts⟩) (h5 : S.next = S0.next) : Fin S M T [b] := by
  intro c
  have hi : (k, i) ∈ us ++ [(k, i)] := List.mem_append_right _ (List.mem_singleton.2 rfl)
  have hl0 : (S0.file i).lasts = (frames cs).length := by rw [← hd]; exact C.lasts _ hi
  have hL : Dk.runs (S.changes.take (Dk.held c.names S.changes.length).toNat) S.lasting = dirOf (us ++ [(k, i)]) := by rw [h3, C.chg, List.take_nil, h2]; exact C.old
  have hfi : S.file i = ⟨frames cs ++ cell b, (frames cs).length⟩ := by rw [h4, Dk.upd_same, hl0]
  have hoth : ∀ p ∈ us, S.file p.2 = S0.file p.2 := fun p hp => by rw [h4, Dk.upd_other (uniq_last C.uniq p hp)]
  have hF : (back S c).file = Dk.tails c.keep c.spoil (dirOf (us ++ [(k, i)])) 0 S.file := by
    show Dk.tails c.keep c.spoil _ 0 S.file = _
    rw [hL]
  have hpos := cell_pos b
  have hne : (S.file i).lasts ≠ (S.file i).data.length := by rw [hfi]; dsimp only; rw [List.length_append]; omega
  have hle : (S.file i).lasts ≤ (S.file i).data.length := by rw [hfi]; dsimp only; rw [List.length_append]; omega
  have hus : ∀ p ∈ us, (back S c).file p.2 = S0.file p.2 := fun p hp => by
    have hpl : (S.file p.2).lasts = (S.file p.2).data.length := by rw [hoth p hp]; exact C.lasts p (List.mem_append_left _ hp)
    rw [hF]
    rcases Dk.tails_at c.keep c.spoil p.2 (dirOf (us ++ [(k, i)])) 0 S.file (by omega) ⟨(nm p.1, p.2), List.mem_map.2 ⟨p, List.mem_append_left _ hp, rfl⟩, rfl⟩ with ⟨_, e⟩ | ⟨e, _⟩
    · rw [e, hoth p hp]
    · exact absurd hpl e
  obtain ⟨k', hk'⟩ : ∃ k', (back S c).file i = Dk.left (S.file i) c.keep c.spoil k' := by
    rw [hF]
    rcases Dk.tails_at c.keep c.spoil i (dirOf (us ++ [(k, i)])) 0 S.file hle ⟨(nm k, i), List.mem_map.2 ⟨(k, i), hi, rfl⟩, rfl⟩ with ⟨e, _⟩ | ⟨_, k', e⟩
    · exact absurd e hne
    · exact ⟨k', e⟩
  have hlast : ((back S c).file i).lasts = ((back S c).file i).data.length := by rw [hk']; exact Dk.left_lasts _ hle _ _ _
  refine ⟨us ++ [(k, i)], ⟨hL, hL, rfl, C.rise, C.small, by show ∀ p ∈ us ++ [(k, i)], p.2 < S.next; rw [h5]; exact C.ids, C.uniq, fun p hp => ?_⟩, hm, ?_⟩
  · rcases List.mem_append.1 hp with hp | hp
    · rw [hus p hp]; exact C.lasts p (List.mem_append_left _ hp)
    · rw [List.mem_singleton.1 hp]; exact hlast
  · rw [holds_snoc, holds_congr hus]
    have hdat : ∃ (n : Nat) (u : Str), ((back S c).file i).data = frames cs ++ u ∧ u.length = ((cell b).take n).length ∧ ∃ a, ∀ j, (j < a ∨ a + 4 ≤ j) → u[j]? = ((cell b).take n)[j]? := by
      rw [hk', Dk.left_is, hfi]
      dsimp only
      rw [List.take_left', List.drop_left']
      · generalize Dk.keptN ⟨frames cs ++ cell b, (frames cs).length⟩ c.keep k' = n
        split
        · exact ⟨n, _, rfl, rfl, 0, fun _ _ => rfl⟩
        · refine ⟨n, _, rfl, Dk.kept_length _ _ _, ?_⟩
          unfold Dk.kept
          split
          · exact turn_out _ _ _
          · exact ⟨0, fun _ _ => rfl⟩
      · rfl
      · rfl
    obtain ⟨n, u, e1, e2, e3⟩ := hdat
    dsimp only
    rw [e1]
    rcases bats_tail hc n u e2 e3 with e | e
    · left; rw [e, hT]
    · right; exact ⟨b, rfl, by rw [e, ← hT, List.append_assoc]⟩

theorem Calm.snoc {S : Disk} {us : List (Nat × Nat)} {N i : Nat} (hr : us.Pairwise (·.1 < ·.1)) (hs : Small us) (hN : N < 100000000) (h : ∀ p ∈ us, p.1 < N) (hi : ∀ p ∈ us, p.2 < i) (hu : us.Pairwise (·.2 ≠ ·.2)) :
    (us ++ [(N, i)]).Pairwise (·.1 < ·.1) ∧ Small (us ++ [(N, i)]) ∧ (us ++ [(N, i)]).Pairwise (·.2 ≠ ·.2) := by
  refine ⟨List.pairwise_append.2 ⟨hr, List.pairwise_singleton _ _, fun p hp q hq => by rw [List.mem_singleton.1 hq]; exact h p hp⟩, fun p hp => ?_, List.pairwise_append.2 ⟨hu, List.pairwise_singleton _ _, fun p hp q hq => by rw [List.mem_singleton.1 hq]; have := hi p hp; show p.2 ≠ i; omega⟩⟩
  rcases List.mem_append.1 hp with hp | hp
  · exact hs p hp
  · rw [List.mem_singleton.1 hp]; exact hN
/-- A log's file that was created, and its name not synced. -/
theorem fin_create {S S0 : Disk} {us : List (Nat × Nat)} {N M : Nat} {T : List Bat} (U : List Bat) (C : Calm S0 us) (hm : Most us M) (hN : N < 100000000) (hN2 : N ≤ M + 1) (hgt : ∀ p ∈ us, p.1 < N) (hT : holds S0.file us = T)
    (h2 : S.lasting = S0.lasting) (h3 : S.changes = [⟨[], nm N, some S0.next⟩]) (h4 : S.file = Dk.upd S0.file S0.next ⟨[], 0⟩) (h5 : S.next = S0.next + 1) : Fin S (M + 1) T U := by
  intro c
  have hput := put_dirOf (i := S0.next) hN C.small hgt
  have hoth : ∀ p ∈ us, S.file p.2 = S0.file p.2 := fun p hp => by
    have := C.ids p hp
    rw [h4, Dk.upd_other (by omega)]
  have hnew : S.file S0.next = ⟨[], 0⟩ := by rw [h4, Dk.upd_same]
  have hstill : ∀ p ∈ us ++ [(N, S0.next)], (S.file p.2).lasts = (S.file p.2).data.length := fun p hp => by
    rcases List.mem_append.1 hp with hp | hp
    · rw [hoth p hp]; exact C.lasts p hp
    · rw [List.mem_singleton.1 hp]; dsimp only; rw [hnew]; rfl
  have hmost : Most (us ++ [(N, S0.next)]) (M + 1) := ⟨by rw [List.length_append]; have := hm.1; simp; omega, fun p hp => by
    rcases List.mem_append.1 hp with hp | hp
    · have := hm.2 p hp; omega
    · rw [List.mem_singleton.1 hp]; exact hN2⟩
  have hn : (Dk.held c.names S.changes.length).toNat = 0 ∨ (Dk.held c.names S.changes.length).toNat = 1 := by
    rw [h3]
    unfold Dk.held
    simp only [List.length_singleton]
    omega
  have hrun : Chg.run ⟨[], nm N, some S0.next⟩ (dirOf us) = dirOf (us ++ [(N, S0.next)]) := by
    have hne : nm N ≠ [] := by rw [nm_low hN]; simp [word]
    unfold Chg.run Chg.file
    simp only [if_true, if_neg hne]
    exact hput
  rcases hn with hn | hn
  · have hL : Dk.runs (S.changes.take (Dk.held c.names S.changes.length).toNat) S.lasting = dirOf us := by rw [hn, List.take_zero, h2]; exact C.old
    have hF : (back S c).file = S.file := by
      show Dk.tails c.keep c.spoil _ 0 S.file = S.file
      rw [hL]
      refine tails_still _ _ _ _ _ fun p hp => ?_
      obtain ⟨q, hq, rfl⟩ := List.mem_map.1 hp
      exact hstill q (List.mem_append_left _ hq)
    refine ⟨us, ⟨hL, hL, rfl, C.rise, C.small, fun p hp => by show p.2 < S.next; have := C.ids p hp; omega, C.uniq, fun p hp => by rw [hF]; exact hstill p (List.mem_append_left _ hp)⟩, ⟨by have := hm.1; omega, fun p hp => by have := hm.2 p hp; omega⟩, Or.inl ?_⟩
    rw [hF, holds_congr hoth]; exact hT
  · have hL : Dk.runs (S.changes.take (Dk.held c.names S.changes.length).toNat) S.lasting = dirOf (us ++ [(N, S0.next)]) := by
      rw [hn, h3, h2, C.old]
      exact hrun
    have hF : (back S c).file = S.file := by
      show Dk.tails c.keep c.spoil _ 0 S.file = S.file
      rw [hL]
      refine tails_still _ _ _ _ _ fun p hp => ?_
      obtain ⟨q, hq, rfl⟩ := List.mem_map.1 hp
      exact hstill q hq
    obtain ⟨q1, q2, q3⟩ := Calm.snoc (S := S0) C.rise C.small hN hgt C.ids C.uniq
    refine ⟨us ++ [(N, S0.next)], ⟨hL, hL, rfl, q1, q2, fun p hp => ?_, q3, fun p hp => by rw [hF]; exact hstill p hp⟩, hmost, Or.inl ?_⟩
    · show p.2 < S.next
      rcases List.mem_append.1 hp with hp | hp
      · have := C.ids p hp; omega
      · rw [List.mem_singleton.1 hp]; dsimp only; omega
    · rw [hF, holds_snoc, holds_congr hoth, hT]
      dsimp only
      rw [hnew]
      show T ++ bats [] = T
      rw [bats_nil, List.append_nil]

/-- The number of the next log. -/
def nxt (us : List Nat) : Nat := match us.getLast? with
  | some n => n + 1
  | none => 1
theorem nxt_gt {us : List (Nat × Nat)} (hr : us.Pairwise (·.1 < ·.1)) : ∀ p ∈ us, p.1 < nxt (us.map (·.1)) := by
  intro p hp
  unfold nxt
  rw [List.getLast?_map]
  cases hl : us.getLast? with
  | none => rw [List.getLast?_eq_none_iff] at hl; rw [hl] at hp; simp at hp
  | some q =>
    obtain ⟨l, rfl⟩ := List.getLast?_eq_some_iff.1 hl
    simp only [Option.map_some]
    rcases List.mem_append.1 hp with hp | hp
    · have := (List.pairwise_append.1 hr).2.2 p hp q (List.mem_singleton.2 rfl)
      omega
    · rw [List.mem_singleton.1 hp]; omega
theorem nxt_le {us : List (Nat × Nat)} {M : Nat} (hm : Most us M) : nxt (us.map (·.1)) ≤ M + 1 := by
  unfold nxt
  rw [List.getLast?_map]
  cases hl : us.getLast? with
  | none => simp
  | some q =>
    obtain ⟨l, rfl⟩ := List.getLast?_eq_some_iff.1 hl
    have := hm.2 q (List.mem_append_right _ (List.mem_singleton.2 rfl))
    simp only [Option.map_some]
    omega

/-- A log is begun, or the power is gone. -/
theorem beg_step {S : Disk} {us : List (Nat × Nat)} {M : Nat} {T : List Bat} (C : Calm S us) (hd : S.down = false) (hm : Most us M) (hM : M < 99999999) (hT : holds S.file us = T) :
    (∃ S' : Disk, beg S (nxt (us.map (·.1))) = (0, S') ∧ S'.down = false ∧ Calm S' (us ++ [(nxt (us.map (·.1)), S.next)]) ∧ (S'.file S.next).data = [] ∧ holds S'.file us = T ∧ Most (us ++ [(nxt (us.map (·.1)), S.next)]) (M + 1)) ∨
    ∃ S' : Disk, beg S (nxt (us.map (·.1))) = (7, S') ∧ ∀ U, Fin S' (M + 1) T U := by
  have hgt := nxt_gt C.rise
  have hle := nxt_le hm
  generalize nxt (us.map (·.1)) = N at *
  have hN : N < 100000000 := by omega
  have hlook : Dk.look (nm N) S.now = none := by rw [C.now]; exact look_dirOf_none C.small hN fun p hp => by have := hgt p hp; omega
  obtain ⟨b1, b2, b3, b4, b5, _⟩ := burn_same S
  have hcr : S.create (nm N) = if S.burnt then (7, S.burn) else (0, S.burn.with.did ⟨[], nm N, some S.next⟩ none) := by
    unfold Disk.create
    rw [if_neg (by simp [hd]), isName_nm hN, hlook]
    simp
  cases hb : S.burnt with
  | true =>
    right
    refine ⟨S.burn, ?_, fun U => fin_calm U C.burn ⟨by have := hm.1; omega, fun p hp => by have := hm.2 p hp; omega⟩ (by rw [b4]; exact hT)⟩
    unfold beg
    rw [hcr, hb]
    rfl
  | false =>
    obtain ⟨X, hX⟩ : ∃ X, X = S.burn.with.did ⟨[], nm N, some S.next⟩ none := ⟨_, rfl⟩
    have hbeg : beg S N = X.dirSync := by
      unfold beg
      rw [hcr, hb, hX]
      rfl
    have x1 : X.down = false := by rw [hX]; exact burn_on hd hb
    have x2 : X.lasting = S.lasting := by rw [hX]; exact b2
    have x3 : X.changes = [⟨[], nm N, some S.next⟩] := by rw [hX]; show S.burn.changes ++ _ = _; rw [b3, C.chg]; rfl
    have x4 : X.file = Dk.upd S.file S.next ⟨[], 0⟩ := by rw [hX]; show Dk.upd S.burn.file S.burn.next _ = _; rw [b4, b5]
    have x5 : X.next = S.next + 1 := by rw [hX]; show S.burn.next + 1 = _; rw [b5]
    have hoth : ∀ p ∈ us, X.file p.2 = S.file p.2 := fun p hp => by
      have := C.ids p hp
      rw [x4, Dk.upd_other (by omega)]
    obtain ⟨y1, y2, y3, y4, y5, _⟩ := burn_same X
    rw [hbeg]
    have hds : X.dirSync = if X.burnt then (7, X.burn) else (0, X.burn.keep X.changes.length) := by unfold Disk.dirSync; rw [if_neg (by simp [x1])]
    rw [hds]
    cases hb2 : X.burnt with
    | true =>
      right
      exact ⟨X.burn, rfl, fun U => fin_create U C hm hN hle hgt hT (y2.trans x2) (y3.trans x3) (y4.trans x4) (y5.trans x5)⟩
    | false =>
      left
      have hput := put_dirOf (i := S.next) hN C.small hgt
      have hne : nm N ≠ [] := by rw [nm_low hN]; simp [word]
      have hrun : Chg.run ⟨[], nm N, some S.next⟩ (dirOf us) = dirOf (us ++ [(N, S.next)]) := by
        unfold Chg.run Chg.file
        simp only [if_true, if_neg hne]
        exact hput
      have hnow : X.burn.now = dirOf (us ++ [(N, S.next)]) := by
        have hdn : ∀ (D : Disk) (c : Chg), (D.with.did c none).now = c.run D.now := fun _ _ => rfl
        rw [y1, hX, hdn, b1, C.now]
        exact hrun
      have hold : (X.burn.keep X.changes.length).lasting = dirOf (us ++ [(N, S.next)]) := by
        show Dk.runs (X.burn.changes.take X.changes.length) X.burn.lasting = _
        rw [y3, y2, x3, x2, C.old]
        exact hrun
      obtain ⟨q1, q2, q3⟩ := Calm.snoc (S := S) C.rise C.small hN hgt C.ids C.uniq
      have hf : (X.burn.keep X.changes.length).file = X.file := y4
      refine ⟨X.burn.keep X.changes.length, rfl, burn_on x1 hb2, ⟨hnow, hold, rfl, q1, q2, fun p hp => ?_, q3, fun p hp => ?_⟩, by rw [hf, x4, Dk.upd_same], by rw [hf, holds_congr hoth]; exact hT, ⟨by rw [List.length_append]; have := hm.1; simp; omega, fun p hp => ?_⟩⟩
      · show p.2 < X.burn.next
        rw [y5, x5]
        rcases List.mem_append.1 hp with hp | hp
        · have := C.ids p hp; omega
        · rw [List.mem_singleton.1 hp]; dsimp only; omega
      · rw [hf]
        rcases List.mem_append.1 hp with hp | hp
        · rw [hoth p hp]; exact C.lasts p hp
        · rw [List.mem_singleton.1 hp]; dsimp only; rw [x4, Dk.upd_same]; rfl
      · rcases List.mem_append.1 hp with hp | hp
        · have := hm.2 p hp; omega
        · rw [List.mem_singleton.1 hp]; exact hle

/-- A log is being added to: k is its number, i its file, cs its batches; T: what all logs have. -/
structure Mid (S : Disk) (us : List (Nat × Nat)) (k i M : Nat) (cs T : List Bat) : Prop where
  calm : Calm S (us ++ [(k, i)])
  on : S.down = false
  most : Most (us ++ [(k, i)]) M
  dat : (S.file i).data = frames cs
  sound : ∀ x ∈ cs, chk x = 0
  all : holds S.file us ++ cs = T
theorem Mid.held {S : Disk} {us : List (Nat × Nat)} {k i M : Nat} {cs T : List Bat} (h : Mid S us k i M cs T) : holds S.file (us ++ [(k, i)]) = T := by
  rw [holds_snoc]
  dsimp only
  rw [h.dat, bats_frames h.sound]
  exact h.all
theorem Mid.fin {S : Disk} {us : List (Nat × Nat)} {k i M : Nat} {cs T : List Bat} (U : List Bat) (h : Mid S us k i M cs T) : Fin S M T U := fin_calm U h.calm h.most h.held
/-- A batch is added: it is told, or nothing was changed, or the power is gone. -/
theorem add_step {S : Disk} {us : List (Nat × Nat)} {k i M : Nat} {cs T : List Bat} (h : Mid S us k i M cs T) (b : Bat) :
    (∃ e : Int, add S k b = (e, S) ∧ e ≠ 0 ∧ e ≠ 7 ∧ (e = 6 ∨ e = chk b)) ∨ (∃ S' : Disk, add S k b = (0, S') ∧ Mid S' us k i M (cs ++ [b]) (T ++ [b])) ∨ ∃ S' : Disk, add S k b = (7, S') ∧ Fin S' M T [b] := by
  by_cases hc : chk b = 0
  · have hi : (k, i) ∈ us ++ [(k, i)] := List.mem_append_right _ (List.mem_singleton.2 rfl)
    have hlook : ∀ D : Disk, D.now = S.now → Dk.look (nm k) D.now = some i := fun D e => by rw [e, h.calm.now]; exact look_dirOf (p := (k, i)) h.calm.small h.calm.rise hi
    have hadd : add S k b = put S k (cell b) := if_pos hc
    rw [hadd]
    obtain ⟨b1, b2, b3, b4, b5, _⟩ := burn_same S
    have hap : S.append (nm k) (cell b) = if ((cell b).length : Int) > S.room - S.used then (6, S) else if S.burnt then (7, S.burn) else (0, { S.burn.setFile i ⟨(S.file i).data ++ cell b, (S.file i).lasts⟩ with used := S.used + (cell b).length }) := by
      unfold Disk.append
      rw [if_neg (by simp [h.on]), hlook S rfl]
    have hsound : ∀ x ∈ cs ++ [b], chk x = 0 := fun x hx => by
      rcases List.mem_append.1 hx with hx | hx
      · exact h.sound x hx
      · rw [List.mem_singleton.1 hx]; exact hc
    by_cases hfull : ((cell b).length : Int) > S.room - S.used
    · left
      refine ⟨6, ?_, by decide, by decide, Or.inl rfl⟩
      unfold put
      rw [hap, if_pos hfull]
      rfl
    · rw [if_neg hfull] at hap
      cases hb : S.burnt with
      | true =>
        right; right
        refine ⟨S.burn, ?_, fin_calm _ h.calm.burn h.most (by rw [b4]; exact h.held)⟩
        unfold put
        rw [hap, hb]
        rfl
      | false =>
        right
        obtain ⟨X, hX⟩ : ∃ X, X = ({ S.burn.setFile i ⟨(S.file i).data ++ cell b, (S.file i).lasts⟩ with used := S.used + (cell b).length } : Disk) := ⟨_, rfl⟩
        have hput : put S k (cell b) = X.sync (nm k) := by
          unfold put
          rw [hap, hb, hX]
          rfl
        have x0 : X.down = false := by rw [hX]; exact burn_on h.on hb
        have x1 : X.now = S.now := by rw [hX]; exact b1
        have x2 : X.lasting = S.lasting := by rw [hX]; exact b2
        have x3 : X.changes = S.changes := by rw [hX]; exact b3
        have x4 : X.file = Dk.upd S.file i ⟨frames cs ++ cell b, (S.file i).lasts⟩ := by rw [hX]; show Dk.upd S.burn.file i _ = _; rw [b4, h.dat]
        have x5 : X.next = S.next := by rw [hX]; exact b5
        obtain ⟨y1, y2, y3, y4, y5, _⟩ := burn_same X
        have hsy : X.sync (nm k) = if X.burnt then (7, X.burn) else (0, X.burn.setFile i ⟨(X.file i).data, (X.file i).data.length⟩) := by
          unfold Disk.sync
          rw [if_neg (by simp [x0]), hlook X x1]
        rw [hput, hsy]
        cases hb2 : X.burnt with
        | true =>
          right
          exact ⟨X.burn, rfl, fin_tail h.calm h.most h.dat hsound h.all (y1.trans x1) (y2.trans x2) (y3.trans x3) (y4.trans x4) (y5.trans x5)⟩
        | false =>
          left
          have hxi : X.file i = ⟨frames cs ++ cell b, (S.file i).lasts⟩ := by rw [x4, Dk.upd_same]
          obtain ⟨Z, hZ⟩ : ∃ Z, Z = X.burn.setFile i ⟨(X.file i).data, (X.file i).data.length⟩ := ⟨_, rfl⟩
          have z4 : Z.file = Dk.upd X.file i ⟨frames cs ++ cell b, (frames cs ++ cell b).length⟩ := by rw [hZ]; show Dk.upd X.burn.file i _ = _; rw [y4, hxi]
          have hoth : ∀ p ∈ us, Z.file p.2 = S.file p.2 := fun p hp => by
            have hne := uniq_last h.calm.uniq p hp
            rw [z4, Dk.upd_other hne, x4, Dk.upd_other hne]
          have hzi : Z.file i = ⟨frames cs ++ cell b, (frames cs ++ cell b).length⟩ := by rw [z4, Dk.upd_same]
          refine ⟨X.burn.setFile i ⟨(X.file i).data, (X.file i).data.length⟩, rfl, ?_⟩
          rw [← hZ]
          refine ⟨⟨?_, ?_, ?_, h.calm.rise, h.calm.small, ?_, h.calm.uniq, fun p hp => ?_⟩, ?_, h.most, ?_, hsound, ?_⟩
          · rw [hZ]; exact (y1.trans x1).trans h.calm.now
          · rw [hZ]; exact (y2.trans x2).trans h.calm.old
          · rw [hZ]; exact (y3.trans x3).trans h.calm.chg
          · rw [hZ]; show ∀ p ∈ us ++ [(k, i)], p.2 < X.burn.next; rw [y5, x5]; exact h.calm.ids
          · rcases List.mem_append.1 hp with hp | hp
            · rw [hoth p hp]; exact h.calm.lasts p (List.mem_append_left _ hp)
            · rw [List.mem_singleton.1 hp]; dsimp only; rw [hzi]
          · rw [hZ]; exact burn_on x0 hb2
          · rw [hzi]; dsimp only; rw [frames_snoc]
          · rw [holds_congr hoth, ← h.all, List.append_assoc]
  · left
    refine ⟨(chk b : Nat), if_neg hc, by omega, ?_, Or.inr rfl⟩
    intro h7
    have : Bn.Bt.chk b.1 b.2 = 7 := by unfold chk at h7; omega
    unfold Bn.Bt.chk at this
    split at this
    · omega
    · split at this <;> omega

end Go.Proofs.YtfeconankopjmaaGreatDoor.Wl
