/- Texts on the program's own functions, several in one: WlPl. -/
import Derived.Test.YtfeconankopjmaaGreatDoorPk7
import Derived.ProofKit

/- The chapter's examples on plain logs. -/
namespace Go.Proofs.YtfeconankopjmaaGreatDoor.Wl
set_option maxRecDepth 100000
open Dk (Dir Chg Disk File Str)

/-- Frames, and behind them what is no frame. -/
theorem bats_cut {bs : List Bat} (h : ∀ b ∈ bs, chk b = 0) {t : Str} (ht : Cr.frl t = none) : bats (frames bs ++ t) = bs := by
  have e := Cr.rda_frames t (bs.map row) (rows_small h)
  rw [Cr.rda_none ht, List.append_nil] at e
  unfold bats
  rw [frames_eq, e]
  have := upto_rows bs h []
  rwa [List.append_nil, show upto [] = [] from rfl, List.append_nil] at this

def opA : Bn.Ob := ⟨⟨#[97]⟩, ⟨#[120]⟩, false⟩
def b1 : Bat := (1, [opA])
def b2 : Bat := (2, [opA])
def s0 : Disk := Dk.fresh 1048576
def s1 : Disk := (beg s0 3).2
def s2 : Disk := (add s1 3 b1).2
def s3 : Disk := s2.light 2
def s4 : Disk := (add s3 3 b2).2
def s5 : Disk := s4.crash ⟨0, [31], []⟩
def s6 : Disk := s5.start
theorem r0 : (beg s0 3).1 = 0 := by kernel_rfl
theorem r1 : (add s1 3 b1).1 = 0 := by kernel_rfl
theorem r2 : (add s3 3 b2).1 = 7 := by kernel_rfl
theorem r3 : nums s6.now = [3] := by kernel_rfl
theorem r4 : s6.down = false := by kernel_rfl
theorem d6 : data s6 3 = frames [b1] ++ (cell b2).take 31 := by kernel_rfl
theorem chk1 : ∀ b ∈ [b1], chk b = 0 := by
  intro b hb
  simp only [List.mem_singleton] at hb
  subst hb
  kernel_rfl
theorem r5 : replay s6 0 = [b1] := by
  unfold replay
  rw [r3, told, told, if_neg (by omega), d6, bats_cut chk1 (Cr.frl_short (by rw [List.length_take]; omega)), List.append_nil]

def k3 : Disk := (beg s2 3).2
def k4 : Disk := (beg k3 5).2
theorem q0 : (beg s2 3).1 = 5 := by kernel_rfl
theorem q1 : (beg k3 5).1 = 0 := by kernel_rfl
theorem q2 : nums k4.now = [3, 5] := by kernel_rfl
theorem q3 : k4.down = false := by kernel_rfl
theorem e3 : data k4 3 = frames [b1] := by kernel_rfl
theorem e5 : data k4 5 = [] := by kernel_rfl
theorem q4 : replay k4 0 = [b1] := by
  unfold replay
  rw [q2, told, told, told, if_neg (by omega), if_neg (by omega), e3, e5, bats_nil, bats_frames chk1]
  rfl
theorem q5 : replay k4 4 = [] := by
  unfold replay
  rw [q2, told, told, told, if_pos (by omega), if_neg (by omega), e5, bats_nil]
  rfl
theorem q6 : Bn.Bt.chk 2 [] = 1 := by kernel_rfl
def k6 : Disk := (retire k4 5).2
theorem q8 : (retire k4 5).1 = 0 := by kernel_rfl
theorem q9 : nums k6.now = [5] := by kernel_rfl
def t0 : Disk := Dk.fresh 31
def opE : Bn.Ob := ⟨⟨#[97]⟩, ByteArray.empty, false⟩
def t1 : Disk := (beg t0 1099511627776).2
def t2 : Disk := (add t1 1099511627776 (1, [opE])).2
theorem p0 : (beg t0 1099511627776).1 = 0 := by kernel_rfl
theorem p1 : (add t1 1099511627776 (1, [opE])).1 = 6 := by kernel_rfl
theorem p2 : t2.used = 0 := by kernel_rfl

end Go.Proofs.YtfeconankopjmaaGreatDoor.Wl
