/- Texts on the program's own functions, several in one: WlMath. -/
import Derived.Test.YtfeconankopjmaaGreatDoorPk1
import Derived.Test.YtfeconankopjmaaGreatDoorPk5
import Derived.Test.YtfeconankopjmaaGreatDoorPk6

/- Logs as plain data: batches in files of a plain disk. No function is named. -/
namespace Go.Proofs.YtfeconankopjmaaGreatDoor.Wl
open Dk (Dir Chg Disk File Str)

abbrev Bat := Nat × List Bn.Ob
def word : Str := [108, 111, 103]
def nm (n : Nat) : Str := Nn.name word n
/-- The numbers of the logs that a directory has. -/
def nums (d : Dir) : List Nat := d.filterMap fun p => Nn.num word p.1
/-- The batches up to the first record that is none. -/
def upto : List ByteArray → List Bat
  | [] => []
  | r :: l => match Bn.Bt.decl r.data.toList with
    | some b => b :: upto l
    | none => []
/-- A log's batches, by its bytes. -/
def bats (l : Str) : List Bat := upto (Cr.rda l).1
def data (S : Disk) (n : Nat) : Str := (S.read (nm n)).1
def told (S : Disk) (from_ : Nat) : List Nat → List Bat
  | [] => []
  | n :: l => if n < from_ then told S from_ l else bats (data S n) ++ told S from_ l
def replay (S : Disk) (from_ : Nat) : List Bat := told S from_ (nums S.now)
def row (b : Bat) : ByteArray := ⟨(Bn.Bt.encl b.1 b.2).toArray⟩
def cell (b : Bat) : Str := Cr.frame (row b)
def chk (b : Bat) : Nat := Bn.Bt.chk b.1 b.2
def put (S : Disk) (n : Nat) (s : Str) : Int × Disk :=
  let x := S.append (nm n) s
  if x.1 = 0 then x.2.sync (nm n) else x
def add (S : Disk) (n : Nat) (b : Bat) : Int × Disk := if chk b = 0 then put S n (cell b) else (chk b, S)
def beg (S : Disk) (n : Nat) : Int × Disk :=
  let x := S.create (nm n)
  if x.1 = 0 then x.2.dirSync else x
def dels (S : Disk) (before : Nat) : List Nat → Int × Disk
  | [] => (0, S)
  | n :: l => if before ≤ n then (0, S) else
    let x := S.delete (nm n)
    if x.1 = 0 then dels x.2 before l else x
def retire (S : Disk) (before : Nat) : Int × Disk := if S.down then (7, S) else dels S before (nums S.now)

theorem obRow_length (o : Bn.Ob) (h : Bn.Bt.longOb o = false) : (Bn.Bt.obRow o).length ≤ 600 := by
  have h1 := (Bn.Bt.txt_length o.key).2
  have h2 := (Bn.Bt.txt_length o.val).2
  unfold Bn.Bt.longOb at h
  simp only [Bool.or_eq_false_iff, decide_eq_false_iff_not] at h
  unfold Bn.Bt.obRow
  split
  · rw [List.length_cons]; omega
  · rw [List.length_cons, List.length_append]; omega
theorem rows_length : ∀ ops : List Bn.Ob, (∀ o ∈ ops, Bn.Bt.longOb o = false) → (ops.flatMap Bn.Bt.obRow).length ≤ 600 * ops.length
  | [], _ => by simp
  | o :: l, h => by
    rw [List.flatMap_cons, List.length_append, List.length_cons]
    have h1 := obRow_length o (h o (List.mem_cons_self ..))
    have h2 := rows_length l fun x hx => h x (List.mem_cons_of_mem _ hx)
    omega
theorem row_small {b : Bat} (h : chk b = 0) : (row b).size ≤ 10000 := by
  obtain ⟨h1, h2, _, _, h5⟩ := Bn.Bt.chk_ok h
  have h3 := rows_length b.2 fun o ho => (h2 o ho).1
  have e : (row b).size = (Bn.Bt.encl b.1 b.2).length := by unfold row; simp [ByteArray.size]
  rw [e]
  unfold Bn.Bt.encl
  rw [List.length_append, List.length_append]
  have r1 := Bn.Nm.row_length b.1
  have r2 := Bn.Nm.row_length b.2.length
  omega
theorem row_list (b : Bat) : (row b).data.toList = Bn.Bt.encl b.1 b.2 := by unfold row; simp
theorem upto_rows : ∀ bs : List Bat, (∀ b ∈ bs, chk b = 0) → ∀ l, upto (bs.map row ++ l) = bs ++ upto l
  | [], _, l => rfl
  | b :: bs, h, l => by
    have hb := h b (List.mem_cons_self ..)
    have e : Bn.Bt.decl (row b).data.toList = some b := by rw [row_list]; exact Bn.Bt.decl_encl hb
    rw [List.map_cons, List.cons_append, upto, e, upto_rows bs (fun x hx => h x (List.mem_cons_of_mem _ hx)) l]
    rfl
def frames (bs : List Bat) : Str := bs.flatMap cell
theorem frames_eq (bs : List Bat) : frames bs = Cr.frames (bs.map row) := by
  unfold frames Cr.frames
  rw [List.flatMap_map]
  rfl
theorem rows_small {bs : List Bat} (h : ∀ b ∈ bs, chk b = 0) : ∀ r ∈ bs.map row, r.size ≤ 524288 := by
  intro r hr
  obtain ⟨b, hb, rfl⟩ := List.mem_map.1 hr
  have := row_small (h b hb)
  omega
/-- A file of batches has them. -/
theorem bats_frames {bs : List Bat} (h : ∀ b ∈ bs, chk b = 0) : bats (frames bs) = bs := by
  have e := Cr.rda_frames [] (bs.map row) (rows_small h)
  have z : Cr.rda [] = ([], 0) := Cr.rda_none (Cr.frl_short (l := []) (by decide))
  rw [List.append_nil, z, List.append_nil] at e
  unfold bats
  rw [frames_eq, e]
  have := upto_rows bs h []
  rwa [List.append_nil, show upto [] = [] from rfl, List.append_nil] at this
theorem bats_nil : bats [] = [] := bats_frames (bs := []) (by simp)
theorem frames_snoc (bs : List Bat) (b : Bat) : frames (bs ++ [b]) = frames bs ++ cell b := by unfold frames; simp
theorem told_append (S : Disk) (f : Nat) : ∀ a b, told S f (a ++ b) = told S f a ++ told S f b
  | [], _ => rfl
  | n :: a, b => by
    rw [List.cons_append, told, told, told_append S f a b]
    split
    · rfl
    · rw [List.append_assoc]

end Go.Proofs.YtfeconankopjmaaGreatDoor.Wl
