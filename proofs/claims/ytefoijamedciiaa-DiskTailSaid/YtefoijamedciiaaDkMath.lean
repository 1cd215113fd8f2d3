/- A disk as plain data: files by numbers, directories as rising lists of names; what each call makes of it. No function is named. -/
import Derived.WalkKit
namespace Go.Proofs.Ytefoijamedciiaa.Dk
open Go

abbrev Str := List UInt8
/-- A directory: names, rising, each with a file's number. -/
abbrev Dir := List (Str × Nat)
def ins (x : Str × Nat) : Dir → Dir
  | [] => [x]
  | y :: r => if bytesBefore x.1 y.1 then x :: y :: r else y :: ins x r
def del (s : Str) (d : Dir) : Dir := d.filter fun p => !(p.1 == s)
def put (s : Str) (i : Nat) (d : Dir) : Dir := ins (s, i) (del s d)
def look (s : Str) (d : Dir) : Option Nat := match d.find? (fun p => p.1 == s) with
  | some p => some p.2
  | none => none

/-- A file: its bytes, and how many of them last. -/
structure File where
  data : Str
  lasts : Nat
/-- A change: made: the file of a Create. -/
structure Chg where
  src : Str
  dst : Str
  made : Option Nat
def Chg.file (c : Chg) (d : Dir) : Option Nat := if c.src = [] then c.made else look c.src d
def Chg.run (c : Chg) (d : Dir) : Dir :=
  let d1 := if c.src = [] then d else del c.src d
  if c.dst = [] then d1 else match c.file d with
    | some i => put c.dst i d1
    | none => d1
def runs : List Chg → Dir → Dir
  | [], d => d
  | c :: r, d => runs r (c.run d)
/-- A change that can be made: it names a file. -/
def Chg.Can (c : Chg) (d : Dir) : Prop := (c.dst ≠ [] → ∃ i, c.file d = some i) ∧ (c.src = [] → c.dst ≠ [])
def Cans : List Chg → Dir → Prop
  | [], _ => True
  | c :: r, d => c.Can d ∧ Cans r (c.run d)

structure Disk where
  room : Int
  used : Int
  fuse : Nat
  down : Bool
  now : Dir
  lasting : Dir
  changes : List Chg
  file : Nat → File
  next : Nat

def upd (F : Nat → File) (i : Nat) (f : File) : Nat → File := fun j => if j = i then f else F j
theorem upd_same (F : Nat → File) (i : Nat) (f : File) : upd F i f i = f := by simp [upd]
theorem upd_other {F : Nat → File} {i j : Nat} (h : j ≠ i) (f : File) : upd F i f j = F j := by simp [upd, h]

def okByte (c : UInt8) : Bool := (97 ≤ c && c ≤ 122) || (48 ≤ c && c ≤ 57) || c == 46 || c == 45
def isName (s : Str) : Bool := decide (s ≠ []) && decide (s.length ≤ 24) && s.all okByte

/-- An operation that nothing else bars: whether the power goes at it. -/
def Disk.burnt (S : Disk) : Bool := S.fuse == 1
def Disk.burn (S : Disk) : Disk := if S.fuse = 0 then S else { S with fuse := S.fuse - 1, down := S.fuse == 1 }
def sizeOf (S : Disk) (lost : Option Nat) : Nat := match lost with
  | some i => (S.file i).data.length
  | none => 0
def Disk.did (S : Disk) (c : Chg) (lost : Option Nat) : Disk := { S with now := c.run S.now, changes := S.changes ++ [c], used := S.used - sizeOf S lost }
def Disk.change (S : Disk) (c : Chg) (lost : Option Nat) : Int × Disk := if S.burnt then (7, S.burn) else (0, S.burn.did c lost)
def Disk.with (S : Disk) : Disk := { S with file := upd S.file S.next ⟨[], 0⟩, next := S.next + 1 }
def Disk.create (S : Disk) (s : Str) : Int × Disk :=
  if S.down then (7, S) else if !isName s then (1, S) else if (look s S.now).isSome then (5, S) else
  if S.burnt then (7, S.burn) else (0, S.burn.with.did ⟨[], s, some S.next⟩ none)
def Disk.setFile (S : Disk) (i : Nat) (f : File) : Disk := { S with file := upd S.file i f }
def Disk.append (S : Disk) (s data : Str) : Int × Disk :=
  if S.down then (7, S) else match look s S.now with
  | none => (4, S)
  | some i => if (data.length : Int) > S.room - S.used then (6, S) else if S.burnt then (7, S.burn) else
    (0, { S.burn.setFile i ⟨(S.file i).data ++ data, (S.file i).lasts⟩ with used := S.used + data.length })
def Disk.sync (S : Disk) (s : Str) : Int × Disk :=
  if S.down then (7, S) else match look s S.now with
  | none => (4, S)
  | some i => if S.burnt then (7, S.burn) else (0, S.burn.setFile i ⟨(S.file i).data, (S.file i).data.length⟩)
def Disk.rename (S : Disk) (s t : Str) : Int × Disk :=
  if S.down then (7, S) else if !isName t then (1, S) else match look s S.now with
  | none => (4, S)
  | some _ => if s = t then (if S.burnt then (7, S.burn) else (0, S.burn)) else S.change ⟨s, t, none⟩ (look t S.now)
def Disk.delete (S : Disk) (s : Str) : Int × Disk :=
  if S.down then (7, S) else match look s S.now with
  | none => (4, S)
  | some i => S.change ⟨s, [], none⟩ (some i)
def Disk.keep (S : Disk) (n : Nat) : Disk := { S with lasting := runs (S.changes.take n) S.lasting, changes := [] }
def Disk.dirSync (S : Disk) : Int × Disk :=
  if S.down then (7, S) else if S.burnt then (7, S.burn) else (0, S.burn.keep S.changes.length)
def Disk.read (S : Disk) (s : Str) : Str × Int :=
  if S.down then ([], 7) else match look s S.now with
  | none => ([], 4)
  | some i => ((S.file i).data, 0)

/-- What is held between 0 and a most. -/
def held (n most : Int) : Int := min (max n 0) most
/-- The byte of a mask that turns the j-th of four. -/
def maskAt (m : Nat) (j : Nat) : UInt8 := UInt8.ofNat (m >>> (8 * j))
/-- Four bytes side by side, or as many as there are, turned. -/
def turn (t : Str) (pos : Int) (m : Nat) : Str :=
  let a := (pos % (t.length : Int)).toNat
  t.mapIdx fun j x => if a ≤ j ∧ j < a + 4 then x ^^^ maskAt m (j - a) else x
/-- What a crash leaves of a file that has a tail, by its k-th choices. -/
def left (f : File) (ks : List Int) (sp : List (Int × Nat)) (k : Nat) : File :=
  let n := match ks[k]? with
    | some x => (held x ((f.data.length : Int) - f.lasts)).toNat
    | none => 0
  let t := (f.data.drop f.lasts).take n
  let u := if n = 0 then t else match sp[k]? with
    | some q => turn t q.1 q.2
    | none => t
  ⟨f.data.take f.lasts ++ u, f.lasts + n⟩
def tails (ks : List Int) (sp : List (Int × Nat)) : Dir → Nat → (Nat → File) → (Nat → File)
  | [], _, F => F
  | p :: r, k, F => if (F p.2).lasts = (F p.2).data.length then tails ks sp r k F else tails ks sp r (k + 1) (upd F p.2 (left (F p.2) ks sp k))
def total (F : Nat → File) : Dir → Nat
  | [] => 0
  | p :: r => (F p.2).data.length + total F r
structure Crash where
  names : Int
  keep : List Int
  spoil : List (Int × Nat)
def Disk.crash (S : Disk) (c : Crash) : Disk :=
  let n := (held c.names S.changes.length).toNat
  let L := runs (S.changes.take n) S.lasting
  let F := tails c.keep c.spoil L 0 S.file
  { S with down := true, lasting := L, changes := [], now := L, file := F, used := total F L }
def Disk.light (S : Disk) (n : Int) : Disk := { S with fuse := n.toNat }
def Disk.start (S : Disk) : Disk := { S with down := false }
def fresh (room : Int) : Disk := ⟨held room 1048576, 0, 0, false, [], [], [], fun _ => ⟨[], 0⟩, 0⟩

/-! ### directories -/
theorem mem_ins {x y : Str × Nat} : ∀ {d : Dir}, y ∈ ins x d ↔ y = x ∨ y ∈ d
  | [] => by simp [ins]
  | z :: r => by
    unfold ins
    split
    · simp
    · rw [List.mem_cons, mem_ins (d := r), List.mem_cons]
      constructor
      · rintro (h | h | h) <;> simp [h]
      · rintro (h | h | h) <;> simp [h]
theorem mem_del {s : Str} {d : Dir} {y : Str × Nat} : y ∈ del s d ↔ y ∈ d ∧ y.1 ≠ s := by
  unfold del
  rw [List.mem_filter]
  simp
theorem mem_put {s : Str} {i : Nat} {d : Dir} {y : Str × Nat} : y ∈ put s i d ↔ y = (s, i) ∨ (y ∈ d ∧ y.1 ≠ s) := by
  unfold put
  rw [mem_ins, mem_del]
theorem mem_of_look {s : Str} {d : Dir} {i : Nat} (h : look s d = some i) : (s, i) ∈ d := by
  unfold look at h
  cases hf : d.find? (fun p => p.1 == s) with
  | none => rw [hf] at h; simp at h
  | some p =>
    rw [hf] at h
    simp only [Option.some.injEq] at h
    have h1 := List.find?_some hf
    have h2 := List.mem_of_find?_eq_some hf
    obtain ⟨a, b⟩ := p
    simp only [beq_iff_eq] at h1 h
    subst h1 h
    exact h2
theorem mem_run {c : Chg} {d : Dir} {y : Str × Nat} (h : y ∈ c.run d) : y ∈ d ∨ c.file d = some y.2 := by
  unfold Chg.run at h
  simp only at h
  have hd1 : ∀ z, z ∈ (if c.src = [] then d else del c.src d) → z ∈ d := fun z hz => by
    split at hz
    · exact hz
    · exact (mem_del.1 hz).1
  split at h
  · exact Or.inl (hd1 _ h)
  · split at h
    · rename_i i hi
      rcases mem_put.1 h with rfl | h
      · exact Or.inr hi
      · exact Or.inl (hd1 _ h.1)
    · exact Or.inl (hd1 _ h)
/-- The numbers of files that a directory has come of it, or of a file made. -/
theorem id_run {c : Chg} {d : Dir} {y : Str × Nat} (h : y ∈ c.run d) : (∃ z ∈ d, z.2 = y.2) ∨ c.made = some y.2 := by
  rcases mem_run h with h | h
  · exact Or.inl ⟨y, h, rfl⟩
  · unfold Chg.file at h
    split at h
    · exact Or.inr h
    · exact Or.inl ⟨_, mem_of_look h, rfl⟩
theorem runs_append (a b : List Chg) (d : Dir) : runs (a ++ b) d = runs b (runs a d) := by
  induction a generalizing d with
  | nil => rfl
  | cons c r ih => exact ih _
theorem cans_append {a b : List Chg} {d : Dir} : Cans (a ++ b) d ↔ Cans a d ∧ Cans b (runs a d) := by
  induction a generalizing d with
  | nil => simp [Cans, runs]
  | cons c r ih =>
    simp only [List.cons_append, Cans, runs, ih, and_assoc]

end Go.Proofs.Ytefoijamedciiaa.Dk
