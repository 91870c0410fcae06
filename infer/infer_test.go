package infer_test

import (
	"strconv"
	"strings"
	"testing"

	"leaven/api"
	"leaven/assign"
	"leaven/infer"
	"leaven/parse"
	"leaven/scope"
	"leaven/ty"
)

// program is the program of names and texts, and how many sites it has.
func program(t *testing.T, l ...string) ([]api.Module, int) {
	t.Helper()
	var read []api.Module
	for i := 0; i < len(l); i += 2 {
		m, at, errno := parse.Parse(l[i], l[i+1])
		if errno != api.OK {
			t.Fatalf("%s: %d at %d", l[i+1], errno, at)
		}
		read = append(read, m)
	}
	p, n, at, errno := scope.Program(read)
	if errno != api.OK {
		t.Fatalf("%q: %d at %d", l, errno, at)
	}
	return p, n
}

// sites is the numbers of a text.
func sites(s string) []int {
	var l []int
	for _, f := range strings.Fields(s) {
		n, _ := strconv.Atoi(f)
		l = append(l, n)
	}
	return l
}

// upTo is the numbers from 1 to n.
func upTo(n int) []int {
	var l []int
	for i := range n {
		l = append(l, i+1)
	}
	return l
}

// told is an assignment as a text.
func told(l []api.Choice) string {
	var out []string
	for _, c := range l {
		out = append(out, strconv.Itoa(c.Site)+": "+ty.Print(c.T))
	}
	return strings.Join(out, "; ")
}

// checkSolve checks what Solve and Feasible return for a set of sites: an assignment, or an error.
func checkSolve(t *testing.T, p []api.Module, set []int, want string, errno api.Errno) {
	t.Helper()
	l, got := infer.Solve(p, set)
	if told(l) != want || got != errno {
		t.Errorf("%s %v: %s %d, want %s %d", parse.Print(p[len(p)-1]), set, told(l), got, want, errno)
	}
	if infer.Feasible(p, set) != (errno == api.OK) {
		t.Errorf("%s %v: Feasible is not right, want %d", parse.Print(p[len(p)-1]), set, errno)
	}
}

// solves is a text, a set of its sites, and their assignment, or "-" if the set is not feasible.
type solves struct{ text, set, want string }

func checkAll(t *testing.T, l []solves) {
	t.Helper()
	for _, c := range l {
		p, _ := program(t, "m", c.text)
		if c.want == "-" {
			checkSolve(t, p, sites(c.set), "", api.ErrType)
			continue
		}
		checkSolve(t, p, sites(c.set), c.want, api.OK)
	}
}

// P14.1 (N1): Lit, Name and Fun.
func TestNames(t *testing.T) {
	checkAll(t, []solves{
		{"def x = 1;", "", ""},
		{"def x = 1;", "1", "1: int"},
		{"def x = true;", "1", "1: bool"},
		{`def x = "s";`, "1", "1: string"},
		{"def x = ();", "1", "1: unit"},
		{"def x = 1; def y = x;", "1 2", "1: int; 2: int"},
		{"def x = 1; def y = x;", "1", "1: int"},
		{"def x = 1; def y = x;", "2", "2: unit"},
		{"def x = 1; def y: bool = x;", "", ""},
		{"def x = 1; def y: bool = x;", "1", "-"},
		{"def f = fun (x) -> x;", "1 2", "1: unit -> unit; 2: unit"},
		{"def f = fun (x) -> x;", "2", "2: unit"},
		{"def f = fun (x) -> x;", "1", "1: unit -> unit"},
		{"def f: ? -> bool = fun (x) -> x;", "1 2", "1: bool; 2: bool"},
		{"def f: ? -> bool = fun (x) -> x;", "1", "1: unit"},
		{"def f: ? -> bool = fun (x) -> x;", "2", "2: bool"},
		{"def f: int -> ? = fun (x) -> x;", "1 2", "1: int; 2: int"},
		{"def f: int -> bool = fun (x) -> x;", "", ""},
		{"def f: int -> bool = fun (x) -> x;", "1", "-"},
		{"def f: int = fun (x) -> x;", "1", "-"},
		{"def f = fun (x) -> (fun (x) -> x + 1) x && true;", "2", "-"},
		{"def f = fun (x) -> (fun (x) -> x + 1) true;", "2", "2: unit"},
		{"def f = fun (x) -> (fun (x) -> x + 1) true;", "3", "-"},
		{"def f = fun (x) -> fun (x) -> x + 1;", "1 2 3", "1: unit -> int -> int; 2: unit; 3: int"},
		{"def f = fun (x) -> (fun (x) -> x + 1) 2 < x;", "2 3", "2: int; 3: int"},
		{"def f = fun (x) -> (fun (x) -> x && true) (x < 2);", "2 3", "2: int; 3: bool"},
	})
}

// P14.1 (N1): App, and Call of a Var.
func TestCalls(t *testing.T) {
	checkAll(t, []solves{
		{"def f = fun (x) -> x 1;", "2", "2: int -> unit"},
		{"def f = fun (x) -> x 1;", "1", "1: unit -> unit"},
		{"def f = fun (x) -> x 1;", "1 2", "1: (int -> unit) -> unit; 2: int -> unit"},
		{"def f = fun (x) -> x 1 + 1;", "2", "2: int -> int"},
		{"def f = fun (x) -> x 1 true;", "2", "2: int -> bool -> unit"},
		{"def f = fun (x) -> fun (y) -> x y + y;", "2 3", "2: int -> int; 3: int"},
		{"def f = fun (x) -> fun (y) -> x y + y;", "2", "2: unit -> int"},
		{"def f = fun (x) -> fun (y) -> x (x y);", "2 3", "2: unit -> unit; 3: unit"},
		{"def f = fun (x) -> fun (y) -> x (x y) + 1;", "2 3", "2: int -> int; 3: int"},
		{"def f = fun (x) -> x 1 + (if x true then 1 else 2);", "2", "-"},
		{"def f = fun (x) -> x 1 + (if x true then 1 else 2);", "1", "1: unit -> int"},
		{"def f = fun (x) -> x x;", "2", "-"},
		{"def f = fun (x) -> x x;", "1 2", "-"},
		{"def f = fun (x) -> x x;", "1", "1: unit -> unit"},
		{"def f = fun (x) -> fun (y) -> (x y) (y x);", "2 3", "-"},
		{"def f = fun (x) -> fun (y) -> (x y) (y x);", "2", "2: unit -> unit -> unit"},
		{"def f = (fun (x: int) -> x) true;", "1", "-"},
		{"def f = 1 2;", "", "-"},
		{"def f = fun (x: {a: int} -> bool) -> x {a = 1};", "1", "1: ({a: int} -> bool) -> bool"},
		{"def f = fun (x: (? -> ?) -> bool -> ?) -> x (fun (y) -> y + 1) true;", "1 4", "1: ((unit -> unit) -> bool -> unit) -> unit; 4: unit"},
		{"def f = fun (x: (? -> ?) -> bool -> ?) -> x (fun (y) -> y + 1) true;", "2 3 5", "2: int; 3: int; 5: int"},
		{"def f = fun (x: (? -> ?) -> bool -> ?) -> x (fun (y) -> y + 1) 1;", "", "-"},
		{"def f = fun (x: ?) -> x x;", "1", "1: unit -> unit"},
		{"def f = fun (x: ?) -> x 1 + (if x true then 1 else 2);", "1", "1: unit -> int"},
		{"def f = fun (x: ?) -> case x 1 of A y -> if y then y + 1 else 2 end;", "1", "1: unit -> int"},
		{"def f = fun (x: ? -> ?) -> case x 1 of A y -> if y then y + 1 else 2 end;", "1 2", "1: (int -> unit) -> int; 2: int"},
		{"def f = fun (x: ? -> ?) -> case x 1 of A y -> if y then y + 1 else 2 end;", "3", "-"},
		{"def f = (1: ?) 2;", "", ""},
		{"def f = (1: ?) 2;", "2", "-"},
		{"def f = fun (x) -> (x: ? -> int) true;", "2 3", "2: bool -> int; 3: bool"},
		{"def f = fun (x) -> (x: ? -> int) true;", "2", "2: unit -> int"},
		{"def f: (int -> ?) -> ? = fun (x) -> x true;", "", ""},
		{"def f: (int -> ?) -> ? = fun (x) -> x true;", "3", "-"},
		{"def f: (int -> ?) -> ? = fun (x) -> x 1;", "3", "3: int -> unit"},
	})
}

// P14.1 (N1): Let and Rec.
func TestBinding(t *testing.T) {
	checkAll(t, []solves{
		{"def l = let x = 1 in x;", "1 2", "1: int; 2: int"},
		{"def l = let x = 1 in x;", "1", "1: unit"},
		{"def l = let x = 1 in x && true;", "2", "-"},
		{"def l = let x = 1 in x && true;", "1", "1: bool"},
		{"def l = let x: ? -> int = fun (y) -> y in x;", "2 3", "2: int; 3: int"},
		{"def l = let x: int = true in x;", "", "-"},
		{"def l = fun (x) -> let x = x < 1 in x;", "2 3", "2: int; 3: bool"},
		{"def l = fun (x) -> (let x = true in x) && x < 1;", "2 3", "2: int; 3: bool"},
		{"def r = rec f (x) = f (x + 1) in f;", "1 2 3", "1: int -> unit; 2: int; 3: unit"},
		{"def r = rec f (x) = if x then 1 else f true in f;", "1 2 3", "1: bool -> int; 2: bool; 3: int"},
		{"def r = rec f (x) = f in 1;", "3", "-"},
		{"def r = rec f (x) = f in 1;", "2", "2: unit"},
		{"def r = rec f (x) = x in f 1 + 1;", "2 3", "2: int; 3: int"},
		{"def r = rec f (x) = x in f 1 + 1;", "3", "3: int"},
		{"def r = rec f (x) = 1 in f 1 && true;", "3", "-"},
		{"def r = rec f (x): bool = 1 in f;", "", "-"},
		{"def r = rec f (f) = f + 1 in f;", "1 2 3", "1: int -> int; 2: int; 3: int"},
		{"def r = fun (x) -> rec f (x) = x in if f true then x + 1 else x;", "2 3 4", "2: int; 3: bool; 4: bool"},
		{"def r = fun (f) -> (rec f (x) = x < 1 in f 2) && f;", "2 3 4", "2: bool; 3: int; 4: bool"},
	})
}

// P14.1 (N1): If, Op, Rows and As.
func TestRequirements(t *testing.T) {
	checkAll(t, []solves{
		{"def i = fun (x) -> if x then 1 else 2;", "1 2", "1: bool -> int; 2: bool"},
		{"def i = fun (x) -> if (x: ?) then x + 1 else 2;", "2", "2: int"},
		{"def i = fun (x) -> if (x: ?) then x + 1 else 2;", "3", "3: bool"},
		{"def i = fun (x) -> if (x: ?) then x + 1 else 2;", "2 3", "-"},
		{"def i = if 1 then 1 else 1;", "", "-"},
		{"def i = if true then 1 else true;", "", "-"},
		{"def o = fun (x) -> fun (y) -> x + y;", "1 2 3", "1: int -> int -> int; 2: int; 3: int"},
		{"def o = fun (x) -> fun (y) -> x - y;", "1 2 3", "1: int -> int -> int; 2: int; 3: int"},
		{"def o = fun (x) -> fun (y) -> x * y;", "1 2 3", "1: int -> int -> int; 2: int; 3: int"},
		{"def o = fun (x) -> fun (y) -> x / y;", "1 2 3", "1: int -> int -> int; 2: int; 3: int"},
		{"def o = fun (x) -> fun (y) -> x < y;", "1 2 3", "1: int -> int -> bool; 2: int; 3: int"},
		{"def o = fun (x) -> fun (y) -> x == y;", "1 2 3", "1: int -> int -> bool; 2: int; 3: int"},
		{"def o = fun (x) -> fun (y) -> x && y;", "1 2 3", "1: bool -> bool -> bool; 2: bool; 3: bool"},
		{"def o = fun (x) -> fun (y) -> x || y;", "1 2 3", "1: bool -> bool -> bool; 2: bool; 3: bool"},
		{"def o = fun (x) -> fun (y) -> x ++ y;", "1 2 3", "1: string -> string -> string; 2: string; 3: string"},
		{"def o = fun (x) -> x + 1 < (if x then 1 else 2);", "2", "-"},
		{"def o = 1 + true;", "1", "-"},
		{"def o = true && 1;", "1", "-"},
		{`def o = "s" ++ 1;`, "1", "-"},
		{"def o = true < false;", "1", "-"},
		{"def r = {};", "1", "1: {}"},
		{"def r = {b = 1, a = true};", "1", "1: {a: bool, b: int}"},
		{"def r = fun (x) -> {b = x + 1, a = {c = x}};", "1 2", "1: int -> {a: {c: int}, b: int}; 2: int"},
		{"def r: {a: ?, b: bool} = {b = true, a = 1};", "1", "1: int"},
		{"def r: {a: ?} = {b = true, a = 1};", "", "-"},
		{"def a = fun (x) -> (x: ?) + 1;", "2", "2: unit"},
		{"def a = fun (x) -> (x: ?) + 1;", "3", "3: int"},
		{"def a = fun (x) -> (x: ?) + 1;", "2 3", "2: int; 3: int"},
		{"def a = (1: bool);", "", "-"},
		{"def a = fun (x) -> (x: int -> ?);", "2", "2: int -> unit"},
		{"def a = fun (x) -> ((x: int -> ?): ? -> bool);", "2 3 4", "2: int -> bool; 3: bool; 4: int"},
		{"def a = fun (x) -> ((x: int -> ?): ? -> bool);", "2", "2: int -> unit"},
		{"def a = fun (x) -> ((x: int -> ?): ? -> bool);", "3", "3: bool"},
	})
}

// P14.1 (N1): Get, and Field of a Var and of a Record with a Tail.
func TestGet(t *testing.T) {
	checkAll(t, []solves{
		{"def g = fun (x) -> x.a;", "2", "2: {a: unit}"},
		{"def g = fun (x) -> x.a;", "1", "1: unit -> unit"},
		{"def g = fun (x) -> x.a + x.b;", "2", "2: {a: int, b: int}"},
		{"def g = fun (x) -> x.b + x.a;", "2", "2: {a: int, b: int}"},
		{"def g = fun (x) -> x.a + x.a.b;", "2", "-"},
		{"def g = fun (x) -> x.a.b + x.a.c;", "2", "2: {a: {b: int, c: int}}"},
		{"def g = fun (x) -> x.a x.b;", "2", "2: {a: unit -> unit, b: unit}"},
		{"def g = fun (x) -> x.a x;", "2", "-"},
		{"def g = fun (x) -> x x.a;", "2", "-"},
		{"def g = fun (x) -> if x.a then x else {a = true};", "2", "2: {a: bool}"},
		{"def g = fun (x) -> if x.a then {a = true} else x;", "2", "2: {a: bool}"},
		{"def g = fun (x) -> if x.a then x else {b = true};", "2", "-"},
		{"def g = fun (x) -> if x.a then x else {a = true, b = 1};", "2", "2: {a: bool, b: int}"},
		{"def g = fun (x) -> (if true then x else {a = 1}).b;", "2", "-"},
		{"def g = fun (x) -> (if true then x else {a = 1, b = 2}).b;", "1 2", "1: {a: int, b: int} -> int; 2: {a: int, b: int}"},
		{"def g = fun (x) -> let y = {a = 1, b = x} in y.a + x.c;", "2 3", "2: {c: int}; 3: {a: int, b: {c: int}}"},
		{"def g = fun (x) -> let y = x in y.a + x.b;", "2 3", "2: {a: int, b: int}; 3: {a: int, b: int}"},
		{"def g = fun (x) -> let y = x in y.a + x.b;", "2", "2: {b: int}"},
		{"def g = fun (x) -> let y = x in y.a + x.b;", "3", "3: {a: int}"},
		{"def g = fun (x: {a: ?, b: int}) -> x.a;", "1", "1: {a: unit, b: int} -> unit"},
		{"def g = fun (x: {a: ?, b: int}) -> x.a + x.b;", "2", "2: int"},
		{"def g = fun (x: {a: ?}) -> x.a.b;", "2", "2: {b: unit}"},
		{"def g = fun (x: {a: ?}) -> x.b;", "2", "-"},
		{"def g = fun (x: ?) -> x.a;", "", ""},
		{"def g = fun (x: ?) -> x.a.b + x.a;", "1", "1: unit -> int"},
		{"def g = 1.a;", "", "-"},
		{"def g = (1: ?).a;", "2", "-"},
		{"def g = fun (x) -> (x: [A: int]).a;", "", "-"},
		{"def g = fun (x) -> case x of A y -> x.a end;", "2", "-"},
		{"def g = fun (x) -> x.a + (case x of A y -> 1 end);", "2", "-"},
		{"def g = fun (x) -> x.a + x 1;", "2", "-"},
		{"def g: {a: int} -> ? = fun (x) -> x.a;", "2", "2: {a: int}"},
		{"def g: {a: int} -> ? = fun (x) -> x.a;", "1 2", "1: int; 2: {a: int}"},
		{"def g: {a: int, b: ?} -> ? = fun (x) -> x.a;", "3", "3: {a: int, b: unit}"},
		{"def g: {b: ?} -> ? = fun (x) -> x.a;", "3", "-"},
		{"def g: {b: ?} -> ? = fun (x) -> x.a;", "1 2", "1: unit; 2: unit"},
		{"def g = (fun (x) -> x.a) {a = 1, b = 2};", "1 2", "1: int; 2: {a: int, b: int}"},
		{"def g = (fun (x) -> x.a) {b = 2};", "2", "-"},
		{"def g = (fun (x) -> x.a) {b = 2};", "1", "1: unit"},
	})
}

// P14.1 (N1): Inject, and Field of a Var and of a Union with a Tail.
func TestInject(t *testing.T) {
	checkAll(t, []solves{
		{"def v = [A = 1];", "1", "1: unit"},
		{"def v = [A = 1];", "2", "2: [A: int]"},
		{"def v = [A = 1];", "1 2", "1: [A: int]; 2: [A: int]"},
		{"def v = [A = 1: [A: ? | B: ?]];", "2 3", "2: int; 3: unit"},
		{"def v = [A = true: [A: int]];", "", "-"},
		{"def v = [C = true: [A: ? | B: ?]];", "", "-"},
		{"def v = [A = 1: int];", "", "-"},
		{"def v = [A = 1: {a: ?}];", "", "-"},
		{"def v = [A = [A = true]];", "2 3", "2: [A: bool]; 3: [A: [A: bool]]"},
		{"def v: [A: int | B: ?] = [A = 1];", "2", "2: [A: int | B: unit]"},
		{"def v: [A: int | B: ?] = [A = 1];", "1 2", "1: unit; 2: [A: int | B: unit]"},
		{"def v: [B: ?] = [A = 1];", "2", "-"},
		{"def v: [A: bool] = [A = 1];", "1", "-"},
		{"def v: [A: bool] = [A = 1];", "", ""},
		{"def v: {} = [A = 1];", "1", "-"},
		{"def v = if true then [B = 1] else [A = true];", "1 2 3", "1: [A: bool | B: int]; 2: [A: bool | B: int]; 3: [A: bool | B: int]"},
		{"def v = if true then [A = 1] else [A = true];", "2 3", "-"},
		{"def v = if true then [A = 1] else [A = true];", "1 2", "1: [A: int]; 2: [A: int]"},
		{"def v = if true then [A = 1] else [A = true];", "1 3", "1: [A: bool]; 3: [A: bool]"},
		{"def v = if true then [A = 1] else {a = 1};", "2", "-"},
		{"def v = fun (x) -> [A = x];", "3", "3: [A: unit]"},
		{"def v = fun (x) -> [A = x];", "2 3", "2: unit; 3: [A: unit]"},
		{"def v = fun (x) -> [A = x: [A: ?]];", "2", "2: unit"},
		{"def v = fun (x) -> [A = x: [A: int -> ?]];", "2 3", "2: int -> unit; 3: unit"},
		{"def v = [A = 1]; def w = [B = v];", "4", "4: [B: unit]"},
		{"def v = [A = 1]; def w = [B = v];", "1 4", "1: unit; 4: [B: unit]"},
		{"def v = [A = 1]; def w = [B = v];", "1 2 3 4", "1: [A: int]; 2: [A: int]; 3: [B: [A: int]]; 4: [B: [A: int]]"},
	})
}

// P14.1 (N1): Case, and Tags of a Var and of a Union with a Tail.
func TestCase(t *testing.T) {
	checkAll(t, []solves{
		{"def c = fun (x) -> case x of A y -> y end;", "2", "2: [A: unit]"},
		{"def c = fun (x) -> case x of A y -> y end;", "1 2", "1: [A: unit] -> unit; 2: [A: unit]"},
		{"def c = fun (x) -> case x of A y -> y end;", "1", "1: unit -> unit"},
		{"def c = fun (x) -> case x of C y -> y + 1 | B y -> 1 | A y -> if y then 1 else 2 end;", "2", "2: [A: bool | B: unit | C: int]"},
		{"def c = fun (x) -> case x of A y -> y | B y -> y end;", "2", "2: [A: unit | B: unit]"},
		{"def c = fun (x) -> case x of A y -> y | B y -> y + 1 end;", "2", "2: [A: int | B: int]"},
		{"def c = fun (x) -> case x of A y -> y | B y -> 1 | C y -> y end;", "1 2", "1: [A: int | B: unit | C: int] -> int; 2: [A: int | B: unit | C: int]"},
		{"def c = fun (x) -> case x of A y -> y && true | B y -> y + 1 end;", "", "-"},
		{"def c = fun (x) -> case x of A y -> x end;", "1 2", "1: [A: unit] -> [A: unit]; 2: [A: unit]"},
		{"def c = fun (x) -> case x of A x -> x + 1 end;", "1 2", "1: [A: int] -> int; 2: [A: int]"},
		{"def c = fun (x) -> fun (y) -> (case x of A y -> y end) + (if y then 1 else 2);", "2 3", "2: [A: int]; 3: bool"},
		{"def c = fun (x) -> case x of A y -> y x end;", "2", "-"},
		{"def c = fun (x) -> case x of A y -> y y end;", "2", "-"},
		{"def c = fun (x) -> case x of A y -> y y end;", "1", "1: unit -> unit"},
		{"def c = case [A = 1] of A x -> x | B y -> 0 end;", "1 2", "1: int; 2: [A: int | B: unit]"},
		{"def c = case [A = 1] of B x -> x | C y -> 0 end;", "2", "-"},
		{"def c = case [A = 1] of B x -> x | C y -> 0 end;", "1", "1: int"},
		{"def c = case [A = 1] of B y -> y | A x -> x && true end;", "2", "-"},
		{"def c = case [A = 1: [A: ?]] of A x -> x | B y -> 0 end;", "", "-"},
		{"def c = case [A = 1: [A: ? | B: ?]] of A x -> x end;", "", "-"},
		{"def c = case [A = 1: [A: ? | B: ?]] of B x -> x | A y -> y end;", "2", "2: int"},
		{"def c = case [A = 1: [A: ? | B: ?]] of B x -> x | A y -> y end;", "2 3", "2: int; 3: int"},
		{"def c = case [A = 1: [A: ? | B: ?]] of B x -> x && true | A y -> true end;", "2 3", "2: int; 3: bool"},
		{"def c = case 1 of A x -> x end;", "", "-"},
		{"def c = case {a = 1} of A x -> x end;", "", "-"},
		{"def c = fun (x) -> let y = x in case x of A z -> case y of A z -> 1 | B z -> 2 end end;", "2 3", "-"},
		{"def c = fun (x) -> let y = x in case x of A z -> case y of A z -> 1 | B z -> 2 end end;", "2", "2: [A: unit]"},
		{"def c = fun (x) -> let y = x in case x of B z -> z | A z -> case y of A z -> 1 | B z -> 2 end end;", "2 3", "2: [A: unit | B: int]; 3: [A: unit | B: int]"},
		{"def c = fun (x) -> if true then x else case x of A y -> [B = y: [A: int | B: ?]] end;", "2", "-"},
		{"def c = fun (x) -> if true then x else case x of A y -> [A = y: [A: ?]] end;", "2 3", "2: [A: unit]; 3: unit"},
	})
}

// P14.1 (N1): the meet of types with variables is that of their resolved forms, in whichever order they come.
func TestMeet(t *testing.T) {
	const three = "def c = fun (d: ?) -> case d of A x -> (d: ?) | B x -> (d: ?) | C x -> (d: %) end;"
	pair := func(result string) string {
		return "def i: ? = fun (d: ?) -> (if d then (d: {a: ?, b: int -> ?}) else (d: {a: ?, b: ?}))" + result + ";"
	}
	checkAll(t, []solves{
		{"def i: ? -> bool = fun (x) -> if true then x else (x: ?);", "1 2", "1: bool; 2: bool"},
		{"def i: ? -> bool = fun (x) -> if true then x else (x: ?);", "2", "2: bool"},
		{"def i: ? -> bool = fun (x) -> if true then (x: ?) else x;", "2", "2: bool"},
		{"def i: ? -> bool = fun (x) -> if true then (x: ?) else x;", "3", "3: bool"},
		{"def i: ? -> bool = fun (x) -> if true then (x: ?) else x;", "1 3", "1: unit; 3: bool"},
		{"def i = fun (x) -> fun (y: int -> ?) -> if true then x else y;", "2", "2: int -> unit"},
		{"def i = fun (x: int -> ?) -> fun (y) -> if true then x else y;", "1 3", "1: (int -> unit) -> (int -> unit) -> int -> unit; 3: int -> unit"},
		{"def i = fun (x) -> fun (y) -> (if true then x else y) + 1;", "2 3", "2: int; 3: int"},
		{"def i = fun (x) -> fun (y) -> (if true then x else y) + 1;", "3", "3: int"},
		{pair(".a + 1"), "3", "3: int"},
		{pair(".a + 1"), "5", "5: int"},
		{pair(".b true"), "3", "-"},
		{pair(".b 1 + 1"), "3 4 5 6", "3: unit; 4: int; 5: unit; 6: int -> int"},
		{pair(".b 1 + 1"), "4 6", "4: int; 6: int -> int"},
		{pair(".b 1 + 1"), "6", "6: int -> int"},
		{pair(".b 1 + 1"), "4", "4: int"},
		{"def i: ? = fun (d: ?) -> (if d then (d: {a: ?, b: ?}) else (d: {a: int -> ?, b: int})).b + 1;", "3", "3: int -> unit"},
		{"def i: ? = fun (d: ?) -> (if d then (d: {a: ?, b: ?}) else (d: {a: int -> ?, b: int})).b && true;", "3", "-"},
		{"def i: ? = fun (d: ?) -> (if d then (d: {a: int -> ?, b: int}) else (d: {a: ?, b: ?})).b + 1;", "4", "4: int -> unit"},
		{"def i: ? = fun (d: ?) -> (if d then (d: {a: int -> ?, b: int}) else (d: {a: ?, b: ?})).b && true;", "4", "-"},
		{"def i: ? = fun (d: ?) -> (if d then (d: {a: ?, b: ?}) else (d: {a: int -> ?, b: int})).a 1 && true;", "3 5", "3: int -> bool; 5: bool"},
		{strings.Replace(three, "%", "int", 1), "1 3 4", "1: unit -> int; 3: int; 4: int"},
		{strings.Replace(three, "%", "int", 1), "3", "3: int"},
		{strings.Replace(three, "%", "int", 1), "1 4", "1: unit -> int; 4: int"},
		{strings.Replace(three, "%", "? -> int", 1), "3 4", "3: unit -> int; 4: unit -> int"},
		{strings.Replace(three, "%", "? -> int", 1), "3 4 5", "3: unit -> int; 4: unit -> int; 5: unit"},
	})
}

// P14.1 (N1): programs of many modules, whose sites are numbered from the first module on.
func TestModules(t *testing.T) {
	p, n := program(t,
		"b", "import a; def y: int = a!id 1; def z = a!id; def x = a!r.p;",
		"a", "def id = fun (x) -> x; def r: {p: ?} = {p = true};",
		"c", "import b; import a; def id = fun (x) -> b!x; def y = if a!r.p then b!z true else id 1;")
	if n != 8 {
		t.Fatal(n)
	}
	for _, c := range []struct{ set, want string }{
		{"", ""},
		{"1", "1: int -> int"},
		{"1 2", "1: int -> int; 2: int"},
		{"2 4", "2: unit; 4: bool -> unit"},
		{"1 2 3 5 8", "1: int -> int; 2: int; 3: bool; 5: bool; 8: unit"},
		{"3 5 6 8", "3: bool; 5: bool; 6: int -> bool; 8: bool"},
		{"5 6 7", "5: unit; 6: int -> unit; 7: int"},
	} {
		checkSolve(t, p, sites(c.set), c.want, api.OK)
	}
	for _, set := range []string{"1 4", "1 2 3 4 5 6 7 8"} {
		checkSolve(t, p, sites(set), "", api.ErrType)
	}
}

// P14.1 (N1): sets that are no sets of sites of the program, whether it has types or not.
func TestNoSets(t *testing.T) {
	for _, text := range []string{"", "def f = fun (x) -> x;", "def f = fun (x) -> 1 + true;", "def f = fun (x) -> x x; def g = f;", "def f: int = 1;"} {
		p, n := program(t, "a", "", "m", text)
		for _, set := range [][]int{{0}, {-1}, {n + 1}, {0, n + 1}, {1, n + 1}, {-1, 1}, {0, 1}, {1, 1}, {2, 1}, {3, 1}, {1, 2, 2}, {1, 2, 1}, {1, 2, 3, 4, 5}, {1 << 62}, {-1 << 63}, {1, 1<<63 - 1}, {-1 << 63, 1<<63 - 1}, make([]int, 1000)} {
			checkSolve(t, p, set, "", api.ErrArg)
		}
	}
	for _, set := range [][]int{{1}, {0}, {-1}} {
		checkSolve(t, []api.Module{{}}, set, "", api.ErrArg)
		if l, errno := infer.Solve(nil, set); len(l) != 0 || errno != api.ErrArg || infer.Feasible(nil, set) {
			t.Errorf("%v: %v %d", set, l, errno)
		}
	}
	if l, errno := infer.Solve(nil, nil); len(l) != 0 || errno != api.OK || !infer.Feasible(nil, []int{}) {
		t.Errorf("%v %d", l, errno)
	}
}

// P14.1 (N1): a site of the program that none of its types has any more can have any type.
func TestFilled(t *testing.T) {
	p, _ := program(t, "m", "def f = fun (x) -> x + 1; def g = f;")
	p = assign.Program(p, []api.Choice{{Site: 2, T: api.Type{{Kind: api.Int}}}})
	checkSolve(t, p, sites("1 2 3"), "1: int -> int; 2: unit; 3: int -> int", api.OK)
	checkSolve(t, p, sites("4"), "", api.ErrArg)
}

// shifted is e, in which each As of an As is a Cast from the type of the latter to that of the former.
func shifted(e api.Expr) api.Expr {
	var l api.Expr
	for i := 0; i < len(e); i++ {
		p := e[i]
		if p.Kind == api.As && e[i+1].Kind == api.As {
			p = api.Part{Kind: api.Cast, Label: p.Label, Num: int64(i), T: e[i+1].T, U: p.T}
			i++
		}
		l = append(l, p)
	}
	return l
}

// P14.1 (N1): in a Cast the child has the first type, up to sites, which is more than that it is consistent with it.
func TestCast(t *testing.T) {
	for _, c := range []solves{
		{"def c: ? = ((1: int): bool);", "", "-"},
		{"def c: ? = ((1: int): int);", "1", "1: int"},
		{"def c: ? = ((1: int): ?);", "1 2", "1: int; 2: int"},
		{"def c: ? = ((1: ?): int);", "", "-"}, // 1 is no ?
		{"def c: ? = ((1: ?): int);", "2", "2: int"},
		{"def c: ? = ((1: ?): bool);", "2", "-"},
		{"def c: ? -> ? = fun (x: ?) -> ((x: ?): int);", "", ""},
		{"def c: ? -> ? = fun (x: ?) -> ((x: ?): int);", "3", "-"},
		{"def c: ? -> ? = fun (x: ?) -> ((x: ?): int);", "4", "-"},
		{"def c: ? -> ? = fun (x: ?) -> ((x: ?): int);", "3 4", "3: int; 4: int"},
		{"def c: ? -> ? = fun (x: ?) -> ((x: ?): ? -> int);", "2 3 4", "2: unit -> int; 3: unit -> int; 4: unit -> int"},
		{"def c: ? -> ? = fun (x: ?) -> ((x: ? -> int): ?);", "3", "-"},
		{"def c: ? -> ? = fun (x: ?) -> ((x: ? -> int): ?);", "3 4", "3: unit -> int; 4: unit"},
		{"def c: ? -> ? = fun (x: {a: ?}) -> ((x: {a: ?}): {a: bool});", "1", "1: {a: unit}"},
		{"def c: ? -> ? = fun (x: {a: ?}) -> ((x: {a: ?}): {a: bool});", "3 4", "3: bool; 4: bool"},
		{"def c: ? -> ? = fun (x: {a: ?}) -> ((x: {a: ?}): {a: bool});", "4", "-"},
		{"def c: ? -> ? = fun (x: {a: ?, b: ?}) -> ((x: {a: ?, b: ?}): ?);", "3 4", "-"},
		{"def c: ? -> ? = fun (x: {a: ?, b: ?}) -> ((x: {a: ?, b: ?}): ?);", "3 5 7", "3: unit; 5: unit; 7: {a: unit, b: unit}"},
	} {
		p, _ := program(t, "m", c.text)
		p[0].Defs[0].E = shifted(p[0].Defs[0].E)
		errno := api.OK
		if c.want == "-" {
			c.want, errno = "", api.ErrType
		}
		checkSolve(t, p, sites(c.set), c.want, errno)
	}
}

// R1: programs whose names are not resolved, and what is no expression or no type, have no types; no call fails.
func TestNoPrograms(t *testing.T) {
	unknown, row := api.Type{{N: 1}}, api.Type{{Kind: api.Record, N: 2}, {Kind: api.Int, Name: "a"}}
	leaf := api.Part{Kind: api.Lit, T: api.Type{{Kind: api.Int}}}
	for _, e := range []api.Expr{
		nil, {}, {{Kind: api.Name, Name: "x"}}, {{Kind: api.Name}}, {{Kind: -1}}, {{Kind: api.Cast + 1}}, {{Kind: api.Branch}},
		{{Kind: api.Fun, Bind: "x", T: unknown}}, {{Kind: api.App}}, {{Kind: api.App}, leaf}, {{Kind: api.Let, Bind: "x", T: unknown}, leaf}, {{Kind: api.Rec, Name: "f", Bind: "x", T: unknown, U: unknown}, leaf}, {{Kind: api.If}}, {{Kind: api.If}, {Kind: api.Lit, T: api.Type{{Kind: api.Bool}}}, leaf},
		{{Kind: api.Case}}, {{Kind: api.Case}, leaf}, {{Kind: api.Case, Many: 1}, leaf, leaf}, {{Kind: api.Case, Many: 1 << 60}, leaf}, {{Kind: api.Case, Many: -1}, leaf}, {{Kind: api.Op, Name: "+"}, leaf}, {{Kind: api.Rows, Many: 1}, leaf}, {{Kind: api.Rows, Many: 51}, leaf}, {{Kind: api.Get, Name: "a"}}, {{Kind: api.Get}, {Kind: api.Rows}}, {{Kind: api.Inject, Name: "A", T: unknown}}, {{Kind: api.As, T: unknown}}, {{Kind: api.Cast, T: unknown, U: unknown}},
		{{Kind: api.As, T: row}, leaf}, {{Kind: api.As}, leaf}, {{Kind: api.Fun, Bind: "x"}, leaf}, {{Kind: api.App}, {Kind: api.Lit, T: api.Type{{Kind: api.Arrow}}}, leaf}, {{Kind: api.Get, Name: "a"}, {Kind: api.Lit, T: api.Type{{Kind: api.Record, N: -1}}}}, {{Kind: api.Get, Name: "A"}, {Kind: api.As, T: api.Type{{Kind: api.Var, N: 1}}}, leaf},
	} {
		p := []api.Module{{Name: "m", Defs: []api.Def{{Name: "d", T: unknown, E: e}}, Sites: make([]api.Site, 1)}}
		for _, set := range [][]int{nil, {1}} {
			if l, errno := infer.Solve(p, set); len(l) != 0 || errno != api.ErrType || infer.Feasible(p, set) {
				t.Errorf("%v %v: %v %d", e, set, l, errno)
			}
		}
	}
	read := func(name, text string) api.Module {
		m, _, _ := parse.Parse(name, text)
		return m
	}
	a, m := read("a", "def y = 1;"), read("m", "import a; def x = a!x; def y = m!y; def z = b!z;")
	for _, p := range [][]api.Module{
		{m}, {a, m}, {m, a}, {m, m}, {a, read("m", "def x = y;")}, {a, read("m", "def x = a!y;")}, {a, read("b", "import a;"), read("m", "import b; def x = a!y;")},
		{read("m", "def x = x;")}, {read("m", "def x = y; def y = 1; def z = 2;")}, {read("m", "def x = (fun (y) -> y) y;")}, {read("m", "def x = rec f (y) = y in y;")}, {read("m", "def x = (rec f (y) = y in f) f;")}, {read("m", "def x = {a = let y = 1 in y, b = y};")}, {read("m", "def x = case (1: ?) of A y -> y | B z -> y end;")},
	} {
		if l, errno := infer.Solve(p, []int{1}); len(l) != 0 || errno != api.ErrType {
			t.Errorf("%s: %v %d", parse.Print(p[len(p)-1]), l, errno)
		}
	}
}
