package verbs

import (
	"slices"
	"strconv"
	"strings"
	"testing"

	"pantry/api"
)

// The chapter's section The table, as it stands there.
const chapter = `
| names | Arity | flags | First, Last, Jump |
|---|---|---|---|
| GET HGETALL HKEYS HLEN HVALS LLEN PTTL SCARD SMEMBERS STRLEN TTL TYPE ZCARD | 2 | none | 1, 1, 1 |
| LPUSH LPUSHX RPUSH RPUSHX SADD SET | -3 | write, grow | 1, 1, 1 |
| APPEND DECRBY EXPIRE EXPIREAT GETSET INCRBY INCRBYFLOAT PEXPIRE PEXPIREAT SETNX | 3 | write, grow | 1, 1, 1 |
| GETDEL PERSIST | 2 | write | 1, 1, 1 |
| EXISTS MGET SDIFF SINTER SUNION TOUCH | -2 | none | 1, -1, 1 |
| MSET MSETNX | -3 | write, grow | 1, -1, 2 |
| DECR INCR | 2 | write, grow | 1, 1, 1 |
| GETRANGE LRANGE ZCOUNT | 4 | none | 1, 1, 1 |
| HINCRBY HINCRBYFLOAT HSETNX LSET SETBIT SETRANGE ZINCRBY | 4 | write, grow | 1, 1, 1 |
| GETBIT HEXISTS HGET HSTRLEN LINDEX SISMEMBER ZRANK ZREVRANK ZSCORE | 3 | none | 1, 1, 1 |
| BITCOUNT HRANDFIELD SRANDMEMBER | -2 | none | 1, 1, 1 |
| LPOP RPOP SPOP ZPOPMAX ZPOPMIN | -2 | write | 1, 1, 1 |
| LINSERT | 5 | write, grow | 1, 1, 1 |
| LREM LTRIM ZREMRANGEBYRANK ZREMRANGEBYSCORE | 4 | write | 1, 1, 1 |
| LMOVE | 5 | write, grow | 1, 2, 1 |
| HMGET HSCAN LPOS SMISMEMBER SSCAN ZMSCORE | -3 | none | 1, 1, 1 |
| HSET ZADD | -4 | write, grow | 1, 1, 1 |
| HDEL SREM ZREM | -3 | write | 1, 1, 1 |
| SMOVE | 4 | write, grow | 1, 2, 1 |
| SDIFFSTORE SINTERSTORE SUNIONSTORE | -3 | write, grow | 1, -1, 1 |
| ZRANGE ZRANGEBYSCORE | -4 | none | 1, 1, 1 |
| DEL | -2 | write | 1, -1, 1 |
| RENAME RENAMENX | 3 | write, grow | 1, 2, 1 |
| COPY | -3 | write, grow | 1, 2, 1 |
| ECHO KEYS | 2 | none | 0, 0, 0 |
| SCAN | -2 | none | 0, 0, 0 |
| DBSIZE RANDOMKEY UNWATCH | 1 | none | 0, 0, 0 |
| FLUSHALL | 1 | write | 0, 0, 0 |
| PING | -1 | listen | 0, 0, 0 |
| QUIT | 1 | now, listen | 0, 0, 0 |
| DISCARD EXEC MULTI | 1 | now | 0, 0, 0 |
| WATCH | -2 | now | 1, -1, 1 |
| PSUBSCRIBE SUBSCRIBE | -2 | now, listen | 0, 0, 0 |
| PUNSUBSCRIBE UNSUBSCRIBE | -1 | now, listen | 0, 0, 0 |
| PUBLISH | 3 | none | 0, 0, 0 |
`

// The flags by the numbers that package api gives them, written out.
var flagNumbers = map[string]int{"none": 0, "write": 1, "grow": 2, "now": 4, "listen": 8}

// spelledRows: the table's rows, each by its name.
func spelledRows(t testing.TB) map[string]api.Verb {
	t.Helper()
	rows := map[string]api.Verb{}
	for _, line := range strings.Split(strings.TrimSpace(chapter), "\n")[2:] {
		cells := strings.Split(strings.Trim(line, "| "), " | ")
		places := strings.Split(cells[3], ", ")
		v := api.Verb{Arity: number(t, cells[1]), First: number(t, places[0]), Last: number(t, places[1]), Jump: number(t, places[2])}
		for _, f := range strings.Split(cells[2], ", ") {
			n, ok := flagNumbers[f]
			if !ok {
				t.Fatalf("the flag %q in the chapter's table", f)
			}
			v.Flags += n
		}
		for _, name := range strings.Fields(cells[0]) {
			if _, twice := rows[name]; twice {
				t.Fatalf("%s stands twice in the chapter's table", name)
			}
			v.Name = name
			rows[name] = v
		}
	}
	return rows
}

func number(t testing.TB, s string) int {
	t.Helper()
	n, err := strconv.Atoi(s)
	if err != nil {
		t.Fatal(err)
	}
	return n
}

// spelledNames: the names of the table, rising.
func spelledNames(t testing.TB) []string {
	t.Helper()
	var names []string
	for name := range spelledRows(t) {
		names = append(names, name)
	}
	slices.Sort(names)
	return names
}

// spelledUpper: letter by letter, by the place in the alphabet.
func spelledUpper(s string) string {
	const small, capital = "abcdefghijklmnopqrstuvwxyz", "ABCDEFGHIJKLMNOPQRSTUVWXYZ"
	out := make([]byte, 0, len(s))
	for i := range len(s) {
		if at := strings.IndexByte(small, s[i]); at >= 0 {
			out = append(out, capital[at])
		} else {
			out = append(out, s[i])
		}
	}
	return string(out)
}

// spelledCheck: P18.3 in the order in which it names what may be wrong.
func spelledCheck(rows map[string]api.Verb, words []string) (api.Verb, api.Errno) {
	if words == nil || len(words) == 0 {
		return api.Verb{}, 3
	}
	long, sum := len(words) > 1024, 0
	for _, w := range words {
		long = long || len(w) > 1048576
		sum += len(w)
	}
	if long || sum > 4194304 {
		return api.Verb{}, 2
	}
	v, ok := rows[spelledUpper(words[0])]
	switch {
	case !ok:
		return api.Verb{}, 180
	case v.Arity > 0 && len(words) != v.Arity, v.Arity < 0 && len(words) < -v.Arity:
		return api.Verb{}, 181
	}
	return v, 0
}

// spelledKeys: P18.4, word by word: is this one's place one of First, First + Jump and so on, up to Last?
func spelledKeys(rows map[string]api.Verb, words []string) []string {
	v, code := spelledCheck(rows, words)
	if code != 0 || v.First == 0 {
		return nil
	}
	var keys []string
	for place, w := range words {
		ahead := place < v.First || (place-v.First)%v.Jump != 0
		behind := v.Last >= 0 && place > v.Last || v.Last < 0 && place > len(words)+v.Last
		if !ahead && !behind {
			keys = append(keys, w)
		}
	}
	return keys
}

// line: a command and so many words behind its name, each another one.
func line(name string, behind int) []string {
	words := []string{name}
	for i := range behind {
		words = append(words, "w"+strconv.Itoa(i+1))
	}
	return words
}

// eachCase: the name with each choice of small letters and capitals.
func eachCase(name string, see func(string)) {
	b := []byte(name)
	for choice := range 1 << len(b) {
		for i := range b {
			b[i] = name[i] | 32*byte(choice>>i&1)
		}
		see(string(b))
	}
}
