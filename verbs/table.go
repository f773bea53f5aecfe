package verbs

import "pantry/api"

// kin are commands that differ in their names alone: a row of the chapter's table.
type kin struct {
	names             string // with a blank between two
	arity, flags      int
	first, last, jump int
}

// row tells the row of one of the kin.
func (k kin) row(name string) api.Verb {
	return api.Verb{Name: name, Arity: k.arity, Flags: k.flags, First: k.first, Last: k.last, Jump: k.jump}
}

// table tells all commands, in the chapter's order, so that one can be held against the other. It is an array, since every command that comes is looked for here, and a slice would be made anew each time.
func table() [35]kin {
	const (
		write  = api.FlWrite
		grow   = api.FlWrite | api.FlGrow // what may grow may write
		now    = api.FlNow
		listen = api.FlListen
	)
	return [35]kin{
		{"GET HGETALL HKEYS HLEN HVALS LLEN PTTL SCARD SMEMBERS STRLEN TTL TYPE ZCARD", 2, 0, 1, 1, 1},
		{"LPUSH LPUSHX RPUSH RPUSHX SADD SET", -3, grow, 1, 1, 1},
		{"APPEND DECRBY EXPIRE EXPIREAT GETSET INCRBY INCRBYFLOAT PEXPIRE PEXPIREAT SETNX", 3, grow, 1, 1, 1},
		{"GETDEL PERSIST", 2, write, 1, 1, 1},
		{"EXISTS MGET SDIFF SINTER SUNION TOUCH", -2, 0, 1, -1, 1},
		{"MSET MSETNX", -3, grow, 1, -1, 2},
		{"DECR INCR", 2, grow, 1, 1, 1},
		{"GETRANGE LRANGE ZCOUNT", 4, 0, 1, 1, 1},
		{"HINCRBY HINCRBYFLOAT HSETNX LSET SETBIT SETRANGE ZINCRBY", 4, grow, 1, 1, 1},
		{"GETBIT HEXISTS HGET HSTRLEN LINDEX SISMEMBER ZRANK ZREVRANK ZSCORE", 3, 0, 1, 1, 1},
		{"BITCOUNT HRANDFIELD SRANDMEMBER", -2, 0, 1, 1, 1},
		{"LPOP RPOP SPOP ZPOPMAX ZPOPMIN", -2, write, 1, 1, 1},
		{"LINSERT", 5, grow, 1, 1, 1},
		{"LREM LTRIM ZREMRANGEBYRANK ZREMRANGEBYSCORE", 4, write, 1, 1, 1},
		{"LMOVE", 5, grow, 1, 2, 1},
		{"HMGET HSCAN LPOS SMISMEMBER SSCAN ZMSCORE", -3, 0, 1, 1, 1},
		{"HSET ZADD", -4, grow, 1, 1, 1},
		{"HDEL SREM ZREM", -3, write, 1, 1, 1},
		{"SMOVE", 4, grow, 1, 2, 1},
		{"SDIFFSTORE SINTERSTORE SUNIONSTORE", -3, grow, 1, -1, 1},
		{"ZRANGE ZRANGEBYSCORE", -4, 0, 1, 1, 1},
		{"DEL", -2, write, 1, -1, 1},
		{"RENAME RENAMENX", 3, grow, 1, 2, 1},
		{"COPY", -3, grow, 1, 2, 1},
		{"ECHO KEYS", 2, 0, 0, 0, 0},
		{"SCAN", -2, 0, 0, 0, 0},
		{"DBSIZE RANDOMKEY UNWATCH", 1, 0, 0, 0, 0},
		{"FLUSHALL", 1, write, 0, 0, 0},
		{"PING", -1, listen, 0, 0, 0},
		{"QUIT", 1, now | listen, 0, 0, 0},
		{"DISCARD EXEC MULTI", 1, now, 0, 0, 0},
		{"WATCH", -2, now, 1, -1, 1},
		{"PSUBSCRIBE SUBSCRIBE", -2, now | listen, 0, 0, 0},
		{"PUNSUBSCRIBE UNSUBSCRIBE", -1, now | listen, 0, 0, 0},
		{"PUBLISH", 3, 0, 0, 0, 0},
	}
}
