"""Air for a crew: the valves and beds of a closed room, steered."""
